import Derived.Test.YtkbjimkngmlfcaaDoorSetsJ14
import Derived.Laws.EntriesVeiled
open Bool renaming and_false→aaV,true_and→aa',false_and→aaL
open Go renaming World→aab,Operand→aau,Value→aal,execOp→aaQ,Addr→aaw,Calls→aax,heap_alloc_new→aat,wp_region_held→abf,wpAnyH_done→aa4,bodyPost_ret→aaT,results→aaR
open Go.IntKind renaming wrap_u64→abt,wrap_i64→abu
open Go.Lib renaming deBruijn64tab→aaY
open Go.RowKit renaming Below→aah,intOf→aas
open Go.RowKit.Below renaming refl→aap,heap_alloc→abd
open Int renaming eq_ofNat_of_zero_le→aa3,toNat_natCast→abw
open List renaming length_append→aa7,eq_nil_of_length_eq_zero→abp,getD_eq_getElem?_getD→aaK,getElem?_eq_getElem→aaE,replicate→abn,getElem_mem→aa1,getElem_cons_drop→aa8,drop_eq_nil_of_le→aa9
open Nat renaming le_refl→aav,zero_le→aaU,one_shiftLeft→abk,mul_le_mul→abl,le_trans→aa5
open Or renaming inl→aaF,inr→aar
namespace Go.Proofs.YtkbjimkngmlfcaaDoor
open Go Go.RowKit
set_option linter.unusedVariables false
set_option linter.unusedSimpArgs false
set_option maxRecDepth 100000
set_option maxHeartbeats 8000000
theorem PD {P:Prop}(h:P:=by go_quiet(first| (go_at_call 46;exact Calls.quiet_of_same (yM.out _)));go_wp2_with fail;go_meet;case rel=>exact⟨true,rfl,HR.out,nq,by first|rfl|simp[World.drewN,Nat.add_assoc]⟩) :P:=h
theorem af4 {P:Prop}(h:P:=by clear hch hp h3;go_quiet(first| (go_at_call 46;exact Calls.quiet_of_same (yM.out _)));go_wp2_with fail;go_meet;case rel=>exact⟨false,rfl,HR.out,nq,by first|rfl|simp[World.drewN,Nat.add_assoc]⟩) :P:=h
theorem agk {P:Prop}(h:P:=by go_wp2_with fail;refine bodyPost_ret (v:= .tuple #[.agg #[.slice none 0 0],.int .i64 1]) (by simp[results,Tryd.results16,go_sem,fB.out]) rfl ?_;exact⟨jF.out,Or.inl ⟨HN.out,rfl⟩⟩) :P:=h
theorem aia {P:Prop}(h:P:=by rw[Below.heap_alloc _ _ _ (by rw[h3];omega),Below.heap_alloc _ _ _ (by rw[h2];omega),Below.heap_alloc _ _ _ (by rw[h1];omega)];exact heap_alloc_new _ _) :P:=h
theorem ahQ {P:Prop}(h:P:=by rw[Below.heap_alloc _ _ _ (by rw[h3];omega),Below.heap_alloc _ _ _ (by rw[h2];omega),←h1];exact heap_alloc_new _ _) :P:=h
theorem abr {P:Prop}(h:P:=by go_wp2_with fail;go_ret;exact⟨by rw[hN.out];rfl,HB0.out.trans (HB2.out.mono HB0.out.size)⟩) :P:=h
theorem PW {P:Prop}(h:P:=by show _=_;rw[aj (aL kz.out 0 _) 0];simp) :P:=h
theorem ZV {P:Prop}(h:P:=by go_wp2_with fail;go_ret;exact⟨by rw[xO.out,hok,Bool.false_and];rfl,HB0.out⟩) :P:=h
theorem abh {P:Prop}(h:P:=by rw[Below.heap_alloc _ _ _ (by rw[h3];omega),←h2];exact heap_alloc_new _ _) :P:=h
theorem Tryd.infoU64:(Tryd.prog.info? 146).map (fun i=>(i.zero,i.size,i.bytes))=some (some (.int .u64 0),1,8) :=by kernel_rfl
theorem Rp(W:aab)(ρ:aau→aal)(o:Oper)(x:aau)(ho:o.op= .load 146 x)(b off t:Nat)(hx:ρ x= .pointer (some ⟨b,off,none⟩))(hc:W.cell? ⟨b,off,none⟩=some (.int .u64 (t:Int))) :(aaQ ρ o).run Tryd.prog W= .ok (.value (.int .u64 (t:Int))) W:=by exact uA
theorem TV(W:aab)(ρ:aau→aal)(o:Oper)(x y:aau)(ho:o.op= .binOp .shl 146 x y 3)(m Q:Nat)(hx:ρ x= .int .u64 1)(hy:ρ y= .int .i64 (m:Int))(hm:m<64)(hQ:(2:Int) ^m=(Q:Int))(R5:Q<18446744073709551616) :(aaQ ρ o).run Tryd.prog W= .ok (.value (.int .u64 (Q:Int))) W:=by
 have h0:(0:Int)≤(m:Int) :=by omega
 have h1:((m:Int)).toNat=m:=by omega
 have hmz:(m:Int)<64:=by omega
 unfold aaQ;simp only[ho,hx,hy,Sem.run_bind,Sem.run_pure,Result.andThen_ok];go_simp;rw[abt];omega
theorem Tryd.infoIntR:(Tryd.prog.info? 3).map (fun i=>(i.zero,i.size,i.bytes))=some (some (.int .i64 0),1,8) :=by kernel_rfl
structure RI(w W:aab)(vn:aal)(ws:List Nat)(vr:aal)(rs:List Int) :Prop where
 r:Rn w W vn ws
 own:W.ownsRow w.heap.size 3 1 vr rs.length (zI rs)
theorem RI.push {w W W1:aab} {vn vr xB:aal} {ws:List Nat} {rs:List Int} {x:Int}(h:RI w W vn ws vr rs)(o:Obj)(ho:W1.ownsRow w.heap.size 3 1 xB (rs.length+1) (zI rs++ [.int .i64 x]))(hg:(W.alloc o).grownBy W1 vr.ownBlock) :RI w W1 vn ws xB (rs++ [x]) :=by
 have hb:aah W.heap.size W (W.alloc o) :=(aap _ _).alloc (aav _) _;have hA:=h.r.below hb;have hB:=own_below h.own hb;refine⟨⟨Bu hA.bel hB (aav _) hg,aG hA.own fun b hb'=> ?_⟩,?_⟩;·obtain⟨_,cur,h2⟩ :=aA hA.own hb';refine hg.block b (Array.getElem?_eq_some_iff.1 h2).1 fun e=> ?_;obtain⟨_,gH,h3⟩ :=aA hB e.symm;rw[h2]at h3;exact aa0
 ·rw[show zI (rs++ [x])=zI rs++ [.int .i64 x]by simp[zI],aa7];exact ho
theorem aeU {w:aab} {base:Nat} {v:aal} {l:List Int}(h:w.ownsRow base 3 1 v l.length (zI l)) : ∃a c,v= .slice a l.length c∧bD w (.slice a l.length c) l:=by
 rcases h.2 with⟨e,e2⟩| ⟨g,cap,cur,e,h1,h2,h3,h4,h5,h6⟩;·exact⟨none,0,by rw[e,e2],none,0,rfl,aaF (abp e2)⟩
 ·subst e;refine⟨_,cap,rfl,_,cap,rfl,aar ⟨g,0,rfl,(Array.getElem?_eq_some_iff.1 h2).1,fun t ht=> ?_⟩⟩;rw[Nat.zero_add];refine aQ h ?_;unfold zI;rw[List.getElem?_map,aaK,aaE ht];rfl
theorem Ci: ∀(l:List Int)(lo:Int),iG l→(∀a∈l,lo≤a∧a<128)→lo≤128→(l.length:Int)≤128-lo
 | [],lo,_,_,h=>by simp;omega
 |a::l,lo,hr,hb,h=>by obtain⟨h1,h2⟩ :=List.pairwise_cons.1 hr;have ha:=hb a List.mem_cons_self;have:=Ci l (a+1) h2 (fun b hb'=>⟨by have:=h1 b hb';omega,(hb b (List.mem_cons_of_mem _ hb')).2⟩) (by omega);simp only[List.length_cons];omega
theorem nY {g:Nat} {tab:List Nat} {w W:aab}(h:TabAt g tab w)(hb:aah w.heap.size w W) :TabAt g tab W:=fun j hj=>by
 have h1:=h j hj;rw[←h1];refine hb.cell (p:=⟨g,j,none⟩) ?_;cases hx:w.heap[g]? with
 |some o=>exact(Array.getElem?_eq_some_iff.1 hx).1
 |none=>simp[World.cell?,hx]at h1
theorem qJ.atR {D:List aT}(h: ∀s∈D,s.2.1.Pairwise (fun x y=>x.1<y.1)∧(∀a∈s.2.1,(0≤a.1∧a.1<128)∧ -1≤a.2∧a.2≤1024)∧s.2.1.length≤128)(i:Nat) :(D.getD i ps0).2.1.Pairwise (fun x y=>x.1<y.1)∧(∀a∈(D.getD i ps0).2.1,(0≤a.1∧a.1<128)∧ -1≤a.2∧a.2≤1024)∧(D.getD i ps0).2.1.length≤128:=by exact afj
theorem M4(D:List aT)(ad:Option aaw)(c:Nat)(w:aab)(hD: ∀s∈D,s.2.1.Pairwise (fun x y=>x.1<y.1)∧(∀a∈s.2.1,(0≤a.1∧a.1<128)∧ -1≤a.2∧a.2≤1024)∧s.2.1.length≤128)(hl:D.length≤512)(h:dP w ad D)(hT:TabAt (Tryd.laysTz_ren.g 1) aaY w) :aax Tryd.prog 58 #[.slice ad D.length c] w (Kn D w) :=by
 have OT:=ah h;have HD:=ah hD;have HT:=ah hT;clear h hD hT;go_enter Tryd.func58,Tryd.ntmps58;have mZ:=ah (Rn.start w);go_wp2_with fail;go_loopw [15,3](fun iv nv wx=>∃(i:Nat)(ws:List Nat),iv= .int .i64 (i:Int)∧i≤D.length∧Rn w wx nv ws∧kE ws D i 0)(fun iv _ _=>D.length-(aas iv).toNat);case atStart=>exact⟨0,[],rfl,aaU _,mZ.out,kE.zero D⟩
 case round=>
  obtain⟨i,ws,rfl,hi,hR,hN⟩ :=hrel;have HR:=ah hR;have HN:=ah hN;by_cases hid:i<D.length
  ·have WM:(i:Int)<(D.length:Int) :=by omega
   obtain⟨b,off,rfl,hb,hc⟩ :=OT.out.resolve_left (fun e=>by rw[e]at hid;simp at hid);obtain⟨x0,ai,ci,x1,hx,x2⟩ :=hc i hid;have x0:=(hR.bel.cell (cell_lt x0)).trans x0;have x1:=(hR.bel.cell (cell_lt x1)).trans x1;have x2:=(hR.bel.cell (cell_lt x2)).trans x2;obtain⟨hp,ha,hal⟩ :=qJ.atR HD.out i;have HP:=ah hp;have HA:=ah ha;obtain⟨st,hst⟩ : ∃st,D.getD i ps0=st:=⟨_,rfl⟩;have fZ:=ah hst;rw[hst]at x0 x1 hx x2 HP HA hal;obtain⟨f,aR,els⟩ :=st;dsimp only at x0 x1 hx x2 HP HA hal;have HX:=ah hx;clear hc hp ha hst hR hN hx hb;go_upto_region 5 with fail;have dD:aah wr.heap.size wr (wr.alloc (.cells #[.bool f,.slice ai aR.length ci,.int .i64 els] 42)) :=(aap _ _).alloc (aav _) _;have HY:=ah (aat wr (.cells #[.bool f,.slice ai aR.length ci,.int .i64 els] 42));have HR2:=ah (HR.out.below dD);obtain⟨b5,hb5⟩ : ∃g,wr.heap.size=g:=⟨_,rfl⟩
   rw[hb5]at HY;simp only[hb5];clear dD hb5 x0 x1 x2 HR;generalize wr.alloc (.cells #[.bool f,.slice ai aR.length ci,.int .i64 els] 42)=W3 at*;have y1:=aj HY.out 1;go_upto_if 23 with fail;go_cut [3](fun nv wx=>∃ws',Rn w wx nv ws'∧kE ws' D i 0∧(∀a∈aR,a.1.toNat/64<ws'.length)∧wx.heap[b5]?=some (.cells #[.bool f,.slice ai aR.length ci,.int .i64 els] 42));case first=>
    by_cases h0:0<aR.length
    ·have h0z:(0:Int)<(aR.length:Int) :=by omega
     obtain⟨ba,oa,rfl,hba,hca⟩ :=HX.out.resolve_left (fun e=>by rw[e]at h0;simp at h0);obtain⟨r0,r1⟩ :=hca (aR.length-1) (by omega);have r0:=(HR2.out.bel.cell (cell_lt r0)).trans r0;have hlm:=CU (l:=aR) (j:=aR.length-1) (by omega);have hlb:=(HA.out _ hlm).1;have ah9:Hid (∀a∈aR,a.1≤(aR.getD (aR.length-1) (0,0)).1) :=by
      intro a AO;obtain⟨t,ht,rfl⟩ :=List.getElem_of_mem AO;rw[aaK,aaE (show aR.length-1<aR.length by omega),Option.getD_some];rcases Nat.lt_or_ge t (aR.length-1)with g|g;·have:=List.pairwise_iff_getElem.1 HP.out t (aR.length-1) ht (by omega) g;omega
      ·have:t=aR.length-1:=by omega
       subst this;exact Int.le_refl _
     generalize(aR.getD (aR.length-1) (0,0)).1=ρ at r0 hlb ah9;obtain⟨R,rfl⟩ :=aa3 hlb.1;have hR8:R<128:=by omega
     have hwl:(aR.length:Int)-1=((aR.length-1:Nat) :Int) :=by omega
     obtain⟨q,hq⟩ : ∃q,R/64=q:=⟨_,rfl⟩;have hqz:(R:Int) /64=(q:Int) :=by omega
     have hq2:q<2:=by omega
     have HQ:=ah hq;clear hq;have ajS:Hid (∀a∈aR,a.1.toNat/64≤q) :=fun a ha=>by have h1:=ah9.out a ha;have h2:=HQ.out;have h3:=(HA.out a ha).1.1;omega
     have hwq:IntKind.i64.wrap ((q:Int)+1)=(q:Int)+1:=by rw[abu];omega
     have hsl: ∃a3 c3,u3= .slice a3 ws.length c3:=by
      rcases HR2.out.own.2 with⟨e,e2⟩| ⟨g,cap,cur,e,_⟩;·exact⟨none,0,by rw[e,e2]⟩
      ·exact⟨_,cap,e⟩
     obtain⟨a3,c3,rfl⟩ :=hsl;have anA:=HN.out.1;have hx1:aR.length-1<aR.length:=by omega
     clear hca r1 hlm hlb hba x1;go_upto_region 8 with fail;obtain⟨k,hk⟩ : ∃k:Nat,k=q+1-ws.length:=⟨_,rfl⟩;have hmx:max (0:Int) ((q:Int)+1-(ws.length:Int))=(k:Int) :=by omega
     have HK:=ah hk;clear hk;obtain⟨i0,hi0,hz0,hz1,hz2⟩ :=info_parts Tryd.infoU64;go_wp2_with(at_builtin;refine Em _ rfl _ _ _ _ rfl w.heap.size 146 i0 (.int .u64 0) Tryd.underlying145 Tryd.underlying3 hi0 hz0 hz1 rfl rfl (by omega) _ _ _ rfl HR2.out.own k rfl ?c1 ?c2 ?c3 ?_);case c1=>omega
     case c2=>omega
     case c3=>exact HR2.out.bel.size
     intro v' w1 ho hg hat;have HR3:=ah (HR2.out.grow ho hg);have AB:Hid (kE (ws++abn k 0) D i 0) :=HN.out.zeros (by have:=HK.out;omega);have HY3:Hid (w1.heap[b5]?=some (.cells #[.bool f,.slice (some ⟨ba,oa,none⟩) aR.length ci,.int .i64 els] 42)) :=by refine Eq.trans (hg.block b5 (Array.getElem?_eq_some_iff.1 HY.out).1 fun e=> ?_) HY.out;obtain⟨_,cur,h2⟩ :=aA HR2.out.own e.symm;rw[HY.out]at h2;exact Po
     have HL3:Hid (∀a∈aR,a.1.toNat/64<(ws++abn k 0).length) :=fun a ha=>by have h1:=ajS.out a ha;have h2:=HK.out;rw[aa7,List.length_replicate];omega
     clear ho hg hat;go_wp2_with fail;go_meet;case rel=>exact⟨_,HR3.out,AB.out,HL3.out,HY3.out⟩
    ·have h0z: ¬(0:Int)<(aR.length:Int) :=by omega
     have hnil:aR= [] :=abp (by omega);have HF:Hid (Rn w W3 u3 ws∧kE ws D i 0∧(∀a∈aR,a.1.toNat/64<ws.length)∧W3.heap[b5]?=some (.cells #[.bool f,.slice ai aR.length ci,.int .i64 els] 42)) :=⟨HR2.out,HN.out,by rw[hnil];simp,HY.out⟩;clear hnil;go_wp2_with fail;go_meet;case rel=>exact⟨ws,HF.out⟩
   case rest=>
    obtain⟨Vi,hR2,hN2,hL2,hY2⟩ :=hcut;rename aab=>W4;have y1:=aj hY2 1;have HL2:=ah hL2;have HLen:=ah (rfl:Vi.length=Vi.length);have HR4:=ah hR2;have HN4:=ah hN2;have HY4:=ah hY2;clear hR2 hN2 hL2 hY2 HR2 HY;go_wp2_with fail;clear y1;go_loopw [43](fun kv wx=>∃(k:Nat)(qR:List Nat),kv= .int .i64 (k:Int)∧k≤aR.length∧qR.length=Vi.length∧Rn w wx u3 qR∧kE qR D i k)(fun kv _=>aR.length-(aas kv).toNat);case atStart=>exact⟨0,Vi,rfl,aaU _,rfl,HR4.out,HN4.out⟩
    case round=>
     obtain⟨k,qR,rfl,hka,hlw,TR,hN5⟩ :=hrel;have kK:=ah TR;have HN5:=ah hN5;have HLw:=ah hlw;by_cases hk:k<aR.length
     ·have hkz:(k:Int)<(aR.length:Int) :=by omega
      obtain⟨ba,oa,rfl,hba,hca⟩ :=HX.out.resolve_left (fun e=>by rw[e]at hk;simp at hk);obtain⟨r0,r1⟩ :=hca k hk;have r0:=(TR.bel.cell (cell_lt r0)).trans r0;have r1:=(TR.bel.cell (cell_lt r1)).trans r1;have AO:=CU hk;have hlb:=(HA.out _ AO).1;have mO:=HL2.out _ AO;obtain⟨ar,har⟩ : ∃ar,aR.getD k (0,0)=ar:=⟨_,rfl⟩;have vW:=ah har;rw[har]at r0 r1 hlb mO;obtain⟨ρ,τ⟩ :=ar;dsimp only at r0 r1 hlb mO;obtain⟨R,rfl⟩ :=aa3 hlb.1;have hR8:R<128:=by omega
      simp only[abw]at mO;obtain⟨q,hq⟩ : ∃q,R/64=q:=⟨_,rfl⟩;obtain⟨m,hm⟩ : ∃m,R %64=m:=⟨_,rfl⟩;have hqz:(R:Int) /64=(q:Int) :=by omega
      have hmz:(R:Int) %64=(m:Int) :=by omega
      have agW:m<64:=by omega
      have hwq:IntKind.i64.wrap (q:Int)=(q:Int) :=by rw[abu];omega
      have htm:Int.tmod (R:Int) 64=(m:Int) :=by rw[Int.tmod_eq_emod_of_nonneg (by omega)];omega
      rw[hq,←hlw]at mO;have HQ:=ah hq;have HM:=ah hm;obtain⟨gn,cn,rfl,hgn,hgn2⟩ :=TR.row (by omega);clear hca AO har hlb hba TR hN5 hlw hq hm;go_upto_region 12 with fail;have CO:aah wr.heap.size wr (wr.alloc (.cells #[.int .i64 (R:Int),.int .i64 τ] 44)) :=(aap _ _).alloc (aav _) _;have Mw:=ah (kK.out.below CO);have TF:=ah (aat wr (.cells #[.int .i64 (R:Int),.int .i64 τ] 44));obtain⟨b9,oJ⟩ : ∃g,wr.heap.size=g:=⟨_,rfl⟩;rw[oJ]at TF;simp only[oJ];clear CO oJ r0 r1 hgn2 x1;generalize wr.alloc (.cells #[.int .i64 (R:Int),.int .i64 τ] 44)=W5 at*;obtain⟨Q,hQ⟩ : ∃Q:Nat,1<<<m=Q:=⟨_,rfl⟩;have hQz:(2:Int) ^m=(Q:Int) :=by rw[←hQ,abk];norm_cast
      have X3:Q<18446744073709551616:=by rw[←hQ,abk];exact Nat.lt_of_lt_of_le (Nat.pow_lt_pow_right (by decide) agW) (by decide)
      have hwd:qR.getD q 0<18446744073709551616:=by rw[aaK,aaE mO];exact HN5.out.2.1 _ (aa1 mO)
      refine abf (S:=fun u=>u.cell? ⟨b9,0,none⟩=some (.int .i64 (R:Int))) (by kernel_rfl) ?_;have hbd:aah W5.heap.size W5 ({heap:=W5.heap,tape:=W5.tape,drawn:=W5.drawn+1,os:=W5.os,output:=W5.output} :aab) :=(aap _ _).drew;generalize({heap:=W5.heap,tape:=W5.tape,drawn:=W5.drawn+1,os:=W5.os,output:=W5.output} :aab)=Wd at*;have hSd:(fun u=>u.cell? ⟨b9,0,none⟩=some (.int .i64 (R:Int)) :aab→Prop) Wd:=aj (aC TF.out hbd) 0;have Ku:=Mw.out.below hbd;have hcw:Wd.cell? ⟨gn,q,none⟩=some (.int .u64 ((qR.getD q 0:Nat) :Int)) :=aQ Ku.own (Vz mO);obtain⟨_,cur,iJ⟩ :=aA Ku.own (b:=gn) rfl;have hfz:=bL iJ q;have hne:b9≠gn:=aN (aC TF.out hbd) iJ (by decide);try refine tn ?_
      refine tx 0 ?_;refine tx 1 ?_;refine tx 2 ?_ (v:= .int .i64 (R:Int));refine tx 3 ?_ (v:= .int .i64 (q:Int));refine tx 4 ?_ (v:= .pointer (some ⟨gn,q,none⟩)) (hx:=fun u _=>Jk u _ _ _ _ rfl gn q qR.length cn (by kernel_rfl) (by kernel_rfl) mO);refine tx 6 ?_;refine tx 7 ?_ (v:= .int .i64 (R:Int));refine tx 8 ?_ (v:= .int .i64 (m:Int));refine tx 9 ?_ (v:= .int .u64 (Q:Int)) (hx:=fun u _=>TV u _ _ _ _ rfl m Q (by kernel_rfl) (by kernel_rfl) agW hQz X3);refine t1 5 (Rp _ _ _ _ rfl gn q (qR.getD q 0) (by kernel_rfl) hcw) ?_;refine tx 10 ?_ (v:= .int .u64 ((qR.getD q 0 |||Q:Nat) :Int)) (hx:=fun u _=>Xf u _ _ _ _ rfl _ _ hwd X3 (by kernel_rfl) (by kernel_rfl));refine tx 11 ?_ (v:= .pointer (some ⟨gn,q,none⟩)) (hx:=fun u _=>Jk u _ _ _ _ rfl gn q qR.length cn (by kernel_rfl) (by kernel_rfl) mO);have pR:(Wd.setCell ⟨gn,q,none⟩ (.int .u64 ((qR.getD q 0 |||Q:Nat) :Int))).cell? ⟨b9,0,none⟩=some (.int .i64 (R:Int)) :=by have e:(Wd.setCell ⟨gn,q,none⟩ (.int .u64 ((qR.getD q 0 |||Q:Nat) :Int))).heap[b9]?=Wd.heap[b9]?:=ay _ _ _ _ _ hne;exact aj (e.trans (aC TF.out hbd)) 0
      refine t1s 12 (Yn _ _ _ _ _ rfl gn q _ _ (by kernel_rfl) (by kernel_rfl) hcw hfz) ?_ (hS:=pR);refine aa4 (by kernel_rfl) ?_ _;have rP:=ah (Ku.put mO (qR.getD q 0 |||Q));have Dz:Hid (kE (qR.set q (qR.getD q 0 |||Q)) D i (k+1)) :=by have:=HN5.out.next (q:=R) (by rw[fZ.out];exact hk) (by rw[fZ.out];show(aR.getD k (0,0)).1=_;rw[vW.out]) (by rw[HQ.out];exact mO);rw[HQ.out,HM.out,hQ]at this;exact this
      have kI:Hid ((qR.set q (qR.getD q 0 |||Q)).length=Vi.length) :=by show _=_;rw[List.length_set];exact HLw.out
      clear Ku hcw iJ hfz hne pR hSd hbd Mw TF hQ hQz X3 hwd;try dsimp only
      generalize Wd.setCell ⟨gn,q,none⟩ (.int .u64 ((qR.getD q 0 |||Q:Nat) :Int))=W7 at*;go_wp2_with fail;go_roundw;case rel=>exact⟨k+1,_,by go_num,by omega,kI.out,rP.out,Dz.out⟩
      case measure=>simp[aas];omega
     ·have hkz: ¬(k:Int)<(aR.length:Int) :=by omega
      have Dz:Hid (kE qR D (i+1) 0) :=HN5.out.state (by rw[fZ.out];show k=aR.length;omega);go_wp2_with fail;go_roundw;case rel=>exact⟨i+1,_,by go_num,by omega,kK.out,Dz.out⟩
      case measure=>simp[aas];omega
  ·have WM: ¬(i:Int)<(D.length:Int) :=by omega
   have hsl: ∃a3 c3,u3= .slice a3 ws.length c3:=by
    rcases HR.out.own.2 with⟨e,e2⟩| ⟨g,cap,cur,e,_⟩;·exact⟨none,0,by rw[e,e2]⟩
    ·exact⟨_,cap,e⟩
   obtain⟨a3,c3,rfl⟩ :=hsl;obtain rfl:D.length=i:=by omega
   have anA:=HN.out.1;have HI0:Hid (RI w wr (.slice a3 ws.length c3) ws (.slice none 0 0) []) :=⟨HR.out,World.ownsRow_nil _ _ _ _⟩;clear hR hN;go_wp2_with fail;go_loopw [63,10](fun jv rv wx=>∃(j:Nat)(rs:List Int),jv= .int .i64 (j:Int)∧j≤ws.length∧BV ws j rs∧RI w wx (.slice a3 ws.length c3) ws rv rs)(fun jv _ _=>ws.length-(aas jv).toNat);case atStart=>exact⟨0,[],rfl,aaU _,BV.zero ws,HI0.out⟩
   case round=>
    obtain⟨j,rs,rfl,hj,hO,hI⟩ :=hrel;have HO:=ah hO;have HI:=ah hI;by_cases hjl:j<ws.length
    ·have hjz:(j:Int)<(ws.length:Int) :=by omega
     obtain⟨gn,cn,he,hgn,hgn2⟩ :=hI.r.row (by omega);obtain⟨rfl,_,rfl⟩ :a3=some ⟨gn,0,none⟩∧True∧c3=cn:=by simpa using he
     have c1:wr.cell? ⟨gn,j,none⟩=some (.int .u64 ((ws.getD j 0:Nat) :Int)) :=aQ hI.r.own (Vz hjl);have hwl:ws.getD j 0<2^64:=by rw[aaK,aaE hjl];exact HN.out.2.1 _ (aa1 hjl)
     have HS:=ah (HO.out.start hwl);obtain⟨v0,hv0⟩ : ∃v,ws.getD j 0=v:=⟨_,rfl⟩;rw[hv0]at c1 HS;clear hO hI he hwl hv0;go_wp2_with fail;go_loopw [12,10](fun wv rv wx=>∃(v:Nat)(Od:List Int),wv= .int .u64 (v:Int)∧D9 ws j v Od∧RI w wx (.slice (some ⟨gn,0,none⟩) ws.length c3) ws rv Od)(fun wv _ _=>(aas wv).toNat);case atStart=>exact⟨v0,rs,rfl,HS.out,HI.out⟩
     case round=>
      obtain⟨v,Od,rfl,hJ,hI⟩ :=hrel;have HJ:=ah hJ;have HI2:=ah hI;have hv64:v<18446744073709551616:=hJ.lt;by_cases hv:v=0
      ·subst hv;have dO:=ah hJ.done;clear hJ hI;go_wp2_with fail;go_roundw;case rel=>exact⟨j+1,Od,by go_num,by omega,dO.out,HI2.out⟩
       case measure=>simp[aas];omega
      ·have hvb:((v:Int) !=0)=true:=by simp;omega
       have HJ2:=ah (hJ.step hv);have hct:=afs hv hJ.lt;have HTz:=ah (fun W(hW:aah wr.heap.size wr W)=>Any7.bits_TrailingZeros64 Tryd.laysTz v (by omega) W (fun _=>nY HT.out (hI.r.bel.trans (hW.mono hI.r.bel.size))));have hand:=u64_and_nat v (v-1) (by omega) (by omega);have hsub:(v:Int)-1=((v-1:Nat) :Int) :=by omega
       have hws:IntKind.u64.wrap ((v:Int)-1)=((v-1:Nat) :Int) :=by rw[abt];omega
       have hrl:Od.length≤128:=by have:=Ci Od 0 hJ.rise (fun r hr=>⟨hJ.pos r hr,by obtain⟨n,rfl⟩ :=aa3 (hJ.pos r hr);have:=Ls ((hJ.mem n).1 hr).1;omega⟩) (by omega);omega
       generalize Lib.ctz 64 v=k at*;clear hJ hI;obtain⟨i0,hi0,hz0,hz1,hz2⟩ :=info_parts Tryd.infoIntR;go_wp2_with fail;refine(HTz.out _ (aap _ _)).mono ?_;rintro e w2⟨rfl,rfl⟩;rename aab=>wq;go_wp2_with(at_builtin;refine wpList_append_own_at _ rfl _ _ 56 rfl w.heap.size 3 i0 (.int .i64 0) 1 8 Tryd.underlying56 hi0 hz0 hz1 hz2 rfl (by decide) _ _ _ rfl (HI2.out.own.alloc _) ⟨wq.heap.size,0,none⟩ 1 1 [.int .i64 (64*(j:Int)+(k:Int))] rfl rfl ?c1 ?c2 ?c3 ?c4 ?c5 ?_);case c1=>
        intro j' x hj';match j',hj' with
        |0,hj'=>simp at hj';subst hj';simp[Addr.add]
       case c2=>intro x hu;simp at hu;subst hu;rfl
       case c3=>unfold maxLen;omega
       case c4=>omega
       case c5=>have:=HI2.out.r.bel.size;simp;omega
       intro v' w6 ho hg hne hat;have HI3:=ah (HI2.out.push _ ho hg);have hml:v&&&(v-1)<v:=Na hv;clear ho hg hne hat;go_wp2_with fail;go_roundw;case rel=>exact⟨v&&&(v-1),_,rfl,HJ2.out,HI3.out⟩
       case measure=>simp[aas];omega
    ·have hjz: ¬(j:Int)<(ws.length:Int) :=by omega
     obtain rfl:ws.length=j:=by omega
     obtain⟨ar,cr,rfl,hh⟩ :=aeU hI.own;have hmem:=HN.out.all (fun s hs a ha=>(((HD.out s hs).2.1 a ha).1).1) hO;have LU: ∀r∈rs,0≤r∧r<128:=fun r hr=>⟨hO.2.1 r hr,by obtain⟨n,rfl⟩ :=aa3 (hO.2.1 r hr);have:=((hO.2.2 n).1 hr).2;omega⟩;have hrl:rs.length≤128:=by have:=Ci rs 0 hO.1 LU (by omega);omega
     have HFin:Hid (Kn D w (.returned (.slice ar rs.length cr)) wr) :=⟨ar,cr,rs,rfl,hh,hI.r.bel,hO.1,LU,hrl,hmem⟩;clear hO hI hh hmem LU;go_wp2_with fail;go_ret;exact HFin.out
theorem Uy(D:List aT)(ad:Option aaw)(c:Nat)(w:aab)(hD:qJ D)(hl:D.length≤512)(h:dP w ad D)(hT:TabAt (Tryd.laysTz_ren.g 1) aaY w) :aax Tryd.prog 40 #[.slice ad D.length c] w (J8 D w) :=Jz D ad c w hD hl h fun W hW=>M4 D ad c W hD hl (h.below hW) (nY hT hW)
def sM(v:aal)(c:Int) :Ending:= .returned (.tuple #[.agg #[v],.int .i64 c])
def jI(A B:List aT)(op:Bool→Bool→Bool)(w:aab)(e:Ending)(w':aab) :Prop:=aah w.heap.size w w'∧((¬(bP A∧bP B)∧e=sM (.slice none 0 0) 1)∨(bP A∧bP B∧1024<A.length*B.length∧e=sM (.slice none 0 0) 12)∨(bP A∧bP B∧A.length*B.length≤1024∧∃ls,kD A B ls∧((e=sM (.slice none 0 0) 11∧∀L,jg ls (kr A B op) L→256<L.length)∨∃v l,jg ls (kr A B op) (l.map Prod.snd)∧l.length≤256∧e=sM v 0∧bq w' w.heap.size v l)))
theorem Tu(W:aab)(ρ:aau→aal)(o:Oper)(x y:aau)(ho:o.op= .buildSlice 106 2 #[(0,x),(1,y)])(a b:Option aaw)(m n c d:Nat)(hx:ρ x= .slice a m c)(hy:ρ y= .slice b n d) :(aaQ ρ o).run Tryd.prog W= .ok (.value (.slice (some ⟨W.heap.size,0,none⟩) 2 2)) (W.alloc (.cells #[.slice a m c,.slice b n d] 23)) :=by exact BN
abbrev oC(pa pb pc:Nat) :Array aal:=BM (0,0) (uy pa pb) (ru pc pa pb)
theorem Kt(W:aab)(ρ:aau→aal)(o:Oper)(x y:aau)(ho:o.op= .store 71 x y)(b:Nat)(p q m:Int)(f g:FuncId)(u v:Array aal)(x0 x1 x2 x3 x4:aal)(hx:ρ x= .pointer (some ⟨b,0,none⟩))(hy:ρ y= .agg #[.int .i64 p,.int .i64 q,.func (.func f) #[] u,.func (.func g) #[] v,.int .i64 m])(hb:W.heap[b]?=some (.cells #[x0,x1,x2,x3,x4] 71)) :(aaQ ρ o).run Tryd.prog W= .ok .skip (((((W.setCell ⟨b,0,none⟩ (.int .i64 p)).setCell ⟨b,1,none⟩ (.int .i64 q)).setCell ⟨b,2,none⟩ (.func (.func f) #[] u)).setCell ⟨b,3,none⟩ (.func (.func g) #[] v)).setCell ⟨b,4,none⟩ (.int .i64 m)) :=by have c0:=aj hb 0;have c1:=aj hb 1;have c2:=aj hb 2;have c3:=aj hb 3;have c4:=aj hb 4;have fz:=fun j=>frozen_of_row _ _ j _ _ hb;exact BN
theorem ML {ops:Array Oper} {rest:List Oper} {o:Oper} {a:Act} {w:aab} {Q:Exit→Act→aab→Prop}(hgd:o.guard=none)(x y:aau)(ho:o.op= .store 71 x y)(b pa pb pc:Nat)(hx:a.eval x= .pointer (some ⟨b,0,none⟩))(hy:a.eval y= .agg (oC pa pb pc))(hb:w.heap[b]?=some (.cells #[.int .i64 0,.int .i64 0,.nilFunc,.nilFunc,.int .i64 0] 71))(h: ∀w',w'.heap[b]?=some (.cells (oC pa pb pc) 71)→But (fun k=>k=b) w w'→wpList Tryd.prog ops Q rest (a.put o.dst undef) w') :wpList Tryd.prog ops Q (o::rest) a w:=by refine wpList_plain hgd fun K hK=> ?_;have:=Kt w a.eval o x y ho b 0 0 9223372036854775807 _ _ _ _ _ _ _ _ _ hx hy hb;unfold Oper.wp;simp only[this,Oper.upon];refine hK _ _ (h _ ?_ ((((((But.refl (fun k=>k=b) w).set b 0 _ rfl).set b 1 _ rfl).set b 2 _ rfl).set b 3 _ rfl).set b 4 _ rfl));have k:=aL (aL (aL (aL (aL hb 0 (.int .i64 0)) 1 (.int .i64 0)) 2 (uy pa pb)) 3 (ru pc pa pb)) 4 (.int .i64 9223372036854775807);simpa using k
theorem MM(W:aab)(ρ:aau→aal)(o:Oper)(x:aau)(ho:o.op= .load 71 x)(b pa pb pc:Nat)(hx:ρ x= .pointer (some ⟨b,0,none⟩))(hb:W.heap[b]?=some (.cells (oC pa pb pc) 71)) :(aaQ ρ o).run Tryd.prog W= .ok (.value (.agg (oC pa pb pc))) W:=by have c0:=aj hb 0;have c1:=aj hb 1;have c2:=aj hb 2;have c3:=aj hb 3;have c4:=aj hb 4;exact vG
theorem rZ(W:aab)(ρ:aau→aal)(o:Oper)(x:aau)(j:Nat)(ho:o.op= .extract x j)(a b v:aal)(hx:ρ x= .tuple #[a,b])(hv:(#[a,b] :Array aal)[j]?=some v) :(aaQ ρ o).run Tryd.prog W= .ok (.value v) W:=by exact uA
theorem Mh {m n:Nat}(h1:m≤256)(h2:n≤256) :(m+1)*(n+1)≤66049:=by have:=abl (show m+1≤257 by omega) (show n+1≤257 by omega);simpa using this
theorem U7 {m n P:Nat}(h:m*n=P)(h1:P≤65536) :wrap64 ((m:Int)*(n:Int))=(P:Int) :=by
 have Uk:(m:Int)*(n:Int)=(P:Int) :=by rw[←h];simp
 rw[Uk];unfold wrap64;omega
theorem NL {m n P:Nat}(h:m*n=P)(h1:m≤256)(h2:n≤256) :P≤65536:=by have:=abl h1 h2;rw[h]at this;simpa using this
def Bn(w:aab)(a0 a1 a2:aal) :aab:=(((w.alloc (.cells #[a0] 25)).alloc (.cells #[a1] 25)).alloc (.cells #[a2] 39)).alloc (.cells #[.slice none 0 0] 25)
theorem abM(w:aab)(a0 a1 a2:aal) :(Bn w a0 a1 a2).heap[w.heap.size]?=some (.cells #[a0] 25)∧(Bn w a0 a1 a2).heap[w.heap.size+1]?=some (.cells #[a1] 25)∧(Bn w a0 a1 a2).heap[w.heap.size+1+1]?=some (.cells #[a2] 39)∧(Bn w a0 a1 a2).heap[w.heap.size+1+1+1]?=some (.cells #[.slice none 0 0] 25)∧aah w.heap.size w (Bn w a0 a1 a2) :=by
 have h1:(w.alloc (.cells #[a0] 25)).heap.size=w.heap.size+1:=by simp
 have h2:((w.alloc (.cells #[a0] 25)).alloc (.cells #[a1] 25)).heap.size=w.heap.size+1+1:=by simp
 have h3:(((w.alloc (.cells #[a0] 25)).alloc (.cells #[a1] 25)).alloc (.cells #[a2] 39)).heap.size=w.heap.size+1+1+1:=by simp
 unfold Bn;refine⟨?_,?_,?_,?_,(((((aap _ _).alloc (aav _) _).alloc (by rw[h1];omega) _).alloc (by rw[h2];omega) _).alloc (by rw[h3];omega) _)⟩;·exact aia
 ·exact ahQ
 ·exact abh
 ·rw[←h3];exact aat _ _
theorem Pz (A B : List aT) (op : Bool → Bool → Bool) (g : FuncId) (ad bd : Option aaw) (ca cb : Nat) (w : aab) (hg : Ib g op) (hsA : ∀ s ∈ A, s.2.1.length ≤ 1048576) (hsB : ∀ s ∈ B, s.2.1.length ≤ 1048576) (hlA : A.length ≤ 1048576) (hlB : B.length ≤ 1048576) (hLo : bP A → bP B → qJ (A ++ B)) (ha : dP w ad A) (hb : dP w bd B) (hT : TabAt (Tryd.laysTz_ren.g 1) aaY w) :
    aax Tryd.prog 16 #[.agg #[.slice ad A.length ca], .agg #[.slice bd B.length cb], .func (.func g) #[] #[]] w (jI A B op w) := by
  obtain ⟨p0, p1, p2, p3, hb1⟩ := abM w (.slice ad A.length ca) (.slice bd B.length cb) (.func (.func g) #[] #[])
  have HG := ah hg
  have DJ := ah hsA
  have IG := ah hsB
  have xH := ah hLo
  have HA := ah ha
  have HB := ah hb
  have HT := ah hT
  have mM := ah hlA
  have xZ := ah hlB
  obtain ⟨m, hm⟩ : ∃ m, A.length = m := ⟨_, rfl⟩
  obtain ⟨n, hn⟩ : ∃ n, B.length = n := ⟨_, rfl⟩
  have jN := ah hm
  have fG := ah hn
  rw [hm] at p0 p1 p2 p3 hb1 ⊢
  rw [hn] at p0 p1 p2 p3 hb1 ⊢
  have HB1 := ah hb1
  have jc := ah p0
  have bY := ah p1
  have cZ := ah p2
  have nL := ah p3
  clear hm hn hg hsA hsB hlA hlB hLo ha hb hT hb1 p0 p1 p2 p3
  go_enter Tryd.func16, Tryd.ntmps16
  go_upto_region 1 with fail
  have hW1 : (((w.alloc (.cells #[.slice ad m ca] 25)).alloc (.cells #[.slice bd n cb] 25)).alloc (.cells #[.func (.func g) #[] #[]] 39)).alloc (.cells #[.slice none 0 0] 25) = Bn w (.slice ad m ca) (.slice bd n cb) (.func (.func g) #[] #[]) := rfl
  rw [hW1]
  clear hW1
  generalize Bn w (.slice ad m ca) (.slice bd n cb) (.func (.func g) #[] #[]) = W1 at *
  obtain ⟨sz, hsz⟩ : ∃ sz, w.heap.size = sz := ⟨_, rfl⟩
  have uq := ah hsz
  rw [hsz] at jc bY cZ nL
  simp only [hsz]
  clear hsz
  have q0 : W1.cell? ⟨sz, 0, none⟩ = some (.slice ad m ca) := aj jc.out 0
  have hc1 := Al ca ad A W1 DJ.out mM.out (HA.out.below HB1.out)
  rw [jN.out] at hc1
  obtain ⟨fa, hfa⟩ : ∃ fa, sI A = fa := ⟨_, rfl⟩
  rw [hfa] at hc1
  have CJ := ah hfa
  clear hfa
  go_wp2_with fail
  refine hc1.mono ?_
  rintro e W2 ⟨rfl, hb2⟩
  have HB2 := ah (HB1.out.trans (hb2.mono HB1.out.size))
  have oM := ah (aC jc.out hb2)
  have fu := ah (aC bY.out hb2)
  have gZ := ah (aC cZ.out hb2)
  have kz := ah (aC nL.out hb2)
  clear hb2 hc1 q0 jc bY cZ nL HB1
  cases fa
  · have HN : Hid (¬ (bP A ∧ bP B)) := fun h => by
      have := (jP A DJ.out).2 h.1
      exact Rv
    have q3 := aj kz.out 0
    have f3 := bL kz.out 0
    have fB : Hid ((W2.setCell ⟨sz + 1 + 1 + 1, 0, none⟩ (.slice none 0 0)).cell? ⟨sz + 1 + 1 + 1, 0, none⟩ = some (.slice none 0 0)) := by
      exact PW
    have jF : Hid (aah w.heap.size w (W2.setCell ⟨sz + 1 + 1 + 1, 0, none⟩ (.slice none 0 0))) := HB2.out.trans (((But.refl (fun b => b = sz + 1 + 1 + 1) W2).set (sz + 1 + 1 + 1) 0 _ rfl).below HB2.out.size (fun j hj e => by have := uq.out; omega))
    exact agk
  have q1 : W2.cell? ⟨sz + 1, 0, none⟩ = some (.slice bd n cb) := aj fu.out 0
  have hc1 := Al cb bd B W2 IG.out xZ.out (HB.out.below HB2.out)
  rw [fG.out] at hc1
  obtain ⟨fb, qX⟩ : ∃ fb, sI B = fb := ⟨_, rfl⟩
  rw [qX] at hc1
  have BQ := ah qX
  clear qX
  go_wp2_with fail
  refine hc1.mono ?_
  rintro e W3 ⟨rfl, hb2⟩
  have HB3 := ah (HB2.out.trans (hb2.mono HB2.out.size))
  replace oM := ah (aC oM.out hb2)
  replace fu := ah (aC fu.out hb2)
  replace gZ := ah (aC gZ.out hb2)
  replace kz := ah (aC kz.out hb2)
  clear hb2 hc1 q1 HB2
  cases fb
  · have HN : Hid (¬ (bP A ∧ bP B)) := fun h => by
      have := (jP B IG.out).2 h.2
      rw [BQ.out] at this
      exact absurd this (by decide)
    have q3 := aj kz.out 0
    have f3 := bL kz.out 0
    have fB : Hid ((W3.setCell ⟨sz + 1 + 1 + 1, 0, none⟩ (.slice none 0 0)).cell? ⟨sz + 1 + 1 + 1, 0, none⟩ = some (.slice none 0 0)) := by
      exact PW
    have jF : Hid (aah w.heap.size w (W3.setCell ⟨sz + 1 + 1 + 1, 0, none⟩ (.slice none 0 0))) := HB3.out.trans (((But.refl (fun b => b = sz + 1 + 1 + 1) W3).set (sz + 1 + 1 + 1) 0 _ rfl).below HB3.out.size (fun j hj e => by have := uq.out; omega))
    exact agk
  have pE := (jP A DJ.out).1 CJ.out
  have rU := (jP B IG.out).1 BQ.out
  have jm := ah pE
  have nI := ah rU
  obtain ⟨P, hP⟩ : ∃ P, m * n = P := ⟨_, rfl⟩
  have hm2 : m ≤ 256 := by rw [← jN.out]; exact pE.2.1
  have hn2 : n ≤ 256 := by rw [← fG.out]; exact rU.2.1
  have hP2 := NL hP hm2 hn2
  have hwr := U7 hP hP2
  have HP := ah hP
  clear hP pE rU
  have q0 : W3.cell? ⟨sz, 0, none⟩ = some (.slice ad m ca) := aj oM.out 0
  have q1 : W3.cell? ⟨sz + 1, 0, none⟩ = some (.slice bd n cb) := aj fu.out 0
  by_cases hbig : 1024 < P
  · have hbz : (1024 : Int) < (P : Int) := by omega
    have hbd : decide ((1024 : Int) < (P : Int)) = true := decide_eq_true hbz
    have Yl : Hid (1024 < A.length * B.length) := by show _ < _; rw [jN.out, fG.out, HP.out]; exact hbig
    clear hbig
    have q3 := aj kz.out 0
    have f3 := bL kz.out 0
    have fB : Hid ((W3.setCell ⟨sz + 1 + 1 + 1, 0, none⟩ (.slice none 0 0)).cell? ⟨sz + 1 + 1 + 1, 0, none⟩ = some (.slice none 0 0)) := by
      exact PW
    have jF : Hid (aah w.heap.size w (W3.setCell ⟨sz + 1 + 1 + 1, 0, none⟩ (.slice none 0 0))) := HB3.out.trans (((But.refl (fun b => b = sz + 1 + 1 + 1) W3).set (sz + 1 + 1 + 1) 0 _ rfl).below HB3.out.size (fun j hj e => by have := uq.out; omega))
    go_wp2_with fail
    refine aaT (v := .tuple #[.agg #[.slice none 0 0], .int .i64 12]) (by simp [aaR, Tryd.results16, go_sem, fB.out]) rfl ?_
    exact ⟨jF.out, aar (aaF ⟨jm.out, nI.out, Yl.out, rfl⟩)⟩
  have hbz : ¬ (1024 : Int) < (P : Int) := by omega
  have hbd : decide ((1024 : Int) < (P : Int)) = false := decide_eq_false hbz
  have qp : Hid (A.length * B.length ≤ 1024) := by show _ ≤ _; rw [jN.out, fG.out, HP.out]; omega
  clear hbig
  go_upto_region 5 with fail
  have hal := aat W3 (.cells #[.int .i64 0, .int .i64 0, .nilFunc, .nilFunc, .int .i64 0] 71)
  have hb3 : aah W3.heap.size W3 (W3.alloc (.cells #[.int .i64 0, .int .i64 0, .nilFunc, .nilFunc, .int .i64 0] 71)) := (aap _ _).alloc (aav _) _
  have VH := ah hal
  have Ak := ah hb3
  clear hal hb3
  go_wp2_with (refine ML rfl _ _ rfl W3.heap.size sz (sz + 1) (sz + 1 + 1) (by kernel_rfl) (by kernel_rfl) VH.out ?_)
  intro W4 hwk sS
  have hb4 : aah W3.heap.size W3 W4 := Ak.out.trans (sS.below Ak.out.size (fun j hj e => by omega))
  have HWk := ah hwk
  have eF := ah (HB3.out.trans (hb4.mono HB3.out.size))
  replace oM := ah (aC oM.out hb4)
  replace fu := ah (aC fu.out hb4)
  replace gZ := ah (aC gZ.out hb4)
  replace kz := ah (aC kz.out hb4)
  clear hwk sS hb4 VH Ak HB3 q0 q1
  generalize W3.heap.size = wb at *
  go_upto_region 6 with fail
  clear hwr hbz hbd
  have pE := jm.out
  have rU := nI.out
  refine abf (S := fun u => u.cell? ⟨sz, 0, none⟩ = some (.slice ad m ca) ∧ u.cell? ⟨sz + 1, 0, none⟩ = some (.slice bd n cb) ∧ u.heap[wb]? = some (.cells (oC sz (sz + 1) (sz + 1 + 1)) 71)) (by kernel_rfl) ?_
  have hbd : aah W4.heap.size W4 ({ heap := W4.heap, tape := W4.tape, drawn := W4.drawn + 1, os := W4.os, output := W4.output } : aab) := (aap _ _).drew
  generalize ({ heap := W4.heap, tape := W4.tape, drawn := W4.drawn + 1, os := W4.os, output := W4.output } : aab) = Wd at *
  have hS : ∀ u, aah Wd.heap.size Wd u → (fun u => u.cell? ⟨sz, 0, none⟩ = some (.slice ad m ca) ∧ u.cell? ⟨sz + 1, 0, none⟩ = some (.slice bd n cb) ∧ u.heap[wb]? = some (.cells (oC sz (sz + 1) (sz + 1 + 1)) 71) : aab → Prop) u := fun u hu => ⟨aj (aC (aC oM.out hbd) hu) 0, aj (aC (aC fu.out hbd) hu) 0, aC (aC HWk.out hbd) hu⟩
  have hSd := hS Wd (aap _ _)
  have hbw : aah w.heap.size w Wd := eF.out.trans (hbd.mono eF.out.size)
  try refine tn ?_
  refine tx 0 ?_ (v := .agg (oC sz (sz + 1) (sz + 1 + 1))) (hx := fun u hu => MM u _ _ _ rfl wb sz (sz + 1) (sz + 1 + 1) (by kernel_rfl) hu.2.2)
  refine tx 1 ?_
  refine tx 2 ?_
  refine tx 3 ?_
  refine tx 4 ?_
  have hb5 : aah Wd.heap.size Wd (Wd.alloc (.cells #[.slice ad m ca, .slice bd n cb] 23)) := (aap _ _).alloc (aav _) _
  have I6 := aat Wd (.cells #[.slice ad m ca, .slice bd n cb] 23)
  refine t1 5 (Tu Wd _ _ _ _ rfl ad bd m n ca cb (by kernel_rfl) (by kernel_rfl)) ?_ (hS := hS _ hb5)
  have hL5 : adK (Wd.alloc (.cells #[.slice ad m ca, .slice bd n cb] 23)) (some ⟨Wd.heap.size, 0, none⟩) [A, B] := by
    refine ⟨Wd.heap.size, 0, rfl, (Array.getElem?_eq_some_iff.1 I6).1, fun i hi => ?_⟩
    match i, hi with
    | 0, _ => exact ⟨ad, ca, by rw [aj I6, ← jN.out]; rfl, (HA.out.below hbw).below hb5⟩
    | 1, _ => exact ⟨bd, cb, by rw [aj I6, ← fG.out]; rfl, (HB.out.below hbw).below hb5⟩
  generalize Wd.alloc (.cells #[.slice ad m ca, .slice bd n cb] 23) = W5 at *
  have hfl : [A, B].flatten = A ++ B := by simp
  have hc6 := P5 W5 (some ⟨Wd.heap.size, 0, none⟩) 2 [A, B] hL5 (by simp) (fun i hi => by
    match i, hi with
    | 0, _ => show A.length ≤ 4096; have := pE.2.1; omega
    | 1, _ => show B.length ≤ 4096; have := rU.2.1; omega)
  refine aF 6 (by kernel_rfl) ?_
  refine bQ 41 #[.slice (some ⟨Wd.heap.size, 0, none⟩) 2 2] rfl (by kernel_rfl) (IP _ _ _ _ _ _ rfl _ (by kernel_rfl) (Tryd.call41 _ _)) ?_
  refine hc6.mono ?_
  rintro e' W6 ⟨v6, xs6, rfl, Ir, Qk, hb6⟩
  rw [hfl] at Ir Qk
  obtain ⟨ad6, c6, rfl, hD6⟩ := ab2 Ir rfl Qk hb6
  have GX : aah Wd.heap.size Wd W6 := hb5.trans (hb6.mono hb5.size)
  refine ⟨hS _ GX, ?_⟩
  try refine tn ?_
  clear hc6 hL5 I6 Ir Qk
  have hc7 := Uy (A ++ B) ad6 c6 W6 (xH.out pE rU) (by rw [aa7]; have := pE.2.1; have := rU.2.1; omega) hD6 (nY HT.out (hbw.trans (GX.mono hbw.size)))
  refine aF 7 (by kernel_rfl) ?_
  refine bQ 40 #[.slice ad6 (A ++ B).length c6] rfl (by kernel_rfl) (IP _ _ _ _ _ _ rfl _ (by kernel_rfl) (Tryd.call40 _ _)) ?_
  refine hc7.mono ?_
  rintro e' W7 ⟨vr, vy, vs, vc, ls, kd, Ps, M, sg, sm, ct, rfl, Cf, ajr, afd, hmem, hKd, DI, Ik, hvy, hvs, hvc, kZ⟩
  have yw : aah Wd.heap.size Wd W7 := GX.trans (kZ.mono GX.size)
  refine ⟨hS _ yw, ?_⟩
  try refine tn ?_
  have sD : aah w.heap.size w W7 := hbw.trans (yw.mono hbw.size)
  have hlets : kD A B ls := ⟨⟨Cf, fun r hr => (afd r hr).1⟩, fun r => by
    rw [hmem r, List.mem_append, iU, iU]
    constructor
    · rintro ⟨s, hs, h⟩
      rcases List.mem_append.1 hs with hs | hs
      · exact aaF ⟨s, hs, h⟩
      · exact aar ⟨s, hs, h⟩
    · rintro (⟨s, hs, h⟩ | ⟨s, hs, h⟩)
      · exact ⟨s, List.mem_append_left _ hs, h⟩
      · exact ⟨s, List.mem_append_right _ hs, h⟩⟩
  have Uz := fun u (hu : aah W7.heap.size W7 u) => aC (aC (aC oM.out hbd) yw) hu
  have VK := fun u (hu : aah W7.heap.size W7 u) => aC (aC (aC fu.out hbd) yw) hu
  have R5 := fun u (hu : aah W7.heap.size W7 u) => aC (aC (aC gZ.out hbd) yw) hu
  rw [← jN.out] at Uz
  rw [← fG.out] at VK
  have hML : M.length ≤ 128 := aa5 DI.ml ajr
  have hpr : Wu (lV A B op (sm ++ [-1])) (lu A B) (M.length + 1) := ⟨fun x j _ _ => L6 pE rU _ _ _ _, fun x hx => (show fV.ok x from by
    obtain ⟨⟨k1, k2⟩, k3, k4⟩ := hx
    have e1 := pE.2.1
    have e2 := rU.2.1
    exact ⟨⟨by omega, by omega⟩, by omega, by omega⟩), fun Z hn hz => by
      have h1 := xz hn hz
      have h2 := Mh pE.2.1 rU.2.1
      omega⟩
  have hp0 : lu A B (0, 0) := ⟨⟨by decide, by have := pE.1; show (0 : Int) < A.length; omega⟩, by decide, by have := rU.1; show (0 : Int) < B.length; omega⟩
  have hc8 := MS vr vy vs vc (lV A B op (sm ++ [-1])) (lu A B) (0, 0) (M.length + 1) sz (sz + 1) (sz + 1 + 1) sg (sm ++ [-1]) (ct ++ [1112064 - (ls.length : Int)]) ls W7 (by omega) (by omega) DI.amQ DI.sl (by simp [DI.I5]) (DI.ajH (by omega)) hpr hp0
    (fun s j W hW hs hj => MR A B ad bd ca cb sz (sz + 1) s.1 s.2 _ W pE rU hs (HA.out.below (sD.trans (hW.mono sD.size))) (HB.out.below (sD.trans (hW.mono sD.size))) (Uz W hW) (VK W hW))
    (fun s W hW hs => M5 A B op g ad bd ca cb sz (sz + 1) (sz + 1 + 1) s.1 s.2 W hs HG.out (HA.out.below (sD.trans (hW.mono sD.size))) (HB.out.below (sD.trans (hW.mono sD.size))) (Uz W hW) (VK W hW) (aj (R5 W hW) 0) (Array.getElem?_eq_some_iff.1 (R5 W hW)).1)
    Ik hvy hvs hvc
  rw [Ul pE rU op hKd DI, Cg A B op ls (-1) pE.pos rU.pos (by decide)] at hc8
  refine aF 8 (by kernel_rfl) ?_
  refine bQ 39 #[.agg (oC sz (sz + 1) (sz + 1 + 1)), .agg #[vr, vy, vs, vc]] rfl (by kernel_rfl) (eT _ _ _ _ _ _ _ _ rfl _ _ (by kernel_rfl) (by kernel_rfl) (Tryd.call39 _ _)) ?_
  refine hc8.mono ?_
  rintro e' W8 ⟨jS, hcase⟩
  have vI := yw.trans (jS.mono yw.size)
  have QB := sD.trans (jS.mono sD.size)
  have h3 := aC (aC (aC kz.out hbd) yw) jS
  have fB : Hid (∀ v : aal, (W8.setCell ⟨sz + 1 + 1 + 1, 0, none⟩ v).cell? ⟨sz + 1 + 1 + 1, 0, none⟩ = some v) := fun v => by
    rw [aj (aL h3 0 v) 0]; simp
  have jF : Hid (∀ v : aal, aah w.heap.size w (W8.setCell ⟨sz + 1 + 1 + 1, 0, none⟩ v)) := fun v =>
    QB.trans (((But.refl (fun b => b = sz + 1 + 1 + 1) W8).set (sz + 1 + 1 + 1) 0 _ rfl).below QB.size (fun j hj e => by have := uq.out; omega))
  have pR : ∀ v : aal, (fun u => u.cell? ⟨sz, 0, none⟩ = some (.slice ad m ca) ∧ u.cell? ⟨sz + 1, 0, none⟩ = some (.slice bd n cb) ∧ u.heap[wb]? = some (.cells (oC sz (sz + 1) (sz + 1 + 1)) 71) : aab → Prop) (W8.setCell ⟨sz + 1 + 1 + 1, 0, none⟩ v) := fun v =>
    have ho : ∀ b, b ≠ sz + 1 + 1 + 1 → (W8.setCell ⟨sz + 1 + 1 + 1, 0, none⟩ v).heap[b]? = W8.heap[b]? := fun b hb => ay _ _ _ _ _ hb
    have hwk := aC (aC HWk.out hbd) vI
    ⟨aj ((ho _ (by omega)).trans (aC (aC oM.out hbd) vI)) 0, aj ((ho _ (by omega)).trans (aC (aC fu.out hbd) vI)) 0, (ho _ (aN hwk h3 (by decide))).trans hwk⟩
  have aaj := ah hlets
  clear Ik hvy hvs hvc DI hKd hmem hpr hp0 hlets Cf afd
  rcases hcase with ⟨rfl, ZM⟩ | ⟨v, l, hLe, hll, rfl, hDm⟩
  · skip
    have WG := ah (ZM)
    refine ⟨hS _ vI, ?_⟩
    try refine tn ?_
    refine tx 9 ?_ (v := .agg #[.slice none 0 0]) (hx := fun u _ => rZ u _ _ _ 0 rfl (.agg #[.slice none 0 0]) (.int .i64 11) _ (by kernel_rfl) rfl) (hS := hS _ vI)
    refine tx 10 ?_ (v := .int .i64 11) (hx := fun u _ => rZ u _ _ _ 1 rfl (.agg #[.slice none 0 0]) (.int .i64 11) _ (by kernel_rfl) rfl) (hS := hS _ vI)
    refine aF 11 (by kernel_rfl) ?_
    refine bI _ rfl (by kernel_rfl) (pY _ _ _ _ _ rfl (sz + 1 + 1 + 1) none 0 0 _ (by kernel_rfl) (by kernel_rfl) (aj h3 0) (bL h3 0)) ?_
    refine ⟨pR _, ?_⟩
    try refine tn ?_
    refine tx 12 ?_ (hS := pR _)
    refine aa4 (by kernel_rfl) ?_ _
    clear pR hS hSd h3 vI yw sD QB jS Uz VK R5 hc8 hbd GX hb6 hb5 kZ hbw
    go_wp2_with fail
    refine aaT (v := .tuple #[.agg #[.slice none 0 0], .int .i64 11]) (by simp [aaR, Tryd.results16, go_sem, fB.out]) rfl ?_
    exact ⟨jF.out _, aar (aar ⟨jm.out, nI.out, qp.out, ls, aaj.out, aaF ⟨rfl, WG.out⟩⟩)⟩
  · obtain ⟨av, cv, hvv⟩ : ∃ a c, v = .slice a l.length c := by
      rcases hDm.row.2 with ⟨h, h0⟩ | ⟨g7, c7, wm, h, _⟩
      · exact ⟨none, 0, by rw [h, h0]⟩
      · exact ⟨_, c7, h⟩
    subst hvv
    have HLL := ah hll
    have Sd : Hid (∀ u : aal, bq (W8.setCell ⟨sz + 1 + 1 + 1, 0, none⟩ u) w.heap.size (.slice av l.length cv) l) := fun u => by
      refine (hDm.lower sD.size).congr fun b cs t ht _ hh => ?_
      rw [ay W8 (sz + 1 + 1 + 1) 0 _ b (by
        rintro rfl
        rw [h3] at hh
        simp only [Option.some.injEq, Obj.cells.injEq] at hh
        rcases ht with rfl | rfl
        · exact absurd hh.2.1 (by decide)
        · exact absurd hh.2.1 (by decide))]
      exact hh
    clear hDm hll
    have WG := ah (hLe)
    refine ⟨hS _ vI, ?_⟩
    try refine tn ?_
    refine tx 9 ?_ (v := .agg #[.slice av l.length cv]) (hx := fun u _ => rZ u _ _ _ 0 rfl (.agg #[.slice av l.length cv]) (.int .i64 0) _ (by kernel_rfl) rfl) (hS := hS _ vI)
    refine tx 10 ?_ (v := .int .i64 0) (hx := fun u _ => rZ u _ _ _ 1 rfl (.agg #[.slice av l.length cv]) (.int .i64 0) _ (by kernel_rfl) rfl) (hS := hS _ vI)
    refine aF 11 (by kernel_rfl) ?_
    refine bI _ rfl (by kernel_rfl) (pY _ _ _ _ _ rfl (sz + 1 + 1 + 1) av l.length cv _ (by kernel_rfl) (by kernel_rfl) (aj h3 0) (bL h3 0)) ?_
    refine ⟨pR _, ?_⟩
    try refine tn ?_
    refine tx 12 ?_ (hS := pR _)
    refine aa4 (by kernel_rfl) ?_ _
    clear pR hS hSd h3 vI yw sD QB jS Uz VK R5 hc8 hbd GX hb6 hb5 kZ hbw
    go_wp2_with fail
    refine aaT (v := .tuple #[.agg #[.slice av l.length cv], .int .i64 0]) (by simp [aaR, Tryd.results16, go_sem, fB.out]) rfl ?_
    exact ⟨jF.out _, aar (aar ⟨jm.out, nI.out, qp.out, ls, aaj.out, aar ⟨_, l, WG.out, HLL.out, rfl, Sd.out _⟩⟩)⟩
theorem jI.store {A B:List aT} {op:Bool→Bool→Bool} {w w1 W8:aab} {e:Ending} {b:Nat}(h:jI A B op w1 e W8)(hb:aah w.heap.size w w1)(hx:w1.heap[b]?=some (.cells #[.slice none 0 0] 25))(hge:w.heap.size≤b) : ∃a n cp c,e=sM (.slice a n cp) c∧W8.cell? ⟨b,0,none⟩=some (.slice none 0 0)∧W8.frozen? ⟨b,0,none⟩=false∧(W8.setCell ⟨b,0,none⟩ (.slice a n cp)).cell? ⟨b,0,none⟩=some (.slice a n cp)∧jI A B op w (sM (.slice a n cp) c) (W8.setCell ⟨b,0,none⟩ (.slice a n cp)) :=by
 obtain⟨jS,hc⟩ :=h;have h8:=aC hx jS;have hbw:=hb.trans (jS.mono hb.size);have hset: ∀v:aal,(W8.setCell ⟨b,0,none⟩ v).cell? ⟨b,0,none⟩=some v:=fun v=>by rw[aj (aL h8 0 v) 0];simp
 have hbs: ∀v:aal,aah w.heap.size w (W8.setCell ⟨b,0,none⟩ v) :=fun v=>hbw.trans (((But.refl (fun k=>k=b) W8).set b 0 _ rfl).below hbw.size (fun j hj e=>by omega));rcases hc with⟨h1,rfl⟩| ⟨h1,h2,h3,rfl⟩| ⟨h1,h2,h3,ls,h4,⟨rfl,h5⟩| ⟨v,l,h5,h6,rfl,h7⟩⟩;·exact⟨none,0,0,1,rfl,aj h8 0,bL h8 0,hset _,hbs _,aaF ⟨h1,rfl⟩⟩
 ·exact⟨none,0,0,12,rfl,aj h8 0,bL h8 0,hset _,hbs _,aar (aaF ⟨h1,h2,h3,rfl⟩)⟩
 ·exact⟨none,0,0,11,rfl,aj h8 0,bL h8 0,hset _,hbs _,aar (aar ⟨h1,h2,h3,ls,h4,aaF ⟨rfl,h5⟩⟩)⟩
 ·obtain⟨av,cv,hvv⟩ : ∃a c,v= .slice a l.length c:=by
   rcases h7.row.2 with⟨h,h0⟩| ⟨g7,c7,wm,h,_⟩;·exact⟨none,0,by rw[h,h0]⟩
   ·exact⟨_,c7,h⟩
  subst hvv;refine⟨av,l.length,cv,0,rfl,aj h8 0,bL h8 0,hset _,hbs _,aar (aar ⟨h1,h2,h3,ls,h4,aar ⟨_,l,h5,h6,rfl,?_⟩⟩)⟩;refine(h7.lower hb.size).congr fun k cs t ht _ hh=> ?_;rw[ay W8 b 0 _ k (by
   rintro rfl;rw[h8]at hh;simp only[Option.some.injEq,Obj.cells.injEq]at hh;rcases ht with rfl|rfl;·exact absurd hh.2.1 (by decide)
   ·exact absurd hh.2.1 (by decide))];exact hh
structure mW(A B:List aT)(ad bd:Option aaw)(w:aab) :Prop where
 sA: ∀s∈A,s.2.1.length≤4096
 sB: ∀s∈B,s.2.1.length≤4096
 lA:A.length≤1048576
 lB:B.length≤1048576
 low:bP A→bP B→qJ (A++B)
 ha:dP w ad A
 hb:dP w bd B
 tab:TabAt (Tryd.laysTz_ren.g 1) aaY w
theorem mW.below {A B:List aT} {ad bd:Option aaw} {w w':aab}(h:mW A B ad bd w)(hb:aah w.heap.size w w') :mW A B ad bd w':=⟨h.sA,h.sB,h.lA,h.lB,h.low,h.ha.below hb,h.hb.below hb,nY h.tab hb⟩
theorem mW.any {A B:List aT} {ad bd:Option aaw} {w:aab}(h:mW A B ad bd w)(op:Bool→Bool→Bool)(g:FuncId)(ca cb:Nat)(hg:Ib g op) :aax Tryd.prog 16 #[.agg #[.slice ad A.length ca],.agg #[.slice bd B.length cb],.func (.func g) #[] #[]] w (jI A B op w) :=Pz A B op g ad bd ca cb w hg (fun s hs=>aa5 (h.sA s hs) (by decide)) (fun s hs=>aa5 (h.sB s hs) (by decide)) h.lA h.lB h.low h.ha h.hb h.tab
theorem wF(w:aab)(a0 a1:aal) :let W:=((w.alloc (.cells #[a0] 25)).alloc (.cells #[a1] 25)).alloc (.cells #[.slice none 0 0] 25)
    W.heap[w.heap.size]?=some (.cells #[a0] 25)∧W.heap[w.heap.size+1]?=some (.cells #[a1] 25)∧W.heap[w.heap.size+1+1]?=some (.cells #[.slice none 0 0] 25)∧aah w.heap.size w W:=by
  have h1:(w.alloc (.cells #[a0] 25)).heap.size=w.heap.size+1:=by simp
  have h2:((w.alloc (.cells #[a0] 25)).alloc (.cells #[a1] 25)).heap.size=w.heap.size+1+1:=by simp
  refine⟨?_,?_,?_,(((aap _ _).alloc (aav _) _).alloc (by rw[h1];omega) _).alloc (by rw[h2];omega) _⟩
  ·rw[abd _ _ _ (by rw[h2];omega),abd _ _ _ (by rw[h1];omega)];exact aat _ _
  ·rw[abd _ _ _ (by rw[h2];omega),←h1];exact aat _ _
  ·rw[←h2];exact aat _ _
theorem LG(A B:List aT)(ad bd:Option aaw)(ca cb:Nat)(w:aab)(h:mW A B ad bd w) :aax Tryd.prog 6 #[.agg #[.slice ad A.length ca],.agg #[.slice bd B.length cb]] w (jI A B (fun x y=>x&&y) w) :=by have hs:=wF w (.slice ad A.length ca) (.slice bd B.length cb);dsimp only at hs;obtain⟨p0,p1,p2,hb⟩ :=hs;have iY:=ah (h.below hb);have HB:=ah hb;have cZ:=ah p2;have c0:=aj p0 0;have c1:=aj p1 0;clear h hb p0 p1 p2;go_enter Tryd.func6,Tryd.ntmps6;go_upto_region 1 with fail;generalize((w.alloc (.cells #[.slice ad A.length ca] 25)).alloc (.cells #[.slice bd B.length cb] 25)).alloc (.cells #[.slice none 0 0] 25)=W1 at*;go_wp2_with fail;refine(iY.out.any _ _ ca cb Ua).mono ?_;intro e W8 hJ;obtain⟨a,n,cp,c,rfl,r0,r1,r2,hJ2⟩ :=hJ.store HB.out cZ.out (by omega);have HJ:=ah hJ2;have HR2:=ah r2;unfold sM;clear hJ hJ2 r2;go_wp2_with fail;refine aaT (v:= .tuple #[.agg #[.slice a n cp],.int .i64 c]) (by simp[aaR,Tryd.results6,go_sem,HR2.out]) rfl ?_;exact HJ.out
theorem Hf(A B:List aT)(ad bd:Option aaw)(ca cb:Nat)(w:aab)(h:mW A B ad bd w) :aax Tryd.prog 7 #[.agg #[.slice ad A.length ca],.agg #[.slice bd B.length cb]] w (jI A B (fun x y=>x ||y) w) :=by have hs:=wF w (.slice ad A.length ca) (.slice bd B.length cb);dsimp only at hs;obtain⟨p0,p1,p2,hb⟩ :=hs;have iY:=ah (h.below hb);have HB:=ah hb;have cZ:=ah p2;have c0:=aj p0 0;have c1:=aj p1 0;clear h hb p0 p1 p2;go_enter Tryd.func7,Tryd.ntmps7;go_upto_region 1 with fail;generalize((w.alloc (.cells #[.slice ad A.length ca] 25)).alloc (.cells #[.slice bd B.length cb] 25)).alloc (.cells #[.slice none 0 0] 25)=W1 at*;go_wp2_with fail;refine(iY.out.any _ _ ca cb Nk).mono ?_;intro e W8 hJ;obtain⟨a,n,cp,c,rfl,r0,r1,r2,hJ2⟩ :=hJ.store HB.out cZ.out (by omega);have HJ:=ah hJ2;have HR2:=ah r2;unfold sM;clear hJ hJ2 r2;go_wp2_with fail;refine aaT (v:= .tuple #[.agg #[.slice a n cp],.int .i64 c]) (by simp[aaR,Tryd.results7,go_sem,HR2.out]) rfl ?_;exact HJ.out
abbrev mq:List aT:=[(true,[],0)]
theorem Ut(w:aab)(o0 o1 o2 o3:Obj) :let W:=(((w.alloc o0).alloc o1).alloc o2).alloc o3
    W.heap[w.heap.size]?=some o0∧W.heap[w.heap.size+1]?=some o1∧W.heap[w.heap.size+1+1]?=some o2∧W.heap[w.heap.size+1+1+1]?=some o3∧aah w.heap.size w W:=by
  have h1:(w.alloc o0).heap.size=w.heap.size+1:=by simp
  have h2:((w.alloc o0).alloc o1).heap.size=w.heap.size+1+1:=by simp
  have h3:(((w.alloc o0).alloc o1).alloc o2).heap.size=w.heap.size+1+1+1:=by simp
  refine⟨?_,?_,?_,?_,((((aap _ _).alloc (aav _) _).alloc (by rw[h1];omega) _).alloc (by rw[h2];omega) _).alloc (by rw[h3];omega) _⟩
  ·exact aia
  ·exact ahQ
  ·exact abh
  ·rw[←h3];exact aat _ _
theorem dP.one {W:aab} {b:Nat} {f:Bool} {z:Int}(h:W.heap[b]?=some (.cells #[.bool f,.slice none 0 0,.int .i64 z] 42)) :dP W (some ⟨b,0,none⟩) [(f,[],z)] :=by
 refine aar ⟨b,0,rfl,(Array.getElem?_eq_some_iff.1 h).1,fun i hi=> ?_⟩;have e:i=0:=by simp at hi;exact hi
 subst e;exact⟨aj h 0,none,0,aj h 1,aaF rfl,aj h 2⟩
theorem GJ(A:List aT)(ad:Option aaw)(ca:Nat)(w:aab)(hsA: ∀s∈A,s.2.1.length≤4096)(hlA:A.length≤1048576)(hLo:bP A→qJ A)(ha:dP w ad A)(hT:TabAt (Tryd.laysTz_ren.g 1) aaY w) :aax Tryd.prog 12 #[.agg #[.slice ad A.length ca]] w (jI A mq (fun x _=> !x) w) :=by
 go_enter Tryd.func12,Tryd.ntmps12;go_upto_region 2 with fail;have hs:=Ut w (.cells #[.slice ad A.length ca] 25) (.cells #[.slice none 0 0] 25) (.cells #[.bool true,.slice none 0 0,.int .i64 0] 42) (.cells #[.slice (some ⟨w.heap.size+1+1,0,none⟩) 1 1] 25);dsimp only at hs;obtain⟨p0,p1,p2,p3,hb⟩ :=hs;have hIn:mW A mq ad (some ⟨w.heap.size+1+1,0,none⟩) ((((w.alloc (.cells #[.slice ad A.length ca] 25)).alloc (.cells #[.slice none 0 0] 25)).alloc (.cells #[.bool true,.slice none 0 0,.int .i64 0] 42)).alloc (.cells #[.slice (some ⟨w.heap.size+1+1,0,none⟩) 1 1] 25)) :=⟨hsA,fun s hs=>by rw[List.mem_singleton.1 hs];show 0≤_;omega,hlA,by show 1≤_;omega,fun hA _ s hs=>by
  rcases List.mem_append.1 hs with hs|hs;·exact hLo hA s hs
  ·rw[List.mem_singleton.1 hs];exact⟨List.Pairwise.nil,fun a ha=>absurd ha (by simp),by show 0≤_;omega⟩,ha.below hb,dP.one p2,nY hT hb⟩;have iY:=ah hIn;have HB:=ah hb;have bY:=ah p1;have c0:=aj p0 0;have c3:=aj p3 0;clear hsA hlA hLo ha hT hIn hb p0 p1 p2 p3;generalize(((w.alloc (.cells #[.slice ad A.length ca] 25)).alloc (.cells #[.slice none 0 0] 25)).alloc (.cells #[.bool true,.slice none 0 0,.int .i64 0] 42)).alloc (.cells #[.slice (some ⟨w.heap.size+1+1,0,none⟩) 1 1] 25)=W1 at*;go_wp2_with fail;refine(iY.out.any _ _ ca 1 MB).mono ?_;intro e W8 hJ;obtain⟨a,n,cp,c,rfl,r0,r1,r2,hJ2⟩ :=hJ.store HB.out bY.out (by omega);have HJ:=ah hJ2;have HR2:=ah r2;unfold sM;clear hJ hJ2 r2;go_wp2_with fail;refine aaT (v:= .tuple #[.agg #[.slice a n cp],.int .i64 c]) (by simp[aaR,Tryd.results12,go_sem,HR2.out]) rfl ?_;exact HJ.out
def zk(l:List (Int×Int))(k:Nat) :Int:=if k=0 then-1 else(l.getD (k-1) (0,0)).1
theorem acy(l:List (Int×Int))(k:Nat) :zk l (k+1)=(l.getD k (0,0)).1:=by simp[zk]
theorem Ao(c:Nat)(a:Option aaw)(D:List aT)(w:aab)(hs: ∀s∈D,s.2.1.length≤4096)(hl3:D.length≤1048576)(h:dP w a D) :aax Tryd.prog 30 #[.agg #[.slice a D.length c]] w fun e w'=>e= .returned (.bool (sI D))∧aah w.heap.size w w':=by
 have hb0:aah w.heap.size w (w.alloc (.cells #[.slice a D.length c] 25)) :=(aap _ _).alloc (aav _) _;have hn0:=aat w (.cells #[.slice a D.length c] 25);have HS:=ah hs;obtain⟨n,hn⟩ : ∃n,D.length=n:=⟨_,rfl⟩;have fG:=ah hn;rw[hn]at hb0 hn0;obtain⟨W1,hW1⟩ : ∃W1,w.alloc (.cells #[.slice a n c] 25)=W1:=⟨_,rfl⟩;rw[hW1]at hb0 hn0;have H:=ah (h.below hb0);have HB0:=ah hb0;have qH:=ah hn0;have xO:Hid (sI D=((decide (1≤n) &&decide (n≤256)) &&D.all (Bj n))) :=by show _=_;rw[←hn];rfl
 clear h hs hb0 hn0;rw[hn]at hl3⊢;clear hn;have x0:W1.cell? ⟨w.heap.size,0,none⟩=some (.slice a n c) :=aj qH.out 0;go_enter Tryd.func30,Tryd.ntmps30;go_upto_region 1 with fail;try rw[hW1]
 clear hW1;by_cases h1:n<1
 ·have h1z:(n:Int)<1:=by omega
  have hok:(decide (1≤n) &&decide (n≤256))=false:=by rw[decide_eq_false (by omega)];rfl
  exact ZV
 have h1z: ¬(n:Int)<1:=by omega
 by_cases h2:256<n
 ·have h2z:(n:Int)>256:=by omega
  have hok:(decide (1≤n) &&decide (n≤256))=false:=by rw[decide_eq_false (show¬n≤256 by omega),aaV]
  exact ZV
 have h2z: ¬(n:Int)>256:=by omega
 have hok:(decide (1≤n) &&decide (n≤256))=true:=by rw[decide_eq_true (by omega),decide_eq_true (by omega)];rfl
 rw[hok,aa']at xO;clear hok h1 h2;go_wp2_with fail;clear x0 h1z h2z;go_loopw [4](fun iv wr=>∃(i:Nat),i≤n∧iv= .int .i64 (i:Int)∧D.all (Bj n)=(D.drop i).all (Bj n)∧aah W1.heap.size W1 wr)(fun iv _=>n-(aas iv).toNat);case atStart=>exact⟨0,aaU _,rfl,rfl,aap _ _⟩
 case round=>
  obtain⟨i,hi,rfl,hdr,hb⟩ :=hrel;have HB:=ah hb;have qE:=ah hdr;have x0:wr.cell? ⟨w.heap.size,0,none⟩=some (.slice a n c) :=aj (aC qH.out hb) 0;clear hb hdr;by_cases hlt:i<n
  ·have hltz:(i:Int)<(n:Int) :=by omega
   obtain⟨b,off,rfl,hb1,hc⟩ :=(H.out.below HB.out).resolve_left (fun e=>by rw[←fG.out,e]at hlt;simp at hlt);have jY:i<D.length:=by rw[fG.out];exact hlt
   obtain⟨s0,ai,ci,s1,hx,s2⟩ :=hc i jY;have hgd:D.getD i ps0=D[i] :=by rw[aaK,aaE jY];rfl
   have hsl:=HS.out _ (aa1 jY);have hdr:D.drop i=D[i] ::D.drop (i+1) :=(aa8 jY).symm;rw[hdr,List.all_cons]at qE;rw[hgd]at s0 s1 hx s2;clear hc hgd hdr;generalize D[i]=s at*;clear jY;obtain⟨f,rs,z⟩ :=s;dsimp only at s0 s1 hx s2 hsl;obtain⟨m,hm⟩ : ∃m,rs.length=m:=⟨_,rfl⟩;have HM:=ah hm;rw[hm]at s1 hsl;clear hm;obtain⟨W2,hW2⟩ : ∃W2,wr.alloc (.cells #[.bool f,.slice ai m ci,.int .i64 z] 42)=W2:=⟨_,rfl⟩;have hb2:aah wr.heap.size wr W2:=by rw[←hW2];exact(aap _ _).alloc (aav _) _
   have hn2:W2.heap[wr.heap.size]?=some (.cells #[.bool f,.slice ai m ci,.int .i64 z] 42) :=by rw[←hW2];exact aat _ _
   have HA:=ah (hx.below hb2);have HB2:=ah (HB.out.trans (hb2.mono HB.out.size));obtain⟨sz,hsz⟩ : ∃sz,wr.heap.size=sz:=⟨_,rfl⟩;rw[hsz]at hn2;have y1:W2.cell? ⟨sz,1,none⟩=some (.slice ai m ci) :=aj hn2 1;have y2:W2.cell? ⟨sz,2,none⟩=some (.int .i64 z) :=aj hn2 2;have wE:=ah hn2;have fZ:Hid (Bj n (f,rs,z)=((decide (-1≤z) &&decide (z≤(n:Int)-1)) &&dB n (-1) rs)) :=rfl;rw[fZ.out]at qE;clear hx hb2 hn2 fZ;go_upto_region 8 with fail;try rw[hW2]
   try rw[hsz]
   clear hW2 s0 s1 s2 x0 hsz;have hNo:(decide (-1≤z) &&decide (z≤(n:Int)-1))=false→Hid (sI D=false) :=fun h=>by show _=_;rw[xO.out,qE.out,h,aaL,aaL]
   have Dw:=ah hNo;clear hNo;by_cases hz1:z< -1;·have hN:=Dw.out (by rw[decide_eq_false (by omega)];rfl);have dz:decide (z< -1)=true:=decide_eq_true hz1;exact abr
   by_cases hz2:z≥(n:Int);·have hN:=Dw.out (by rw[decide_eq_false (show¬z≤(n:Int)-1 by omega),aaV]);exact abr
   have hmz: ¬(m:Int)>4096:=by omega
   rw[show(decide (-1≤z) &&decide (z≤(n:Int)-1))=true by rw[decide_eq_true (by omega),decide_eq_true (by omega)];rfl,aa']at qE;clear Dw;go_wp2_with fail;clear hz1 hz2 y1 y2 hmz;go_loopw [6](fun kv wx=>∃(k:Nat),k≤m∧kv= .int .i64 (k:Int)∧dB n (-1) rs=dB n (zk rs k) (rs.drop k)∧aah W2.heap.size W2 wx)(fun kv _=>m-(aas kv).toNat);case atStart=>exact⟨0,aaU _,rfl,rfl,aap _ _⟩
   case round=>
    obtain⟨k,hk,rfl,hka,hb⟩ :=hrel;have uM:=ah hb;have SQ:=ah hka;have y1:wr.cell? ⟨sz,1,none⟩=some (.slice ai m ci) :=aj (aC wE.out hb) 1;clear hb hka;by_cases hkm:k<m
    ·have hkz:(k:Int)<(m:Int) :=by omega
     obtain⟨g,o2,rfl,hgl,hac⟩ :=((HA.out.below uM.out)).resolve_left (fun e=>by rw[←HM.out,e]at hkm;simp at hkm);have aok:=ah hgl;have hkl:k<rs.length:=by rw[HM.out];exact hkm
     obtain⟨e0,e1⟩ :=hac k hkl;have Dy:rs.getD k (0,0)=rs[k] :=by rw[aaK,aaE hkl];rfl
     have hdk:rs.drop k=rs[k] ::rs.drop (k+1) :=(aa8 hkl).symm;have hzs:=acy rs k;rw[Dy]at e0 e1 hzs;rw[hdk]at SQ;have HPv:Hid (0<k→wr.cell? ⟨g,o2+(k-1)*2,none⟩=some (.int .i64 (zk rs k))) :=fun h0=>by have:=(hac (k-1) (by omega)).1;rw[this];unfold zk;rw[if_neg (by omega)]
     have hz0:k=0→zk rs k= -1:=fun h0=>by unfold zk;rw[if_pos h0]
     clear hac Dy hdk hgl;generalize rs[k]=p at*;clear hkl;obtain⟨p0,p1⟩ :=p;dsimp only at e0 e1 hzs;obtain⟨zz,hzz⟩ : ∃zz,zk rs k=zz:=⟨_,rfl⟩;rw[hzz]at SQ HPv hz0;have zg:Hid (dB n (-1) rs=(decide (zz<p0) &&ig p0&&(decide (-1≤p1) &&decide (p1≤(n:Int)-1)) &&dB n p0 (rs.drop (k+1)))) :=SQ.out;have HZs:=ah hzs;have HZ0:=ah hz0;clear hzs hzz hz0 SQ;obtain⟨W3,hW3⟩ : ∃W3,wr.alloc (.cells #[.int .i64 p0,.int .i64 p1] 44)=W3:=⟨_,rfl⟩;have hb3:aah wr.heap.size wr W3:=by rw[←hW3];exact(aap _ _).alloc (aav _) _
     have AP:W3.heap[wr.heap.size]?=some (.cells #[.int .i64 p0,.int .i64 p1] 44) :=by rw[←hW3];exact aat _ _
     have q0:W3.cell? ⟨wr.heap.size,0,none⟩=some (.int .i64 p0) :=aj AP 0;have q1:W3.cell? ⟨wr.heap.size,1,none⟩=some (.int .i64 p1) :=aj AP 1;have y3:W3.cell? ⟨sz,1,none⟩=some (.slice (some ⟨g,o2,none⟩) m ci) :=aj (aC (aC wE.out uM.out) hb3) 1;have HB3:=ah (uM.out.trans (hb3.mono uM.out.size));have HPw:Hid (0<k→W3.cell? ⟨g,o2+(k-1)*2,none⟩=some (.int .i64 zz)) :=fun h0=>(hb3.cell (p:=⟨g,o2+(k-1)*2,none⟩) aok.out).trans (HPv.out h0);clear hb3 AP HPv;go_upto_region 14 with fail;try rw[hW3]
     clear hW3 e0 e1 y1;go_cut [84](fun cv wy=>∃B:Bool,cv= .bool B∧dB n (-1) rs=(!B&&dB n p0 (rs.drop (k+1)))∧∃q',wy=W3.drewN q');case first=>
      have yM:Hid (∀W,aax Tryd.prog 46 #[.int .i64 p0] W fun e w'=>e= .returned (.bool (ig p0))∧w'=W) :=fun W=>Aj p0 W;by_cases hch:ig p0=true
      ·rw[hch]at yM;have hp:=(jH p0).1 hch;by_cases h1:p1< -1
       ·have d1:decide (p1< -1)=true:=decide_eq_true h1;have HR:Hid (dB n (-1) rs=false) :=by show _=_;rw[zg.out,decide_eq_false (show¬ -1≤p1 by omega),aaL,aaV,aaL]
        clear hch hp;exact PD
       have d1:decide (p1< -1)=false:=decide_eq_false h1;by_cases h2:p1≥(n:Int)
       ·have d2:decide (p1≥(n:Int))=true:=decide_eq_true h2;have HR:Hid (dB n (-1) rs=false) :=by show _=_;rw[zg.out,decide_eq_false (show¬p1≤(n:Int)-1 by omega),aaV,aaV,aaL]
        clear hch hp;exact PD
       have d2:decide (p1≥(n:Int))=false:=decide_eq_false h2;rw[hch,decide_eq_true (show-1≤p1 by omega),decide_eq_true (show p1≤(n:Int)-1 by omega)]at zg;by_cases h3:k=0
       ·have d3: ¬(0<k) :=by omega
        have d3b:decide (0<k)=false:=decide_eq_false d3;have HR:Hid (dB n (-1) rs=dB n p0 (rs.drop (k+1))) :=by show _=_;rw[zg.out,decide_eq_true (show zz<p0 by have:=HZ0.out h3;omega)];rfl
        have H3:=ah h3;exact af4
       have d3:0<k:=by omega
       have d3b:decide (0<k)=true:=decide_eq_true d3;have hpw:=HPw.out (by omega);have hkn:((k:Int)-1).toNat=k-1:=by omega
       have hk0: ¬((k:Int)-1<0) :=by omega
       have hk1:(k:Int)-1<(m:Int) :=by omega
       by_cases h4:p0≤zz
       ·have d4:decide (p0≤zz)=true:=decide_eq_true h4;have HR:Hid (dB n (-1) rs=false) :=by show _=_;rw[zg.out,decide_eq_false (show¬zz<p0 by omega)];rfl
        clear hch hp h3;exact PD
       ·have d4:decide (p0≤zz)=false:=decide_eq_false h4;have HR:Hid (dB n (-1) rs=dB n p0 (rs.drop (k+1))) :=by show _=_;rw[zg.out,decide_eq_true (show zz<p0 by omega)];rfl
        exact af4
      ·have hch':ig p0=false:=by simpa using hch
       have HR:Hid (dB n (-1) rs=false) :=by show _=_;rw[zg.out,hch',aaV,aaL,aaL]
       rw[hch']at yM;clear hch hch';exact PD
     case rest=>
      obtain⟨B,rfl,hB,q',rfl⟩ :=hcut;have l6:=ah (below_drewN HB3.out q');cases B with
      |true=>have HE:Hid (dB n (-1) rs=false) :=hB;rw[HE.out,aaL]at qE;go_wp2_with fail;go_ret;exact⟨by rw[xO.out,qE.out];rfl,HB0.out.trans ((HB2.out.trans (l6.out.mono HB2.out.size)).mono HB0.out.size)⟩
      |false=>
       have HE:Hid (dB n (-1) rs=dB n (zk rs (k+1)) (rs.drop (k+1))) :=by show _=_;rw[hB,HZs.out];rfl
       go_wp2_with fail;go_roundw;case rel=>exact⟨k+1,by omega,by go_num,HE.out,l6.out⟩
       case measure=>simp[aas];omega
    ·have hkz: ¬(k:Int)<(m:Int) :=by omega
     have HE:Hid (dB n (-1) rs=true) :=by show _=_;rw[SQ.out,aa9 (by rw[HM.out];omega)];rfl
     rw[HE.out,aa']at qE;go_wp2_with fail;go_roundw;case rel=>exact⟨i+1,by omega,by go_num,qE.out,HB2.out.trans (uM.out.mono HB2.out.size)⟩
     case measure=>simp[aas];omega
  ·have hltz: ¬(i:Int)<(n:Int) :=by omega
   have HE:Hid (D.all (Bj n)=true) :=by show _=_;rw[qE.out,aa9 (by rw[fG.out];omega)];rfl
   exact aaX
theorem BB(c:Nat)(a:Option aaw)(D:List aT)(z r:Int)(w:aab)(hs: ∀s∈D,s.2.1.length≤4096)(hl3:D.length≤1048576)(hz0: -1≤z)(hz1:z<D.length)(h:dP w a D) :aax Tryd.prog 48 #[.agg #[.slice a D.length c],.int .i64 z,.int .i64 r] w fun e w'=>e= .returned (.int .i64 (bu D z r))∧aah w.heap.size w w':=by
 have hb0:aah w.heap.size w (w.alloc (.cells #[.slice a D.length c] 25)) :=(aap _ _).alloc (aav _) _;have hn0:=aat w (.cells #[.slice a D.length c] 25);obtain⟨n,hn⟩ : ∃n,D.length=n:=⟨_,rfl⟩;have fG:=ah hn;rw[hn]at hb0 hn0;obtain⟨W1,hW1⟩ : ∃W1,w.alloc (.cells #[.slice a n c] 25)=W1:=⟨_,rfl⟩;rw[hW1]at hb0 hn0;have H:=ah (h.below hb0);have HB0:=ah hb0;have HS:=ah hs;clear h hb0 hs;rw[hn]at hl3 hz1⊢;clear hn;by_cases hz:z<0
 ·have HR:Hid (bu D z r= -1) :=by show _=_;unfold bu;rw[if_pos hz]
  clear hn0 hl3 hz0 hz1;go_enter Tryd.func48,Tryd.ntmps48;go_upto_region 1 with fail;try rw[hW1]
  clear hW1;go_wp2_with fail;go_ret;exact⟨by rw[HR.out];rfl,HB0.out⟩
 obtain⟨q,rfl⟩ : ∃q:Nat,z=(q:Int) :=⟨z.toNat,by omega⟩;have hqn:q<n:=by omega
 have hqz:(q:Int)<(n:Int) :=by omega
 have jY:q<D.length:=by rw[fG.out];exact hqn
 obtain⟨b,off,rfl,hb1,hc⟩ :=H.out.resolve_left (fun e=>by rw[e]at jY;simp at jY);obtain⟨s0,ai,ci,s1,hx,s2⟩ :=hc q jY;have hgd:D.getD q ps0=D[q] :=by rw[aaK,aaE jY];rfl
 have hsl:=HS.out _ (aa1 jY);have hR:bu D (q:Int) r=match D[q].2.1.find? (fun a=>a.1==r)with|some a=>a.2|none=>D[q].2.2:=by unfold bu;rw[if_neg (by omega),abw,aaE jY];rfl
 rw[hgd]at s0 s1 hx s2;have HR:=ah hR;clear hc hgd hR hz0 hz1 s0 H;generalize D[q]=s at*;clear jY HS;obtain⟨f,rs,z⟩ :=s;dsimp only at s1 hx s2 hsl;obtain⟨m,hm⟩ : ∃m,rs.length=m:=⟨_,rfl⟩;have HM:=ah hm;rw[hm]at s1 hsl;clear hm;have Zt:=ah hx;have x0:W1.cell? ⟨w.heap.size,0,none⟩=some (.slice (some ⟨b,off,none⟩) n c) :=aj hn0 0;clear hn0 hx;go_enter Tryd.func48,Tryd.ntmps48;go_upto_region 1 with fail;try rw[hW1]
 clear hW1;go_wp2_with fail;go_loopw [7](fun kv wr=>∃(k:Nat),k≤m∧kv= .int .i64 (k:Int)∧rs.find? (fun a=>a.1==r)=(rs.drop k).find? (fun a=>a.1==r)∧wr=W1)(fun kv _=>m-(aas kv).toNat);case atStart=>exact⟨0,aaU _,rfl,rfl,rfl⟩
 case round=>
  obtain⟨k,hk,rfl,xJ,Oz⟩ :=hrel;obtain rfl:=Oz;have pF:=ah xJ;clear xJ;by_cases hkm:k<m
  ·have hkz:(k:Int)<(m:Int) :=by omega
   have hkl:k<rs.length:=by rw[HM.out];exact hkm
   obtain⟨g,o2,rfl,hgl,hac⟩ :=Zt.out.resolve_left (fun e=>by rw[e]at hkl;simp at hkl);obtain⟨e0,e1⟩ :=hac k hkl;have Dy:rs.getD k (0,0)=rs[k] :=by rw[aaK,aaE hkl];rfl
   have hdk:rs.drop k=rs[k] ::rs.drop (k+1) :=(aa8 hkl).symm;rw[Dy]at e0 e1;rw[hdk]at pF;clear hac Dy hdk hgl;generalize rs[k]=p at*;clear hkl;obtain⟨p0,p1⟩ :=p;dsimp only at e0 e1;by_cases he:p0=r
   ·subst he;have HA:Hid (bu D (q:Int) p0=p1) :=by show _=_;rw[HR.out,pF.out,List.find?_cons_of_pos (by simp)]
    go_wp2_with fail;go_ret;exact⟨by rw[HA.out];rfl,HB0.out⟩
   ·have hde:decide (p0=r)=false:=decide_eq_false he;have HN:Hid (rs.find? (fun a=>a.1==r)=(rs.drop (k+1)).find? (fun a=>a.1==r)) :=by show _=_;rw[pF.out,List.find?_cons_of_neg (by simpa using he)]
    go_wp2_with fail;go_roundw;case rel=>exact⟨k+1,by omega,by go_num,HN.out,by first|trivial|rfl⟩
    case measure=>simp[aas];omega
  ·have hkz: ¬(k:Int)<(m:Int) :=by omega
   have HA:Hid (bu D (q:Int) r=z) :=by show _=_;rw[HR.out,pF.out,aa9 (by rw[HM.out];omega)];rfl
   go_wp2_with fail;go_ret;exact⟨by rw[HA.out];rfl,HB0.out⟩
end Go.Proofs.YtkbjimkngmlfcaaDoor
