import Derived.Test.YtkbjimkngmlfcaaDoorSetsJ11
open Go renaming World→aaE,Value→aal,Operand→aaL,info_parts→aaT,wpList_make_full→aa3,toList_madeCells_one→aa4,below_drewN→aaF,heap_alloc_new→aa5
open Go.Act renaming put→aaw
open Go.RowKit renaming Below→aab,intOf→aah
open Go.RowKit.Below renaming refl→aaA
open Go.Value renaming int→aaK
open Go.World renaming drewN_drewN→aaU
open List renaming range→aaV,replicate→aa8,length→aaY,getD_eq_getElem?_getD→aa1,length_append→abd,length_map→aaR,getElem_toArray→aat,getElem_cons_succ→aav,getElem_cons_zero→aau,setIfInBounds_toArray→aas,set_cons_zero→aap,set_cons_succ→aar,map_append→aa',map_singleton→aa9,take_length→aa7
open Nat renaming le_refl→aax,zero_le→aaQ
namespace Go.Proofs.YtkbjimkngmlfcaaDoor
open Go Go.RowKit
set_option linter.unusedVariables false
set_option linter.unusedSimpArgs false
set_option maxRecDepth 100000
set_option maxHeartbeats 8000000
theorem zc3 {P:Prop}(h:P:=by
 refine⟨S2,?_⟩;try simp only[Act.put,List.getElem_toArray,List.getElem_cons_succ,List.getElem_cons_zero,List.setIfInBounds_toArray,List.set_cons_zero,List.set_cons_succ]
 refine aF 10 (by kernel_rfl) ?_;refine mo rfl (by kernel_rfl) (wp_append_lies _ (.tmp 216) (.tmp 224) 40 rfl w.heap.size 44 ia (.agg #[.int .i64 0,.int .i64 0]) 2 16 Tryd.underlying40 hia ha0 ha1 ha2 rfl (by decide) va (bJ T ls.length ls (o7 T ls.length x o k) x (min k ls.length)).length (dN (bJ T ls.length ls (o7 T ls.length x o k) x (min k ls.length))) (by kernel_rfl) HOa.out ⟨W2.drew.heap.size,0,none⟩ 1 1 [.int .i64 lk,.int .i64 pl] (by kernel_rfl) rfl HNw.out (by intro u' hu';simp at hu';rcases hu' with rfl|rfl<;>rfl) (by omega) (by unfold maxLen;omega) (by omega) hba _ rfl ?_);intro g6 pG w6 hown6 fE mY EB;have iH:But (fun b=>va.ownBlock=some b) W2.drew w6:=⟨fE.os,fE.tape,fE.output,by have:=fE.size;simp at this⊢;omega,fun b hb hn=>by rw[fE.block b (by simp at hb⊢;omega) (fun e=>hn e.symm),Below.heap_alloc _ _ _ hb]⟩;have xe: ∀b,(Value.slice (some ⟨g6,0,none⟩) ((bJ T ls.length ls (o7 T ls.length x o k) x (min k ls.length)).length+1) pG).ownBlock=some b→va.ownBlock=some b∨W2.drew.heap.size≤b:=by
  intro b hb;cases hb;rcases mY with h5|h5;·exact Or.inl h5
  ·exact Or.inr (by rw[h5];simp)
 have vW:=ah (xu.out.BU (a:=(lk,pl)) iH hown6 xe);have s6:=aj vW.out.2 1;have f6:=bL vW.out.2 1;have S6:w6.cell? ⟨rb,0,none⟩=some (.slice (some ⟨gl,ol,none⟩) ls.length cl)∧w6.cell? ⟨gl,ol+k,none⟩=some (.int .i64 lk) :=by
  have h1:=xu.out.bW;have h2:=xu.out.cur.aR;refine⟨?_,?_⟩;·rw[iH.cell (p:=⟨rb,0,none⟩) (Array.getElem?_eq_some_iff.1 h1).1 (fun e=>by obtain⟨_,c9,h9⟩ :=aA h2 e;exact aN h1 h9 (by decide) rfl)];exact aj h1 0
  ·rw[iH.cell (p:=⟨gl,ol+k,none⟩) (Nat.lt_of_lt_of_le hgl xu.out.below.size) (fun e=>by have:=(aA h2 e).1;have h3:gl<w.heap.size:=hgl;dsimp only at this;omega)];exact(xu.out.below.cell (p:=⟨gl,ol+k,none⟩) hgl).trans l0
 have S7:(w6.setCell ⟨sb,1,none⟩ (.slice (some ⟨g6,0,none⟩) ((bJ T ls.length ls (o7 T ls.length x o k) x (min k ls.length)).length+1) pG)).cell? ⟨rb,0,none⟩=some (.slice (some ⟨gl,ol,none⟩) ls.length cl)∧(w6.setCell ⟨sb,1,none⟩ (.slice (some ⟨g6,0,none⟩) ((bJ T ls.length ls (o7 T ls.length x o k) x (min k ls.length)).length+1) pG)).cell? ⟨gl,ol+k,none⟩=some (.int .i64 lk) :=⟨aj vW.out.1.bW 0,(vW.out.1.below.cell (p:=⟨gl,ol+k,none⟩) hgl).trans l0⟩;clear hown6 fE mY EB iH xe;refine⟨S6,?_⟩;try simp only[Act.put,List.getElem_toArray,List.getElem_cons_succ,List.getElem_cons_zero,List.setIfInBounds_toArray,List.set_cons_zero,List.set_cons_succ]
 refine Di 11 (h:= ?_);try simp only[Act.put,List.getElem_toArray,List.getElem_cons_succ,List.getElem_cons_zero,List.setIfInBounds_toArray,List.set_cons_zero,List.set_cons_succ]
 refine aF 12 (by kernel_rfl) ?_;refine bI (w6.setCell ⟨sb,1,none⟩ (.slice (some ⟨g6,0,none⟩) ((bJ T ls.length ls (o7 T ls.length x o k) x (min k ls.length)).length+1) pG)) rfl (by kernel_rfl) (JJ _ _ _ _ _ rfl sb 1 (some ⟨g6,0,none⟩) ((bJ T ls.length ls (o7 T ls.length x o k) x (min k ls.length)).length+1) pG va (by kernel_rfl) (by kernel_rfl) s6 f6) ?_;refine⟨S7,?_⟩;try simp only[Act.put,List.getElem_toArray,List.getElem_cons_succ,List.getElem_cons_zero,List.setIfInBounds_toArray,List.set_cons_zero,List.set_cons_succ]
 refine wpAnyH_done (by kernel_rfl) ?_ _;have HL9:Hid (j6 w (w6.setCell ⟨sb,1,none⟩ (.slice (some ⟨g6,0,none⟩) ((bJ T ls.length ls (o7 T ls.length x o k) x (min k ls.length)).length+1) pG)) rb db sb #[.slice (some ⟨gl,ol,none⟩) ls.length cl,.slice (some ⟨gf,of,none⟩) ak.length cf,.slice (some ⟨gN,oN,none⟩) aB.length cn] R2 v l (.slice (some ⟨g6,0,none⟩) ((bJ T ls.length ls (o7 T ls.length x o k) x (min k ls.length)).length+1) pG) fb (bJ T ls.length ls (o7 T ls.length x o (k+1)) x (min (k+1) ls.length)) (e7 T ls.length x o (k+1))) :=by
  have h1:=vW.out.1;have e1:min k ls.length=k:=by omega
  have e2:min (k+1) ls.length=k+1:=by omega
  have e3:e7 T ls.length x o (k+1)=e7 T ls.length x o k:=by unfold e7;rw[if_pos (by omega),if_pos (by omega)]
  rw[e1]at h1⊢;rw[e2,e3,anT.out hkl,HC.out,HPl.out,HLk.out];exact h1
 clear vW s6 f6 S6 S7;go_wp2;go_roundw;·have h9:=HL9.out;have h8:min k ls.length=k:=Nat.min_eq_left (Nat.le_of_lt hkl);rw[h8]at h9;exact⟨k+1,R2,_,HS.out▸Nat.succ_le_succ (Nat.le_of_lt hkl),by go_num,⟨g5,c5,rfl⟩,HE0.out,HE1.out,HE2.out,HE3.out,h9⟩
 ·simp[intOf];omega) :P:=h
theorem agO {P:Prop}(h:P:=by
 go_wp2;go_quiet(fail);go_wp2;go_roundw;case rel=>exact wX.out _ ⟨_,by rw[vK.out,World.drewN_drewN]⟩ CJ.out
 case measure=>simp[intOf];omega) :P:=h
theorem Qd {P:Prop}(h:P:=by go_wp2;go_meet;case rel=>exact⟨by rw[hx1],rfl⟩) :P:=h
theorem aY.one {W:aaE} {base:Nat} {v:aal} {zs:List Int}(h:W.ownsRow base 3 1 v zs.length (zI zs)) :aY W base (upd (fun _=>none) 0 (some (v,zs))) :=by
 refine⟨fun a u ys ha=> ?_,fun a b u ys x xs hab ha hb=> ?_⟩
 ·by_cases e:a=0;·subst e;rw[upd_same]at ha;cases ha;exact h
  ·rw[aD _ _ e]at ha;cases ha
 ·by_cases e:a=0;·subst e;rw[aD _ _ (Ne.symm hab)]at hb;cases hb
  ·rw[aD _ _ e]at ha;cases ha
theorem aY.Xk {W:aaE} {base:Nat} {R:aU}(h:aY W base R) {i g n cap:Nat} {zs:List Int}(hi:R i=some (.slice (some ⟨g,0,none⟩) n cap,zs))(hn:zs.length=n) {k:Nat}(hk:k<n)(x:Int) :aY (W.setCell ⟨g,k,none⟩ (.int .i64 x)) base (upd R i (some (.slice (some ⟨g,0,none⟩) n cap,zs.set k x)))∧W.frozen? ⟨g,k,none⟩=false∧W.cell? ⟨g,k,none⟩=some (.int .i64 (zs.getD k 0)) :=by subst hn;have ho:=h.own i _ _ hi;obtain⟨_,cur,iJ⟩ :=aA ho (b:=g) rfl;refine⟨h.set hi hk x,bL iJ k,?_⟩;rw[ho.cellAt k (by omega)];simp[zI,hk]
theorem aY.xM {W:aaE} {base:Nat} {R:aU}(h:aY W base R) {i g n cap:Nat} {zs:List Int}(hi:R i=some (.slice (some ⟨g,0,none⟩) n cap,zs))(hn:zs.length=n) {k:Nat}(hk:k<n) :W.cell? ⟨g,k,none⟩=some (.int .i64 (zs.getD k 0)) :=by subst hn;rw[(h.own i _ _ hi).cellAt k (by omega)];simp[zI,hk]
theorem Ca(W:aaE)(ρ:aaL→aal)(o:Oper)(x:aaL)(ho:o.op= .load 40 x)(b off:Nat)(v:aal)(hx:ρ x= .pointer (some ⟨b,off,none⟩))(h0:W.cell? ⟨b,off,none⟩=some v) :(execOp ρ o).run Tryd.prog W= .ok (.value v) W:=by exact vG
theorem DL(W:aaE)(ρ:aaL→aal)(o:Oper)(x:aaL)(ho:o.op= .buildSlice 40 1 #[(0,x)])(a b:Int)(hx:ρ x= .agg #[.int .i64 a,.int .i64 b]) :(execOp ρ o).run Tryd.prog W= .ok (.value (.slice (some ⟨W.heap.size,0,none⟩) 1 1)) (W.alloc (.cells #[.int .i64 a,.int .i64 b] 44)) :=by exact uA
theorem JJ(W:aaE)(ρ:aaL→aal)(o:Oper)(x y:aaL)(ho:o.op= .store 40 x y)(b off:Nat)(a:Option Addr)(n c:Nat)(u:aal)(hx:ρ x= .pointer (some ⟨b,off,none⟩))(hy:ρ y= .slice a n c)(h0:W.cell? ⟨b,off,none⟩=some u)(hf:W.frozen? ⟨b,off,none⟩=false) :(execOp ρ o).run Tryd.prog W= .ok .skip (W.setCell ⟨b,off,none⟩ (.slice a n c)) :=by exact BN
theorem RN(vl vf vn:aal)(ls:List Int)(ak:List Bool)(aB:List (List Nat))(w:aaE)(hls:bD w vl ls)(hraw:nV w vf vn ak aB (ls.length+1)) :Calls Tryd.prog 49 #[.agg #[vl,vf,vn]] w (RG w ls ak aB) :=by
 obtain⟨i0,hi,hz0,hz1,hz2⟩ :=aaT Tryd.infoIntL;obtain⟨ia,hia,ha0,ha1,ha2⟩ :=aaT Tryd.infoArcD;obtain⟨is,his,hs0,hs1,hs2⟩ :=aaT Tryd.infoStD;obtain⟨hf,hnx,hlen,hpos,zB,hwide,hrows⟩ :=hraw;have Gm:Hid (nV w vf vn ak aB (ls.length+1)) :=⟨hf,hnx,hlen,hpos,zB,hwide,hrows⟩;have oI:=ah Gm.out.shut;obtain⟨af,cf,rfl,Gf⟩ :=hf;obtain⟨an,cn,rfl,hnn⟩ :=hnx;obtain⟨al,cl,rfl,hll⟩ :=hls;obtain⟨gf,of,rfl,hgf,hcf⟩ :=Gf.resolve_left (fun h=>by rw[h]at hpos;simp at hpos);obtain⟨gN,oN,rfl,hgN,VL⟩ :=hnn.resolve_left (fun h=>by rw[h]at hlen;simp at hlen;omega);have HF:=ah hcf;have HN:=ah VL;have HLen:=ah hlen;have wV:=ah hll;have hwd:=hwide.2;obtain⟨S,hS⟩ : ∃S,ls.length+1=S:=⟨_,rfl⟩;rw[hS]at Gm oI hwd hrows;have ZU:=ah hrows;have HS:=ah hS;clear hS;clear Gf hnn hcf VL hrows hlen hll hwide;have AU:Hid (((w.alloc (.cells #[.slice al ls.length cl,.slice (some ⟨gf,of,none⟩) ak.length cf,.slice (some ⟨gN,oN,none⟩) aB.length cn] 60)).alloc (.cells #[.slice none 0 0] 25)).heap[w.heap.size]?=some (.cells #[.slice al ls.length cl,.slice (some ⟨gf,of,none⟩) ak.length cf,.slice (some ⟨gN,oN,none⟩) aB.length cn] 60)∧((w.alloc (.cells #[.slice al ls.length cl,.slice (some ⟨gf,of,none⟩) ak.length cf,.slice
    (some ⟨gN,oN,none⟩) aB.length cn] 60)).alloc (.cells #[.slice none 0 0] 25)).heap[w.heap.size+1]?=some (.cells #[.slice none 0 0] 25)) :=H9 w _ _;have lq:Hid (aab w.heap.size w ((w.alloc (.cells #[.slice al ls.length cl,.slice (some ⟨gf,of,none⟩) ak.length cf,.slice (some ⟨gN,oN,none⟩) aB.length cn] 60)).alloc (.cells #[.slice none 0 0] 25))) :=((aaA _ _).alloc (aax _) _).alloc (by simp) _;go_enter Tryd.func49,Tryd.ntmps49;go_upto_region 1 with fail;generalize(w.alloc (.cells #[.slice al ls.length cl,.slice (some ⟨gf,of,none⟩) ak.length cf,.slice (some ⟨gN,oN,none⟩) aB.length cn] 60)).alloc (.cells #[.slice none 0 0] 25)=wa at*;obtain⟨rb,hrb⟩ : ∃rb,w.heap.size=rb:=⟨_,rfl⟩;have r0:wa.cell? ⟨rb,0,none⟩=some (.slice al ls.length cl) :=by rw[←hrb];exact aj AU.out.1 0
 have r1:wa.cell? ⟨rb,1,none⟩=some (.slice (some ⟨gf,of,none⟩) ak.length cf) :=by rw[←hrb];exact aj AU.out.1 1
 have r2:wa.cell? ⟨rb,2,none⟩=some (.slice (some ⟨gN,oN,none⟩) aB.length cn) :=by rw[←hrb];exact aj AU.out.1 2
 simp only[hrb];have Hrb:=ah hrb;clear hrb;have CW:=ah (M9 (.slice al ls.length cl) _ _ ak aB (S) wa (Gm.out.below lq.out));go_wp2_with fail;refine CW.out.mono ?_;rintro e w3⟨v,aX,c,rfl,hown,hkl,hparts,honto,hbel⟩;rcases bH hown with⟨_,h0⟩| ⟨gc,cc,rfl,arP,arq⟩;·omega
 have nQ:=ah hkl;have LM:=ah hparts;have kS:=ah honto;have HB3:Hid (aab w.heap.size w w3) :=lq.out.trans (hbel.mono lq.out.size);have iC:Hid (w3.ownsRow w.heap.size 3 1 (.slice (some ⟨gc,0,none⟩) ak.length cc) ak.length (zI (aH aX))) :=jM hown lq.out.size;have YL:Hid (w3.heap[rb]?=some (.cells #[.slice al ls.length cl,.slice (some ⟨gf,of,none⟩) ak.length cf,.slice (some ⟨gN,oN,none⟩) aB.length cn] 60)∧w3.heap[rb+1]?=some (.cells #[.slice none 0 0] 25)) :=by rw[←Hrb.out];exact⟨aC AU.out.1 hbel,aC AU.out.2 hbel⟩
 have hcn:c≤ak.length:=by have:=uY (aaV c) List.nodup_range ak.length (bg aX) (fun x hx=>honto.2 x (List.mem_range.1 hx));simpa using this
 have hc0:0<c:=by have:=honto.1 0 hpos;omega
 clear hown hkl hparts honto hbel CW r0 r1 r2 AU lq;have vJ:Hid (∀q,q<ak.length→w3.cell? ⟨gc,q,none⟩=some (.int .i64 ((bg aX q:Nat) :Int))) :=by show∀_,_;intro q hq;have:=nQ.out;rw[iC.out.cellAt q (by omega)];simp[zI,aH,bg,this,hq]
 go_wp2;go_loop [4,5](fun nv iv=>∃i N:Nat,i≤ak.length∧iv= .int .i64 (i:Int)∧nv= .int .i64 (N:Int)∧N≤c∧∀q,q<i→bg aX q<N)(fun _ iv=>ak.length-(aah iv).toNat);case atStart=>exact⟨0,0,aaQ _,rfl,rfl,by omega,fun q hq=>by omega⟩
 case round=>
  obtain⟨i,N,hin,rfl,rfl,hNc,hNq⟩ :=hrel;have NJ:=ah hNq;clear hNq;by_cases hlt:i<ak.length
  ·have hltz:(i:Int)<(ak.length:Int) :=by omega
   have c0:=vJ.out i hlt;have hkc:=kS.out.1 i hlt;obtain⟨K,hK⟩ : ∃K,bg aX i=K:=⟨_,rfl⟩;rw[hK]at c0 hkc;have HK:=ah hK;clear hK;obtain⟨M,hM⟩ : ∃M,max N (K+1)=M:=⟨_,rfl⟩;have hmx:(if(K:Int)+1>(N:Int)then(K:Int)+1 else(N:Int))=(M:Int) :=by split<;>omega
   have hx2:max (N:Int) ((K:Int)+1)=(M:Int) :=by omega
   have HM:Hid (∀q,q<i+1→bg aX q<M) :=by
    show∀_,_;intro q hq;by_cases e:q=i;·rw[e,HK.out];omega
    ·have:=NJ.out q (by omega);omega
   have hMc:M≤c:=by omega
   clear hM;go_wp2;go_round;case rel=>exact⟨i+1,M,by omega,by go_num,rfl,hMc,HM.out⟩
   case measure=>simp[aah];omega
  ·have hltz: ¬(i:Int)<(ak.length:Int) :=by omega
   obtain rfl:i=ak.length:=by omega
   obtain rfl:N=c:=by obtain⟨q,hq,he⟩ :=kS.out.2 (c-1) (by omega);have:=NJ.out q hq;omega
   clear NJ;go_wp2_with(at_make;refine aa3 _ rfl _ _ 56 rfl w3.heap.size 3 i0 (.int .i64 0) 1 Tryd.underlying56 hi hz0 hz1 _ _ _ _ N rfl rfl (by omega) (by omega) ?b2 ?b3 (aax _) ?_);case b2=>omega
   case b3=>unfold maxLen;omega
   intro w4 nW Ck;have eF:Hid (aab w3.heap.size w3 w4) :=(aaA _ _).grown Ck (aax _) (fun k h=>by cases h);obtain⟨gr,hgr⟩ : ∃gr,w3.heap.size=gr:=⟨_,rfl⟩;have HR4:Hid (aY w4 w.heap.size (upd (upd (fun _=>none) 0 (some (.slice (some ⟨gc,0,none⟩) ak.length cc,aH aX))) 1 (some (.slice (some ⟨gr,0,none⟩) N N,aH (ng (bg aX) ak.length N ak.length))))) :=by have h1:aY w3 w.heap.size (upd (fun _=>none) 0 (some (.slice (some ⟨gc,0,none⟩) ak.length cc,aH aX))) :=aY.one (by rw[aK,nQ.out];exact iC.out);refine h1.new eF.out HB3.out.size ?_;have e0:(madeCells #[aaK .i64 0] N).toList=aa8 N (aaK .i64 0) :=aa4 _ _;rw[e0]at nW;rw[aK,wh,Tz,←Eg,←hgr];exact nW
   have BI:Hid (aab w.heap.size w w4∧w4.heap[rb]?=some (.cells #[.slice al ls.length cl,.slice (some ⟨gf,of,none⟩) ak.length cf,.slice (some ⟨gN,oN,none⟩) aB.length cn] 60)∧w4.heap[rb+1]?=some (.cells #[.slice none 0 0] 25)) :=⟨HB3.out.trans (eF.out.mono HB3.out.size),aC YL.out.1 eF.out,aC YL.out.2 eF.out⟩;simp only[hgr];clear nW Ck hgr eF vJ HB3 iC YL;have hn1:(ak.length:Int)-1=(((ak.length-1:Nat) :Nat) :Int) :=by omega
   clear hn1;go_wp2;go_loopw [7](fun iv wx=>∃(j:Nat)(R:aU),j≤ak.length∧iv= .int .i64 ((j:Int)-1)∧aY wx w.heap.size R∧R 0=some (.slice (some ⟨gc,0,none⟩) ak.length cc,aH aX)∧R 1=some (.slice (some ⟨gr,0,none⟩) N N,aH (ng (bg aX) ak.length N j))∧aab w.heap.size w wx∧wx.heap[rb]?=some (.cells #[.slice al ls.length cl,.slice (some ⟨gf,of,none⟩) ak.length cf,.slice (some ⟨gN,oN,none⟩) aB.length cn] 60)∧wx.heap[rb+1]?=some (.cells #[.slice none 0 0] 25))(fun iv _=>(aah iv+1).toNat);case atStart=>exact⟨ak.length,_,aax _,rfl,HR4.out,by rw[aD _ _ (by omega),upd_same],upd_same _ _ _,BI.out⟩
   case round=>
    clear HR4 BI;obtain⟨j,R,hjn,rfl,hR,hR0,rV,hbel,hx1,hx2⟩ :=hrel;have HR:=ah hR;have mZ:=ah hR0;have HR1:=ah rV;have fP:=ah hbel;have jT:=ah hx1;have kQ:=ah hx2;clear hR hR0 rV hbel hx1 hx2;by_cases hj:0<j
    ·have hj1:=hj;obtain⟨i,rfl⟩ : ∃i,j=i+1:=⟨j-1,by omega⟩;have hjz:((i+1:Nat) :Int)-1=(i:Int) :=by omega
     simp only[hjz];have asB:(i:Int)≥0:=by omega
     have hin:i<ak.length:=by omega
     have Bf:(i:Int)<(ak.length:Int) :=by omega
     have hkl:=nQ.out;have c0:=HR.out.xM mZ.out (by rw[aK];exact hkl) hin;rw[iO _ _ (by omega)]at c0;have hkc:=kS.out.1 i hin;have fZ:=ah (Un (n:=ak.length) hin hkc);have hset:=HR.out.Xk HR1.out (by rw[aK,wh]) hkc (i:Int);change wr.cell? ⟨gc,i,none⟩=some (.int .i64 ((bg aX i:Nat) :Int))at c0;obtain⟨K,hK⟩ : ∃K,bg aX i=K:=⟨_,rfl⟩;rw[hK]at c0 hkc fZ hset;have hkz:(K:Int)<(N:Int) :=by omega
     obtain⟨pU,f1,d1⟩ :=hset;have pU:=ah pU;have anK:=aA (HR.out.own 1 _ _ HR1.out) (b:=gr) rfl;obtain⟨hge,cur,iJ⟩ :=anK;have HX:Hid (aab w.heap.size w (wr.setCell ⟨gr,K,none⟩ (.int .i64 (i:Int)))∧(wr.setCell ⟨gr,K,none⟩ (.int .i64 (i:Int))).heap[rb]?=some (.cells #[.slice al ls.length cl,.slice (some ⟨gf,of,none⟩) ak.length cf,.slice (some ⟨gN,oN,none⟩) aB.length cn] 60)∧(wr.setCell ⟨gr,K,none⟩ (.int .i64 (i:Int))).heap[rb+1]?=some (.cells #[.slice none 0 0] 25)) :=by
      refine⟨fP.out.trans (((But.refl (fun b=>b=gr) wr).set gr K _ rfl).below fP.out.size (fun i hi e=>by omega)),?_,?_⟩;·rw[ay wr gr K _ rb (aN jT.out iJ (by decide))];exact jT.out
      ·rw[ay wr gr K _ (rb+1) (aN kQ.out iJ (by decide))];exact kQ.out
     clear hK hkl iJ;go_wp2;go_roundw;case rel=>exact⟨i,_,by omega,by go_num,pU.out,by rw[aD _ _ (by omega)];exact mZ.out,by rw[upd_same,fZ.out];simp[aH,List.map_set],HX.out⟩
     case measure=>simp[aah]
    ·obtain rfl:j=0:=by omega
     have hjz:((0:Nat) :Int)-1= -1:=by omega
     simp only[hjz];have uI:Hid (∀y,y<N→bg (ng (bg aX) ak.length N 0) y<ak.length∧bg aX (bg (ng (bg aX) ak.length N 0) y)=y) :=fun y hy=>abL kS.out hy;have Mv:=ah (wh (bg aX) ak.length N 0);obtain⟨RL,hRL⟩ : ∃RL,ng (bg aX) ak.length N 0=RL:=⟨_,rfl⟩;rw[hRL]at uI Mv HR1;clear hRL hjz hj hjn;have FD:Hid (∀q,q<ak.length→∃gq oq cq,∀W,aab w.heap.size w W→W.cell? ⟨gN,oN+q,none⟩=some (.slice (some ⟨gq,oq,none⟩) (S) cq)∧∀k,k<S→W.cell? ⟨gq,oq+k,none⟩=some (.int .i64 (((aM ak aB).nx q k:Nat) :Int))) :=by show∀_,_;intro q hq;obtain⟨u0,hu0,hI0⟩ :=HN.out q (by have:=HLen.out;omega);obtain⟨hr1,hr2⟩ :=ZU.out q hq;obtain⟨aq,cq,rfl,hqq⟩ :=hI0;rw[aK,hr1]at hu0 hqq;obtain⟨gq,oq,rfl,hgq,hcq⟩ :=hqq.resolve_left (fun h=>by have:=congrArg aaY h;rw[aK,hr1]at this;have:=HS.out;simp at*;omega);refine⟨gq,oq,cq,fun W hW=>⟨(hW.cell (p:=⟨gN,oN+q,none⟩) hgN).trans hu0,fun k hk=>(hW.cell (p:=⟨gq,oq+k,none⟩) hgq).trans ?_⟩⟩;rw[hcq k hk,iO _ _ (by omega)];rfl
     have abF:Hid (∀W,aab w.heap.size w W→∀q,q<ak.length→W.cell? ⟨gf,of+q,none⟩=some (.bool ((aM ak aB).fin q))) :=by show∀_,_;intro W hW q hq;exact(hW.cell (p:=⟨gf,of+q,none⟩) hgf).trans (HF.out q hq)
     have HDd:Hid (∀y,y<N→(((aM ak aB).fin (bg RL y)=false∧∀a,a<S→bg aX ((aM ak aB).nx (bg RL y) a)=y)↔(aM ak aB).aW (S) (bg RL y)=bM)) :=by show∀_,_;intro y hy;obtain⟨h1,h2⟩ :=uI.out y hy;have:=LM.out.dead oI.out h1;rw[h2]at this;exact this
     have KR:Hid (∀W R',aY W w.heap.size R'→R' 0=some (.slice (some ⟨gc,0,none⟩) ak.length cc,aH aX)→∀q,q<ak.length→W.cell? ⟨gc,q,none⟩=some (.int .i64 ((bg aX q:Nat) :Int))) :=by show∀_,_;intro W R' h1 h2 q hq;have hkl:=nQ.out;rw[h1.xM h2 (by rw[aK];exact hkl) hq,iO _ _ (by omega)];rfl
     have Rj:Hid (∀W R',aY W w.heap.size R'→R' 1=some (.slice (some ⟨gr,0,none⟩) N N,aH RL)→∀y,y<N→W.cell? ⟨gr,y,none⟩=some (.int .i64 ((bg RL y:Nat) :Int))) :=by show∀_,_;intro W R' h1 h2 y hy;have hrl:=Mv.out;rw[h1.xM h2 (by rw[aK];exact hrl) hy,iO _ _ (by omega)];rfl
     clear HF HN ZU;generalize wr=W0 at*;go_wp2;go_loopw [8,9](fun dv yv wx=>∃y q:Nat,y≤N∧yv= .int .i64 (y:Int)∧wx=W0.drewN q∧((dv= .int .i64 (-1)∧∀z,z<y→(aM ak aB).aW (S) (bg RL z)≠bM)∨∃d:Nat,d<N∧dv= .int .i64 (d:Int)∧(aM ak aB).aW (S) (bg RL d)=bM))(fun _ yv _=>N-(aah yv).toNat);case atStart=>exact⟨0,0,aaQ _,rfl,rfl,Or.inl ⟨rfl,fun z hz=>by omega⟩⟩
     case round=>
      obtain⟨y,q,hyN,rfl,hwq,hor⟩ :=hrel;have vK:=ah hwq;have HOr:=ah hor;have Jm:Hid (aY wr w.heap.size R) :=by show aY _ _ _;rw[hwq];exact HR.out.below (aaF (aaA _ _) q)
      have l6:Hid (aab w.heap.size w wr) :=by show aab _ _ _;rw[hwq];exact aaF fP.out q
      have OY:Hid (wr.heap[rb]?=some (.cells #[.slice al ls.length cl,.slice (some ⟨gf,of,none⟩) ak.length cf,.slice (some ⟨gN,oN,none⟩) aB.length cn] 60)) :=by show _=_;rw[hwq];exact jT.out
      clear hwq hor;by_cases hlt:y<N
      ·have hltz:(y:Int)<(N:Int) :=by omega
       have r1:wr.cell? ⟨rb,1,none⟩=some (.slice (some ⟨gf,of,none⟩) ak.length cf) :=aj OY.out 1;have p0:=Rj.out wr R Jm.out HR1.out y hlt;obtain⟨hp1,hp2⟩ :=uI.out y hlt;have f0:=abF.out wr l6.out _ hp1;obtain⟨gq,oq,cq,hrow⟩ :=FD.out _ hp1;have lH:=ah hrow;have Vj:=ah (HDd.out y hlt);have HNb:Hid (∀a,a<S→(aM ak aB).nx (bg RL y) a<ak.length) :=fun a ha=>oI.out _ a hp1 ha;clear hrow hp2;obtain⟨P,hP⟩ : ∃P,bg RL y=P:=⟨_,rfl⟩;rw[hP]at p0 hp1 f0 lH Vj HNb;have HP:=ah hP;clear hP;have art:(P:Int)<(ak.length:Int) :=by omega
       have asx:(P:Int)<(aB.length:Int) :=by have:=HLen.out;omega
       obtain⟨fb,qX⟩ : ∃fb,(aM ak aB).fin P=fb:=⟨_,rfl⟩;rw[qX]at f0 Vj;clear qX;go_wp2;go_quiet(fail);go_wp2;clear r1 p0 f0;have afU:Hid (wr.drewN nq=W0.drewN (q+nq)) :=by show _=_;rw[vK.out,aaU]
       generalize wr.drewN nq=W1 at*;generalize q+nq=q1 at*;clear Jm l6 OY vK;have wX:Hid (∀(W:aaE),(∃q,W=W0.drewN q)→(aM ak aB).aW S P≠bM→∃y' q:Nat,y'≤N∧aaK .i64 ((y:Int)+1)= .int .i64 (y':Int)∧W=W0.drewN q∧((u8= .int .i64 (-1)∧∀z,z<y'→(aM ak aB).aW S (bg RL z)≠bM)∨∃d:Nat,d<N∧u8= .int .i64 (d:Int)∧(aM ak aB).aW S (bg RL d)=bM)) :=by
        show∀_,_;rintro W⟨q,hq⟩hne;refine⟨y+1,q,by omega,by simp,hq,?_⟩;rcases HOr.out with⟨h1,h2⟩|h1
        ·refine Or.inl ⟨h1,fun z hz=> ?_⟩;by_cases e:z=y;·rw[e,HP.out];exact hne
         ·exact h2 z (by omega)
        ·exact Or.inr h1
       go_loopw [10,11](fun sv kv wx=>∃(b:Bool)(k q2:Nat),k≤S∧sv= .bool b∧kv= .int .i64 (k:Int)∧wx=W0.drewN q2∧(b=true↔fb=false∧∀a,a<k→bg aX ((aM ak aB).nx P a)=y))(fun _ kv _=>S-(aah kv).toNat);case atStart=>exact⟨!fb,0,q1,aaQ _,rfl,rfl,afU.out,by cases fb<;>simp⟩
       case round=>
        clear afU;obtain⟨b,k,q2,hk,rfl,rfl,hwq,hiff⟩ :=hrel;have vK:=ah hwq;have Qa:=ah hiff;have Jm:Hid (aY wr w.heap.size R) :=by show aY _ _ _;rw[hwq];exact HR.out.below (aaF (aaA _ _) q2)
        have l6:Hid (aab w.heap.size w wr) :=by show aab _ _ _;rw[hwq];exact aaF fP.out q2
        have OY:Hid (wr.heap[rb]?=some (.cells #[.slice al ls.length cl,.slice (some ⟨gf,of,none⟩) ak.length cf,.slice (some ⟨gN,oN,none⟩) aB.length cn] 60)) :=by show _=_;rw[hwq];exact jT.out
        have r2:wr.cell? ⟨rb,2,none⟩=some (.slice (some ⟨gN,oN,none⟩) aB.length cn) :=aj OY.out 2;clear hwq hiff;have p0:=Rj.out wr R Jm.out HR1.out y hlt;rw[HP.out]at p0;obtain⟨g1,g2⟩ :=lH.out wr l6.out;by_cases hkl:k<S
        ·have uF:(k:Int)<(S:Int) :=by omega
         have CQ:decide ((k:Int)<(S:Int))=true:=by simpa using hkl
         have g3:=g2 k hkl;have hxb:=HNb.out k hkl;have c1:=KR.out wr R Jm.out mZ.out _ hxb;clear g2;obtain⟨X,hX⟩ : ∃X,(aM ak aB).nx P k=X:=⟨_,rfl⟩;rw[hX]at g3 hxb c1;have JU:=ah hX;clear hX;have hxz:(X:Int)<(ak.length:Int) :=by omega
         obtain⟨C,hC⟩ : ∃C,bg aX X=C:=⟨_,rfl⟩;rw[hC]at c1;have KM:=ah hC;clear hC;cases b with
         |false=>
          have CJ:Hid ((aM ak aB).aW S P≠bM) :=by show _≠_;intro e;obtain⟨h1,h2⟩ :=Vj.out.2 e;have:=Qa.out.2 ⟨h1,fun a ha=>h2 a (by omega)⟩;cases this
          clear g3 c1;exact agO
         |true=>
          have hcb:((C:Int)==(y:Int))=decide (C=y) :=by rw[Bool.eq_iff_iff];simp;omega
          obtain⟨bb,hbb⟩ : ∃bb,decide (C=y)=bb:=⟨_,rfl⟩;rw[hbb]at hcb;have aob:Hid (bb=true↔fb=false∧∀a,a<k+1→bg aX ((aM ak aB).nx P a)=y) :=by
           have h1:=Qa.out.1 rfl;show _↔_;rw[←hbb,decide_eq_true_iff];constructor
           ·intro e;refine⟨h1.1,fun a ha=> ?_⟩;by_cases ea:a=k;·rw[ea,JU.out,KM.out];exact e
            ·exact h1.2 a (by omega)
           ·rintro⟨_,h2⟩;have:=h2 k (by omega);rw[JU.out,KM.out]at this;exact this
          clear hbb;go_wp2;go_quiet(fail);go_wp2;go_quiet(fail);go_wp2;go_roundw;case rel=>exact⟨bb,k+1,_,by omega,rfl,by go_num,by rw[vK.out,aaU],aob.out⟩
          case measure=>simp[aah];omega
        ·have uF: ¬(k:Int)<(S:Int) :=by omega
         have CQ:decide ((k:Int)<(S:Int))=false:=by simpa using hkl
         obtain rfl:k=S:=by omega
         cases b with
         |false=>
          have CJ:Hid ((aM ak aB).aW k P≠bM) :=by show _≠_;intro e;have:=Qa.out.2 (Vj.out.2 e);cases this
          exact agO
         |true=>
          have CJ:Hid ((aM ak aB).aW k P=bM) :=Vj.out.1 (Qa.out.1 rfl);go_wp2;go_quiet(fail);go_wp2;go_roundw;case rel=>exact⟨y+1,_,by omega,by go_num,by rw[vK.out,aaU],Or.inr ⟨y,hlt,rfl,by rw[HP.out];exact CJ.out⟩⟩
          case measure=>simp[aah];omega
      ·have hltz: ¬(y:Int)<(N:Int) :=by omega
       obtain rfl:y=N:=by omega
       have Zh:Hid (∃dead:Int,u8= .int .i64 dead∧ -1≤dead∧dead<(y:Int)∧∀z,z<y→((dead=(z:Int))↔(aM ak aB).aW S (bg RL z)=bM)) :=by
        rcases HOr.out with⟨h1,h2⟩| ⟨d,hd,h1,h2⟩;·exact⟨-1,h1,by omega,by omega,fun z hz=>⟨fun e=>by omega,fun e=>absurd e (h2 z hz)⟩⟩
        ·refine⟨(d:Int),h1,by omega,by omega,fun z hz=>⟨fun e=> ?_,fun e=> ?_⟩⟩
         ·have:d=z:=by omega
          rw[←this];exact h2
         ·obtain⟨a1,a2⟩ :=uI.out z hz;obtain⟨b1,b2⟩ :=uI.out d hd;have:=(LM.out _ _ a1 b1).2 (e.trans h2.symm);rw[a2,b2]at this;omega
       obtain⟨dead,rfl,hdl,hdu,hdd⟩ :=Zh.out;have HDz:=ah hdd;clear hdd HOr Zh;have ais:Hid (wr.heap[rb+1]?=some (.cells #[.slice none 0 0] 25)) :=by show _=_;rw[vK.out];exact kQ.out
       have HXr:=ah Jm.out;clear vK HR fP jT kQ;generalize wr=W1 at*;go_wp2_with(at_make;refine aa3 _ rfl _ _ 56 rfl W1.heap.size 3 i0 (.int .i64 0) 1 Tryd.underlying56 hi hz0 hz1 _ _ _ _ y rfl rfl (by omega) (by omega) ?b6 ?b7 (aax _) ?_);case b6=>omega
       case b7=>unfold maxLen;omega
       intro w4 nW Ck;have eF:Hid (aab W1.heap.size W1 w4) :=(aaA _ _).grown Ck (aax _) (fun k h=>by cases h);obtain⟨gm,hgm⟩ : ∃gm,W1.heap.size=gm:=⟨_,rfl⟩;have HR4:Hid (aY w4 w.heap.size (upd R 2 (some (.slice (some ⟨gm,0,none⟩) y y,nK y 0)))) :=by refine Jm.out.new eF.out l6.out.size ?_;have e0:(madeCells #[aaK .i64 0] y).toList=aa8 y (aaK .i64 0) :=aa4 _ _;rw[e0]at nW;rw[ry,MX,←hgm];simpa[zI]using nW
       have BI:Hid (aab w.heap.size w w4∧w4.heap[rb]?=some (.cells #[.slice al ls.length cl,.slice (some ⟨gf,of,none⟩) ak.length cf,.slice (some ⟨gN,oN,none⟩) aB.length cn] 60)∧w4.heap[rb+1]?=some (.cells #[.slice none 0 0] 25)) :=⟨l6.out.trans (eF.out.mono l6.out.size),aC OY.out eF.out,aC ais.out eF.out⟩;simp only[hgm];clear nW Ck hgm eF Jm HXr l6 OY ais;go_wp2;go_loopw [13](fun zv wx=>∃(z:Nat)(R:aU),z≤y∧zv= .int .i64 (z:Int)∧aY wx w.heap.size R∧R 0=some (.slice (some ⟨gc,0,none⟩) ak.length cc,aH aX)∧R 1=some (.slice (some ⟨gr,0,none⟩) y y,aH RL)∧R 2=some (.slice (some ⟨gm,0,none⟩) y y,nK y z)∧aab w.heap.size w wx∧wx.heap[rb]?=some (.cells #[.slice al ls.length cl,.slice (some ⟨gf,of,none⟩) ak.length cf,.slice (some ⟨gN,oN,none⟩) aB.length cn] 60)∧wx.heap[rb+1]?=some (.cells #[.slice none 0 0] 25))(fun zv _=>y-(aah zv).toNat)
       case atStart=>exact⟨0,_,aaQ _,rfl,HR4.out,by rw[aD _ _ (by omega)];exact mZ.out,by rw[aD _ _ (by omega)];exact HR1.out,upd_same _ _ _,BI.out⟩
       case round=>
        clear HR4 BI mZ HR1;obtain⟨z,R,hzy,rfl,hR,hR0,rV,hR2,hbel,hx1,hx2⟩ :=hrel;have HR:=ah hR;have mZ:=ah hR0;have HR1:=ah rV;have HR2:=ah hR2;have fP:=ah hbel;have jT:=ah hx1;have kQ:=ah hx2;clear hR hR0 rV hR2 hbel hx1 hx2;by_cases hlz:z<y
        ·have anR:(z:Int)<(y:Int) :=by omega
         obtain⟨hs1,f1,d1⟩ :=HR.out.Xk HR2.out (ry _ _) hlz (-1);have pU:=ah hs1;obtain⟨hge,cur,iJ⟩ :=aA (HR.out.own 2 _ _ HR2.out) (b:=gm) rfl;have HX:Hid (aab w.heap.size w (wr.setCell ⟨gm,z,none⟩ (.int .i64 (-1)))∧(wr.setCell ⟨gm,z,none⟩ (.int .i64 (-1))).heap[rb]?=some (.cells #[.slice al ls.length cl,.slice (some ⟨gf,of,none⟩) ak.length cf,.slice (some ⟨gN,oN,none⟩) aB.length cn] 60)∧(wr.setCell ⟨gm,z,none⟩ (.int .i64 (-1))).heap[rb+1]?=some (.cells #[.slice none 0 0] 25)) :=by
          refine⟨fP.out.trans (((But.refl (fun b=>b=gm) wr).set gm z _ rfl).below fP.out.size (fun i hi e=>by omega)),?_,?_⟩;·rw[ay wr gm z _ rb (aN jT.out iJ (by decide))];exact jT.out
          ·rw[ay wr gm z _ (rb+1) (aN kQ.out iJ (by decide))];exact kQ.out
         clear hs1 iJ;go_wp2;go_roundw;case rel=>exact⟨z+1,_,by omega,by go_num,pU.out,by rw[aD _ _ (by omega)];exact mZ.out,by rw[aD _ _ (by omega)];exact HR1.out,by rw[upd_same,MQ hlz],HX.out⟩
         case measure=>simp[aah];omega
        ·have anR: ¬(z:Int)<(y:Int) :=by omega
         obtain rfl:z=y:=by omega
         rw[P6]at HR2;have c0:=KR.out wr R HR.out mZ.out 0 hpos;have hk0:=kS.out.1 0 hpos;obtain⟨K,hK⟩ : ∃K,bg aX 0=K:=⟨_,rfl⟩;rw[hK]at c0 hk0;have HK:=ah hK;clear hK;have aq9:(0:Int)<(ak.length:Int) :=by omega
         have hkz:(K:Int)<(z:Int) :=by omega
         go_upto_region 29 with fail;have eX:Hid (aab wr.heap.size wr (wr.alloc (.cells #[.int .i64 (K:Int)] 3))) :=(aaA _ _).alloc (aax _) _;have kK:Hid (aY (wr.alloc (.cells #[.int .i64 (K:Int)] 3)) w.heap.size (upd R 3 (some (.slice (some ⟨wr.heap.size,0,none⟩) 1 1,aH [K])))) :=by refine HR.out.new eX.out fP.out.size ?_;have:=World.ownsRow_lit (base:=wr.heap.size) (e:=3) (size:=1) wr #[.int .i64 (K:Int)] 1 (aax _) (by unfold maxLen;omega) (by simp);simpa[zI,aH]using this
         have AJ:Hid (aab w.heap.size w (wr.alloc (.cells #[.int .i64 (K:Int)] 3))∧(wr.alloc (.cells #[.int .i64 (K:Int)] 3)).heap[rb]?=some (.cells #[.slice al ls.length cl,.slice (some ⟨gf,of,none⟩) ak.length cf,.slice (some ⟨gN,oN,none⟩) aB.length cn] 60)∧(wr.alloc (.cells #[.int .i64 (K:Int)] 3)).heap[rb+1]?=some (.cells #[.slice none 0 0] 25)) :=⟨fP.out.trans (eX.out.mono fP.out.size),aC jT.out eX.out,aC kQ.out eX.out⟩;obtain⟨go,hgo⟩ : ∃go,wr.heap.size=go:=⟨_,rfl⟩;rw[hgo]at kK;simp only[hgo];clear hgo eX c0 fP jT kQ;generalize wr.alloc (.cells #[.int .i64 (K:Int)] 3)=W5 at*;have c0:=KR.out W5 _ kK.out (by rw[aD _ _ (by omega)];exact mZ.out) 0 hpos;rw[HK.out]at c0;have VW:upd R 3 (some (.slice (some ⟨go,0,none⟩) 1 1,aH [K])) 2=some (.slice (some ⟨gm,0,none⟩) z z,kF z []) :=by rw[aD _ _ (by omega)];exact HR2.out
         obtain⟨hs5,f5,d5⟩ :=kK.out.Xk VW (si _ _) hk0 0;have hnl:(kF z []).set K 0=kF z [K] :=(Ji (o:=[]) hk0 (by simp)).symm;rw[hnl]at hs5;have vR:=ah hs5;obtain⟨hge,cur,iJ⟩ :=aA (kK.out.own 2 _ _ VW) (b:=gm) rfl;have vS:Hid (aab w.heap.size w (W5.setCell ⟨gm,K,none⟩ (.int .i64 0))∧(W5.setCell ⟨gm,K,none⟩ (.int .i64 0)).heap[rb]?=some (.cells #[.slice al ls.length cl,.slice (some ⟨gf,of,none⟩) ak.length cf,.slice (some ⟨gN,oN,none⟩) aB.length cn] 60)∧(W5.setCell ⟨gm,K,none⟩ (.int .i64 0)).heap[rb+1]?=some (.cells #[.slice none 0 0] 25)) :=by
          refine⟨AJ.out.1.trans (((But.refl (fun b=>b=gm) W5).set gm K _ rfl).below AJ.out.1.size (fun i hi e=>by omega)),?_,?_⟩;·rw[ay W5 gm K _ rb (aN AJ.out.2.1 iJ (by decide))];exact AJ.out.2.1
          ·rw[ay W5 gm K _ (rb+1) (aN AJ.out.2.2 iJ (by decide))];exact AJ.out.2.2
         clear hs5 iJ hnl;go_upto_region 30 with fail;generalize W5.setCell ⟨gm,K,none⟩ (.int .i64 0)=W6 at*;clear c0 f5 d5 kK AJ VW;go_upto_region 31 with fail;obtain⟨T,hT⟩ : ∃T,XW (aM ak aB) (bg aX) (bg RL) (fun c=>decide (dead=(c:Int)))=T:=⟨_,rfl⟩;have HT:=ah hT;have Gw:Hid (∀x k,T.aZ x k=bg aX ((aM ak aB).nx (bg RL x) k)) :=by show∀_,_;intro x k;rw[←hT];rfl
         have Co:Hid (∀x,T.dead x=decide (dead=(x:Int))) :=by show∀_,_;intro x;rw[←hT];rfl
         have OL:Hid (∀x,T.fin x=(aM ak aB).fin (bg RL x)) :=by show∀_,_;intro x;rw[←hT];rfl
         clear hT;have rD:Hid (∀x k,x<z→k≤ls.length→T.aZ x k<z) :=by show∀_,_;intro x k hx hk;rw[Gw.out];exact kS.out.1 _ (oI.out _ k (uI.out x hx).1 (by have:=HS.out;omega))
         have kI:Hid (FH w (W6.alloc (.cells #[.slice none 0 0] 25)) rb W6.heap.size #[.slice al ls.length cl,.slice (some ⟨gf,of,none⟩) ak.length cf,.slice (some ⟨gN,oN,none⟩) aB.length cn] (upd (upd R 3 (some (.slice (some ⟨go,0,none⟩) 1 1,aH [K]))) 2 (some (.slice (some ⟨gm,0,none⟩) z z,kF z [K]))) (.slice none 0 0) []) :=by have hb:aab W6.heap.size W6 (W6.alloc (.cells #[.slice none 0 0] 25)) :=(aaA _ _).alloc (aax _) _;have hlt:=(Array.getElem?_eq_some_iff.1 vS.out.2.2).1;exact⟨vS.out.1.trans (hb.mono vS.out.1.size),aC vS.out.2.1 hb,aC vS.out.2.2 hb,aa5 _ _,vR.out.below hb,bq.nil _ _,vS.out.1.size,by omega⟩
         obtain⟨db,hdb⟩ : ∃db,W6.heap.size=db:=⟨_,rfl⟩;rw[hdb]at kI;simp only[hdb];have aer:upd (upd R 3 (some (.slice (some ⟨go,0,none⟩) 1 1,aH [K]))) 2 (some (.slice (some ⟨gm,0,none⟩) z z,kF z [K])) 3=some (.slice (some ⟨go,0,none⟩) 1 1,aH [K]) :=by rw[aD _ _ (by omega),upd_same]
         have HRR:Hid (∃R',R' 0=some (.slice (some ⟨gc,0,none⟩) ak.length cc,aH aX)∧R' 1=some (.slice (some ⟨gr,0,none⟩) z z,aH RL)∧R' 2=some (.slice (some ⟨gm,0,none⟩) z z,kF z [K])∧R' 3=some (.slice (some ⟨go,0,none⟩) 1 1,aH [K])∧FH w (W6.alloc (.cells #[.slice none 0 0] 25)) rb db #[.slice al ls.length cl,.slice (some ⟨gf,of,none⟩) ak.length cf,.slice (some ⟨gN,oN,none⟩) aB.length cn] R' (.slice none 0 0) []) :=⟨_,by rw[aD _ _ (by omega),aD _ _ (by omega)];exact mZ.out,by rw[aD _ _ (by omega),aD _ _ (by omega)];exact HR1.out,upd_same _ _ _,aer,kI.out⟩;clear hdb kI aer vR vS HR mZ HR1 HR2;generalize W6.alloc (.cells #[.slice none 0 0] 25)=W7 at*;go_wp2;go_loopw [14,16](fun vo iv wx=>∃(i:Nat)(o:List Nat)(l:List dK)(v:aal)(R:aU),iv= .int .i64 (i:Int)∧i≤o.length∧(∃g c,vo= .slice (some ⟨g,0,none⟩) o.length c)∧R 0=some (.slice (some ⟨gc,0,none⟩) ak.length cc,aH aX)∧R 1=some (.slice (some ⟨gr,0,none⟩) z z,aH RL)∧R 2=some (.slice (some ⟨gm,0,none⟩) z z,kF z o)∧R 3=some (vo,aH o)∧FH w wx rb db #[.slice al ls.length cl,.slice (some ⟨gf,of,none⟩) ak.length cf,.slice (some ⟨gN,oN,none⟩) aB.length cn] R v l∧eB (T.nexts ls.length) i 0 [K]=o∧(∀x∈o,x<z)∧o.Nodup∧l.map Prod.snd=(o.take i).map (T.state
            ls.length ls o)∧(∀x∈o.take i,∀a,a≤ls.length→T.aZ x a∈o∨T.dead (T.aZ x a)=true))(fun _ iv _=>z+1-(aah iv).toNat);case atStart=>obtain⟨R',q0,q1,q2,q3,q4⟩ :=HRR.out;exact⟨0,[K],[],_,R',rfl,by simp,⟨_,_,rfl⟩,q0,q1,q2,q3,q4,rfl,by simpa using hk0,by simp,by simp,by simp⟩
         case round=>
          clear HRR;obtain⟨i,o,l,v,R',rfl,vP,⟨g3,c3,rfl⟩,q0,q1,q2,q3,q4,q5,q6,q7,q8,q9⟩ :=hrel;have oM:=ah q0;have fu:=ah q1;have gZ:=ah q2;have kz:=ah q3;have kI:=ah q4;have Jd:=ah q5;have Vp:=ah q6;have HQ7:=ah q7;have HQ8:=ah q8;have HQ9:=ah q9;have hoz:o.length≤z:=iA z o q7 q6;clear q0 q1 q2 q3 q4 q5 q6 q7 q8 q9;by_cases hlo:i<o.length
          ·have Y4:(i:Int)<(o.length:Int) :=by omega
           obtain⟨x,hx⟩ : ∃x,o[i]?=some x:=⟨o[i],List.getElem?_eq_getElem hlo⟩;have hxz:=Vp.out x (List.mem_of_getElem? hx);have r1:wr.cell? ⟨rb,1,none⟩=some (.slice (some ⟨gf,of,none⟩) ak.length cf) :=aj kI.out.bW 1;have o1:wr.cell? ⟨g3,i,none⟩=some (.int .i64 (x:Int)) :=by rw[kI.out.rows.xM kz.out (aK _) hlo,iO _ _ hlo,aa1,hx];rfl
           have p1:=Rj.out wr R' kI.out.rows fu.out x hxz;obtain⟨hp1,hp2⟩ :=uI.out x hxz;have f1:=abF.out wr kI.out.below _ hp1;have Gf:=OL.out x;obtain⟨P,hP⟩ : ∃P,bg RL x=P:=⟨_,rfl⟩;rw[hP]at p1 hp1 f1 Gf;have HP:=ah hP;rw[←Gf]at f1;obtain⟨fb,qX⟩ : ∃fb,T.fin x=fb:=⟨_,rfl⟩;rw[qX]at f1;have BQ:=ah qX;have HX:=ah hx;clear Gf qX hP hp2 hx;have arU:(x:Int)<(z:Int) :=by omega
           have hpz:(P:Int)<(ak.length:Int) :=by omega
           have hpn:(P:Int)<(aB.length:Int) :=by have:=HLen.out;omega
           go_upto_region 34 with fail;go_region_held3(fun W=>W.cell? ⟨rb,1,none⟩=some (.slice (some ⟨gf,of,none⟩) ak.length cf)∧W.cell? ⟨g3,i,none⟩=some (.int .i64 (x:Int))∧W.cell? ⟨gr,x,none⟩=some (.int .i64 (P:Int))∧W.cell? ⟨gf,of+P,none⟩=some (.bool fb))(first|exact⟨r1,o1,p1,f1⟩|go_keep)(fail);have iZ:Hid (j6 w ((wr.alloc (.cells #[.bool fb,.slice none 0 0,.int .i64 (-1)] 42)).drew) rb db wr.heap.size #[.slice al ls.length cl,.slice (some ⟨gf,of,none⟩) ak.length cf,.slice (some ⟨gN,oN,none⟩) aB.length cn] R' v l (.slice none 0 0) fb (bJ T ls.length ls (o7 T ls.length x o 0) x (min 0 ls.length)) (e7 T ls.length x o 0)) :=by
            have h1:=(kI.out.start fb (-1)).keep (aaF (aaA _ _) 1);have e1:bJ T ls.length ls (o7 T ls.length x o 0) x (min 0 ls.length)= [] :=by simp[bJ,jq]
            have e2:e7 T ls.length x o 0= -1:=by simp[e7]
            rw[e1,e2];exact h1
           obtain⟨sb,hsb⟩ : ∃sb,wr.heap.size=sb:=⟨_,rfl⟩;rw[hsb]at iZ;simp only[hsb];clear hsb r1 o1 p1 f1 kI;generalize(wr.alloc (.cells #[.bool fb,.slice none 0 0,.int .i64 (-1)] 42)).drew=W8 at*;obtain⟨gq,oq,cq,hrow⟩ :=FD.out P hp1;have lH:=ah hrow;clear hrow;have hSp:0<S:=by have:=HS.out;omega
           have r2:W8.cell? ⟨rb,2,none⟩=some (.slice (some ⟨gN,oN,none⟩) aB.length cn) :=aj iZ.out.bW 2;have o1:W8.cell? ⟨g3,i,none⟩=some (.int .i64 (x:Int)) :=by rw[iZ.out.rows.xM kz.out (aK _) hlo,iO _ _ hlo,aa1,HX.out];rfl
           have p1:=Rj.out W8 R' iZ.out.rows fu.out x hxz;rw[HP.out]at p1;obtain⟨g1,g2⟩ :=lH.out W8 iZ.out.below;have hTm:=Gw.out x ls.length;rw[HP.out]at hTm;have hxm:=oI.out P ls.length hp1 (by have:=HS.out;omega);have g2m:=g2 ls.length (by have:=HS.out;omega);have c1:=KR.out W8 R' iZ.out.rows oM.out _ hxm;rw[←hTm]at c1;obtain⟨Xm,hXm⟩ : ∃Xm,(aM ak aB).nx P ls.length=Xm:=⟨_,rfl⟩;rw[hXm]at g2m hxm c1;obtain⟨O,hO⟩ : ∃O,T.aZ x ls.length=O:=⟨_,rfl⟩;rw[hO]at c1;have HO:=ah hO;have hSm:(S:Int)-1=(ls.length:Int) :=by have:=HS.out;omega
           have hmS:(ls.length:Int)<(S:Int) :=by have:=HS.out;omega
           have arI:(Xm:Int)<(ak.length:Int) :=by omega
           clear g2 hTm hXm hO;go_wp2;go_quiet(fail);go_wp2;have ae2:=ah (iZ.out.keep (aaF (aaA _ _) nq));have anS:(W8.drewN nq).cell? ⟨gq,oq+ls.length,none⟩=some (.int .i64 (Xm:Int)) :=by simpa using g2m
           have c1':(W8.drewN nq).cell? ⟨gc,Xm,none⟩=some (.int .i64 (O:Int)) :=by simpa using c1
           clear r2 o1 p1 g1 g2m c1 iZ;generalize W8.drewN nq=W9 at*;go_wp2;clear anS c1';have qD:=ah (aaM Vp.out HQ7.out (fun k hk=>rD.out x k hxz hk));go_loopw [14,20](fun vo kv wx=>∃(k:Nat)(R:aU)(va:aal),k≤S∧kv= .int .i64 (k:Int)∧(∃g c,vo= .slice (some ⟨g,0,none⟩) (o7 T ls.length x o k).length c)∧R 0=some (.slice (some ⟨gc,0,none⟩) ak.length cc,aH aX)∧R 1=some (.slice (some ⟨gr,0,none⟩) z z,aH RL)∧R 2=some (.slice (some ⟨gm,0,none⟩) z z,kF z (o7 T ls.length x o k))∧R 3=some (vo,aH (o7 T ls.length x o k))∧j6 w wx rb db sb #[.slice al ls.length cl,.slice (some ⟨gf,of,none⟩) ak.length cf,.slice (some ⟨gN,oN,none⟩) aB.length cn] R v l va fb (bJ T ls.length ls (o7 T ls.length x o k) x (min k ls.length)) (e7 T ls.length x o k))(fun _ kv _=>S-(aah kv).toNat);case atStart=>exact⟨0,R',_,aaQ _,rfl,⟨g3,c3,by rw[CV]⟩,oM.out,fu.out,by rw[CV];exact gZ.out,by rw[CV];exact kz.out,ae2.out⟩
           case round=>
            clear ae2 oM fu gZ kz;obtain⟨k,R,va,hkS,rfl,⟨g3',c3',rfl⟩,q0,q1,q2,q3,q4⟩ :=hrel;have oM:=ah q0;have fu:=ah q1;have gZ:=ah q2;have kz:=ah q3;have iZ:=ah q4;clear q0 q1 q2 q3 q4;have r0:wr.cell? ⟨rb,0,none⟩=some (.slice al ls.length cl) :=aj iZ.out.bW 0;by_cases hkm:k≤ls.length
            ·have ah6:(k:Int)≤(ls.length:Int) :=by omega
             have asC:(k:Int)<(S:Int) :=by have:=HS.out;omega
             obtain⟨g1,g2⟩ :=lH.out wr iZ.out.below;have g2k:=g2 k (by have:=HS.out;omega);have hxk:=oI.out P k hp1 (by have:=HS.out;omega);have hTk:=Gw.out x k;rw[HP.out]at hTk;have c1:=KR.out wr R iZ.out.rows oM.out _ hxk;rw[←hTk]at c1;have Lj:=rD.out x k hxz hkm;obtain⟨X,hX⟩ : ∃X,(aM ak aB).nx P k=X:=⟨_,rfl⟩;rw[hX]at g2k hxk c1;have FE:=Co.out (T.aZ x k);have d1:=iZ.out.rows.xM gZ.out (si _ _) Lj;rw[Oq _ Lj]at d1;have fB:=ah (iZ.out.setInt gZ.out (si _ _) Lj ((o7 T ls.length x o k).length:Int));obtain⟨_,asE,aaf⟩ :=aA (iZ.out.rows.own 2 _ _ gZ.out) (b:=gm) rfl;have IQ:Hid (∀q,wr.frozen? ⟨gm,q,none⟩=false) :=fun q=>bL aaf q;have UH:=ah (fun hn=>Ji (o:=o7 T ls.length x o k) Lj hn);have asl:=ah (qD.out k);have hlz:(o7 T ls.length x o k).length≤z:=iA z _ (qD.out k).2 (qD.out k).1;obtain⟨C,hC⟩ : ∃C,T.aZ x k=C:=⟨_,rfl⟩;rw[hC]at c1 Lj FE d1 fB UH
             have HC:=ah hC;have ar8:(X:Int)<(ak.length:Int) :=by omega
             have ari:(C:Int)<(z:Int) :=by omega
             clear g2 hTk hX hC aaf;by_cases hA:k<ls.length∧C=O
             ·obtain⟨hkl,hCO⟩ :=hA;have uF:(k:Int)<(ls.length:Int) :=by omega
              have CQ:decide ((k:Int)<(ls.length:Int))=true:=by simpa using hkl
              have anl:((C:Int)==(O:Int))=true:=by simp[hCO]
              have qp:=ah (NB (o:=o) hkl (show T.aZ x k=T.aZ x ls.length by rw[HC.out,HO.out];exact hCO) ls);clear fB d1 FE UH hCO;go_wp2;go_roundw;case rel=>
               have e1:min k ls.length=k:=by omega
               have e2:min (k+1) ls.length=k+1:=by omega
               have e3:e7 T ls.length x o (k+1)=e7 T ls.length x o k:=by unfold e7;rw[if_pos (by omega),if_pos (by omega)]
               exact⟨k+1,R,va,by omega,by go_num,⟨g3',c3',by rw[qp.out.1]⟩,oM.out,fu.out,by rw[qp.out.1];exact gZ.out,by rw[qp.out.1];exact kz.out,by rw[e2,e3,qp.out.2];have h1:=iZ.out;rw[e1]at h1;exact h1⟩
              case measure=>simp[aah];omega
             ·have Xb:Hid ((o7 T ls.length x o (k+1))=dW T (o7 T ls.length x o k) C) :=by
               show _=_;by_cases hkl:k<ls.length;·rw[(KX (o:=o) hkl (show T.aZ x k≠T.aZ x ls.length by rw[HC.out,HO.out];exact fun e=>hA ⟨hkl,e⟩) ls).1,HC.out]
               ·have Hz:k=ls.length:=by omega
                rw[←HC.out,Hz];exact(JS (T:=T) (m:=ls.length) (x:=x) (o:=o) ls).1
              have anT:Hid (k<ls.length→bJ T ls.length ls (o7 T ls.length x o (k+1)) x (k+1)=bJ T ls.length ls (o7 T ls.length x o k) x k++ [(ls.getD k 0,T.num (o7 T ls.length x o (k+1)) (T.aZ x k))]) :=by show _→_;intro hkl;exact(KX (o:=o) hkl (show T.aZ x k≠T.aZ x ls.length by rw[HC.out,HO.out];exact fun e=>hA ⟨hkl,e⟩) ls).2
              have amL:Hid (k=ls.length→bJ T ls.length ls (o7 T ls.length x o (k+1)) x ls.length=bJ T ls.length ls (o7 T ls.length x o k) x ls.length) :=by show _→_;intro Hz;rw[Hz];exact(JS (T:=T) (m:=ls.length) (x:=x) (o:=o) ls).2
              have HA:=ah hA;clear hA;go_upto_region 41 with fail;go_cut [183](fun bv wy=>bv= .bool false∧wy=wr);case first=>
               by_cases hkl:k<ls.length
               ·have uF:(k:Int)<(ls.length:Int) :=by omega
                have CQ:decide ((k:Int)<(ls.length:Int))=true:=by simpa using hkl
                have anl:((C:Int)==(O:Int))=false:=by have:=HA.out;simp;omega
                exact Mj
               ·have uF: ¬(k:Int)<(ls.length:Int) :=by omega
                have CQ:decide ((k:Int)<(ls.length:Int))=false:=by simpa using hkl
                exact Mj
              case rest=>
               obtain⟨rfl,hwc⟩ :=hcut;obtain rfl:=hwc.symm;clear hwc;go_upto_region 42 with fail;go_cut [193](fun bv wy=>bv= .bool (decide (¬dead=(C:Int)∧C∉(o7 T ls.length x o k)))∧wy=wr);case first=>
                by_cases hdd:dead=(C:Int)
                ·have hdb:((C:Int) !=dead)=false:=by simp[hdd]
                 have hx1:decide (¬dead=(C:Int)∧C∉(o7 T ls.length x o k))=false:=by simp[hdd]
                 exact Qd
                ·have hdb:((C:Int) !=dead)=true:=by simp;omega
                 by_cases hcm:C∈(o7 T ls.length x o k)
                 ·rw[if_pos hcm]at d1;have hx1:decide (¬dead=(C:Int)∧C∉(o7 T ls.length x o k))=false:=by simp[hcm]
                  generalize ix (o7 T ls.length x o k) C=J at*;have hJb:decide ((J:Int)<0)=false:=by simp
                  have hJz: ¬(J:Int)<0:=by omega
                  exact Qd
                 ·rw[if_neg hcm]at d1;have hx1:decide (¬dead=(C:Int)∧C∉(o7 T ls.length x o k))=true:=by simp[hdd,hcm]
                  exact Qd
               case rest=>
                obtain⟨rfl,hwc⟩ :=hcut;obtain rfl:=hwc.symm;clear hwc;go_upto_if 193 with fail;go_cut [14](fun vo wy=>∃(R2:aU)(g c:Nat),vo= .slice (some ⟨g,0,none⟩) ((o7 T ls.length x o (k+1))).length c∧R2 0=some (.slice (some ⟨gc,0,none⟩) ak.length cc,aH aX)∧R2 1=some (.slice (some ⟨gr,0,none⟩) z z,aH RL)∧R2 2=some (.slice (some ⟨gm,0,none⟩) z z,kF z (o7 T ls.length x o (k+1)))∧R2 3=some (vo,aH (o7 T ls.length x o (k+1)))∧j6 w wy rb db sb #[.slice al ls.length cl,.slice (some ⟨gf,of,none⟩) ak.length cf,.slice (some ⟨gN,oN,none⟩) aB.length cn] R2 v l va fb (bJ T ls.length ls (o7 T ls.length x o k) x (min k ls.length)) (e7 T ls.length x o k));case first=>
                 by_cases hnw: ¬dead=(C:Int)∧C∉(o7 T ls.length x o k)
                 ·have hx1:decide (¬dead=(C:Int)∧C∉(o7 T ls.length x o k))=true:=by simpa using hnw
                  obtain⟨hdd,hcm⟩ :=hnw;have jl:Hid ((o7 T ls.length x o (k+1))=(o7 T ls.length x o k)++ [C]) :=by show _=_;rw[Xb.out];unfold dW;rw[if_neg (by rw[FE];simpa using hdd)];unfold meet;rw[if_neg hcm]
                  have Fj:=ah (UH.out hcm);have fm:=IQ.out C;rw[if_neg hcm]at d1;rw[hx1];clear FE hdd UH hcm hx1;have anZ:=hlz;obtain⟨Lo,hLo⟩ : ∃Lo,((o7 T ls.length x o k)).length=Lo:=⟨_,rfl⟩;rw[hLo]at fB anZ;simp only[hLo];have xH:=ah hLo;clear hLo hlz;go_upto_region 44 with fail;generalize wr.setCell ⟨gm,C,none⟩ (.int .i64 (Lo:Int))=W1 at*;have HR3:Hid (upd R 2 (some (.slice (some ⟨gm,0,none⟩) z z,(kF z (o7 T ls.length x o k)).set C (Lo:Int))) 3=some (.slice (some ⟨g3',0,none⟩) Lo c3',aH (o7 T ls.length x o k))) :=by show _=_;rw[aD _ _ (by omega),←xH.out];exact kz.out
                  have zl:Hid (W1.ownsRow w.heap.size 3 1 (.slice (some ⟨g3',0,none⟩) Lo c3') Lo (zI (aH (o7 T ls.length x o k)))) :=by have:=fB.out.rows.own _ _ _ HR3.out;rw[aK,xH.out]at this;exact this
                  have hb1:=fB.out.below.size;clear fm d1;go_wp2_with(at_builtin;refine dm rfl _ _ 56 3 rfl i0 (.int .i64 0) 8 Tryd.underlying56 hi hz0 hz1 hz2 rfl w.heap.size _ _ _ rfl zl.out _ rfl rfl (by omega) (by decide) hb1 ?_);intro vo' W2 hown2 Fv ni hne2;rcases bH hown2 with⟨e,_⟩| ⟨g5,c5,rfl,ass,asa⟩;·exact absurd e hne2
                  have qU:=ah (fB.out.y9 (u':= .slice (some ⟨g5,0,none⟩) (Lo+1) c5) (ys:=aH ((o7 T ls.length x o k)++ [C])) HR3.out Fv (by rw[iL,nD,abd,aK,xH.out];exact hown2) ni);clear hown2 Fv ni hne2 zl HR3 fB;go_wp2;go_meet;case rel=>exact⟨_,g5,c5,by rw[jl.out,abd,xH.out];rfl,by rw[aD _ _ (by omega),aD _ _ (by omega)];exact oM.out,by rw[aD _ _ (by omega),aD _ _ (by omega)];exact fu.out,by rw[aD _ _ (by omega),upd_same,jl.out,Fj.out,xH.out],by rw[upd_same,jl.out],qU.out⟩
                 ·have hx1:decide (¬dead=(C:Int)∧C∉(o7 T ls.length x o k))=false:=by simpa using hnw
                  have jl:Hid ((o7 T ls.length x o (k+1))=(o7 T ls.length x o k)) :=by
                   show _=_;rw[Xb.out];unfold dW;by_cases hdd:dead=(C:Int);·rw[if_pos (by rw[FE];simpa using hdd)]
                   ·rw[if_neg (by rw[FE];simpa using hdd)];unfold meet;rw[if_pos (by apply Classical.byContradiction;intro hcm;exact hnw ⟨hdd,hcm⟩)]
                  rw[hx1];clear hnw hx1;go_wp2;go_meet;case rel=>exact⟨R,g3',c3',by rw[jl.out],oM.out,fu.out,by rw[jl.out];exact gZ.out,by rw[jl.out];exact kz.out,iZ.out⟩
                case rest=>
                 obtain⟨R2,g5,c5,rfl,q0,q1,q2,q3,q4⟩ :=hcut;have HE0:=ah q0;have HE1:=ah q1;have HE2:=ah q2;have HE3:=ah q3;have qU:=ah q4;clear q0 q1 q2 q3 q4 fB d1 oM fu gZ kz iZ UH r0 g1 g2k c1;have Za:Hid (C∈(o7 T ls.length x o (k+1))∨T.dead C=true) :=by show _∨_;rw[Xb.out];exact I7 T _ C
                 have d1:=qU.out.rows.xM HE2.out (si _ _) Lj;rw[Oq _ Lj]at d1;obtain⟨pl,hpl⟩ : ∃pl,T.num (o7 T ls.length x o (k+1)) C=pl:=⟨_,rfl⟩;have HPl:=ah hpl;generalize wc=W2 at*;go_upto_if 205 with fail;go_cut [22](fun pv wy=>pv= .int .i64 pl∧wy=W2);case first=>
                  by_cases hdd:dead=(C:Int)
                  ·have hdb:((C:Int) !=dead)=false:=by simp[hdd]
                   have hp1:pl= -1:=by rw[←hpl];unfold Sys.num;rw[if_pos (by rw[FE];simpa using hdd)]
                   clear hpl;go_wp2;go_meet;case rel=>exact⟨by rw[hp1],rfl⟩
                  ·have hdb:((C:Int) !=dead)=true:=by simp;omega
                   have hnd: ¬T.dead C=true:=by rw[FE];simpa using hdd
                   rw[if_pos (Za.out.resolve_right hnd)]at d1;have hp1:(ix (o7 T ls.length x o (k+1)) C:Int)=pl:=by rw[←hpl];unfold Sys.num;rw[if_neg hnd]
                   rw[hp1]at d1;clear hpl hp1;exact Mj
                 case rest=>
                  obtain⟨rfl,hwc⟩ :=hcut;obtain rfl:=hwc.symm;clear hwc d1 hpl FE;by_cases hkl:k<ls.length
                  ·have anQ:=hkl;obtain⟨gl,ol,rfl,hgl,hcl⟩ :=wV.out.resolve_left (fun e=>by rw[e]at hkl;simp at hkl);have uF:(k:Int)<(ls.length:Int) :=by omega
                   have l0:=hcl k hkl;obtain⟨lk,hlk⟩ : ∃lk,ls.getD k 0=lk:=⟨_,rfl⟩;rw[hlk]at l0;have HLk:=ah hlk;have hal:(bJ T ls.length ls (o7 T ls.length x o k) x (min k ls.length)).length≤1048577:=by have h1:=List.length_filter_le (fun a=>decide (T.aZ x a≠T.aZ x ls.length)) (aaV (min k ls.length));rw[List.length_range]at h1;have h2:(bJ T ls.length ls (o7 T ls.length x o k) x (min k ls.length)).length=((aaV (min k ls.length)).filter fun a=>decide (T.aZ x a≠T.aZ x ls.length)).length:=aaR _;have:=HS.out;omega
                   have xu:=ah (qU.out.keep (aaF (aaA _ _) 1));have HOa:Hid ((W2.drew.alloc (.cells #[.int .i64 lk,.int .i64 pl] 44)).ownsRow w.heap.size 44 2 va (bJ T ls.length ls (o7 T ls.length x o k) x (min k ls.length)).length (dN (bJ T ls.length ls (o7 T ls.length x o k) x (min k ls.length)))) :=xu.out.cur.aR.alloc _;have hba:w.heap.size≤(W2.drew.alloc (.cells #[.int .i64 lk,.int .i64 pl] 44)).heap.size:=by have:=xu.out.below.size;simp at this⊢;omega
                   have HNw:Hid (∀(j:Nat)u,[aaK .i64 lk,.int .i64 pl][j]?=some u→(W2.drew.alloc (.cells #[.int .i64 lk,.int .i64 pl] 44)).cell? ((⟨W2.drew.heap.size,0,none⟩ :Addr).add j)=some u) :=by show∀_,_;intro j u hj;rw[wS,aj (aa5 W2.drew (.cells #[.int .i64 lk,.int .i64 pl] 44)) j];simpa using hj
                   have S1:W2.drew.cell? ⟨rb,0,none⟩=some (.slice (some ⟨gl,ol,none⟩) ls.length cl)∧W2.drew.cell? ⟨gl,ol+k,none⟩=some (.int .i64 lk) :=⟨aj xu.out.bW 0,(xu.out.below.cell (p:=⟨gl,ol+k,none⟩) hgl).trans l0⟩;have hB2:aab W2.drew.heap.size W2.drew (W2.drew.alloc (.cells #[.int .i64 lk,.int .i64 pl] 44)) :=(aaA _ _).alloc (aax _) _;have S2:(W2.drew.alloc (.cells #[.int .i64 lk,.int .i64 pl] 44)).cell? ⟨rb,0,none⟩=some (.slice (some ⟨gl,ol,none⟩) ls.length cl)∧(W2.drew.alloc (.cells #[.int .i64 lk,.int .i64 pl] 44)).cell? ⟨gl,ol+k,none⟩=some (.int .i64 lk) :=⟨aj (aC xu.out.bW hB2) 0,((xu.out.below.trans (hB2.mono xu.out.below.size)).cell (p:=⟨gl,ol+k,none⟩) hgl).trans l0⟩;have t1:W2.drew.cell? ⟨sb,1,none⟩=some va:=aj xu.out.cur.box 1;have t2:(W2.drew.alloc (.cells #[.int .i64 lk,.int .i64 pl] 44)).cell? ⟨sb,1,none⟩=some va:=aj (aC xu.out.cur.box hB2) 1
                   have D8:W2.cell? ⟨rb,0,none⟩=some (.slice (some ⟨gl,ol,none⟩) ls.length cl) :=aj qU.out.bW 0;clear hcl hlk;go_upto_region 49 with fail;refine wp_region_held (S:=fun W'=>W'.cell? ⟨rb,0,none⟩=some (.slice (some ⟨gl,ol,none⟩) ls.length cl)∧W'.cell? ⟨gl,ol+k,none⟩=some (.int .i64 lk)) (by kernel_rfl) ?_;try simp only[aaw,aat,aav,aau,aas,aap,aar]
                   refine Di 0 (h:= ?_);try simp only[aaw,aat,aav,aau,aas,aap,aar]
                   refine Di 2 (h:= ?_);try simp only[aaw,aat,aav,aau,aas,aap,aar]
                   refine Di 3 (h:= ?_);try simp only[aaw,aat,aav,aau,aas,aap,aar]
                   refine Di 4 (h:= ?_);try simp only[aaw,aat,aav,aau,aas,aap,aar]
                   refine Di 5 (h:= ?_);try simp only[aaw,aat,aav,aau,aas,aap,aar]
                   refine Di 6 (h:= ?_);try simp only[aaw,aat,aav,aau,aas,aap,aar]
                   refine Di 7 (h:= ?_);try simp only[aaw,aat,aav,aau,aas,aap,aar]
                   refine Di 8 (h:= ?_);try simp only[aaw,aat,aav,aau,aas,aap,aar]
                   refine bX 1 9 (by kernel_rfl) ?oA ?oB;case oA=>
                    refine aP va _ rfl (by kernel_rfl) (Ca _ _ _ _ rfl sb 1 va (by kernel_rfl) t1) ?_;refine⟨S1,?_⟩;try simp only[aaw,aat,aav,aau,aas,aap,aar]
                    refine aF 9 (by kernel_rfl) ?_;refine aP (.slice (some ⟨W2.drew.heap.size,0,none⟩) 1 1) (W2.drew.alloc (.cells #[.int .i64 lk,.int .i64 pl] 44)) rfl (by kernel_rfl) (DL _ _ _ _ rfl lk pl (by kernel_rfl)) ?_;exact zc3
                   case oB=>
                    refine aP (.slice (some ⟨W2.drew.heap.size,0,none⟩) 1 1) (W2.drew.alloc (.cells #[.int .i64 lk,.int .i64 pl] 44)) rfl (by kernel_rfl) (DL _ _ _ _ rfl lk pl (by kernel_rfl)) ?_;refine⟨S2,?_⟩;try simp only[aaw,aat,aav,aau,aas,aap,aar]
                    refine aF 1 (by kernel_rfl) ?_;refine aP va _ rfl (by kernel_rfl) (Ca _ _ _ _ rfl sb 1 va (by kernel_rfl) t2) ?_;exact zc3
                  ·have anQ:=hkl;have Hz:k=ls.length:=by omega
                   have uF: ¬(k:Int)<(ls.length:Int) :=by omega
                   have s1:W2.cell? ⟨sb,2,none⟩=some (.int .i64 (e7 T ls.length x o k)) :=aj qU.out.cur.box 2;have f1:=bL qU.out.cur.box 2;have D8:W2.cell? ⟨rb,0,none⟩=some (.slice al ls.length cl) :=aj qU.out.bW 0;have HL9:Hid (j6 w (W2.setCell ⟨sb,2,none⟩ (.int .i64 pl)) rb db sb #[.slice al ls.length cl,.slice (some ⟨gf,of,none⟩) ak.length cf,.slice (some ⟨gN,oN,none⟩) aB.length cn] R2 v l va fb (bJ T ls.length ls (o7 T ls.length x o (k+1)) x (min (k+1) ls.length)) (e7 T ls.length x o (k+1))) :=by
                    have h1:=qU.out.els pl;have e1:min k ls.length=ls.length:=by omega
                    have e2:min (k+1) ls.length=ls.length:=by omega
                    have e3:e7 T ls.length x o (k+1)=pl:=by
                     unfold e7;have hC2:T.aZ x ls.length=C:=by rw[←Hz];exact HC.out
                     rw[if_neg (by omega),hC2,HPl.out]
                    rw[e1]at h1;rw[e2,e3,amL.out Hz];exact h1
                   go_wp2;go_roundw;·exact⟨k+1,_,_,by have:=HS.out;omega,by go_num,⟨g5,c5,rfl⟩,HE0.out,HE1.out,HE2.out,HE3.out,HL9.out⟩
                   ·simp[aah];omega
            ·have ah6: ¬(k:Int)≤(ls.length:Int) :=by omega
             go_upto_region 51 with fail;have anq:k=ls.length+1:=by have:=HS.out;omega
             subst anq;obtain⟨m1,m2,m3,m4⟩ :=Jv (T:=T) (ls:=ls) HX.out HQ8.out HQ9.out;have o1:wr.cell? ⟨g3',i,none⟩=some (.int .i64 (x:Int)) :=by rw[iZ.out.rows.xM kz.out (aK _) (by omega),iO _ _ (by omega),aa1,m3];rfl
             have hiL:(i:Int)<((((o7 T ls.length x o (ls.length+1))).length:Nat) :Int) :=by omega
             have Cs:=ah m1;have gW:=ah m2;have HM4:=ah m4;have DU:Hid (eB (T.nexts ls.length) (i+1) 0 [K]=(o7 T ls.length x o (ls.length+1))) :=by show _=_;rw[EC Jd.out HX.out,De]
             have fZ:Hid (T.state ls.length ls (o7 T ls.length x o (ls.length+1)) x=(fb,bJ T ls.length ls (o7 T ls.length x o (ls.length+1)) x (min (ls.length+1) ls.length),e7 T ls.length x o (ls.length+1))) :=by
              show _=_;have e2:min (ls.length+1) ls.length=ls.length:=by omega
              have e3:e7 T ls.length x o (ls.length+1)=T.num (o7 T ls.length x o (ls.length+1)) (T.aZ x ls.length) :=by unfold e7;rw[if_neg (by omega)]
              rw[wG,e2,e3,BQ.out]
             have hll:l.length=i:=by have:=congrArg aaY HQ8.out;rw[aaR,aaR,List.length_take]at this;omega
             have Hll:=ah hll;have ane:(l.length+1)*40≤140737488355328:=by omega
             clear m1 m2 m3 m4 hll r0 ah6;by_cases RV:dead=(x:Int)
             ·have am1:((x:Int)==dead)=true:=by simp[RV]
              have Iu:=ah iZ.out.reset;have HSd:Hid (((.slice none 0 0,false,[],-1) :dK).2=T.state ls.length ls (o7 T ls.length x o (ls.length+1)) x) :=by
               show _=_;have hdd:T.dead x=true:=by rw[Co.out];simpa using RV
               have hem:=(HDz.out x hxz).1 RV;obtain⟨a1,a2⟩ :=(HDd.out x hxz).2 hem;obtain⟨b1,b2,b3⟩ :=Pp (T:=T) (m:=ls.length) (x:=x) (ls:=ls) (q:=(o7 T ls.length x o (ls.length+1))) (by rw[OL.out];exact a1) (fun a ha=>by rw[Gw.out];exact a2 a (by have:=HS.out;omega)) hdd;rw[wG,b1,b2,b3]
              clear RV;have s0':wr.cell? ⟨sb,0,none⟩=some (.bool fb) :=aj iZ.out.cur.box 0;have s1':wr.cell? ⟨sb,1,none⟩=some va:=aj iZ.out.cur.box 1;have s2':wr.cell? ⟨sb,2,none⟩=some (.int .i64 (e7 T ls.length x o (ls.length+1))) :=aj iZ.out.cur.box 2;have f0':=bL iZ.out.cur.box 0;have KS:=bL iZ.out.cur.box 1;have f2':=bL iZ.out.cur.box 2;go_upto_region 53 with fail;generalize((wr.setCell ⟨sb,0,none⟩ (.bool false)).setCell ⟨sb,1,none⟩ (.slice none 0 0)).setCell ⟨sb,2,none⟩ (.int .i64 (-1))=W2 at*;clear s0' s1' s2' f0' KS f2' o1 iZ;have dc:W2.cell? ⟨db,0,none⟩=some v:=aj Iu.out.jk 0;have s0:W2.cell? ⟨sb,0,none⟩=some (.bool false) :=aj Iu.out.cur.box 0;have s1:W2.cell? ⟨sb,1,none⟩=some (.slice none 0 0) :=aj Iu.out.cur.box 1;have s2:W2.cell? ⟨sb,2,none⟩=some (.int .i64 (-1)) :=aj Iu.out.cur.box 2;have uD:=ah Iu.out.cur.bZ.row;have hba:=Iu.out.below.size
              have xG:Hid (∀y∈(#[.bool false,(.slice none 0 0),.int .i64 (-1)] :Array aal).toList,y.oneCell'=true) :=by
               show∀_,_;intro y hy;have h2:=Iu.out.cur.aR.2;have hv:((.slice none 0 0) :aal).oneCell'=true:=by exact Z8
               simp at hy;rcases hy with rfl|rfl|rfl;·rfl
               ·exact hv
               ·rfl
              go_wp2_with(at_builtin;refine nC rfl _ _ 23 42 rfl is (.agg #[.bool false,.slice none 0 0,.int .i64 0]) 3 40 Tryd.underlying23 his hs0 hs1 hs2 rfl (by decide) w.heap.size v _ _ rfl uD.out #[.bool false,(.slice none 0 0),.int .i64 (-1)] rfl xG.out rfl (by omega) (by decide) hba ?_);intro v' W3 hown3 xw mJ Bi;rcases hown3.2 with⟨e9,_⟩| ⟨g7,c7,wm,rfl,_⟩;·exact absurd e9 Bi
              obtain⟨hL6,hd3⟩ :=Iu.out.done xw hown3;have kI:=ah hL6;have dc3:W3.cell? ⟨db,0,none⟩=some v:=aj hd3 0;have f3:=bL hd3 0;clear hL6 hd3 hown3 xw mJ Bi dc s0 s1 s2 uD xG;go_wp2;go_roundw;case rel=>exact⟨i+1,(o7 T ls.length x o (ls.length+1)),_,_,R,by go_num,HM4.out,⟨g3',c3',rfl⟩,oM.out,fu.out,gZ.out,kz.out,kI.out,DU.out,(qD.out _).1,(qD.out _).2,by rw[aa',aa9];rw[←Cs.out];congr 1;rw[HSd.out],gW.out⟩
              case measure=>simp[aah];omega
             ·have am1:((x:Int)==dead)=false:=by simp;omega
              clear RV;go_upto_region 53 with fail;clear o1;have dc:wr.cell? ⟨db,0,none⟩=some v:=aj iZ.out.jk 0;have s0:wr.cell? ⟨sb,0,none⟩=some (.bool fb) :=aj iZ.out.cur.box 0;have s1:wr.cell? ⟨sb,1,none⟩=some va:=aj iZ.out.cur.box 1;have s2:wr.cell? ⟨sb,2,none⟩=some (.int .i64 (e7 T ls.length x o (ls.length+1))) :=aj iZ.out.cur.box 2;have uD:=ah iZ.out.cur.bZ.row;have hba:=iZ.out.below.size;have xG:Hid (∀y∈(#[.bool fb,va,.int .i64 (e7 T ls.length x o (ls.length+1))] :Array aal).toList,y.oneCell'=true) :=by show∀_,_;intro y hy;have h2:=iZ.out.cur.aR.2;exact aei
              go_wp2_with(at_builtin;refine nC rfl _ _ 23 42 rfl is (.agg #[.bool false,.slice none 0 0,.int .i64 0]) 3 40 Tryd.underlying23 his hs0 hs1 hs2 rfl (by decide) w.heap.size v _ _ rfl uD.out #[.bool fb,va,.int .i64 (e7 T ls.length x o (ls.length+1))] rfl xG.out rfl (by omega) (by decide) hba ?_);intro v' W3 hown3 xw mJ Bi;rcases hown3.2 with⟨e9,_⟩| ⟨g7,c7,wm,rfl,_⟩;·exact absurd e9 Bi
              obtain⟨hL6,hd3⟩ :=iZ.out.done xw hown3;have kI:=ah hL6;have dc3:W3.cell? ⟨db,0,none⟩=some v:=aj hd3 0;have f3:=bL hd3 0;clear hL6 hd3 hown3 xw mJ Bi dc s0 s1 s2 uD xG;go_wp2;go_roundw;case rel=>exact⟨i+1,(o7 T ls.length x o (ls.length+1)),_,_,R,by go_num,HM4.out,⟨g3',c3',rfl⟩,oM.out,fu.out,gZ.out,kz.out,kI.out,DU.out,(qD.out _).1,(qD.out _).2,by rw[aa',aa9];rw[←Cs.out];congr 1;rw[←fZ.out],gW.out⟩
              case measure=>simp[aah];omega
          ·have Y4: ¬(i:Int)<(o.length:Int) :=by omega
           obtain rfl:i=o.length:=by omega
           have hKo:K∈o:=by obtain⟨r,hr⟩ :=rX (T.nexts ls.length) o.length 0 [K];rw[←Jd.out,hr];simp
           have hll:l.length=o.length:=by have:=congrArg aaY HQ8.out;rw[aaR,aaR,aa7]at this;exact this
           have hop:=List.length_pos_of_mem hKo;have rT:Hid (bS.dx ls.length ls ((aM ak aB).aW (ls.length+1) 0) (l.map Prod.snd)) :=by show Sys.dx _ _ _ _ _;have GG:T.dx ls.length ls K (l.map Prod.snd) :=⟨o,⟨o.length,Jd.out,aax _⟩,by rw[HQ8.out,aa7]⟩;rw[←HT.out,←HK.out]at GG;have hSh:=oI.out;have hPa:=LM.out;have hDz:=HDz.out;rw[←HS.out]at hSh hPa hDz;refine Parts.least (κ:=bg aX) (rep:=bg RL) (dead:=fun c=>decide (dead=(c:Int))) hSh hPa hpos (fun q hq=>uI.out _ (kS.out.1 q hq)) (fun q hq=> ?_) GG;obtain⟨b1,b2⟩ :=uI.out _ (kS.out.1 q hq);rw[decide_eq_true_iff,hDz _ (kS.out.1 q hq),(hPa _ _ b1 hq).1 b2]
           rcases kI.out.bZ.row.2 with⟨_,h0⟩| ⟨g7,c7,wm,rfl,_⟩;·omega
           have dc:wr.cell? ⟨db,0,none⟩=some (.slice (some ⟨g7,0,none⟩) l.length c7) :=aj kI.out.jk 0;have rc:wr.cell? ⟨rb+1,0,none⟩=some (.slice none 0 0) :=aj kI.out.res 0;have fc:=bL kI.out.res 0;have Uo:(wr.setCell ⟨rb+1,0,none⟩ (.slice (some ⟨g7,0,none⟩) l.length c7)).cell? ⟨rb+1,0,none⟩=some (.slice (some ⟨g7,0,none⟩) l.length c7) :=by have:=aL kI.out.res 0 (.slice (some ⟨g7,0,none⟩) l.length c7);rw[aj this 0];simp
           have Rc2:=ah Uo;clear Uo;have HFin:Hid (bq (wr.setCell ⟨rb+1,0,none⟩ (.slice (some ⟨g7,0,none⟩) l.length c7)) w.heap.size (.slice (some ⟨g7,0,none⟩) l.length c7) l∧aab w.heap.size w (wr.setCell ⟨rb+1,0,none⟩ (.slice (some ⟨g7,0,none⟩) l.length c7))) :=by
            have hr:=kI.out.res;have aso:=Hrb.out;refine⟨kI.out.bZ.congr fun b cs t ht _ hh=> ?_,kI.out.below.trans (((But.refl (fun b=>b=rb+1) wr).set (rb+1) 0 _ rfl).below kI.out.below.size (fun j hj e=>by omega))⟩;rw[ay wr (rb+1) 0 _ b (by
             rintro rfl;rw[hr]at hh;simp only[Option.some.injEq,Obj.cells.injEq]at hh;rcases ht with rfl|rfl;·exact absurd hh.2.1 (by decide)
             ·exact absurd hh.2.1 (by decide))];exact hh
           have hl4:l.length≤4294967296:=by omega
           have Hl4:=ah hl4;clear hl4 hll hop hKo;generalize SY:l.length=Ll at*;have wV:=ah SY;clear SY;generalize rb+1=tb at*;go_upto_region 54 with fail;refine wp_region_list ?_;refine yj rfl _ rfl db (some ⟨g7,0,none⟩) Ll c7 (by kernel_rfl) dc ?_;refine vF rfl _ _ rfl tb (some ⟨g7,0,none⟩) Ll c7 (.slice none 0 0) (by kernel_rfl) (by kernel_rfl) rc fc ?_;refine wpList_nil ?_;unfold Exit.then;dsimp only;apply_assumption;refine wp_ret ?_;try simp only[aaw,aat,aav,aau,aas,aap,aar]
           refine bodyPost_ret (v:= .agg #[.slice (some ⟨g7,0,none⟩) Ll c7]) (by have rc3:=Rc2.out;simp[results,Tryd.results49,go_sem,rc3]) rfl ?_;exact⟨_,l,rfl,HFin.out.1,rT.out,by rw[wV.out];exact Hl4.out,HFin.out.2⟩
end Go.Proofs.YtkbjimkngmlfcaaDoor
