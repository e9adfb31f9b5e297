import Derived.Test.YtcjiphknpagenaaGreatDoorDocsJ28
namespace Go.Proofs.YtcjiphknpagenaaGreatDoor
open Go Go.RowKit
set_option linter.unusedVariables false
set_option linter.unusedSimpArgs false
set_option maxRecDepth 100000
set_option maxHeartbeats 32000000
theorem cell_grown {w w':World} {row:Option Nat} {b o:Nat} {u:Value}(hg:w.grownBy w' row)(hb:b<w.heap.size)(hne:some b≠row)(h:w.cell? ⟨b,o,none⟩=some u) :w'.cell? ⟨b,o,none⟩=some u:=by have:=hg.block b hb hne;simp only[World.cell?]at h⊢;rw[this];exact h
theorem CO(f:Fd)(aS aY:Option Addr)(cS cY:Nat)(id:List UInt8)(av:Option Addr)(cv:Nat)(V:List Vl)(w:World)(h2:f.kind=2)(hn:V.length≤1048576)(hH:gK w av V)(hsh:uk V f.name) :Calls Tryz.prog 36 #[.agg #[.string (bs f.name),.int .i64 f.kind,.bool f.bf,.bool f.bA,.bool f.bp,.slice aS f.stops.length cS,.slice aY f.af.length cY,.int .i64 f.lo,.int .i64 f.hi],.agg #[.string ⟨id.toArray⟩,.slice av V.length cv]] w (GQ (jQ f (iq V f.name).2.1) w) :=by
 obtain⟨i0,hi0,hz0,hz1,hz2⟩ :=info_parts Tryz.infoTok;have ax:=aa (((Below.refl w.heap.size w).alloc (Nat.le_refl _) (.cells #[.string (bs f.name),.int .i64 f.kind,.bool f.bf,.bool f.bA,.bool f.bp,.slice aS f.stops.length cS,.slice aY f.af.length cY,.int .i64 f.lo,.int .i64 f.hi] 75)).alloc (by simp) (.cells #[.string ⟨id.toArray⟩,.slice av V.length cv] 28));have HX:=aa (gm w (.cells #[.string (bs f.name),.int .i64 f.kind,.bool f.bf,.bool f.bA,.bool f.bp,.slice aS f.stops.length cS,.slice aY f.af.length cY,.int .i64 f.lo,.int .i64 f.hi] 75) (.cells #[.string ⟨id.toArray⟩,.slice av V.length cv] 28));obtain⟨s,hs⟩ : ∃s,iq V f.name=s:=⟨_,rfl⟩;have xm:Hid (∀W,Below w.heap.size w W→Calls Tryz.prog 64 #[.agg #[.string ⟨id.toArray⟩,.slice av V.length cv],.string (bs f.name)] W fun e w'=>∃at_ ct an cn,e= .returned (.agg #[.string ⟨s.1.toArray⟩,.slice at_ s.2.1.length ct,.slice an s.2.2.length cn])∧gN W at_ s.2.1∧Below W.heap.size W w') :=fun W hW=>(zZ id av cv V f.name W hn (hH.below hW)).mono fun e w' h=>by rw[yR,hs]at h;exact h
 unfold uk at hsh;rw[hs]at hsh⊢;rw[show jQ f s.2.1=fH s.2.1 s.2.1.length by rw[jQ,if_pos h2]];have xX:=aa h2;clear hH hs h2;obtain⟨fn,tx,nz⟩ :=s;dsimp only at xm hsh⊢;obtain⟨hn16,hsz⟩ :=hsh;have FH:=aa hsz;clear hsz;go_enter Tryz.func36,Tryz.ntmps36;go_upto_region 1 with fail;obtain⟨wa,bN⟩ : ∃wa,(w.alloc (.cells #[.string (bs f.name),.int .i64 f.kind,.bool f.bf,.bool f.bA,.bool f.bp,.slice aS f.stops.length cS,.slice aY f.af.length cY,.int .i64 f.lo,.int .i64 f.hi] 75)).alloc (.cells #[.string ⟨id.toArray⟩,.slice av V.length cv] 28)=wa:=⟨_,rfl⟩;rw[bN]at ax HX;try rw[bN]
 clear bN;have y0:wa.cell? ⟨w.heap.size+1,0,none⟩=some (.string ⟨id.toArray⟩) :=ah HX.out.2 0;have y1:wa.cell? ⟨w.heap.size+1,1,none⟩=some (.slice av V.length cv) :=ah HX.out.2 1;have x0:wa.cell? ⟨w.heap.size,0,none⟩=some (.string (bs f.name)) :=ah HX.out.1 0;go_wp2_with fail;refine(xm.out _ ax.out).mono ?_;rintro e w2⟨at_,ct,an,cn,rfl,hTx,hb2⟩;have Kb:=aa (hTx.below hb2);have HB2:=aa (ax.out.trans (hb2.mono ax.out.size));have iw:=aa (aD HX.out.1 hb2);clear hTx hb2 x0 y0 y1 xm;dsimp only;go_upto_region 2 with fail;have vO:=aa ((Below.refl w2.heap.size w2).alloc (Nat.le_refl _) (.cells #[.string ⟨fn.toArray⟩,.slice at_ tx.length ct,.slice an nz.length cn] 43));have tV:=aa (heap_alloc_new w2 (.cells #[.string ⟨fn.toArray⟩,.slice at_ tx.length ct,.slice an nz.length cn] 43));obtain⟨w3,hw3⟩ : ∃w3,w2.alloc (.cells #[.string ⟨fn.toArray⟩,.slice at_ tx.length ct,.slice an nz.length cn] 43)=w3:=⟨_,rfl⟩
 rw[hw3]at vO tV;try rw[hw3]
 clear hw3;have HB3:=aa (HB2.out.trans (vO.out.mono HB2.out.size));have Ah:=aa (aD iw.out vO.out);have HT3:=aa (Kb.out.below vO.out);have OY:w2.heap.size<w3.heap.size:=(Array.getElem?_eq_some_iff.1 tV.out).1;clear vO iw Kb HB2;obtain⟨VB,DT⟩ : ∃VB,w2.heap.size=VB:=⟨_,rfl⟩;rw[DT]at tV OY;try rw[DT]
 clear DT;go_wp2_with fail;go_loopw [6,8](fun v iv wr=>∃k:Nat,k≤tx.length∧iv= .int .i64 (k:Int)∧wr.ownsRow w3.heap.size 46 4 v (fH tx k).length (ak (fH tx k))∧Below w3.heap.size w3 wr)(fun _ iv _=>tx.length-(intOf iv).toNat);case atStart=>exact⟨0,Nat.zero_le _,rfl,eu w3 _,(Below.refl _ _).alloc (Nat.le_refl _) _⟩
 case round=>
  obtain⟨k,hk,rfl,hown,hbel⟩ :=hrel;have HO:=aa hown;have oO:=aa hbel;have HB:=aa (HB3.out.trans (hbel.mono HB3.out.size));have jI:=aa (aD Ah.out hbel);have HVr:=aa (aD tV.out hbel);have hbz:=hbel.size;clear hown hbel;have YJ:VB<wr.heap.size:=by omega
  have v1':wr.cell? ⟨VB,1,none⟩=some (.slice at_ tx.length ct) :=ah HVr.out 1;by_cases hlt:k<tx.length
  ·have hkz:(k:Int)<(tx.length:Int) :=by omega
   obtain⟨b,off,rfl,hbb,hc⟩ :=HT3.out.resolve_left (fun h=>by rw[h]at hlt;simp at hlt);have hbl:b<wr.heap.size:=by omega
   have q0:wr.cell? ⟨b,off+k,none⟩=some (.string (bs (tx.getD k []))) :=(oO.out.cell (p:=⟨b,off+k,none⟩) hbb).trans (hc k hlt);have v1:=v1';clear v1';have Cc:=FH.out k hlt;have HE:=aa (Dj tx k);have hlA:(fH tx k).length=k:=EX tx k;clear hc;generalize tx.getD k []=t at*;have hfl:(bs t).size=t.length:=aK t;generalize fH tx k=A at*;have x1:wr.cell? ⟨w.heap.size,1,none⟩=some (.int .i64 2) :=by rw[←xX.out];exact ah jI.out 1
   go_upto_region 8 with fail;go_cut [6](fun v wy=>wy.ownsRow w3.heap.size 46 4 v (fH tx (k+1)).length (ak (fH tx (k+1)))∧Below w3.heap.size w3 wy);case first=>
    refine wp_region_held_drew (S:=(fun w'=>w'.cell? ⟨VB,1,none⟩=some (.slice (some ⟨b,off,none⟩) tx.length ct)∧w'.cell? ⟨b,off+k,none⟩=some (.string (bs t)))) (by kernel_rfl) ?_ (fun hHeld=> ?_);·exact⟨v1,q0⟩
    refine fU 0 (h:= ?_);refine fU 1 (h:= ?_);refine fU 2 (h:= ?_);refine fU 3 (h:= ?_);refine fU 4 (h:= ?_);(simp only[Act.put,List.getElem_toArray,List.getElem_cons_succ,List.getElem_cons_zero,List.setIfInBounds_toArray,List.set_cons_zero,List.set_cons_succ]);refine fU 5 (h:= ?_);refine fU 6 (h:= ?_);refine fU 7 (h:= ?_);refine fU 8 (h:= ?_);refine fU 9 (h:= ?_);(simp only[Act.put,List.getElem_toArray,List.getElem_cons_succ,List.getElem_cons_zero,List.setIfInBounds_toArray,List.set_cons_zero,List.set_cons_succ]);refine fU 10 (h:= ?_);refine fU 11 (h:= ?_);refine fU 12 (h:= ?_);refine fU 13 (h:= ?_);(simp only[Act.put,List.getElem_toArray,List.getElem_cons_succ,List.getElem_cons_zero,List.setIfInBounds_toArray,List.set_cons_zero,List.set_cons_succ]);refine kG 14 (by kernel_rfl) ?_;refine xq (.slice (some ⟨wr.drew.heap.size,0,none⟩) 1 1) (wr.drew.alloc (.cells #[.string (bs t),.int .i64 k,.int .i64 0,.int .i64 t.length] 46)) rfl (by kernel_rfl) (FB _ _ _ _ rfl _ _ _ _ (by kernel_rfl)) ?_
    have oJ:Below wr.heap.size wr (wr.drew.alloc (.cells #[.string (bs t),.int .i64 k,.int .i64 0,.int .i64 t.length] 46)) :=(below_drewN (Below.refl _ wr) 1).alloc (Nat.le_refl _) _;refine⟨⟨(oJ.cell (p:=⟨VB,1,none⟩) YJ).trans v1,(oJ.cell (p:=⟨b,off+k,none⟩) hbl).trans q0⟩,?_⟩;try simp only[Act.put,List.getElem_toArray,List.getElem_cons_succ,List.getElem_cons_zero,List.setIfInBounds_toArray,List.set_cons_zero,List.set_cons_succ]
    refine kG 15 (by kernel_rfl) ?_;have uY:=bJ HO.out oJ;refine Lm rfl (by kernel_rfl) (wp_append_lies _ (.tmp 29) (.tmp 43) 37 rfl w3.heap.size 46 i0 (.agg #[.string ⟨#[]⟩,.int .i64 0,.int .i64 0,.int .i64 0]) 4 40 Tryz.underlying37 hi0 hz0 hz1 hz2 rfl (by decide) u6 _ _ (by kernel_rfl) uY ⟨wr.drew.heap.size,0,none⟩ 1 1 [.string (bs t),.int .i64 k,.int .i64 0,.int .i64 t.length] (by kernel_rfl) rfl (World.news_of_block (heap_alloc_new wr.drew _)) (by intro v hv;simp at hv;rcases hv with rfl|rfl|rfl|rfl<;>rfl) (by omega) (by unfold maxLen;omega) (by omega) (by have:=oJ.size;omega) _ rfl ?_);intro g6 bL zT Cu pI JI PV;have X4:zT.cell? ⟨VB,1,none⟩=some (.slice (some ⟨b,off,none⟩) tx.length ct) :=cell_grown pI (by have:=oJ.size;omega) (vF uY OY) ((oJ.cell (p:=⟨VB,1,none⟩) YJ).trans v1);have hq12:zT.cell? ⟨b,off+k,none⟩=some (.string (bs t)) :=cell_grown pI (by have:=oJ.size;omega) (vF uY hbb) ((oJ.cell (p:=⟨b,off+k,none⟩) hbl).trans q0)
    refine⟨⟨X4,hq12⟩,?_⟩;try simp only[Act.put,List.getElem_toArray,List.getElem_cons_succ,List.getElem_cons_zero,List.setIfInBounds_toArray,List.set_cons_zero,List.set_cons_succ]
    refine kG 16 (by kernel_rfl) ?_;refine xq (.slice (some ⟨g6,0,none⟩) (A.length+1) bL) zT rfl (by kernel_rfl) (Dg _ _ _ _ rfl _ (by kernel_rfl)) ?_;refine⟨⟨X4,hq12⟩,?_⟩;try simp only[Act.put,List.getElem_toArray,List.getElem_cons_succ,List.getElem_cons_zero,List.setIfInBounds_toArray,List.set_cons_zero,List.set_cons_succ]
    refine wpAnyH_done (by kernel_rfl) ?_ _;have RR:Hid (zT.ownsRow w3.heap.size 46 4 (.slice (some ⟨g6,0,none⟩) (A.length+1) bL) (fH tx (k+1)).length (ak (fH tx (k+1)))∧Below w3.heap.size w3 zT) :=by
     rw[HE.out];refine⟨?_,?_⟩;·rw[cK,List.length_append];exact Cu
     ·have h1:=oO.out.trans (oJ.mono oO.out.size);exact h1.grown pI h1.size (bW uY)
    clear X4 hq12 Cu pI JI PV oJ uY hHeld;generalize A.length+1=nn at*;go_wp2_with fail;go_meet;exact RR.out
   case rest=>
    have RR:=aa hcut;clear hcut v1 q0 x1;go_wp2_with fail;go_roundw;case rel=>exact⟨k+1,by omega,by go_num,RR.out⟩
    case measure=>simp[intOf];omega
  ·have hkz: ¬(k:Int)<(tx.length:Int) :=by omega
   have e:k=tx.length:=by omega
   subst e;go_wp2_with fail;go_ret;exact⟨_,rfl,kM HO.out HB3.out.size,HB.out⟩
def sw(B:Nat)(L:List Tk)(j:Nat) :List Tk:=cZ B (L.take j)++L.drop j
theorem yV(B:Nat)(L:List Tk)(j:Nat) :(sw B L j).length=L.length:=by rw[sw,List.length_append,oq,List.length_take,List.length_drop];omega
theorem JQ(B:Nat)(L:List Tk) {j:Nat}(h:j<L.length) :(sw B L j).getD j bS=L.getD j bS:=by
 have hl:(cZ B (L.take j)).length=j:=by rw[oq,List.length_take];omega
 rw[sw,List.getD_eq_getElem?_getD,List.getElem?_append_right (by omega),hl,Nat.sub_self,List.getElem?_drop,Nat.add_zero,List.getD_eq_getElem?_getD]
theorem Ws(B:Nat)(L:List Tk) {j:Nat}(h:j<L.length) :(sw B L j).set j ((L.getD j bS).1,(L.getD j bS).2.1+B,(L.getD j bS).2.2)=sw B L (j+1) :=by
 have hl:(cZ B (L.take j)).length=j:=by rw[oq,List.length_take];omega
 rw[sw,List.set_append_right _ _ (by omega),hl,Nat.sub_self,List.drop_eq_getElem_cons h,List.set_cons_zero,sw,Ca _ _ h,List.append_assoc];rfl
theorem VH(B:Nat)(L:List Tk) {j:Nat}(h: ¬j<L.length) :sw B L j=cZ B L:=by rw[sw,List.take_of_length_le (by omega),List.drop_of_length_le (by omega),List.append_nil]
theorem Jh(l:List Tk)(k:Nat)(p:Nat)(h:k<l.length) :(ak l).set (k*4+1) (.int .i64 (p:Int))=ak (l.set k ((l.getD k bS).1,p,(l.getD k bS).2.2)) :=by
 induction l generalizing k with
 |nil=>simp at h
 |cons y t ih=>
  have e: ∀(z:Tk)(r:List Tk),ak (z::r)=(Value.string (bs z.1)) ::(.int .i64 z.2.1) ::(.int .i64 z.2.2.1) ::(.int .i64 z.2.2.2) ::ak r:=fun z r=>by simp[ak,eF,bs]
  cases k with
  |zero=>simp[e]
  |succ k=>rw[List.set_cons_succ,e,e,show(k+1)*4+1=k*4+1+4 by omega];simp only[List.set_cons_succ];rw[ih k (by simpa using h)];simp
theorem Ja(a b:List Tk) :ak (a++b)=ak a++ak b:=by simp[ak]
theorem Bq {ops:Array Oper} {rest:List Oper} {o:Oper} {a:Act} {Q:Exit→Act→World→Prop} {w:World}(hgd:o.guard=none)(s x:Operand)(t:TypeId)(ho:o.op= .call {callee:= .builtin .append,args:=#[s,x],argTypes:=#[t,t]})(v:Value)(hs:a.eval s=v)(hx:a.eval x= .slice none 0 0)(hr: ∀ty,(Builtin.append_ #[t,t] ty #[v,.slice none 0 0]).run Tryz.prog w= .ok v w)(h:wpList Tryz.prog ops Q rest (a.put o.dst v) w) :wpList Tryz.prog ops Q (o::rest) a w:=by refine wpList_plain hgd fun K hK=> ?_;unfold Oper.wp execOp;simp only[ho,resolve,invoke,builtin,Sem.run_bind,Sem.run_pure,Result.andThen_ok,List.map_toArray,List.map_cons,List.map_nil,hs,hx,hr];exact hK _ _ h
theorem XP(l:List Tk) : ∀u∈ak l,u.oneCell'=true:=by intro u hu;obtain⟨t,_,h⟩ :=List.mem_flatMap.1 hu;exact qK t u h
theorem CP(f:Fd)(aS aY:Option Addr)(cS cY:Nat)(id:List UInt8)(av:Option Addr)(cv:Nat)(V:List Vl)(w:World)(h2: ¬f.kind=2)(hz:kz f)(hS:bE w aS f.stops)(hY:dB w aY f.af)(hn:V.length≤1048576)(hH:gK w av V)(hsh:uk V f.name) :Calls Tryz.prog 36 #[.agg #[.string (bs f.name),.int .i64 f.kind,.bool f.bf,.bool f.bA,.bool f.bp,.slice aS f.stops.length cS,.slice aY f.af.length cY,.int .i64 f.lo,.int .i64 f.hi],.agg #[.string ⟨id.toArray⟩,.slice av V.length cv]] w (GQ (jQ f (iq V f.name).2.1) w) :=by
 obtain⟨i0,hi0,hz0,hz1,hz2⟩ :=info_parts Tryz.infoTok;have ax:=aa (((Below.refl w.heap.size w).alloc (Nat.le_refl _) (.cells #[.string (bs f.name),.int .i64 f.kind,.bool f.bf,.bool f.bA,.bool f.bp,.slice aS f.stops.length cS,.slice aY f.af.length cY,.int .i64 f.lo,.int .i64 f.hi] 75)).alloc (by simp) (.cells #[.string ⟨id.toArray⟩,.slice av V.length cv] 28));have HX:=aa (gm w (.cells #[.string (bs f.name),.int .i64 f.kind,.bool f.bf,.bool f.bA,.bool f.bp,.slice aS f.stops.length cS,.slice aY f.af.length cY,.int .i64 f.lo,.int .i64 f.hi] 75) (.cells #[.string ⟨id.toArray⟩,.slice av V.length cv] 28));obtain⟨s,hs⟩ : ∃s,iq V f.name=s:=⟨_,rfl⟩;have xm:Hid (∀W,Below w.heap.size w W→Calls Tryz.prog 64 #[.agg #[.string ⟨id.toArray⟩,.slice av V.length cv],.string (bs f.name)] W fun e w'=>∃at_ ct an cn,e= .returned (.agg #[.string ⟨s.1.toArray⟩,.slice at_ s.2.1.length ct,.slice an s.2.2.length cn])∧gN W at_ s.2.1∧Below W.heap.size W w') :=fun W hW=>(zZ id av cv V f.name W hn (hH.below hW)).mono fun e w' h=>by rw[yR,hs]at h;exact h
 have uo:Hid (∀t W,Below w.heap.size w W→t.length≤4000→Calls Tryz.prog 65 #[.agg #[.bool f.bf,.bool f.bA,.bool f.bp,.slice aS f.stops.length cS,.slice aY f.af.length cY,.int .i64 f.lo,.int .i64 f.hi],.string (bs t)] W fun e w'=>∃v,e= .returned (.tuple #[v,.int .i64 (xZ f t)])∧w'.ownsRow W.heap.size 46 4 v (yl f t).length (ak (yl f t))∧Below W.heap.size W w') :=fun t W hW ht=>xC f.bf f.bA f.bp aS aY cS cY f.stops f.af f.lo f.hi (bs t) W (hS.below hW) (hY.below hW) hz.2.2.2.1 hz.2.2.2.2 hz.2.1 hz.2.2.1 (by rw[aK];omega) _ _ (aa (show _=((oU f.bf f.bA f.bp f.stops f.af f.lo f.hi (bs t)).1,(oU f.bf f.bA f.bp f.stops f.af f.lo f.hi (bs t)).2)from rfl));have Aa:Hid (∀t W,t.length≤4000→Calls Tryz.prog 66 #[.string (bs t)] W fun e w'=>∃v,e= .returned (.tuple #[v,.int .i64 (dI (bs t))])∧w'.ownsRow W.heap.size 46 4 v (Dw t) (ak (bY (bs t)))∧Below W.heap.size W w') :=fun t W ht=>zV (bs t) W (by rw[aK];omega)
 unfold uk at hsh;rw[hs]at hsh⊢;rw[show jQ f s.2.1=(fC f s.2.1 s.2.1.length).1 by rw[jQ,if_neg h2]];have xX:=aa h2;clear hH hs h2 hS hY hz;obtain⟨fn,tx,nz⟩ :=s;dsimp only at xm hsh⊢;obtain⟨hn16,hsz⟩ :=hsh;have FH:=aa hsz;clear hsz;go_enter Tryz.func36,Tryz.ntmps36;go_upto_region 1 with fail;obtain⟨wa,bN⟩ : ∃wa,(w.alloc (.cells #[.string (bs f.name),.int .i64 f.kind,.bool f.bf,.bool f.bA,.bool f.bp,.slice aS f.stops.length cS,.slice aY f.af.length cY,.int .i64 f.lo,.int .i64 f.hi] 75)).alloc (.cells #[.string ⟨id.toArray⟩,.slice av V.length cv] 28)=wa:=⟨_,rfl⟩;rw[bN]at ax HX;try rw[bN]
 clear bN;have y0:wa.cell? ⟨w.heap.size+1,0,none⟩=some (.string ⟨id.toArray⟩) :=ah HX.out.2 0;have y1:wa.cell? ⟨w.heap.size+1,1,none⟩=some (.slice av V.length cv) :=ah HX.out.2 1;have x0:wa.cell? ⟨w.heap.size,0,none⟩=some (.string (bs f.name)) :=ah HX.out.1 0;go_wp2_with fail;refine(xm.out _ ax.out).mono ?_;rintro e w2⟨at_,ct,an,cn,rfl,hTx,hb2⟩;have Kb:=aa (hTx.below hb2);have HB2:=aa (ax.out.trans (hb2.mono ax.out.size));have iw:=aa (aD HX.out.1 hb2);clear hTx hb2 x0 y0 y1 xm;dsimp only;go_upto_region 2 with fail;have vO:=aa ((Below.refl w2.heap.size w2).alloc (Nat.le_refl _) (.cells #[.string ⟨fn.toArray⟩,.slice at_ tx.length ct,.slice an nz.length cn] 43));have tV:=aa (heap_alloc_new w2 (.cells #[.string ⟨fn.toArray⟩,.slice at_ tx.length ct,.slice an nz.length cn] 43));obtain⟨w3,hw3⟩ : ∃w3,w2.alloc (.cells #[.string ⟨fn.toArray⟩,.slice at_ tx.length ct,.slice an nz.length cn] 43)=w3:=⟨_,rfl⟩
 rw[hw3]at vO tV;try rw[hw3]
 clear hw3;have HB3:=aa (HB2.out.trans (vO.out.mono HB2.out.size));have Ah:=aa (aD iw.out vO.out);have HT3:=aa (Kb.out.below vO.out);have OY:w2.heap.size<w3.heap.size:=(Array.getElem?_eq_some_iff.1 tV.out).1;clear vO iw Kb HB2;obtain⟨VB,DT⟩ : ∃VB,w2.heap.size=VB:=⟨_,rfl⟩;rw[DT]at tV OY;try rw[DT]
 clear DT;go_wp2_with fail;go_loopw [6,7,8](fun v bv iv wr=>∃k:Nat,k≤tx.length∧iv= .int .i64 (k:Int)∧bv= .int .i64 ((fC f tx k).2:Int)∧wr.ownsRow w3.heap.size 46 4 v (fC f tx k).1.length (ak (fC f tx k).1)∧Below w3.heap.size w3 wr)(fun _ _ iv _=>tx.length-(intOf iv).toNat);case atStart=>exact⟨0,Nat.zero_le _,rfl,rfl,eu w3 _,(Below.refl _ _).alloc (Nat.le_refl _) _⟩
 case round=>
  obtain⟨k,hk,rfl,rfl,hown,hbel⟩ :=hrel;have HO:=aa hown;have oO:=aa hbel;have HB:=aa (HB3.out.trans (hbel.mono HB3.out.size));have jI:=aa (aD Ah.out hbel);have HVr:=aa (aD tV.out hbel);have hbz:=hbel.size;clear hown hbel;have YJ:VB<wr.heap.size:=by omega
  have v1':wr.cell? ⟨VB,1,none⟩=some (.slice at_ tx.length ct) :=ah HVr.out 1;by_cases hlt:k<tx.length
  ·have hkz:(k:Int)<(tx.length:Int) :=by omega
   obtain⟨b,off,rfl,hbb,hc⟩ :=HT3.out.resolve_left (fun h=>by rw[h]at hlt;simp at hlt);have hbl:b<wr.heap.size:=by omega
   have HQ3:=aa (hc k hlt);have q0:wr.cell? ⟨b,off+k,none⟩=some (.string (bs (tx.getD k []))) :=(oO.out.cell (p:=⟨b,off+k,none⟩) hbb).trans HQ3.out;have v1:=v1';clear v1' hc;have Cc:=FH.out k hlt;have HE:=aa (Dl f tx k);have hsm:=vG f tx k;have hbn:=yO (tx.getD k []);have hln:=(wS f (tx.getD k [])).1;have HPs:=aa (fun j=>Ri f (tx.getD k []) j);have D7:=aa (fun W(hW:Below wr.heap.size wr W)=>uo.out (tx.getD k []) W (HB.out.trans (hW.mono HB.out.size)) Cc);have Vy:=aa (fun W=>Aa.out (tx.getD k []) W Cc);generalize tx.getD k []=t at*;have hfl:(bs t).size=t.length:=aK t;generalize xZ f t=cod at*;generalize dI (bs t)=ae9 at*;generalize ak (bY (bs t))=aa3 at*;generalize yl f t=L at*;generalize Dw t=BN at*;generalize(fC f tx k).1=A at*;generalize(fC f tx k).2=B at*;have hw0:w.heap.size<wr.heap.size:=(Array.getElem?_eq_some_iff.1 jI.out).1
   have x1:wr.cell? ⟨w.heap.size,1,none⟩=some (.int .i64 f.kind) :=ah jI.out 1;have x2:wr.cell? ⟨w.heap.size,2,none⟩=some (.bool f.bf) :=ah jI.out 2;have x3:wr.cell? ⟨w.heap.size,3,none⟩=some (.bool f.bA) :=ah jI.out 3;have x4:wr.cell? ⟨w.heap.size,4,none⟩=some (.bool f.bp) :=ah jI.out 4;have x5:wr.cell? ⟨w.heap.size,5,none⟩=some (.slice aS f.stops.length cS) :=ah jI.out 5;have x6:wr.cell? ⟨w.heap.size,6,none⟩=some (.slice aY f.af.length cY) :=ah jI.out 6;have x7:wr.cell? ⟨w.heap.size,7,none⟩=some (.int .i64 f.lo) :=ah jI.out 7;have x8:wr.cell? ⟨w.heap.size,8,none⟩=some (.int .i64 f.hi) :=ah jI.out 8;have hk2: ¬f.kind=2:=xX.out;go_upto_region 9 with fail;clear hk2;go_cut [9](fun v wy=>wy.ownsRow wr.heap.size 46 4 v L.length (ak L)∧Below wr.heap.size wr wy);case first=>
    refine wp_region_held_drew (S:=(fun w'=>w'.cell? ⟨w.heap.size,2,none⟩=some (.bool f.bf)∧w'.cell? ⟨w.heap.size,3,none⟩=some (.bool f.bA)∧w'.cell? ⟨w.heap.size,4,none⟩=some (.bool f.bp)∧w'.cell? ⟨w.heap.size,5,none⟩=some (.slice aS f.stops.length cS)∧w'.cell? ⟨w.heap.size,6,none⟩=some (.slice aY f.af.length cY)∧w'.cell? ⟨w.heap.size,7,none⟩=some (.int .i64 f.lo)∧w'.cell? ⟨w.heap.size,8,none⟩=some (.int .i64 f.hi)∧w'.cell? ⟨VB,1,none⟩=some (.slice (some ⟨b,off,none⟩) tx.length ct)∧w'.cell? ⟨b,off+k,none⟩=some (.string (bs t)))) (by kernel_rfl) ?_ (fun hHeld=> ?_);·exact⟨x2,x3,x4,x5,x6,x7,x8,v1,q0⟩
    refine fU 0 (h:= ?_);refine fU 1 (h:= ?_);refine fU 2 (h:= ?_);refine fU 3 (h:= ?_);refine fU 4 (h:= ?_);(simp only[Act.put,List.getElem_toArray,List.getElem_cons_succ,List.getElem_cons_zero,List.setIfInBounds_toArray,List.set_cons_zero,List.set_cons_succ]);refine fU 5 (h:= ?_);refine fU 6 (h:= ?_);(simp only[Act.put,List.getElem_toArray,List.getElem_cons_succ,List.getElem_cons_zero,List.setIfInBounds_toArray,List.set_cons_zero,List.set_cons_succ]);refine wpAnyH_ready (rs:=[7]) (by kernel_rfl) (by simp) ?_;refine AllReadyH.cons rfl (fun K hK=> ?_) AllReadyH.nil;go_simp;refine(D7.out _ (below_drewN (Below.refl wr.heap.size wr) 1)).mono ?_;rintro e' wv1⟨v9,rfl,pO,dD⟩;have aI:Hid (Below wr.heap.size wr wv1) :=Below.trans (below_drewN (Below.refl wr.heap.size wr) 1) (dD.mono (Below.size (below_drewN (Below.refl wr.heap.size wr) 1)))
    have qw:=aa (kM pO (show wr.heap.size≤wr.drew.heap.size from Nat.le_refl _));clear dD pO;go_wp2_with fail;refine hK.out _ _ ?_ (fun dn=> ?_);·exact⟨(aI.out.cell (p:=⟨w.heap.size,2,none⟩) hw0).trans x2,(aI.out.cell (p:=⟨w.heap.size,3,none⟩) hw0).trans x3,(aI.out.cell (p:=⟨w.heap.size,4,none⟩) hw0).trans x4,(aI.out.cell (p:=⟨w.heap.size,5,none⟩) hw0).trans x5,(aI.out.cell (p:=⟨w.heap.size,6,none⟩) hw0).trans x6,(aI.out.cell (p:=⟨w.heap.size,7,none⟩) hw0).trans x7,(aI.out.cell (p:=⟨w.heap.size,8,none⟩) hw0).trans x8,(aI.out.cell (p:=⟨VB,1,none⟩) YJ).trans v1,(aI.out.cell (p:=⟨b,off+k,none⟩) hbl).trans q0⟩
    clear hK K;try simp only[Act.put,List.getElem_toArray,List.getElem_cons_succ,List.getElem_cons_zero,List.setIfInBounds_toArray,List.set_cons_zero,List.set_cons_succ]
    refine fU 8 (h:= ?_);refine fU 9 (h:= ?_);refine fU 10 (h:= ?_);refine fU 11 (h:= ?_);refine fU 12 (h:= ?_);(simp only[Act.put,List.getElem_toArray,List.getElem_cons_succ,List.getElem_cons_zero,List.setIfInBounds_toArray,List.set_cons_zero,List.set_cons_succ]);refine wpAnyH_done (by kernel_rfl) ?_ _;clear hHeld dn;go_wp2_with fail;go_meet;exact⟨qw.out,aI.out⟩
   case rest=>
    obtain⟨pO,dm⟩ :=hcut;obtain⟨a9,c9,rfl⟩ :=kr pO;have qw:=aa pO;have gY:=aa dm;clear pO dm v1 q0 x1 x2 x3 x4 x5 x6 x7 x8 D7;go_wp2_with fail;generalize wr=wo at*;go_loopw [11](fun jv wx=>∃j:Nat,j≤L.length∧jv= .int .i64 (j:Int)∧wx.ownsRow wo.heap.size 46 4 (.slice a9 L.length c9) L.length (ak (sw B L j))∧Below wo.heap.size wo wx)(fun jv _=>L.length-(intOf jv).toNat);case atStart=>exact⟨0,Nat.zero_le _,rfl,qw.out,gY.out⟩
    case round=>
     obtain⟨j,hj,rfl,hown,hby⟩ :=hrel;have iF:=aa hown;have jX:=aa hby;clear hown hby qw gY;by_cases hjl:j<L.length
     ·have hjz:(j:Int)<(L.length:Int) :=by omega
      obtain⟨g9,rfl⟩ : ∃g9,a9=some ⟨g9,0,none⟩ :=by
       rcases jd iF.out with⟨h,hz⟩| ⟨g,cap,h,_,_⟩;·omega
       ·cases h;exact⟨g,rfl⟩
      have hps:=HPs.out j;have hcell:=iF.out.cellAt (j*4+1) (by omega);have hfz:=iF.out.frozenAt (j*4+1);have hg9:wo.heap.size≤g9:=bW iF.out g9 rfl;rw[EL _ j 1 (by rw[yV];exact hjl) (by omega),show(sw B L j)[j]'(by rw[yV];exact hjl)=L.getD j bS by rw[←JQ B L hjl,List.getD_eq_getElem?_getD,List.getElem?_eq_getElem (by rw[yV];exact hjl),Option.getD_some]]at hcell;have pY:Hid ((ak (sw B L j)).set (j*4+1) (.int .i64 (((L.getD j bS).2.1+B:Nat) :Int))=ak (sw B L (j+1))) :=by show _=_;rw[Jh _ _ _ (by rw[yV];exact hjl),JQ B L hjl,Ws B L hjl]
      have HSo:=aa (sN iF.out (j*4+1) (.int .i64 (((L.getD j bS).2.1+B:Nat) :Int)) (by omega));rw[pY.out]at HSo;clear pY;generalize L.getD j bS=y at*;obtain⟨ty,p0,p1,p2⟩ :=y;have hcell2:wr.cell? ⟨g9,j*4+1,none⟩=some (.int .i64 (p0:Int)) :=hcell;clear hcell;dsimp only at hps HSo;have sJ:Hid (Below wo.heap.size wo (wr.setCell ⟨g9,j*4+1,none⟩ (.int .i64 ((p0+B:Nat) :Int)))) :=jX.out.setCell hg9 _;have hwrap:IntKind.i64.wrap ((p0:Int)+(B:Int))=((p0+B:Nat) :Int) :=by rw[IntWalk.i64_in _ (by omega)];push_cast;rfl
      go_wp2_with fail;go_roundw;case rel=>exact⟨j+1,by omega,by go_num,HSo.out,sJ.out⟩
      case measure=>simp[intOf];omega
     ·have hjz: ¬(j:Int)<(L.length:Int) :=by omega
      have wH:=iF.out;rw[VH B L hjl]at wH;have jH:=aa wH;have oM:=aa (bJ HO.out jX.out);have bq:=aa (oO.out.trans (jX.out.mono oO.out.size));have hxz:=bq.out.size;have Qv:=oq B L;have afK:Hid (∀(W:World)(v:Value),W.ownsRow w3.heap.size 46 4 v (A++cZ B L).length (ak (A++cZ B L))→Below w3.heap.size w3 W→True) :=fun _ _ _ _=>trivial;clear wH iF jX HO afK;go_upto_region 14 with fail;go_cut [6](fun v wy=>wy.ownsRow w3.heap.size 46 4 v (A++cZ B L).length (ak (A++cZ B L))∧Below w3.heap.size w3 wy);case first=>
       rcases jd jH.out with⟨hnil,hz⟩| ⟨g9,ae7,hv9,dm,hl9⟩
       ·obtain rfl:L= [] :=List.length_eq_zero_iff.1 hz;have e9:a9=none∧c9=0:=by simpa using hnil
        obtain⟨rfl,rfl⟩ :=e9;have hap: ∀ty,(Builtin.append_ #[37,37] ty #[u6,.slice none 0 0]).run Tryz.prog wr= .ok u6 wr:=fun ty=>run_append_owned_none wr w3.heap.size _ ty 46 i0 4 Tryz.underlying37 hi0 u6 _ _ oM.out;have HR:Hid (A++cZ B []=A) :=by show _=_;rw[cZ,List.map_nil,List.append_nil]
        have RR:Hid (wr.ownsRow w3.heap.size 46 4 u6 (A++cZ B []).length (ak (A++cZ B []))∧Below w3.heap.size w3 wr) :=by show _∧_;rw[HR.out];exact⟨oM.out,bq.out⟩
        clear HR;have Hap:=aa hap;clear hap;go_wp2_with(at_builtin;refine Bq rfl _ _ 37 rfl u6 rfl rfl Hap.out ?_);go_meet;exact RR.out
       ·obtain⟨rfl,rfl⟩ :a9=some ⟨g9,0,none⟩∧c9=ae7:=by simpa using hv9
        have HOn:=aa jH.out.cellAt;go_wp2_with(at_builtin;refine wpList_append_own_at _ rfl _ _ 37 rfl w3.heap.size 46 i0 (.agg #[.string ⟨#[]⟩,.int .i64 0,.int .i64 0,.int .i64 0]) 4 40 Tryz.underlying37 hi0 hz0 hz1 hz2 rfl (by decide) _ _ _ rfl oM.out ⟨g9,0,none⟩ L.length c9 (ak (cZ B L)) rfl ?c0 ?c1 ?c2 ?c3 ?c4 ?c5 ?_);case c0=>rw[uw,Qv]
        case c1=>intro q u hq;have Li:q<(ak (cZ B L)).length:=(List.getElem?_eq_some_iff.1 hq).1;rw[uw,Qv]at Li;exact(HOn.out q Li).trans hq
        case c2=>exact XP _
        case c3=>unfold maxLen;omega
        case c4=>omega
        intro v' w6 hown' hgrow hne hat;have RR:Hid (w6.ownsRow w3.heap.size 46 4 v' (A++cZ B L).length (ak (A++cZ B L))∧Below w3.heap.size w3 w6) :=by refine⟨?_,bq.out.grown hgrow hxz (bW oM.out)⟩;rw[List.length_append,Qv,Ja];exact hown'
        clear hown' hgrow hne hat;go_wp2_with fail;go_meet;exact RR.out
      case rest=>
       obtain⟨hown6,hb6⟩ :=hcut;have lQ:=aa hown6;have fu:=aa hb6;have v6:wc.cell? ⟨VB,1,none⟩=some (.slice (some ⟨b,off,none⟩) tx.length ct) :=ah (aD tV.out hb6) 1;have q6:wc.cell? ⟨b,off+k,none⟩=some (.string (bs t)) :=(hb6.cell (p:=⟨b,off+k,none⟩) hbb).trans HQ3.out;clear hown6 hb6 oM jH bq;generalize A++cZ B L=A1 at*;go_wp2_with fail;refine(Vy.out _).mono ?_;rintro e w7⟨v7,rfl,fJ,iV⟩;obtain⟨a7,c7,rfl⟩ :=kr fJ;have jy:=aa (bJ lQ.out iV);have gF:=aa (fu.out.trans (iV.mono fu.out.size));clear fJ iV lQ fu v6 q6;dsimp only;go_wp2_with fail;go_roundw;case rel=>exact⟨k+1,by omega,by go_num,by rw[HE.out];go_num,by rw[HE.out];exact jy.out,gF.out⟩
       case measure=>simp[intOf];omega
  ·have hkz: ¬(k:Int)<(tx.length:Int) :=by omega
   have e:k=tx.length:=by omega
   subst e;go_wp2_with fail;go_ret;exact⟨_,rfl,kM HO.out HB3.out.size,HB.out⟩
theorem Qj(s:ByteArray)(w:World)(hs:s.size≤1048576) :Calls Tryz.prog 54 #[.string s] w fun e w'=>e= .returned (.bool (sI (ai s)))∧w'=w:=by
 have hll:=ay s;go_enter Tryz.func54,Tryz.ntmps54;go_wp2_with fail;go_loopw [3](fun i wr=>∃k:Nat,k≤s.size∧i= .int .i64 k∧((ai s).take k).all wJ=true∧wr=w)(fun i _=>s.size-(intOf i).toNat);case atStart=>exact⟨0,Nat.zero_le _,rfl,rfl,rfl⟩
 case round=>
  obtain⟨k,hk,rfl,hall,jU⟩ :=hrel;have kg:=jU.symm;subst kg;clear jU;have HA:=aa hall;clear hall;by_cases hlt:k<s.size
  ·have hkz:(k:Int)<(s.size:Int) :=by omega
   have hkl:k<(ai s).length:=by rw[ay];exact hlt
   have HG:=aa (qU s k hlt);obtain⟨z,hz⟩ : ∃z:Int,((s[k]'hlt).toNat:Int)=z:=⟨_,rfl⟩;have HZ:Hid (wJ ((ai s).getD k 0)=(decide (33≤z) &&decide (z≤126))) :=by show _=_;rw[wJ,←HG.out,hz]
   clear HG;by_cases h1:z<33
   ·have HR:Hid (sI (ai s)=false) :=by show _=_;rw[sI,yX wJ _ hkl (by rw[HZ.out,decide_eq_false (p:=(33:Int)≤z) (by omega)];rfl)];simp
    clear HZ;go_wp2_with fail;go_ret;rw[HR.out];exact⟨rfl,rfl⟩
   by_cases h2:z>126
   ·have HR:Hid (sI (ai s)=false) :=by show _=_;rw[sI,yX wJ _ hkl (by rw[HZ.out,decide_eq_false (p:=z≤126) (by omega)];simp)];simp
    clear HZ;go_wp2_with fail;go_ret;rw[HR.out];exact⟨rfl,rfl⟩
   have HN:Hid (((ai s).take (k+1)).all wJ=true) :=o9 _ _ hkl HA.out (by rw[HZ.out,decide_eq_true (p:=(33:Int)≤z) (by omega),decide_eq_true (p:=z≤126) (by omega)];rfl);clear HZ;go_wp2_with fail;go_roundw;case rel=>exact⟨k+1,by omega,by go_num,HN.out,by first|trivial|rfl⟩
   case measure=>simp[intOf];omega
  ·have hkz: ¬(k:Int)<(s.size:Int) :=by omega
   have HR:Hid (sI (ai s)=(decide (1≤s.size) &&decide (s.size≤30))) :=by show _=_;have:=HA.out;rw[List.take_of_length_le (by rw[ay];omega)]at this;rw[sI,this,hll,Bool.and_true]
   by_cases h1:1≤s.size
   ·by_cases h2:s.size≤30
    ·have z1:(1:Int)≤(s.size:Int) :=by omega
     have z2:(s.size:Int)≤30:=by omega
     rw[decide_eq_true h1,decide_eq_true h2]at HR;go_wp2_with fail;go_ret;rw[HR.out];exact⟨rfl,rfl⟩
    ·have z1:(1:Int)≤(s.size:Int) :=by omega
     have z2: ¬(s.size:Int)≤30:=by omega
     rw[decide_eq_true h1,decide_eq_false h2]at HR;go_wp2_with fail;go_ret;rw[HR.out];exact⟨rfl,rfl⟩
   ·have z1: ¬(1:Int)≤(s.size:Int) :=by omega
    rw[decide_eq_false h1,Bool.false_and]at HR;go_wp2_with fail;go_ret;rw[HR.out];exact⟨rfl,rfl⟩
theorem zU(a:Option Addr)(cap:Nat)(l:List Fd)(n:List UInt8)(w:World)(hn:l.length≤1048576)(hS:jK w a l) :Calls Tryz.prog 35 #[.agg #[.slice a l.length cap],.string (bs n)] w fun e w'=>e= .returned (.int .i64 (lG l n))∧Below w.heap.size w w':=by
 have HS:=aa hS;clear hS;have ax:=aa ((Below.refl w.heap.size w).alloc (Nat.le_refl _) (.cells #[.slice a l.length cap] 25));have HX:=aa (heap_alloc_new w (.cells #[.slice a l.length cap] 25));go_enter Tryz.func35,Tryz.ntmps35;go_wp2_with fail;obtain⟨wa,bN⟩ : ∃wa,w.alloc (.cells #[.slice a l.length cap] 25)=wa:=⟨_,rfl⟩;rw[bN]at ax HX;try rw[bN]
 clear bN;have x0:wa.cell? ⟨w.heap.size,0,none⟩=some (.slice a l.length cap) :=ah HX.out 0;go_loopw [5](fun i wr=>∃k:Nat,k≤l.length∧i= .int .i64 k∧(∀j,j<k→((l.getD j fd0).name==n)=false)∧wr=wa)(fun i _=>l.length-(intOf i).toNat);case atStart=>exact⟨0,Nat.zero_le _,rfl,fun j hj=>absurd hj (by omega),rfl⟩
 case round=>
  obtain⟨k,hk,rfl,hno,jU⟩ :=hrel;have kg:=jU.symm;subst kg;clear jU;have HN:=aa hno;clear hno;by_cases hlt:k<l.length
  ·have hkz:(k:Int)<(l.length:Int) :=by omega
   obtain⟨b,off,rfl,hbl,hc⟩ :=(HS.out.below ax.out).resolve_left (fun h=>by rw[h]at hlt;simp at hlt);have q0:=(hc k hlt).1;clear hc;obtain⟨f,hf⟩ : ∃f,(l.getD k fd0).name=f:=⟨_,rfl⟩;rw[hf]at q0;have HF:=aa hf;clear hf;cases hp:(f==n)with
   |false=>
    have sK:Hid (∀j,j<k+1→((l.getD j fd0).name==n)=false) :=fun j hj=>by
     by_cases h:j<k;·exact HN.out j h
     ·have:j=k:=by omega
      subst this;rw[HF.out];exact hp
    have hpb:((bs f).toList==(bs n).toList)=false:=by rw[eT,eT];exact hp
    clear hp;go_wp2_with fail;go_roundw;case rel=>exact⟨k+1,by omega,by go_num,sK.out,by first|trivial|rfl⟩
    case measure=>simp[intOf];omega
   |true=>
    have HR:Hid (lG l n=(k:Int)) :=by
     show _=_;have h2:dL l n=k:=by
      unfold dL;rw[List.findIdx_eq hlt];have e: ∀j(hj:j<l.length),l.getD j fd0=l[j] :=fun j hj=>by simp[hj]
      refine⟨by rw[←e k hlt,HF.out];exact hp,fun j hj=> ?_⟩;rw[←e j (by omega)];exact HN.out j hj
     rw[lG,h2,if_pos hlt]
    have hpb:((bs f).toList==(bs n).toList)=true:=by rw[eT,eT];exact hp
    clear hp;go_wp2_with fail;go_ret;rw[HR.out];exact⟨rfl,ax.out⟩
  ·have hkz: ¬(k:Int)<(l.length:Int) :=by omega
   have HR:Hid (lG l n= -1) :=by show _=_;rw[lG,if_neg];intro h;have:=HN.out (dL l n) (by omega);rw[uf h]at this;simp at this
   go_wp2_with fail;go_ret;rw[HR.out];exact⟨rfl,ax.out⟩
theorem FD(f:List UInt8)(at_ an:Option Addr)(ct cn:Nat)(tx:List (List UInt8))(nz:List Int)(w:World)(hxl:tx.length≤1048576)(hnl:nz.length≤1048576)(hZ:qD w an nz) :Calls Tryz.prog 55 #[.agg #[.string ⟨f.toArray⟩,.slice at_ tx.length ct,.slice an nz.length cn]] w fun e w'=>e= .returned (.bool (wZ (f,tx,nz)))∧Below w.heap.size w w':=by
 have HZ:=aa hZ;clear hZ;have ax:=aa ((Below.refl w.heap.size w).alloc (Nat.le_refl _) (.cells #[.string ⟨f.toArray⟩,.slice at_ tx.length ct,.slice an nz.length cn] 43));have HX:=aa (heap_alloc_new w (.cells #[.string ⟨f.toArray⟩,.slice at_ tx.length ct,.slice an nz.length cn] 43));obtain⟨R,hR⟩ : ∃R,wZ (f,tx,nz)=R:=⟨_,rfl⟩;rw[hR];rw[wZ]at hR;dsimp only at hR;have HR:=aa hR;clear hR;go_enter Tryz.func55,Tryz.ntmps55;by_cases h1:0<tx.length
 ·have z1:(0:Int)<(tx.length:Int) :=by omega
  rw[decide_eq_false (p:=tx.length=0) (by omega)]at HR;go_wp2_with fail;go_ret;rw[←HR.out];exact⟨by simp,ax.out⟩
 have z1: ¬(0:Int)<(tx.length:Int) :=by omega
 rw[decide_eq_true (p:=tx.length=0) (by omega)]at HR;by_cases h2:nz.length<1
 ·have z2:(nz.length:Int)<1:=by omega
  rw[decide_eq_false (p:=1≤nz.length) (by omega)]at HR;go_wp2_with fail;go_ret;rw[←HR.out];exact⟨by simp,ax.out⟩
 have z2: ¬(nz.length:Int)<1:=by omega
 rw[decide_eq_true (p:=1≤nz.length) (by omega)]at HR;by_cases h3:16<nz.length
 ·have z3:(16:Int)<(nz.length:Int) :=by omega
  rw[decide_eq_false (p:=nz.length≤16) (by omega)]at HR;go_wp2_with fail;go_ret;rw[←HR.out];exact⟨by simp,ax.out⟩
 have z3: ¬(16:Int)<(nz.length:Int) :=by omega
 rw[decide_eq_true (p:=nz.length≤16) (by omega)]at HR;go_wp2_with fail;obtain⟨wa,bN⟩ : ∃wa,w.alloc (.cells #[.string ⟨f.toArray⟩,.slice at_ tx.length ct,.slice an nz.length cn] 43)=wa:=⟨_,rfl⟩;rw[bN]at ax HX;try rw[bN]
 clear bN;have x2:wa.cell? ⟨w.heap.size,2,none⟩=some (.slice an nz.length cn) :=ah HX.out 2;go_loopw [3](fun i wr=>∃k:Nat,k≤nz.length∧i= .int .i64 k∧(nz.take k).all dU=true∧wr=wa)(fun i _=>nz.length-(intOf i).toNat);case atStart=>exact⟨0,Nat.zero_le _,rfl,rfl,rfl⟩
 case round=>
  obtain⟨k,hk,rfl,hall,jU⟩ :=hrel;have kg:=jU.symm;subst kg;clear jU;have HA:=aa hall;clear hall;by_cases hlt:k<nz.length
  ·have hkz:(k:Int)<(nz.length:Int) :=by omega
   obtain⟨b,off,rfl,hbl,hc⟩ :=(HZ.out.below ax.out).resolve_left (fun h=>by rw[h]at hlt;simp at hlt);have q0:=hc k hlt;clear hc;obtain⟨z,hz⟩ : ∃z,nz.getD k 0=z:=⟨_,rfl⟩;rw[hz]at q0;have Hz:=aa hz;clear hz;by_cases p1:z< -1000000000000;·have HO:Hid (nz.all dU=false) :=ou dU nz 0 hlt (by rw[Hz.out,dU];exact decide_eq_false (by omega));go_wp2_with fail;go_ret;rw[←HR.out,HO.out];exact⟨by simp,ax.out⟩
   by_cases p2:z>1000000000000;·have HO:Hid (nz.all dU=false) :=ou dU nz 0 hlt (by rw[Hz.out,dU];exact decide_eq_false (by omega));go_wp2_with fail;go_ret;rw[←HR.out,HO.out];exact⟨by simp,ax.out⟩
   have HA2:=aa (nW dU nz 0 hlt HA.out (by rw[Hz.out,dU];exact decide_eq_true (by omega)));go_wp2_with fail;go_roundw;case rel=>exact⟨k+1,by omega,by go_num,HA2.out,by first|trivial|rfl⟩
   case measure=>simp[intOf];omega
  ·have hkz: ¬(k:Int)<(nz.length:Int) :=by omega
   have um:Hid (nz.all dU=true) :=by show _=_;have:=HA.out;rwa [show k=nz.length by omega,List.take_length]at this
   go_wp2_with fail;go_ret;rw[←HR.out,um.out];exact⟨by simp,ax.out⟩
def uJ(t:List UInt8) :Bool:=decide (t.length≤4000)
theorem Qq {f:Fd} {t:List UInt8}(h2:f.kind=2) :iX f t=(decide (1≤t.length) &&decide (t.length≤64) &&bM (bs t)) :=by rw[iX,if_pos h2];rfl
theorem Jf(f:Fd)(aS aY:Option Addr)(cS cY:Nat)(fn:List UInt8)(at_ an:Option Addr)(ct cn:Nat)(tx:List (List UInt8))(nz:List Int)(w:World)(hkd:f.kind=1∨f.kind=2)(hz:kz f)(hS:bE w aS f.stops)(hY:dB w aY f.af)(hxl:tx.length≤1048576)(hnl:nz.length≤1048576)(hsz: ∀k,k<tx.length→(tx.getD k []).length≤1048576)(hT:gN w at_ tx) :Calls Tryz.prog 56 #[.agg #[.string (bs f.name),.int .i64 f.kind,.bool f.bf,.bool f.bA,.bool f.bp,.slice aS f.stops.length cS,.slice aY f.af.length cY,.int .i64 f.lo,.int .i64 f.hi],.agg #[.string ⟨fn.toArray⟩,.slice at_ tx.length ct,.slice an nz.length cn]] w fun e w'=>e= .returned (.bool (rM f (fn,tx,nz) &&tx.all uJ))∧Below w.heap.size w w':=by
 have HT:=aa hT;have FH:=aa hsz;clear hT hsz;have ax:=aa (((Below.refl w.heap.size w).alloc (Nat.le_refl _) (.cells #[.string (bs f.name),.int .i64 f.kind,.bool f.bf,.bool f.bA,.bool f.bp,.slice aS f.stops.length cS,.slice aY f.af.length cY,.int .i64 f.lo,.int .i64 f.hi] 75)).alloc (by simp) (.cells #[.string ⟨fn.toArray⟩,.slice at_ tx.length ct,.slice an nz.length cn] 43));have HX:=aa (gm w (.cells #[.string (bs f.name),.int .i64 f.kind,.bool f.bf,.bool f.bA,.bool f.bp,.slice aS f.stops.length cS,.slice aY f.af.length cY,.int .i64 f.lo,.int .i64 f.hi] 75) (.cells #[.string ⟨fn.toArray⟩,.slice at_ tx.length ct,.slice an nz.length cn] 43));have uo:Hid (∀t W,Below w.heap.size w W→t.length≤4000→Calls Tryz.prog 65 #[.agg #[.bool f.bf,.bool f.bA,.bool f.bp,.slice aS f.stops.length cS,.slice aY f.af.length cY,.int .i64 f.lo,.int .i64 f.hi],.string (bs t)] W fun e w'=>∃v,e= .returned (.tuple #[v,.int .i64 (xZ f t)])∧Below W.heap.size W w') :=fun t W hW ht=>(xC f.bf f.bA f.bp aS aY cS cY f.stops f.af f.lo f.hi (bs t) W (hS.below hW) (hY.below hW) hz.2.2.2.1 hz.2.2.2.2 hz.2.1 hz.2.2.1 (by rw[aK];omega) _ _ (aa (show _=((oU f.bf f.bA f.bp f.stops f.af f.lo f.hi (bs t)).1,(oU f.bf f.bA f.bp f.stops
    f.af f.lo f.hi (bs t)).2)from rfl))).mono fun e w' h=>by obtain⟨v,h1,_,h3⟩ :=h;exact⟨v,h1,h3⟩
 have Ml:Hid (∀t W,t.length≤4000→Calls Tryz.prog 78 #[.string (bs t)] W fun e w'=>∃v,e= .returned (.tuple #[v,.bool (bM (bs t))])∧Below W.heap.size W w') :=fun t W ht=>(nM (bs t) W (by rw[aK];omega)).mono fun e w' h=>by obtain⟨v,h1,_,h3⟩ :=h;exact⟨v,h1,h3⟩
 clear hS hY hz;obtain⟨R,hR⟩ : ∃R,(rM f (fn,tx,nz) &&tx.all uJ)=R:=⟨_,rfl⟩;rw[hR];rw[rM]at hR;dsimp only at hR;have HR:=aa hR;clear hR;go_enter Tryz.func56,Tryz.ntmps56;by_cases h1:0<nz.length
 ·have z1:(0:Int)<(nz.length:Int) :=by omega
  rw[decide_eq_false (p:=nz.length=0) (by omega)]at HR;go_wp2_with fail;go_ret;rw[←HR.out];exact⟨by simp,ax.out⟩
 have z1: ¬(0:Int)<(nz.length:Int) :=by omega
 rw[decide_eq_true (p:=nz.length=0) (by omega)]at HR;by_cases h2:tx.length<1
 ·have z2:(tx.length:Int)<1:=by omega
  rw[decide_eq_false (p:=1≤tx.length) (by omega)]at HR;go_wp2_with fail;go_ret;rw[←HR.out];exact⟨by simp,ax.out⟩
 have z2: ¬(tx.length:Int)<1:=by omega
 rw[decide_eq_true (p:=1≤tx.length) (by omega)]at HR;by_cases h3:16<tx.length
 ·have z3:(16:Int)<(tx.length:Int) :=by omega
  rw[decide_eq_false (p:=tx.length≤16) (by omega)]at HR;go_wp2_with fail;go_ret;rw[←HR.out];exact⟨by simp,ax.out⟩
 have z3: ¬(16:Int)<(tx.length:Int) :=by omega
 rw[decide_eq_true (p:=tx.length≤16) (by omega)]at HR;simp only[Bool.true_and]at HR;go_wp2_with fail;obtain⟨wa,bN⟩ : ∃wa,(w.alloc (.cells #[.string (bs f.name),.int .i64 f.kind,.bool f.bf,.bool f.bA,.bool f.bp,.slice aS f.stops.length cS,.slice aY f.af.length cY,.int .i64 f.lo,.int .i64 f.hi] 75)).alloc (.cells #[.string ⟨fn.toArray⟩,.slice at_ tx.length ct,.slice an nz.length cn] 43)=wa:=⟨_,rfl⟩;rw[bN]at ax HX;try rw[bN]
 clear bN;go_loopw [5](fun i wr=>∃k:Nat,k≤tx.length∧i= .int .i64 k∧(tx.take k).all (iX f)=true∧(tx.take k).all uJ=true∧Below wa.heap.size wa wr)(fun i _=>tx.length-(intOf i).toNat);case atStart=>exact⟨0,Nat.zero_le _,rfl,rfl,rfl,Below.refl _ _⟩
 case round=>
  obtain⟨k,hk,rfl,hall,hsh,hbel⟩ :=hrel;have HA:=aa hall;have Br:=aa hsh;have HB:=aa hbel;have mR:=aa (aD HX.out.1 hbel);have iw:=aa (aD HX.out.2 hbel);clear hall hsh hbel;have x1:wr.cell? ⟨w.heap.size+1,1,none⟩=some (.slice at_ tx.length ct) :=ah iw.out 1;by_cases hlt:k<tx.length
  ·have hkz:(k:Int)<(tx.length:Int) :=by omega
   obtain⟨b,off,rfl,hbl,hc⟩ :=((HT.out.below ax.out).below HB.out).resolve_left (fun h=>by rw[h]at hlt;simp at hlt);have q0:wr.cell? ⟨b,off+k,none⟩=some (.string (bs (tx.getD k []))) :=hc k hlt;have Cc:=FH.out k hlt;clear hc;have fB:Hid (iX f (tx.getD k [])=false∨uJ (tx.getD k [])=false→R=false) :=fun h=>by
    rw[←HR.out];rcases h with h|h;·rw[ou (iX f) tx [] hlt h,Bool.false_and]
    ·rw[ou uJ tx [] hlt h,Bool.and_false]
   have Ee:Hid (iX f (tx.getD k [])=true→uJ (tx.getD k [])=true→(tx.take (k+1)).all (iX f)=true∧(tx.take (k+1)).all uJ=true) :=fun h h'=>⟨nW (iX f) tx [] hlt HA.out h,nW uJ tx [] hlt Br.out h'⟩;generalize tx.getD k []=t at*;have hfl:(bs t).size=t.length:=aK t;by_cases hlong:4000<t.length
   ·have zl:(4000:Int)<(t.length:Int) :=by omega
    have HE:Hid (R=false) :=fB.out (Or.inr (by rw[uJ];exact decide_eq_false (by omega)));go_wp2_with fail;go_ret;rw[HE.out];exact⟨rfl,ax.out.trans (HB.out.mono ax.out.size)⟩
   ·have zl: ¬(4000:Int)<(t.length:Int) :=by omega
    have aaS:uJ t=true:=by rw[uJ];exact decide_eq_true (by omega)
    go_wp2_with fail;refine(Ml.out t _ (by omega)).mono ?_;rintro e w2⟨v2,rfl,hb2⟩;have HB2:=aa (HB.out.trans (hb2.mono HB.out.size));have Bb:=aa (aD mR.out hb2);clear hb2 q0 x1;have y1:w2.cell? ⟨w.heap.size,1,none⟩=some (.int .i64 f.kind) :=ah Bb.out 1;dsimp only;cases hv:bM (bs t)with
    |false=>
     have HE:Hid (R=false) :=fB.out (Or.inl (by
      cases ht:iX f t with
      |false=>rfl
      |true=>rw[MP ht]at hv;cases hv));clear hv;go_wp2_with fail;go_ret;rw[HE.out];exact⟨rfl,ax.out.trans (HB2.out.mono ax.out.size)⟩
    |true=>
     rcases hkd with hk1|hk2
     ·have hn2: ¬f.kind=2:=by omega
      have y2:w2.cell? ⟨w.heap.size,2,none⟩=some (.bool f.bf) :=ah Bb.out 2;have y3:w2.cell? ⟨w.heap.size,3,none⟩=some (.bool f.bA) :=ah Bb.out 3;have y4:w2.cell? ⟨w.heap.size,4,none⟩=some (.bool f.bp) :=ah Bb.out 4;have y5:w2.cell? ⟨w.heap.size,5,none⟩=some (.slice aS f.stops.length cS) :=ah Bb.out 5;have y6:w2.cell? ⟨w.heap.size,6,none⟩=some (.slice aY f.af.length cY) :=ah Bb.out 6;have y7:w2.cell? ⟨w.heap.size,7,none⟩=some (.int .i64 f.lo) :=ah Bb.out 7;have y8:w2.cell? ⟨w.heap.size,8,none⟩=some (.int .i64 f.hi) :=ah Bb.out 8;have Ki:Hid (iX f t=decide (xZ f t=0)) :=by show _=_;rw[iX,if_neg hn2]
      have D7:=aa (uo.out t w2 (ax.out.trans (HB2.out.mono ax.out.size)) (by omega));generalize xZ f t=C at*;clear hv;go_wp2_with fail;refine D7.out.mono ?_;rintro e w3⟨v3,rfl,hb3⟩;have HB3:=aa (HB2.out.trans (hb3.mono HB2.out.size));clear hb3;dsimp only;by_cases hC:C=0
      ·obtain⟨hy1,hy2⟩ :=Ee.out (by rw[Ki.out];exact decide_eq_true hC) aaS;have FV:=aa hy1;have Fp:=aa hy2;clear hy1 hy2;subst hC;go_wp2_with fail;go_roundw;case rel=>exact⟨k+1,by omega,by go_num,FV.out,Fp.out,HB3.out⟩
       case measure=>simp[intOf];omega
      ·have HE:Hid (R=false) :=fB.out (Or.inl (by rw[Ki.out];exact decide_eq_false hC));go_wp2_with fail;go_ret;rw[HE.out];exact⟨rfl,ax.out.trans (HB3.out.mono ax.out.size)⟩
     ·have Ki:=aa (Qq (t:=t) hk2);rw[hv]at Ki;clear hv;by_cases hl1:t.length<1
      ·have zl1:(t.length:Int)<1:=by omega
       have HE:Hid (R=false) :=fB.out (Or.inl (by rw[Ki.out,decide_eq_false (p:=1≤t.length) (by omega)];rfl));go_wp2_with fail;go_ret;rw[HE.out];exact⟨rfl,ax.out.trans (HB2.out.mono ax.out.size)⟩
      have zl1: ¬(t.length:Int)<1:=by omega
      by_cases hl2:64<t.length
      ·have zl2:(64:Int)<(t.length:Int) :=by omega
       have HE:Hid (R=false) :=fB.out (Or.inl (by rw[Ki.out,decide_eq_false (p:=t.length≤64) (by omega)];simp));go_wp2_with fail;go_ret;rw[HE.out];exact⟨rfl,ax.out.trans (HB2.out.mono ax.out.size)⟩
      have zl2: ¬(64:Int)<(t.length:Int) :=by omega
      obtain⟨hy1,hy2⟩ :=Ee.out (by rw[Ki.out,decide_eq_true (p:=1≤t.length) (by omega),decide_eq_true (p:=t.length≤64) (by omega)];rfl) aaS;have FV:=aa hy1;have Fp:=aa hy2;clear hy1 hy2;go_wp2_with fail;go_roundw;case rel=>exact⟨k+1,by omega,by go_num,FV.out,Fp.out,HB2.out⟩
      case measure=>simp[intOf];omega
  ·have hkz: ¬(k:Int)<(tx.length:Int) :=by omega
   have HE:Hid (R=true) :=by show _=_;have e1:=HA.out;have e2:=Br.out;rw[show k=tx.length by omega,List.take_length]at e1 e2;rw[←HR.out,e1,e2];rfl
   go_wp2_with fail;go_ret;rw[HE.out];exact⟨rfl,ax.out.trans (HB.out.mono ax.out.size)⟩
end Go.Proofs.YtcjiphknpagenaaGreatDoor
