import Derived.Test.YtcjiphknpagenaaGreatDoorDocsJ21
namespace Go.Proofs.YtcjiphknpagenaaGreatDoor
open Go Go.RowKit
set_option linter.unusedVariables false
set_option linter.unusedSimpArgs false
set_option maxRecDepth 100000
set_option maxHeartbeats 8000000
theorem Vf(W:World)(ρ:Operand→Value)(o:Oper)(x:Operand)(ho:o.op= .move x)(v:Value)(hx:ρ x=v) :(execOp ρ o).run Tryz.prog W= .ok (.value v) W:=by unfold execOp;simp only[ho,Sem.run_pure,hx]
theorem Dg(W:World)(ρ:Operand→Value)(o:Oper)(x:Operand)(ho:o.op= .assign x)(v:Value)(hx:ρ x=v) :(execOp ρ o).run Tryz.prog W= .ok (.value v) W:=by unfold execOp;simp only[ho,Sem.run_pure,hx]
theorem PI(W:World)(a:Act)(o:Oper)(f:FuncId)(x:Operand)(t:TypeId)(ho:o.op= .call {callee:= .value (.func f),args:=#[x],argTypes:=#[t]})(v:Value)(hx:a.eval x=v)(hf:(callFunc f #[v]).run Tryz.prog W= .ok (.enter f #[v]) W) :(execOp a.eval o).run Tryz.prog W= .ok (.enter f #[v]) W:=by have hfn:a.eval (.func f)= .func (.func f) #[] #[] :=rfl;unfold execOp;simp[ho,resolve,invoke,Deferred.ofValue,hfn,hx,hf]
theorem QN(W:World)(a:Act)(o:Oper)(f:FuncId)(x y:Operand)(t u:TypeId)(ho:o.op= .call {callee:= .value (.func f),args:=#[x,y],argTypes:=#[t,u]})(v z:Value)(hx:a.eval x=v)(hy:a.eval y=z)(hf:(callFunc f #[v,z]).run Tryz.prog W= .ok (.enter f #[v,z]) W) :(execOp a.eval o).run Tryz.prog W= .ok (.enter f #[v,z]) W:=by have hfn:a.eval (.func f)= .func (.func f) #[] #[] :=rfl;unfold execOp;simp[ho,resolve,invoke,Deferred.ofValue,hfn,hx,hy,hf]
section
variable {ops:Array Oper} {Q:Exit→Act→World→Prop} {K:Act→World→Prop} {a:Act} {w:World}
theorem FR {i:Nat} {o:Oper}(f:FuncId)(args:Array Value)(hi:ops[i]?=some o)(hw:Region.wanted o (yielded ops a.tmps)=true)(ho:(execOp a.eval o).run Tryz.prog w= .ok (.enter f args) w)(h:Calls Tryz.prog f args w fun e w'=>match e,w' with
 | .returned v,w''=>K (a.put o.dst v) w''
 | .panicked c,w''=>Q (.panic c) a w''
 | .outgrown,_=>LetsOut Q) :wpOp Tryz.prog ops Q i K a w:=by unfold wpOp;simp only[hi,hw,if_true,Oper.wp,ho,Oper.upon];exact .inl h
theorem xq {i:Nat} {o:Oper}(v:Value)(w':World)(hi:ops[i]?=some o)(hw:Region.wanted o (yielded ops a.tmps)=true)(ho:(execOp a.eval o).run Tryz.prog w= .ok (.value v) w')(h:K (a.put o.dst v) w') :wpOp Tryz.prog ops Q i K a w:=by unfold wpOp;simp only[hi,hw,if_true,Oper.wp,ho,Oper.upon];exact .inl h
theorem Lm {i:Nat} {o:Oper}(hi:ops[i]?=some o)(hw:Region.wanted o (yielded ops a.tmps)=true)(h:o.wp Tryz.prog a w K Q) :wpOp Tryz.prog ops Q i K a w:=by unfold wpOp;simp only[hi,hw,if_true];exact .inl h
theorem kG {md:Region.Mode} {S:World→Prop}(i:Nat) {fuel:Nat} {listed:Array Bool}(hr:Region.ready md ops listed= [i])(h:wpOp Tryz.prog ops Q i (fun a' w'=>S w'∧wpAnyH Tryz.prog md ops Q S fuel (listed.setIfInBounds i true) a' w') a w) :wpAnyH Tryz.prog md ops Q S (fuel+1) listed a w:=wpAnyH_all hr (by simp) (fun j hj=>by
 have e:j=i:=by simpa using hj
 subst e;exact h)
end
theorem L6(W:World)(ρ:Operand→Value)(o:Oper)(x:Operand)(ho:o.op= .load 46 x)(b off:Nat)(u0 u1 u2 u3:Value)(hx:ρ x= .pointer (some ⟨b,off,none⟩))(h0:W.cell? ⟨b,off,none⟩=some u0)(h1:W.cell? ⟨b,off+1,none⟩=some u1)(h2:W.cell? ⟨b,off+2,none⟩=some u2)(h3:W.cell? ⟨b,off+3,none⟩=some u3) :(execOp ρ o).run Tryz.prog W= .ok (.value (.agg #[u0,u1,u2,u3])) W:=by unfold execOp;simp only[ho,Instr.loadAt,Instr.sureAddr,hx,Sem.run_bind,Sem.run_pure,Result.andThen_ok];go_simp
theorem I6(W:World)(ρ:Operand→Value)(o:Oper)(x:Operand)(ho:o.op= .load 9 x)(b off:Nat)(t:ByteArray)(hx:ρ x= .pointer (some ⟨b,off,none⟩))(h0:W.cell? ⟨b,off,none⟩=some (.string t)) :(execOp ρ o).run Tryz.prog W= .ok (.value (.string t)) W:=by unfold execOp;simp only[ho,Instr.loadAt,Instr.sureAddr,hx,Sem.run_bind,Sem.run_pure,Result.andThen_ok];go_simp
theorem Py(W:World)(ρ:Operand→Value)(o:Oper)(x:Operand)(ho:o.op= .fieldAddr 114 x 1)(b:Nat)(hx:ρ x= .pointer (some ⟨b,0,none⟩)) :(execOp ρ o).run Tryz.prog W= .ok (.value (.pointer (some ⟨b,1,none⟩))) W:=by unfold execOp;simp only[ho,hx,Sem.run_bind,Sem.run_pure,Result.andThen_ok];go_simp
theorem FB(W:World)(ρ:Operand→Value)(o:Oper)(x:Operand)(ho:o.op= .buildSlice 37 1 #[(0,x)])(u0 u1 u2 u3:Value)(hx:ρ x= .agg #[u0,u1,u2,u3]) :(execOp ρ o).run Tryz.prog W= .ok (.value (.slice (some ⟨W.heap.size,0,none⟩) 1 1)) (W.alloc (.cells #[u0,u1,u2,u3] 46)) :=by unfold execOp;simp only[ho,hx,Sem.run_bind,Sem.run_pure,Result.andThen_ok];go_simp
def fM(af:List (List UInt8×List UInt8))(l:List Tk) :List Tk:=l.flatMap fun k=>aG k (bB af k.1)
theorem JV(af:List (List UInt8×List UInt8))(l:List Tk)(k:Nat)(h:k<l.length) :fM af (l.take (k+1))=fM af (l.take k)++aG (l.getD k bS) (bB af (l.getD k bS).1) :=by rw[fM,List.take_succ_eq_append_getElem h,List.flatMap_append,List.getD_eq_getElem?_getD,List.getElem?_eq_getElem h];simp[fM]
theorem Nn(fo st ph:Bool)(aS aY aT:Option Addr)(cS cY cT nS:Nat)(af:List (List UInt8×List UInt8))(lo hi:Int)(l:List Tk)(w:World)(hY:dB w aY af)(hT:jr w aT l)(hn:l.length≤8192)(Al:af.length≤64)(zY: ∀k,k<af.length→(af.getD k ([],[])).2.length≤64) :Calls Tryz.prog 121 #[.agg #[.bool fo,.bool st,.bool ph,.slice aS nS cS,.slice aY af.length cY,.int .i64 lo,.int .i64 hi],.slice aT l.length cT] w fun e w'=>∃v,e= .returned (.tuple #[v,.int .i64 0])∧w'.ownsRow w.heap.size 46 4 v (fM af l).length (ak (fM af l))∧Below w.heap.size w w':=by
 obtain⟨i0,hi0,hz0,hz1,hz2⟩ :=info_parts Tryz.infoTok;have HY:=aa hY;have HT:=aa hT;clear hY hT;go_enter Tryz.func121,Tryz.ntmps121;have ax:Hid (Below w.heap.size w (w.alloc (.cells #[.bool fo,.bool st,.bool ph,.slice aS nS cS,.slice aY af.length cY,.int .i64 lo,.int .i64 hi] 73))) :=(Below.refl _ _).alloc (Nat.le_refl _) _;have hblk:(w.alloc (.cells #[.bool fo,.bool st,.bool ph,.slice aS nS cS,.slice aY af.length cY,.int .i64 lo,.int .i64 hi] 73)).heap[w.heap.size]?=some (.cells #[.bool fo,.bool st,.bool ph,.slice aS nS cS,.slice aY af.length cY,.int .i64 lo,.int .i64 hi] 73) :=heap_alloc_new _ _;have fe:=aa hblk;clear hblk;go_wp2_with fail;have uB:=aa (HY.out.below ax.out);have zW:=aa (HT.out.below ax.out);generalize w.alloc (.cells #[.bool fo,.bool st,.bool ph,.slice aS nS cS,.slice aY af.length cY,.int .i64 lo,.int .i64 hi] 73)=wa at*
 generalize hB:w.heap.size=B at*;have hza:=ax.out.size;clear HY HT;go_loopw [6,13](fun v i wx=>∃k:Nat,k≤l.length∧i= .int .i64 k∧wx.ownsRow wa.heap.size 46 4 v (fM af (l.take k)).length (ak (fM af (l.take k)))∧(fM af (l.take k)).length≤k*65∧Below wa.heap.size wa wx)(fun _ i _=>l.length-(intOf i).toNat);case atStart=>exact⟨0,by omega,rfl,World.ownsRow_nil _ _ _ _,by simp[fM],Below.refl _ _⟩
 case round=>
  obtain⟨k,hk,rfl,hown,hal,hbx⟩ :=hrel;have HO:=aa hown;have bq:=aa hbx;have rY:=aa (aD fe.out hbx);have YB:=aa (uB.out.below hbx);have gP:=aa (zW.out.below hbx);have hwx:=hbx.size;clear hown hbx;by_cases hlt:k<l.length
  ·have jk:=aa (JV af l k hlt);obtain⟨b,off,rfl,hbl,hc⟩ :=gP.out.resolve_left (fun h=>by rw[h]at hlt;simp at hlt);obtain⟨t0,t1,t2,t3⟩ :=hc k hlt;clear hc;obtain⟨tk,htk⟩ : ∃tk,l.getD k bS=tk:=⟨_,rfl⟩;rw[htk]at t0 t1 t2 t3 jk;clear htk;obtain⟨tx,p0,p1,p2⟩ :=tk;dsimp only at t0 t1 t2 t3 jk;generalize fM af (l.take k)=A at*;have q4:wr.cell? ⟨B,4,none⟩=some (.slice aY af.length cY) :=ah rY.out 4;go_upto_region 6 with(at_builtin;refine wpList_append_own_at _ rfl _ _ 37 rfl wa.heap.size 46 i0 (.agg #[.string ⟨#[]⟩,.int .i64 0,.int .i64 0,.int .i64 0]) 4 40 Tryz.underlying37 hi0 hz0 hz1 hz2 rfl (by decide) _ _ _ rfl ((HO.out.alloc _).alloc _) ⟨wr.heap.size+1,0,none⟩ 1 1 [.string (bs tx),.int .i64 p0,.int .i64 p1,.int .i64 p2] rfl rfl ?c1 ?c2 ?c3 ?c4 ?c5 ?_);case c1=>
    intro q u hq;match q,hq with
    |0,hq=>simp at hq;subst hq;simp[Addr.add]
    |1,hq=>simp at hq;subst hq;simp[Addr.add]
    |2,hq=>simp at hq;subst hq;simp[Addr.add]
    |3,hq=>simp at hq;subst hq;simp[Addr.add]
    |q+4,hq=>simp at hq
   case c2=>intro u hu;simp at hu;rcases hu with rfl|rfl|rfl|rfl<;>rfl
   case c3=>unfold maxLen;omega
   case c4=>omega
   case c5=>simp;omega
   intro v' w6 hown' hgrow hne hat;have hnb:some wr.heap.size≠v'.ownBlock:=by
    rcases hat with h|h;·rw[h];exact sQ HO.out (a:=some ⟨wr.heap.size,0,none⟩) (fun b off e=>by cases e;exact Nat.le_refl _) _ _ rfl
    ·rw[h];intro e;have:=Option.some.inj e;first|omega| (simp at this)
   have gZ:w6.heap[wr.heap.size]?=some (.cells #[.string (bs tx),.int .i64 p0,.int .i64 p1,.int .i64 p2] 46) :=by rw[hgrow.block wr.heap.size (by simp<;>omega) (sQ HO.out (a:=some ⟨wr.heap.size,0,none⟩) (fun b off e=>by cases e;exact Nat.le_refl _) _ _ rfl)];rw[Below.heap_alloc _ _ _ (by simp<;>omega)];exact heap_alloc_new _ _
   have RR:Hid (w6.ownsRow wa.heap.size 46 4 v' (A++ [(tx,p0,p1,p2)]).length (ak (A++ [(tx,p0,p1,p2)]))∧Below wa.heap.size wa w6) :=by refine⟨?_,((bq.out.alloc hwx _).alloc (by simp;omega) _).grown hgrow (by simp;omega) (bW HO.out)⟩;rw[cK,List.length_append];exact hown'
   have Hnb:=aa hnb;have Gl:=aa gZ;clear hown' hgrow hne hat hnb gZ t0 t1 t2 t3 q4;have q4:w6.cell? ⟨B,4,none⟩=some (.slice aY af.length cY) :=ah (aD fe.out RR.out.2) 4;go_wp2_with fail;generalize hTB:wr.heap.size=TB at*;go_loopw [6,24](fun v i wx=>∃j:Nat,j≤af.length∧i= .int .i64 j∧wx.ownsRow wa.heap.size 46 4 v (A++aG (tx,p0,p1,p2) (bB (af.take j) tx)).length (ak (A++aG (tx,p0,p1,p2) (bB (af.take j) tx)))∧wx.heap[TB]?=some (.cells #[.string (bs tx),.int .i64 p0,.int .i64 p1,.int .i64 p2] 46)∧some TB≠v.ownBlock∧Below wa.heap.size wa wx)(fun _ i _=>af.length-(intOf i).toNat);case atStart=>exact⟨0,by omega,rfl,RR.out.1,Gl.out,Hnb.out,RR.out.2⟩
   case round=>
    obtain⟨j,hj,rfl,hown,gZ,hnb,hby⟩ :=hrel;have iF:=aa hown;have um:=aa gZ;have ni:=aa hnb;have jX:=aa hby;have hlr:=pF (af.take j) tx;rw[List.length_take]at hlr;have har:(A++aG (tx,p0,p1,p2) (bB (af.take j) tx)).length≤k*65+65:=by rw[List.length_append,kK,bB,List.length_cons];omega
    clear hown gZ hnb hby RR Gl Hnb q4 HO bq rY YB gP;by_cases hjl:j<af.length
    ·obtain⟨b2,off2,rfl,Gu,hc2⟩ :=uB.out.resolve_left (fun h=>by rw[h]at hjl;simp at hjl);have g1:=(jX.out.cell (p:=⟨b2,off2+j*2,none⟩) Gu).trans (hc2 j hjl).1;have g2:=(jX.out.cell (p:=⟨b2,off2+j*2+1,none⟩) Gu).trans (hc2 j hjl).2;have Av:=aa (C9 af j tx hjl);have HE:=aa (Gb (af.getD j ([],[])).1 tx);have huz:=zY j hjl;clear hc2;generalize(af.getD j ([],[])).1=f at*;generalize(af.getD j ([],[])).2=u at*;have Bc:Hid (Below wr.heap.size wr (wr.alloc (.cells #[.string (bs f),.string (bs u)] 114))) :=(Below.refl _ _).alloc (Nat.le_refl _) _;have wW:=aa (aD um.out Bc.out);have e0:(wr.alloc (.cells #[.string (bs f),.string (bs u)] 114)).cell? ⟨TB,0,none⟩=some (.string (bs tx)) :=ah wW.out 0;have hwr:=jX.out.size;go_upto_block 3 with fail;go_cut [6](fun c wy=>wy.ownsRow wa.heap.size 46 4 c (A++aG (tx,p0,p1,p2) (bB (af.take (j+1)) tx)).length (ak (A++aG (tx,p0,p1,p2) (bB (af.take (j+1)) tx)))∧wy.heap[TB]?=some (.cells #[.string (bs tx),.int .i64 p0,.int .i64 p1,.int .i64 p2] 46)∧some TB≠c.ownBlock∧Below wa.heap.size wa wy)
     case first=>
      cases hf:(f==tx)
      ·have he:((bs f).toList==(bs tx).toList)=false:=by rw[HE.out];exact hf
       have HR:Hid (bB (af.take (j+1)) tx=bB (af.take j) tx) :=by show _=_;rw[bB,Av.out,hf];rfl
       clear HE hf Av;go_wp2_with fail;go_meet;case rel=>rw[HR.out];exact⟨iF.out.alloc _,wW.out,ni.out,jX.out.alloc hwr _⟩
      ·have he:((bs f).toList==(bs tx).toList)=true:=by rw[HE.out];exact hf
       have HR:Hid (A++aG (tx,p0,p1,p2) (bB (af.take (j+1)) tx)=(A++aG (tx,p0,p1,p2) (bB (af.take j) tx))++ [(u,p0,p1,p2)]) :=by show _=_;rw[bB,Av.out,hf,if_pos rfl,←List.cons_append,←bB,aG,List.map_append,List.append_assoc];rfl
       clear HE hf Av;go_upto_region 10 with fail;have hsb:(wr.alloc (.cells #[.string (bs f),.string (bs u)] 114)).heap[wr.heap.size]?=some (.cells #[.string (bs f),.string (bs u)] 114) :=heap_alloc_new _ _;have jk:Hid (some wr.heap.size≠u6.ownBlock) :=sQ iF.out (a:=some ⟨wr.heap.size,0,none⟩) (fun b off e=>by cases e;exact Nat.le_refl _) _ _ rfl;have agr:=aa (iF.out.alloc (.cells #[.string (bs f),.string (bs u)] 114));have V7:=aa (jX.out.alloc hwr (.cells #[.string (bs f),.string (bs u)] 114));generalize hSB:wr.heap.size=SB at*;generalize wr.alloc (.cells #[.string (bs f),.string (bs u)] 114)=w8 at*;clear e0 iF jX um g1 g2;have e0:w8.cell? ⟨TB,0,none⟩=some (.string (bs tx)) :=ah wW.out 0;have e1:w8.cell? ⟨TB,1,none⟩=some (.int .i64 p0) :=ah wW.out 1;have e2:w8.cell? ⟨TB,2,none⟩=some (.int .i64 p1) :=ah wW.out 2;have e3:w8.cell? ⟨TB,3,none⟩=some (.int .i64 p2) :=ah wW.out 3
       have s1:w8.cell? ⟨SB,1,none⟩=some (.string (bs u)) :=ah hsb 1;have afQ:=aa hsb;clear e0 e1 e2 e3 s1 hsb;have j5:Hid (∀W,Below w8.heap.size w8 W→(W.heap[TB]?=some (.cells #[.string (bs tx),.int .i64 p0,.int .i64 p1,.int .i64 p2] 46)∧W.heap[SB]?=some (.cells #[.string (bs f),.string (bs u)] 114))) :=fun W hW=>⟨aD wW.out hW,aD afQ.out hW⟩;have hB1:Below w8.heap.size w8 w8.drew:=below_drewN (Below.refl _ w8) 1;refine wp_region_held (S:=fun W'=>W'.heap[TB]?=some (.cells #[.string (bs tx),.int .i64 p0,.int .i64 p1,.int .i64 p2] 46)∧W'.heap[SB]?=some (.cells #[.string (bs f),.string (bs u)] 114)) (by kernel_rfl) ?_;try simp only[Act.put,List.getElem_toArray,List.getElem_cons_succ,List.getElem_cons_zero,List.setIfInBounds_toArray,List.set_cons_zero,List.set_cons_succ]
       refine wpAnyH_take (i:=0) (v:=u6) rfl (by kernel_rfl) (by kernel_rfl) (by kernel_rfl) (fun _ _ _ h=>h) (Or.inl ⟨by kernel_rfl,fun W hW=>Vf W _ _ _ rfl _ (by kernel_rfl)⟩) (j5.out _ hB1) ?_;try simp only[Act.put,List.getElem_toArray,List.getElem_cons_succ,List.getElem_cons_zero,List.setIfInBounds_toArray,List.set_cons_zero,List.set_cons_succ]
       refine wpAnyH_take (i:=1) (v:= .agg #[.string (bs tx),.int .i64 p0,.int .i64 p1,.int .i64 p2]) rfl (by kernel_rfl) (by kernel_rfl) (by kernel_rfl) (fun _ _ _ h=>h) (Or.inl ⟨by kernel_rfl,fun W hW=>L6 W _ _ _ rfl TB 0 _ _ _ _ (by kernel_rfl) (ah hW.1 0) (ah hW.1 1) (ah hW.1 2) (ah hW.1 3)⟩) (j5.out _ hB1) ?_;try simp only[Act.put,List.getElem_toArray,List.getElem_cons_succ,List.getElem_cons_zero,List.setIfInBounds_toArray,List.set_cons_zero,List.set_cons_succ]
       refine wpAnyH_take (i:=2) (v:= .pointer (some ⟨SB,1,none⟩)) rfl (by kernel_rfl) (by kernel_rfl) (by kernel_rfl) (fun _ _ _ h=>h) (Or.inl ⟨by kernel_rfl,fun W hW=>Py W _ _ _ rfl SB (by kernel_rfl)⟩) (j5.out _ hB1) ?_;try simp only[Act.put,List.getElem_toArray,List.getElem_cons_succ,List.getElem_cons_zero,List.setIfInBounds_toArray,List.set_cons_zero,List.set_cons_succ]
       refine wpAnyH_take (i:=3) (v:= .string (bs u)) rfl (by kernel_rfl) (by kernel_rfl) (by kernel_rfl) (fun _ _ _ h=>h) (Or.inl ⟨by kernel_rfl,fun W hW=>I6 W _ _ _ rfl SB 1 _ (by kernel_rfl) (ah hW.2 1)⟩) (j5.out _ hB1) ?_;try simp only[Act.put,List.getElem_toArray,List.getElem_cons_succ,List.getElem_cons_zero,List.setIfInBounds_toArray,List.set_cons_zero,List.set_cons_succ]
       refine kG 4 (by kernel_rfl) ?_;refine FR 83 #[.string (bs u)] rfl (by kernel_rfl) (PI _ _ _ _ _ _ rfl _ (by kernel_rfl) (Tryz.call83 _ _)) ?_;refine(nH (bs u) _ (by rw[aK];omega)).mono ?_;rintro e' w9⟨rfl,dm⟩;have Yp:Below w8.heap.size w8 w9:=hB1.trans (dm.mono hB1.size);refine⟨j5.out _ Yp,?_⟩;try simp only[Act.put,List.getElem_toArray,List.getElem_cons_succ,List.getElem_cons_zero,List.setIfInBounds_toArray,List.set_cons_zero,List.set_cons_succ]
       refine kG 5 (by kernel_rfl) ?_;refine FR 104 #[.agg #[.string (bs tx),.int .i64 p0,.int .i64 p1,.int .i64 p2],.string (bs u)] rfl (by kernel_rfl) (QN _ _ _ _ _ _ _ _ rfl _ _ (by kernel_rfl) (by kernel_rfl) (Tryz.call104 _ _)) ?_;refine(yM (bs tx) (bs u) p0 p1 p2 _).mono ?_;rintro e' lK⟨rfl,Co⟩;have Gs:Below w8.heap.size w8 lK:=Yp.trans (Co.mono Yp.size);refine⟨j5.out _ Gs,?_⟩;try simp only[Act.put,List.getElem_toArray,List.getElem_cons_succ,List.getElem_cons_zero,List.setIfInBounds_toArray,List.set_cons_zero,List.set_cons_succ]
       refine kG 6 (by kernel_rfl) ?_;refine xq (.slice (some ⟨lK.heap.size,0,none⟩) 1 1) (lK.alloc (.cells #[.string (bs u),.int .i64 p0,.int .i64 p1,.int .i64 p2] 46)) rfl (by kernel_rfl) (FB _ _ _ _ rfl _ _ _ _ (by kernel_rfl)) ?_;have oJ:=Gs.alloc Gs.size (.cells #[.string (bs u),.int .i64 p0,.int .i64 p1,.int .i64 p2] 46);refine⟨j5.out _ oJ,?_⟩;try simp only[Act.put,List.getElem_toArray,List.getElem_cons_succ,List.getElem_cons_zero,List.setIfInBounds_toArray,List.set_cons_zero,List.set_cons_succ]
       refine kG 7 (by kernel_rfl) ?_;have uY:=(bJ (bJ agr.out Gs) ((Below.refl _ lK).alloc (Nat.le_refl _) (.cells #[.string (bs u),.int .i64 p0,.int .i64 p1,.int .i64 p2] 46)));refine Lm rfl (by kernel_rfl) (wp_append_lies _ (.tmp 33) (.tmp 39) 37 rfl wa.heap.size 46 i0 (.agg #[.string ⟨#[]⟩,.int .i64 0,.int .i64 0,.int .i64 0]) 4 40 Tryz.underlying37 hi0 hz0 hz1 hz2 rfl (by decide) u6 _ _ (by kernel_rfl) uY ⟨lK.heap.size,0,none⟩ 1 1 [.string (bs u),.int .i64 p0,.int .i64 p1,.int .i64 p2] (by kernel_rfl) rfl (World.news_of_block (heap_alloc_new lK _)) (by intro v hv;simp at hv;rcases hv with rfl|rfl|rfl|rfl<;>rfl) (by omega) (by unfold maxLen;omega) (by omega) (by have:=Gs.size;have:=V7.out.size;simp;omega) _ rfl ?_);intro g6 bL zT Cu pI JI PV;have aaO:TB<(lK.alloc (.cells #[.string (bs u),.int .i64 p0,.int .i64 p1,.int .i64 p2] 46)).heap.size:=(Array.getElem?_eq_some_iff.1 (j5.out _ oJ).1).1
       have abE:SB<(lK.alloc (.cells #[.string (bs u),.int .i64 p0,.int .i64 p1,.int .i64 p2] 46)).heap.size:=(Array.getElem?_eq_some_iff.1 (j5.out _ oJ).2).1;have QO:=(pI.block TB aaO ni.out).trans (j5.out _ oJ).1;have WU:=(pI.block SB abE jk.out).trans (j5.out _ oJ).2;refine⟨⟨QO,WU⟩,?_⟩;try simp only[Act.put,List.getElem_toArray,List.getElem_cons_succ,List.getElem_cons_zero,List.setIfInBounds_toArray,List.set_cons_zero,List.set_cons_succ]
       refine kG 8 (by kernel_rfl) ?_;refine xq (.slice (some ⟨g6,0,none⟩) ((A++aG (tx,p0,p1,p2) (bB (af.take j) tx)).length+1) bL) zT rfl (by kernel_rfl) (Dg _ _ _ _ rfl _ (by kernel_rfl)) ?_;refine⟨⟨QO,WU⟩,?_⟩;try simp only[Act.put,List.getElem_toArray,List.getElem_cons_succ,List.getElem_cons_zero,List.setIfInBounds_toArray,List.set_cons_zero,List.set_cons_succ]
       refine wpAnyH_done (by kernel_rfl) ?_ _;have RR:Hid (zT.ownsRow wa.heap.size 46 4 (.slice (some ⟨g6,0,none⟩) ((A++aG (tx,p0,p1,p2) (bB (af.take j) tx)).length+1) bL) (A++aG (tx,p0,p1,p2) (bB (af.take (j+1)) tx)).length (ak (A++aG (tx,p0,p1,p2) (bB (af.take (j+1)) tx)))∧zT.heap[TB]?=some (.cells #[.string (bs tx),.int .i64 p0,.int .i64 p1,.int .i64 p2] 46)∧some TB≠(Value.slice (some ⟨g6,0,none⟩) ((A++aG (tx,p0,p1,p2) (bB (af.take j) tx)).length+1) bL).ownBlock∧Below wa.heap.size wa zT) :=by
        refine⟨?_,QO,?_,?_⟩;·rw[HR.out,cK,show((A++aG (tx,p0,p1,p2) (bB (af.take j) tx))++ [(u,p0,p1,p2)]).length=(A++aG (tx,p0,p1,p2) (bB (af.take j) tx)).length+1 from List.length_append];exact Cu
        ·rcases JI with h|h;·intro e;exact ni.out (e.trans h.symm)
         ·intro e;have e':TB=g6:=Option.some.inj e;omega
        ·have h1:=V7.out.trans (oJ.mono V7.out.size);exact h1.grown pI h1.size (bW uY)
       clear QO WU Cu pI JI PV Yp Gs oJ dm Co uY aaO abE hB1;generalize(A++aG (tx,p0,p1,p2) (bB (af.take j) tx)).length+1=nn at*;go_wp2_with fail;go_meet;case rel=>exact RR.out
     case rest=>
      obtain⟨h1,h2,h3,h4⟩ :=hcut;have RR:Hid (_∧_∧_∧_) :=⟨h1,h2,h3,h4⟩;clear h1 h2 h3 h4;go_wp2_with fail;go_roundw;case rel=>exact⟨j+1,by omega,by go_num,RR.out.1,RR.out.2.1,RR.out.2.2.1,RR.out.2.2.2⟩
      case measure=>simp[intOf];omega
    ·have HE:Hid (fM af (l.take (k+1))=A++aG (tx,p0,p1,p2) (bB (af.take j) tx)) :=by show _=_;rw[jk.out,List.take_of_length_le (by omega)]
     go_wp2_with fail;go_roundw;case rel=>exact⟨k+1,by omega,by go_num,by rw[HE.out];exact iF.out,by rw[HE.out];omega,jX.out⟩
     case measure=>simp[intOf];omega
  ·have HE:Hid (fM af (l.take k)=fM af l) :=by show _=_;rw[List.take_of_length_le (by omega)]
   go_wp2_with fail;go_ret2;rw[←HE.out];try rw[hB]
   exact⟨_,rfl,dS HO.out (by omega),ax.out.trans (bq.out.mono (by omega))⟩
theorem NT {w:World} {b:Nat} {o:Obj}(h:w.heap[b]?=some o) :b<w.heap.size:=(Array.getElem?_eq_some_iff.1 h).1
theorem GM(len:Nat) : ∀f n,qh len n f≤f*(len+1)
 |0,_=>by simp[qh]
 |f+1,n=>by have:=GM len f (n+1);rw[qh,Nat.succ_mul];omega
theorem LH(s:ByteArray)(L H:Nat)(w:World)(hs:s.size≤65536)(hT:Tabs w)(HC:Hid (aJ s=0))(HV:Hid (bM s=true))(h1:1≤L)(h2:L≤H)(h8:H≤8)(G:List (List UInt8))(HG:Hid (lH L (H+1-L) (runes s)=G))(R:List (List UInt8))(c:Int)(HR:Hid ((G.length≤4096→R=G∧c=0)∧(¬G.length≤4096→R= []∧c=11))) :Calls Tryz.prog 143 #[.string s,.int .i64 L,.int .i64 H] w fun e w'=>∃v,e= .returned (.tuple #[v,.int .i64 c])∧w'.ownsRow w.heap.size 9 1 v R.length (bR R)∧Below w.heap.size w w':=by
 obtain⟨i0,hi,hz0,hz1,hz2⟩ :=info_parts Tryz.infoStr;have HT:=aa hT;clear hT;have HOK:Hid (rF L H=true) :=(xY _ _).2 ⟨by omega,by omega,by omega⟩;have hrl:=mG s;have HRC:=aa (Jv s);have HLen:Hid (G.length=qh (runes s).length L (H+1-L)) :=by show _=_;rw[←HG.out];exact Mm L _ h1 _
 go_enter Tryz.func143,Tryz.ntmps143;go_wp2_with fail;refine(iZ s _ (by omega) HT.out).mono ?_;rintro e w1⟨rfl,hb1⟩;rw[HC.out];go_wp2_with fail;refine(qE _ _ _).mono ?_;rintro e w'⟨rfl,hw'⟩;obtain rfl:=hw'.symm;clear hw';rw[HOK.out];go_wp2_with fail;refine(Tryz.utf8_RuneCountInString s _ (by omega)).mono ?_;rintro e w2⟨rfl,q,rfl⟩;have hb2:Below w.heap.size w (w1.iter s q) :=hb1.alloc hb1.size _;generalize w1.iter s q=w2 at hb2⊢;clear hb1;rw[HRC.out];generalize hN:(runes s).length=N at*;have HN:=aa hN;clear hN;go_wp2_with fail;go_loop [9,11](fun cv i=>∃(n f a:Nat),n+f=H+1∧L≤n∧i= .int .i64 n∧cv= .int .i64 a∧a+qh N n f=G.length)(fun _ i=>H+1-(intOf i).toNat);case atStart=>exact⟨L,H+1-L,0,by omega,by omega,rfl,rfl,by rw[HLen.out];omega⟩
 case round=>
  obtain⟨n,f,a,hnf,hLn,rfl,rfl,hsum⟩ :=hrel;have hcl:=GM N f n;have hfl:f≤8:=by omega
  have hfN:f*(N+1)≤8*(N+1) :=Nat.mul_le_mul_right _ hfl;have hGl:G.length≤8*(N+1) :=by have h9:=GM N (H+1-L) L;have h10:(H+1-L)*(N+1)≤8*(N+1) :=Nat.mul_le_mul_right _ (by omega);rw[HLen.out];omega
  have HS:=aa hsum;have hab:a≤8*(N+1) :=by omega
  clear hcl hfN;by_cases hnH:n≤H
  ·have hnz:(n:Int)≤(H:Int) :=by omega
   obtain⟨f,rfl⟩ : ∃f',f=f'+1:=⟨f-1,by omega⟩;have HS2:Hid (a+(N+1-n)+qh N (n+1) f=G.length) :=by show _=_;rw[←HS.out,qh];omega
   clear hsum HS;go_wp2_with fail;go_round;case rel=>exact⟨n+1,f,a+(N+1-n),by omega,by omega,by go_num,congrArg (Value.int .i64) (by omega),HS2.out⟩
   case measure=>simp[intOf];omega
  ·have hnz: ¬(n:Int)≤(H:Int) :=by omega
   have haG:a=G.length:=by rw[←HS.out,show f=0 by omega];rfl
   clear hsum HS;by_cases hbig:4096<a
   ·have hbz:(4096:Int)<(a:Int) :=by omega
    have HF:=aa (HR.out.2 (by omega));clear haG;go_wp2_with fail;go_ret2;rw[HF.out.1,HF.out.2];exact⟨_,rfl,World.ownsRow_nil _ _ _ _,hb2⟩
   ·have hbz: ¬(4096:Int)<(a:Int) :=by omega
    have HF:=aa (HR.out.1 (by omega));have aiF:G.length≤4096:=by omega
    clear haG HR HLen;go_wp2_with(at_make;refine wpList_make_own _ rfl _ _ 40 rfl w.heap.size 9 i0 (.string ⟨#[]⟩) 1 Tryz.underlying40 hi hz0 hz1 _ _ _ a rfl rfl (by omega) ?b2 ?b3 hb2.size ?_);case b2=>omega
    case b3=>unfold maxLen;omega
    intro w3 hown3 hgrow3;have hb3:Below w.heap.size w w3:=hb2.grown hgrow3 hb2.size (fun k h=>by cases h);generalize(Value.slice (some ⟨w2.heap.size,0,none⟩) 0 a)=v3 at hown3⊢;have hI:w.heap.size≤w3.heap.size:=hb3.size;have kY:=aa (World.iter_heap w3 s 0);have hb4:Below w.heap.size w (w3.iter s 0) :=hb3.alloc hb3.size _;have uZ:(w3.iter s 0).ownsRow w.heap.size 9 1 v3 0 [] :=hown3.alloc _;clear hb2 hgrow3 hown3 hb3;go_wp2_with fail;generalize w3.iter s 0=w4 at kY hb4 uZ⊢;generalize w3.heap.size=B at*;go_loopw [12](fun v wr=>∃(k:Nat)(out:List (List UInt8)),k≤N∧wr.ownsRow w.heap.size 9 1 v out.length (bR out)∧out++lH L (H+1-L) ((runes s).drop k)=G∧wr.heap[B]?=some (.stringIter s (aM ((runes s).take k)))∧B<wr.heap.size∧Below w.heap.size w wr)(fun _ wr=>s.size-wr.iterPos B);case atStart=>exact⟨0,[],by omega,uZ,HG.out,kY.out,NT kY.out,hb4⟩
    case round=>
     obtain⟨k,out,hk,hown,hG,hit,aiZ,hbel⟩ :=hrel;have uq:=aa hown;have rZ:=aa hG;have hol:out.length≤4096:=by have:=congrArg List.length hG;rw[List.length_append]at this;omega
     clear hown hG uZ hb4 kY;have hlt':=QV s k HV.out;rw[HN.out]at hlt';generalize hp:aM ((runes s).take k)=p at*;have Hp:=aa hp;clear hp;by_cases hlt:p<s.size
     ·have hkl:k<N:=hlt'.2 hlt;have hst:=OL s k HV.out (by rw[Hp.out];exact hlt);rw[Hp.out]at hst;have hnx: ∀ty,(Instr.next (.pointer (some ⟨B,0,none⟩)) true ty).run Tryz.prog wr=_:=fun ty=>Lib.run_next_any_at wr B s p ty hit hlt;have hw:=width_le s p hlt;have hr:=rune_le s p;have cu:=aa (own_iterAt uq.out hit (p+(Utf8.decode s p).2));have hit2:=Lib.iterAt_heap wr B s p (p+(Utf8.decode s p).2) hit;have eY:=Lib.below_iterAt hbel (k:=B) hI s (p+(Utf8.decode s p).2);have Hpos:=aa (iterPos_of hit);have iH:=aa hit2;have HB2:=aa eY;have lC:w.heap.size≤(wr.iterAt B s (p+(Utf8.decode s p).2)).heap.size:=eY.size;have Fg:B<(wr.iterAt B s (p+(Utf8.decode s p).2)).heap.size:=(Array.getElem?_eq_some_iff.1 hit2).1;have qN:Hid (aM ((runes s).take (k+1))=p+(Utf8.decode s p).2) :=hst.2.1;have hps:p≤s.size:=by omega
      have HXV:Hid (bM (s.extract p s.size)=true) :=by show _=_;rw[U3 s p hps];have:=(vI s k HV.out).2;rwa [Hp.out]at this
      have HXR:Hid (runes (s.extract p s.size)=(runes s).drop k) :=by show _=_;rw[TU s p hps];have:=(vI s k HV.out).1;rwa [Hp.out]at this
      have hxz:(s.extract p s.size).size≤65536:=by rw[ext_size s p hps];omega
      have HD:=aa (G7 L (H+1-L) (runes s) k (by rw[HN.out];exact hkl));clear hst uq hit2 eY hbel hlt';generalize(Utf8.decode s p).1=r at*;generalize(Utf8.decode s p).2=n2 at*;generalize wr.iterAt B s (p+n2)=wi at*;have hz:(p:Int)≤(s.size:Int) :=by omega
      go_wp2_with fail;refine(EZ w.heap.size _ out (s.extract p s.size) L H _ hxz HXV.out h1 h2 h8 hol lC cu.out).mono ?_;rintro e w5⟨v5,rfl,hown5,hb5,hk5⟩;rw[HXR.out]at hown5;have RR:Hid (w5.ownsRow w.heap.size 9 1 v5 (out++qp ((runes s).drop k) L (H+1-L)).length (bR (out++qp ((runes s).drop k) L (H+1-L)))∧out++qp ((runes s).drop k) L (H+1-L)++lH L (H+1-L) ((runes s).drop (k+1))=G∧Below w.heap.size w w5∧w5.heap[B]?=some (.stringIter s (p+n2))) :=by refine⟨hown5,?_,HB2.out.trans hb5,(hk5.1 B Fg (own_ne_iter cu.out iH.out)).trans iH.out⟩;rw[←rZ.out,HD.out,List.append_assoc]
      clear hown5 hb5 hk5 cu HB2 iH rZ HD;go_wp2_with fail;go_roundw;case rel=>exact⟨k+1,_,by omega,RR.out.1,RR.out.2.1,by rw[qN.out];exact RR.out.2.2.2,NT RR.out.2.2.2,RR.out.2.2.1⟩
      case measure=>rw[iterPos_of RR.out.2.2.2,Hpos.out];omega
     ·have hkl: ¬k<(runes s).length:=by rw[HN.out];exact fun h=>hlt (hlt'.1 h)
      have hnx: ∀ty,(Instr.next (.pointer (some ⟨B,0,none⟩)) true ty).run Tryz.prog wr=_:=fun ty=>Lib.run_next_end_at wr B s p ty hit hlt;have HE:Hid (G=out) :=by show _=_;rw[←rZ.out,Lg _ _ _ _ hkl,List.append_nil]
      clear hit hlt';go_wp2_with fail;go_ret2;rw[HF.out.1,HF.out.2,HE.out];exact⟨_,rfl,uq.out,hbel⟩
theorem Je(s:ByteArray)(lo hi:Int)(w:World)(hs:s.size≤1048576)(hT:Tabs w) :Calls Tryz.prog 143 #[.string s,.int .i64 lo,.int .i64 hi] w fun e w'=>∃v,e= .returned (.tuple #[v,.int .i64 (dw s lo hi)])∧w'.ownsRow w.heap.size 9 1 v (eX s lo hi).length (bR (eX s lo hi))∧Below w.heap.size w w':=by
 by_cases hc:aJ s=0
 ·by_cases hok:rF lo hi=true
  ·have hb:=(xY lo hi).1 hok;obtain⟨L,rfl⟩ :=Int.eq_ofNat_of_zero_le (by omega:0≤lo);obtain⟨H,rfl⟩ :=Int.eq_ofNat_of_zero_le (by omega:0≤hi);have hd:=(NB s hc);refine LH s L H w hd.2 hT hc hd.1 (by omega) (by omega) (by omega) (zA s L H) ?_ _ _ ?_;·show _=_;rw[zA,Int.toNat_natCast,show((H:Int)+1-(L:Int)).toNat=H+1-L by omega,di,if_neg (by omega),oG,if_pos hd.1]
   ·refine⟨fun h=> ?_,fun h=> ?_⟩
    ·have e:dw s L H=0:=by rw[dw,if_pos hc,if_pos hok,if_pos h]
     exact⟨by rw[eX,if_pos e],e⟩
    ·have e:dw s L H=11:=by rw[dw,if_pos hc,if_pos hok,if_neg h]
     exact⟨by rw[eX,if_neg (by omega)],e⟩
  ·have HM:Hid (dw s lo hi=1∧eX s lo hi= []) :=by
    have e:dw s lo hi=1:=by rw[dw,if_pos hc,if_neg hok]
    exact⟨e,by rw[eX,if_neg (by omega)]⟩
   have HC:=aa hc;have hok':rF lo hi=false:=by simpa using hok
   have HOK:=aa hok';have HT:=aa hT;clear hc hok hok' hT;go_enter Tryz.func143,Tryz.ntmps143;go_wp2_with fail;refine(iZ s _ hs HT.out).mono ?_;rintro e w1⟨rfl,hb1⟩;rw[HC.out];go_wp2_with fail;refine(qE _ _ _).mono ?_;rintro e w'⟨rfl,hw'⟩;obtain rfl:=hw'.symm;clear hw';rw[HOK.out];go_wp2_with fail;go_ret2;rw[HM.out.1,HM.out.2];exact⟨_,rfl,World.ownsRow_nil _ _ _ _,hb1⟩
 ·have HM:Hid (dw s lo hi=aJ s∧eX s lo hi= []) :=by
   have e:dw s lo hi=aJ s:=by rw[dw,if_neg hc]
   exact⟨e,by rw[eX,if_neg (by rw[e];exact hc)]⟩
  have hcn:(aJ s !=0)=true:=by rw[bne_iff_ne];exact hc
  have HT:=aa hT;clear hc hT;go_enter Tryz.func143,Tryz.ntmps143;go_wp2_with fail;refine(iZ s _ hs HT.out).mono ?_;rintro e w1⟨rfl,hb1⟩;generalize aJ s=c at*;go_wp2_with fail;go_ret2;rw[HM.out.1,HM.out.2];exact⟨_,rfl,World.ownsRow_nil _ _ _ _,hb1⟩
theorem Ms(s:ByteArray)(lo hi:Int) :(eX s lo hi).length≤4096:=by
 rw[eX];split
 ·rename_i h;rw[dw]at h;by_cases hc:aJ s=0
  ·rw[if_pos hc]at h;by_cases hok:rF lo hi=true
   ·rw[if_pos hok]at h;by_cases hg:(zA s lo hi).length≤4096;·exact hg
    ·rw[if_neg hg]at h;omega
   ·rw[if_neg hok]at h;omega
  ·rw[if_neg hc]at h;exact absurd h hc
 ·simp
def fD(lo hi:Int) :List Tk→List Tk→List Tk×Int
 |o,[]=>(o,0)
 |o,k::ks=>if dw (bs k.1) lo hi=0 then fD lo hi (o++aG k (eX (bs k.1) lo hi)) ks else([],dw (bs k.1) lo hi)
theorem Nl(lo hi:Int)(o l:List Tk)(k:Nat)(h:k<l.length) :fD lo hi o (l.drop k)=if dw (bs (l.getD k bS).1) lo hi=0 then fD lo hi (o++aG (l.getD k bS) (eX (bs (l.getD k bS).1) lo hi)) (l.drop (k+1))else([],dw (bs (l.getD k bS).1) lo hi) :=by
 have e:l.getD k bS=l[k] :=by rw[List.getD_eq_getElem?_getD,List.getElem?_eq_getElem h,Option.getD_some]
 rw[List.drop_eq_getElem_cons h,fD,e]
theorem Jj(fo st ph:Bool)(vS vY:Value)(aT:Option Addr)(cT:Nat)(lo hi:Int)(l:List Tk)(w:World)(Ag:Tabs w)(hT:jr w aT l)(hn:l.length≤65)(hz: ∀k,k<l.length→(l.getD k bS).1.length≤1048576) :Calls Tryz.prog 124 #[.agg #[.bool fo,.bool st,.bool ph,vS,vY,.int .i64 lo,.int .i64 hi],.slice aT l.length cT] w fun e w'=>∃v,e= .returned (.tuple #[v,.int .i64 (fD lo hi [] l).2])∧w'.ownsRow w.heap.size 46 4 v (fD lo hi [] l).1.length (ak (fD lo hi [] l).1)∧Below w.heap.size w w':=by
 obtain⟨i0,hi0,hz0,hz1,hz2⟩ :=info_parts Tryz.infoTok;have AZ:=aa Ag;have HT:=aa hT;have HZ:=aa hz;clear Ag hT hz;go_enter Tryz.func124,Tryz.ntmps124;have ax:Hid (Below w.heap.size w (w.alloc (.cells #[.bool fo,.bool st,.bool ph,vS,vY,.int .i64 lo,.int .i64 hi] 73))) :=(Below.refl _ _).alloc (Nat.le_refl _) _;have hblk:(w.alloc (.cells #[.bool fo,.bool st,.bool ph,vS,vY,.int .i64 lo,.int .i64 hi] 73)).heap[w.heap.size]?=some (.cells #[.bool fo,.bool st,.bool ph,vS,vY,.int .i64 lo,.int .i64 hi] 73) :=heap_alloc_new _ _;have fe:=aa hblk;clear hblk;go_wp2_with fail;have zW:=aa (HT.out.below ax.out);have agk:=aa (AZ.out.below ax.out);generalize w.alloc (.cells #[.bool fo,.bool st,.bool ph,vS,vY,.int .i64 lo,.int .i64 hi] 73)=wa at*;generalize hB:w.heap.size=B at*;have hza:=ax.out.size;clear HT AZ;go_loopw [6,15](fun v i wx=>∃(k:Nat)(o:List Tk),k≤l.length∧i= .int .i64 k∧wx.ownsRow wa.heap.size 46 4 v o.length (ak o)∧o.length≤k*4096∧fD lo hi o (l.drop k)=fD lo hi [] l∧Below wa.heap.size wa wx)(fun _ i _=>l.length-(intOf i).toNat)
 case atStart=>exact⟨0,[],by omega,rfl,World.ownsRow_nil _ _ _ _,by simp,rfl,Below.refl _ _⟩
 case round=>
  obtain⟨k,A,hk,rfl,hown,hal,hgo,hbx⟩ :=hrel;have HO:=aa hown;have bq:=aa hbx;have Hy:=aa hgo;have rY:=aa (aD fe.out hbx);have gP:=aa (zW.out.below hbx);have hwx:=hbx.size;clear hown hbx hgo;by_cases hlt:k<l.length
  ·have jk:=aa (Nl lo hi A l k hlt);have wm:=HZ.out k hlt;obtain⟨b,off,rfl,hbl,hc⟩ :=gP.out.resolve_left (fun h=>by rw[h]at hlt;simp at hlt);obtain⟨t0,t1,t2,t3⟩ :=hc k hlt;clear hc;obtain⟨tk,htk⟩ : ∃tk,l.getD k bS=tk:=⟨_,rfl⟩;rw[htk]at t0 t1 t2 t3 jk wm;clear htk;obtain⟨tx,p0,p1,p2⟩ :=tk;dsimp only at t0 t1 t2 t3 jk wm;have Bc:Hid (Below wr.heap.size wr (wr.alloc (.cells #[.string (bs tx),.int .i64 p0,.int .i64 p1,.int .i64 p2] 46))) :=(Below.refl _ _).alloc (Nat.le_refl _) _;have q5:(wr.alloc (.cells #[.string (bs tx),.int .i64 p0,.int .i64 p1,.int .i64 p2] 46)).cell? ⟨B,5,none⟩=some (.int .i64 lo) :=ah (aD rY.out Bc.out) 5;have q6:(wr.alloc (.cells #[.string (bs tx),.int .i64 p0,.int .i64 p1,.int .i64 p2] 46)).cell? ⟨B,6,none⟩=some (.int .i64 hi) :=ah (aD rY.out Bc.out) 6;have HTw:=aa ((agk.out.below bq.out).below Bc.out);have Hnx:Hid (some wr.heap.size≠u6.ownBlock) :=sQ HO.out (a:=some ⟨wr.heap.size,0,none⟩) (fun b off e=>by cases e;exact Nat.le_refl _) _ _ rfl
   have gZ:=heap_alloc_new wr (.cells #[.string (bs tx),.int .i64 p0,.int .i64 p1,.int .i64 p2] 46);have Gl:=aa gZ;clear gZ;have HOa:=aa (HO.out.alloc (.cells #[.string (bs tx),.int .i64 p0,.int .i64 p1,.int .i64 p2] 46));have lX:=aa (bq.out.alloc hwx (.cells #[.string (bs tx),.int .i64 p0,.int .i64 p1,.int .i64 p2] 46));go_upto_region 5 with fail;generalize wr.alloc (.cells #[.string (bs tx),.int .i64 p0,.int .i64 p1,.int .i64 p2] 46)=ws at*;have e0:ws.cell? ⟨wr.heap.size,0,none⟩=some (.string (bs tx)) :=ah Gl.out 0;generalize hTB:wr.heap.size=TB at*;clear t0 t1 t2 t3;go_upto_region 6 with(go_at_call 143;refine(Je (bs tx) lo hi _ (by rw[aK];exact wm) HTw.out).mono ?_;rintro e wg⟨vg,rfl,hog,hbg⟩);have yj:=aa (lX.out.trans (hbg.mono lX.out.size));have hgl:=Ms (bs tx) lo hi;by_cases hc:dw (bs tx) lo hi=0
   ·have uH:Hid (fD lo hi (A++aG (tx,p0,p1,p2) (eX (bs tx) lo hi)) (l.drop (k+1))=fD lo hi [] l) :=by show _=_;rw[←Hy.out,jk.out,if_pos hc]
    rw[hc];clear hc jk;obtain⟨ag,cg,rfl,hHg,hgb⟩ :=xw hog;have HOg:=aa (bJ HOa.out hbg);have HXg:=aa (aD Gl.out hbg);have HGh:=aa hHg;have Da:Hid (∀b off,ag=some ⟨b,off,none⟩→some b≠u6.ownBlock) :=fun b off e h=>by
     have h1:=(hgb b off e).1;rcases jd HOa.out with⟨h2,_⟩| ⟨g,c,h2,_,h3⟩;·rw[h2]at h;cases h
     ·rw[h2]at h;have:b=g:=Option.some.inj h;omega
    clear hog hbg hHg hgb HOa lX Gl e0 q5 q6 HO bq rY gP HTw Bc;generalize eX (bs tx) lo hi=gl at*;go_wp2_with fail;go_loopw [6,34](fun v i wx=>∃j:Nat,j≤gl.length∧i= .int .i64 j∧wx.ownsRow wa.heap.size 46 4 v (A++aG (tx,p0,p1,p2) (gl.take j)).length (ak (A++aG (tx,p0,p1,p2) (gl.take j)))∧wx.heap[TB]?=some (.cells #[.string (bs tx),.int .i64 p0,.int .i64 p1,.int .i64 p2] 46)∧some TB≠v.ownBlock∧bE wx ag gl∧(∀b off,ag=some ⟨b,off,none⟩→some b≠v.ownBlock)∧Below wa.heap.size wa wx)(fun _ i _=>gl.length-(intOf i).toNat);case atStart=>exact⟨0,by omega,rfl,by simpa[aG]using HOg.out,HXg.out,Hnx.out,HGh.out,Da.out,yj.out⟩
    case round=>
     obtain⟨j,hj,rfl,hown,gZ,hnb,hhg,hgn,hby⟩ :=hrel;have iF:=aa hown;have um:=aa gZ;have ni:=aa hnb;have si:=aa hhg;have HAg:=aa hgn;have jX:=aa hby;have har:(A++aG (tx,p0,p1,p2) (gl.take j)).length≤k*4096+4096:=by rw[List.length_append,kK,List.length_take];omega
     clear hown gZ hnb hhg hgn hby HOg HXg Hnx HGh Da yj;by_cases hjl:j<gl.length
     ·have HW:=aa (yT (tx,p0,p1,p2) gl j hjl);obtain⟨b2,off2,rfl,Gu,hc2⟩ :=si.out.resolve_left (fun h=>by rw[h]at hjl;simp at hjl);have g1:=hc2 j hjl;clear hc2;generalize gl.getD j []=gr at*;have e0:wr.cell? ⟨TB,0,none⟩=some (.string (bs tx)) :=ah um.out 0;have e1:wr.cell? ⟨TB,1,none⟩=some (.int .i64 p0) :=ah um.out 1;have e2:wr.cell? ⟨TB,2,none⟩=some (.int .i64 p1) :=ah um.out 2;have e3:wr.cell? ⟨TB,3,none⟩=some (.int .i64 p2) :=ah um.out 3;have hwr:=jX.out.size;obtain⟨A1,hA1⟩ : ∃A1,A++aG (tx,p0,p1,p2) (gl.take j)=A1:=⟨_,rfl⟩;have HA1:=aa hA1;rw[hA1]at iF har;clear hA1;go_upto_region 12 with(first| (go_at_call 104;refine(yM (bs tx) (bs gr) p0 p1 p2 _).mono ?_;rintro e' wq⟨rfl,hbq⟩)| (at_builtin;refine wpList_append_own_at _ rfl _ _ 37 rfl wa.heap.size 46 i0 (.agg #[.string ⟨#[]⟩,.int .i64 0,.int .i64 0,.int .i64 0]) 4 40 Tryz.underlying37 hi0 hz0 hz1 hz2 rfl (by decide) _ _ _ rfl ((bJ iF.out hbq).alloc _) ⟨wq.heap.size,0,none⟩ 1 1 [.string (bs gr),.int .i64 p0,.int .i64 p1,.int .i64 p2] rfl rfl ?c1 ?c2 ?c3 ?c4 ?c5 ?_))
      case c1=>
       intro q u hq;match q,hq with
       |0,hq=>simp at hq;subst hq;simp[Addr.add]
       |1,hq=>simp at hq;subst hq;simp[Addr.add]
       |2,hq=>simp at hq;subst hq;simp[Addr.add]
       |3,hq=>simp at hq;subst hq;simp[Addr.add]
       |q+4,hq=>simp at hq
      case c2=>intro u hu;simp at hu;rcases hu with rfl|rfl|rfl|rfl<;>rfl
      case c3=>unfold maxLen;omega
      case c4=>omega
      case c5=>simp;have:=hbq.size;omega
      intro v' w6 hown' hgrow hne hat;have Mi:TB<wr.heap.size:=(Array.getElem?_eq_some_iff.1 um.out).1;have hqs:=hbq.size;have iV:Below wr.heap.size wr (wq.alloc (.cells #[.string (bs gr),.int .i64 p0,.int .i64 p1,.int .i64 p2] 46)) :=hbq.alloc hqs _;have hO7:(wq.alloc (.cells #[.string (bs gr),.int .i64 p0,.int .i64 p1,.int .i64 p2] 46)).ownsRow wa.heap.size 46 4 u6 A1.length (ak A1) :=(bJ iF.out hbq).alloc _;have af7:b2<wr.heap.size:=Gu;have abT:v'.ownBlock=u6.ownBlock∨∃g,v'.ownBlock=some g∧wr.heap.size≤g:=by
       rcases hat with h|h;·exact Or.inl h
       ·exact Or.inr ⟨_,h,by first|omega| (simp;omega)⟩
      have P8: ∀b,b<wr.heap.size→some b≠u6.ownBlock→some b≠v'.ownBlock:=fun b hb hn=>by
       rcases abT with h| ⟨g,h,hg⟩;·rw[h];exact hn
       ·rw[h];intro e;have:=Option.some.inj e;omega
      have RR:Hid (w6.ownsRow wa.heap.size 46 4 v' (A++aG (tx,p0,p1,p2) (gl.take (j+1))).length (ak (A++aG (tx,p0,p1,p2) (gl.take (j+1))))∧w6.heap[TB]?=some (.cells #[.string (bs tx),.int .i64 p0,.int .i64 p1,.int .i64 p2] 46)∧some TB≠v'.ownBlock∧bE w6 (some ⟨b2,off2,none⟩) gl∧(∀b off,(some ⟨b2,off2,none⟩ :Option Addr)=some ⟨b,off,none⟩→some b≠v'.ownBlock)∧Below wa.heap.size wa w6) :=by
       refine⟨?_,?_,P8 TB Mi ni.out,?_,?_,?_⟩;·rw[HW.out,←List.append_assoc,HA1.out,cK,show(A1++ [(gr,p0,p1,p2)]).length=A1.length+1 from List.length_append];exact hown'
       ·rw[hgrow.block TB (Nat.lt_of_lt_of_le Mi iV.size) ni.out];exact aD um.out iV
       ·exact(si.out.below iV).grown hgrow HAg.out
       ·intro b off e;cases e;exact P8 b2 af7 (HAg.out b2 off2 rfl)
       ·have h1:=jX.out.trans (iV.mono hwr);exact h1.grown hgrow h1.size (bW hO7)
      clear hown' hgrow hne hat abT P8 hO7 iV e0 e1 e2 e3 g1 hbq;go_wp2_with fail;go_roundw;case rel=>exact⟨j+1,by omega,by go_num,RR.out⟩
      case measure=>simp[intOf];omega
     ·have HE:Hid (A++aG (tx,p0,p1,p2) (gl.take j)=A++aG (tx,p0,p1,p2) gl) :=by show _=_;rw[List.take_of_length_le (by omega)]
      go_wp2_with fail;go_roundw;case rel=>exact⟨k+1,_,by omega,by go_num,iF.out,by omega,by rw[HE.out];exact uH.out,jX.out⟩
      case measure=>simp[intOf];omega
   ·have hcn:(dw (bs tx) lo hi !=0)=true:=by rw[bne_iff_ne];exact hc
    have HR:Hid (fD lo hi [] l=([],dw (bs tx) lo hi)) :=by show _=_;rw[←Hy.out,jk.out,if_neg hc]
    clear hc jk;generalize dw (bs tx) lo hi=cd at*;go_wp2_with fail;go_ret2;rw[HR.out];try rw[hB]
    exact⟨_,rfl,World.ownsRow_nil _ _ _ _,ax.out.trans (yj.out.mono (by omega))⟩
  ·have HE:Hid (fD lo hi [] l=(A,0)) :=by show _=_;rw[←Hy.out,List.drop_of_length_le (by omega),fD]
   go_wp2_with fail;go_ret2;rw[HE.out];try rw[hB]
   exact⟨_,rfl,dS HO.out (by omega),ax.out.trans (bq.out.mono (by omega))⟩
theorem yJ:Maps.Keyed Tryz.prog 9:=Maps.string_keyed Tryz.underlying9
theorem Fy(t:List UInt8)(h:t.length≤1048576) : ∃kl,keyOf Tryz.prog 9 (.string (bs t))=some kl:=⟨_,Go.WideMaps.keyOf_string_mk Tryz.underlying9 (by rw[aK];unfold maxLen;omega)⟩
theorem Xk {t u:List UInt8}(h:Value.string (bs t)=Value.string (bs u)) :t=u:=by simp only[Value.string.injEq]at h;simpa[bs]using congrArg (fun z=>z.data.toList) h
def SMap(w:World)(mb:Nat)(L:List (List UInt8×Value)) :Prop:=∃es clock,w.heap[mb]?=some (.map es clock)∧es.toList.map (fun e=>(e.key,e.val))=(L.map fun x=>(Value.string (bs x.1),x.2))∧∀x∈L,x.1.length≤1048576
theorem SMap.keep {w w':World} {mb:Nat} {L:List (List UInt8×Value)}(h:SMap w mb L)(hb:w'.heap[mb]?=w.heap[mb]?) :SMap w' mb L:=by obtain⟨es,clock,h1,h2,hL⟩ :=h;exact⟨es,clock,hb.trans h1,h2,hL⟩
theorem Xa(w:World) :SMap (w.alloc (.map #[] 0)) w.heap.size [] :=⟨#[],0,heap_alloc_new w _,rfl,fun x hx=>by simp at hx⟩
theorem SMap.lt {w:World} {mb:Nat} {L:List (List UInt8×Value)}(h:SMap w mb L) :mb<w.heap.size:=by obtain⟨es,clock,h1,h2,hL⟩ :=h;exact(Array.getElem?_eq_some_iff.1 h1).1
theorem SMap.find {w:World} {mb:Nat} {L:List (List UInt8×Value)}(h:SMap w mb L)(t:List UInt8)(ht:t.length≤1048576) : ∃es clock,w.heap[mb]?=some (.map es clock)∧es.toList.map (fun e=>(e.key,e.val))=L.map (fun x=>(Value.string (bs x.1),x.2))∧(((∀x∈L,x.1≠t)∧(Instr.findKey 9 (.string (bs t)) es.toList).run Tryz.prog w= .ok none w)∨∃(j:Nat)(v:Value),L[j]?=some (t,v)∧(Instr.findKey 9 (.string (bs t)) es.toList).run Tryz.prog w= .ok (some (j,v)) w) :=by
 obtain⟨es,clock,h1,h2,hL⟩ :=h;refine⟨es,clock,h1,h2,?_⟩;obtain⟨kl,hkl⟩ :=Fy t ht;have at_: ∀(j:Nat)(e:MapEntry),es.toList[j]?=some e→∃x,L[j]?=some x∧e.key= .string (bs x.1)∧e.val=x.2:=by
  intro j e he;have h3:(es.toList.map (fun e=>(e.key,e.val)))[j]?=some (e.key,e.val) :=by rw[List.getElem?_map,he];rfl
  rw[h2,List.getElem?_map]at h3;cases hx:L[j]? with
  |none=>rw[hx]at h3;cases h3
  |some l'=>rw[hx]at h3;simp only[Option.map_some,Option.some.injEq,Prod.mk.injEq]at h3;exact⟨l',rfl,h3.1.symm,h3.2.symm⟩
 have hkeys: ∀e∈es.toList,∃q,keyOf Tryz.prog 9 e.key=some q:=by intro e he;obtain⟨j,hj⟩ :=List.mem_iff_getElem?.1 he;obtain⟨x,h4,h5,_⟩ :=at_ j e hj;rw[h5];exact Fy x.1 (hL x (List.mem_of_getElem? h4))
 rcases yJ.find w hkl es.toList hkeys with⟨h3,h4⟩| ⟨j,e,h3,h4,h5⟩
 ·refine Or.inl ⟨?_,h3⟩;intro x hm htt;obtain⟨j,hj⟩ :=List.mem_iff_getElem?.1 hm;have h6:(es.toList.map (fun e=>(e.key,e.val)))[j]?=some (.string (bs x.1),x.2) :=by rw[h2,List.getElem?_map,hj];rfl
  rw[List.getElem?_map]at h6;cases hx:es.toList[j]? with
  |none=>rw[hx]at h6;cases h6
  |some e=>rw[hx]at h6;simp only[Option.map_some,Option.some.injEq,Prod.mk.injEq]at h6;exact h4 e (List.mem_of_getElem? hx) (by rw[h6.1,htt])
 ·obtain⟨x,h6,h7,h8⟩ :=at_ j e h4;have:x.1=t:=Xk (h7.symm.trans h5);obtain⟨x1,x2⟩ :=x;dsimp only at this h8;subst this;exact Or.inr ⟨j,x2,h6,by rw[h3,h8]⟩
theorem SMap.look {w:World} {mb:Nat} {L:List (List UInt8×Value)}(h:SMap w mb L)(t:List UInt8)(ht:t.length≤1048576)(mt et:TypeId)(z:Value)(hu:Tryz.prog.underlying mt=some (.map 9 et))(hz: ∀w,(zeroValue et).run Tryz.prog w= .ok z w) :((∀x∈L,x.1≠t)∧(Instr.lookup mt (.map (some mb)) (.string (bs t)) true).run Tryz.prog w= .ok (.tuple #[z,.bool false]) w)∨∃(j:Nat)(v:Value),L[j]?=some (t,v)∧(Instr.lookup mt (.map (some mb)) (.string (bs t)) true).run Tryz.prog w= .ok (.tuple #[v,.bool true]) w:=by
 obtain⟨kl,hkl⟩ :=Fy t ht;obtain⟨es,clock,h1,_,h3⟩ :=h.find t ht;rcases h3 with⟨h4,h5⟩| ⟨j,v,h4,h5⟩;·exact Or.inl ⟨h4,by simp[Instr.lookup,run_underlying hu,MapKept.run_getObj_map h1,yJ.check w _ hkl,h5,hz,Result.andThen]⟩
 ·exact Or.inr ⟨j,v,h4,by simp[Instr.lookup,run_underlying hu,MapKept.run_getObj_map h1,yJ.check w _ hkl,h5,Result.andThen]⟩
theorem SMap.put {w:World} {mb:Nat} {L:List (List UInt8×Value)}(h:SMap w mb L)(t:List UInt8)(ht:t.length≤1048576)(v:Value)(mt et:TypeId)(hu:Tryz.prog.underlying mt=some (.map 9 et))(hn: ∀x∈L,x.1≠t) : ∃w',(Instr.mapUpdate mt (.map (some mb)) (.string (bs t)) v).run Tryz.prog w= .ok () w'∧SMap w' mb (L++ [(t,v)])∧w.grownBy w' (some mb) :=by
 obtain⟨kl,hkl⟩ :=Fy t ht;obtain⟨es,clock,h1,h2,h3⟩ :=h.find t ht;rcases h3 with⟨h4,h5⟩| ⟨j,v',h4,h5⟩
 ·refine⟨ChangeMaps.setBlock w mb (.map (es.push ⟨.string (bs t),v,clock⟩) (clock+1)),?_,⟨_,_,ChangeMaps.heap_setBlock_same h1 _,?_⟩,⟨rfl,rfl,rfl,by simp[ChangeMaps.setBlock],fun i _ hi=>ChangeMaps.heap_setBlock_other h1 _ (fun e=>hi (by rw[e]))⟩⟩;·simp[Instr.mapUpdate,run_underlying hu,MapKept.run_getObj_map h1,yJ.check w false hkl,h5,MapKept.run_setObj_map _ h1,Result.andThen,ChangeMaps.setBlock]
  ·refine⟨?_,?_⟩;·rw[Array.toList_push,List.map_append,h2,List.map_append];simp
   ·intro x hx;rcases List.mem_append.1 hx with hx|hx;·obtain⟨_,_,_,_,hL⟩ :=h;exact hL x hx
    ·simp at hx;rw[hx];exact ht
 ·exact absurd rfl (hn _ (List.mem_of_getElem? h4))
def vT(o:List Tk)(k:Tk) :List Tk:=if iR (o.map fun x=>x.1) k.1=true then o else o++ [k]
def lF(l:List Tk) :List Tk:=l.foldl vT []
theorem SQ(l:List Tk)(k:Nat)(h:k<l.length) :lF (l.take (k+1))=vT (lF (l.take k)) (l.getD k bS) :=by rw[lF,List.take_succ_eq_append_getElem h,List.foldl_append,List.getD_eq_getElem?_getD,List.getElem?_eq_getElem h];rfl
theorem Y6 {o:List Tk} {t:List UInt8}(h: ∀x∈o.map fun x=>(x.1,Value.agg #[]),x.1≠t) :iR (o.map fun x=>x.1) t=false:=by rw[iR,List.any_eq_false];intro y hy;obtain⟨x,hx,rfl⟩ :=List.mem_map.1 hy;have:=h (x.1,.agg #[]) (List.mem_map.2 ⟨x,hx,rfl⟩);simpa using this
theorem Y3 {o:List Tk} {t:List UInt8} {j:Nat} {v:Value}(h:(o.map fun x=>(x.1,Value.agg #[]))[j]?=some (t,v)) :iR (o.map fun x=>x.1) t=true∧v= .agg #[] :=by
 rw[List.getElem?_map]at h;cases hx:o[j]? with
 |none=>rw[hx]at h;cases h
 |some x=>rw[hx]at h;simp only[Option.map_some,Option.some.injEq,Prod.mk.injEq]at h;refine⟨?_,h.2.symm⟩;rw[iR,List.any_eq_true];exact⟨x.1,List.mem_map.2 ⟨x,List.mem_of_getElem? hx,rfl⟩,by rw[beq_iff_eq];exact h.1⟩
theorem LK(n:Nat)(w:World) :(Instr.makeMap 168 (some (.int .i64 (n:Int)))).run Tryz.prog w= .ok (.map (some w.heap.size)) (w.alloc (.map #[] 0)) :=by simp[Instr.makeMap,run_underlying Tryz.underlying168,asInt,asIntOf]
theorem Gn(aT:Option Addr)(cT:Nat)(l:List Tk)(w:World)(hT:jr w aT l)(hn:l.length≤1048576)(hz: ∀k,k<l.length→(l.getD k bS).1.length≤1048576) :Calls Tryz.prog 126 #[.slice aT l.length cT] w fun e w'=>∃v,e= .returned (.tuple #[v,.int .i64 0])∧w'.ownsRow w.heap.size 46 4 v (lF l).length (ak (lF l))∧Below w.heap.size w w':=by
 obtain⟨i0,hi0,hz0,hz1,hz2⟩ :=info_parts Tryz.infoTok;have HT:=aa hT;have HZ:=aa hz;clear hT hz;go_enter Tryz.func126,Tryz.ntmps126;have hmk:=LK l.length w;go_wp2_with fail;clear hmk;have ax:Hid (Below w.heap.size w (w.alloc (.map #[] 0))) :=(Below.refl _ _).alloc (Nat.le_refl _) _;have L9:=aa (Xa w);generalize hB:w.heap.size=mb at*;have hza:(w.alloc (.map #[] 0)).heap.size=mb+1:=by simp[hB]
 go_loopw [5,15](fun v i wx=>∃k:Nat,k≤l.length∧i= .int .i64 k∧wx.ownsRow (mb+1) 46 4 v (lF (l.take k)).length (ak (lF (l.take k)))∧(lF (l.take k)).length≤k∧SMap wx mb ((lF (l.take k)).map fun x=>(x.1,Value.agg #[]))∧Below mb w wx)(fun _ i _=>l.length-(intOf i).toNat);case atStart=>exact⟨0,by omega,rfl,World.ownsRow_nil _ _ _ _,by simp[lF],L9.out,ax.out⟩
 case round=>
  obtain⟨k,hk,rfl,hown,hal,hmap,hbx⟩ :=hrel;have HO:=aa hown;have bq:=aa hbx;have HM:=aa hmap;have afE:=hmap.lt;clear hown hbx hmap L9;by_cases hlt:k<l.length
  ·have jk:=aa (SQ l k hlt);have wm:=HZ.out k hlt;obtain⟨b,off,rfl,hbl,hc⟩ :=HT.out.resolve_left (fun h=>by rw[h]at hlt;simp at hlt);rw[hB]at hbl;obtain⟨t0,t1,t2,t3⟩ :=hc k hlt;have t0:=(bq.out.cell (p:=⟨b,off+k*4,none⟩) hbl).trans t0;have t1:=(bq.out.cell (p:=⟨b,off+k*4+1,none⟩) hbl).trans t1;have t2:=(bq.out.cell (p:=⟨b,off+k*4+2,none⟩) hbl).trans t2;have t3:=(bq.out.cell (p:=⟨b,off+k*4+3,none⟩) hbl).trans t3;clear hc;obtain⟨tk,htk⟩ : ∃tk,l.getD k bS=tk:=⟨_,rfl⟩;rw[htk]at t0 t1 t2 t3 jk wm;clear htk;obtain⟨tx,p0,p1,p2⟩ :=tk;dsimp only at t0 t1 t2 t3 jk wm;generalize lF (l.take k)=A at*;have Si:Hid (SMap (wr.alloc (.cells #[.string (bs tx),.int .i64 p0,.int .i64 p1,.int .i64 p2] 46)) mb (A.map fun x=>(x.1,Value.agg #[]))) :=HM.out.keep (Below.heap_alloc _ _ _ afE);rcases Si.out.look tx wm 168 169 (.agg #[]) Tryz.underlying168 Tryz.zeroValue169 with⟨hno,hlk⟩| ⟨j,v,hj,hlk⟩
   ·have hnot:=Y6 hno;have HE:Hid (lF (l.take (k+1))=A++ [(tx,p0,p1,p2)]) :=by show _=_;rw[jk.out,vT,if_neg (by rw[hnot];simp)]
    have gZ:(wr.alloc (.cells #[.string (bs tx),.int .i64 p0,.int .i64 p1,.int .i64 p2] 46)).heap[wr.heap.size]?=some (.cells #[.string (bs tx),.int .i64 p0,.int .i64 p1,.int .i64 p2] 46) :=heap_alloc_new _ _;have Ue:Hid (SMap ((wr.alloc (.cells #[.string (bs tx),.int .i64 p0,.int .i64 p1,.int .i64 p2] 46)).alloc (.cells #[] 169)) mb (A.map fun x=>(x.1,Value.agg #[]))) :=Si.out.keep (Below.heap_alloc _ _ _ (Si.out.lt));obtain⟨w8,hput,hm8,hg8⟩ :=Ue.out.put tx wm (.agg #[]) 168 169 Tryz.underlying168 hno;have HM8:=aa hm8;have IV:=aa hg8;have acp:=aa gZ;clear hm8 hg8 hno hnot jk gZ;go_upto_region 9 with fail;have jy:Hid (((wr.alloc (.cells #[.string (bs tx),.int .i64 p0,.int .i64 p1,.int .i64 p2] 46)).alloc (.cells #[] 169)).ownsRow (mb+1) 46 4 u5 A.length (ak A)) :=(HO.out.alloc _).alloc _;have gF:Hid (Below mb w ((wr.alloc (.cells #[.string (bs tx),.int .i64 p0,.int .i64 p1,.int .i64 p2] 46)).alloc (.cells #[] 169))) :=(bq.out.alloc (by omega) _).alloc (by simp;omega) _
    have Yc:((wr.alloc (.cells #[.string (bs tx),.int .i64 p0,.int .i64 p1,.int .i64 p2] 46)).alloc (.cells #[] 169)).heap[wr.heap.size]?=some (.cells #[.string (bs tx),.int .i64 p0,.int .i64 p1,.int .i64 p2] 46) :=by rw[Below.heap_alloc _ _ _ (by simp)];exact acp.out
    have hs7:((wr.alloc (.cells #[.string (bs tx),.int .i64 p0,.int .i64 p1,.int .i64 p2] 46)).alloc (.cells #[] 169)).heap.size=wr.heap.size+2:=by simp
    generalize(wr.alloc (.cells #[.string (bs tx),.int .i64 p0,.int .i64 p1,.int .i64 p2] 46)).alloc (.cells #[] 169)=w7 at*;have ER:w8.heap[wr.heap.size]?=some (.cells #[.string (bs tx),.int .i64 p0,.int .i64 p1,.int .i64 p2] 46) :=(IV.out.block _ (by omega) (fun e=>by have:=Option.some.inj e;omega)).trans Yc;have e0:w8.cell? ⟨wr.heap.size,0,none⟩=some (.string (bs tx)) :=ah ER 0;have e1:w8.cell? ⟨wr.heap.size,1,none⟩=some (.int .i64 p0) :=ah ER 1;have e2:w8.cell? ⟨wr.heap.size,2,none⟩=some (.int .i64 p1) :=ah ER 2;have e3:w8.cell? ⟨wr.heap.size,3,none⟩=some (.int .i64 p2) :=ah ER 3;have uF:Hid (w8.ownsRow (mb+1) 46 4 u5 A.length (ak A)) :=J3 jy.out (X:=fun b=>b=mb) ⟨IV.out.os,IV.out.tape,IV.out.output,IV.out.size,fun b hb hn=>IV.out.block b hb (fun e=>hn (Option.some.inj e))⟩ (fun b e h=>by have:=bW jy.out b e;omega);have jJ:Hid (Below mb w w8) :=gF.out.grown IV.out (by omega) (fun k e=>by cases e;exact Nat.le_refl _)
    have h8s:=IV.out.size;clear Yc ER t0 t1 t2 t3 hput hlk acp;go_upto_region 10 with(at_builtin;refine wpList_append_own_at _ rfl _ _ 37 rfl (mb+1) 46 i0 (.agg #[.string ⟨#[]⟩,.int .i64 0,.int .i64 0,.int .i64 0]) 4 40 Tryz.underlying37 hi0 hz0 hz1 hz2 rfl (by decide) _ _ _ rfl (uF.out.alloc _) ⟨w8.heap.size,0,none⟩ 1 1 [.string (bs tx),.int .i64 p0,.int .i64 p1,.int .i64 p2] rfl rfl ?c1 ?c2 ?c3 ?c4 ?c5 ?_);case c1=>
     intro q u hq;match q,hq with
     |0,hq=>simp at hq;subst hq;simp[Addr.add]
     |1,hq=>simp at hq;subst hq;simp[Addr.add]
     |2,hq=>simp at hq;subst hq;simp[Addr.add]
     |3,hq=>simp at hq;subst hq;simp[Addr.add]
     |q+4,hq=>simp at hq
    case c2=>intro u hu;simp at hu;rcases hu with rfl|rfl|rfl|rfl<;>rfl
    case c3=>unfold maxLen;omega
    case c4=>omega
    case c5=>simp;omega
    intro v' w9 hown' hgrow hne hat;have hO9:(w8.alloc (.cells #[.string (bs tx),.int .i64 p0,.int .i64 p1,.int .i64 p2] 46)).ownsRow (mb+1) 46 4 u5 A.length (ak A) :=uF.out.alloc _;have RR:Hid (w9.ownsRow (mb+1) 46 4 v' (lF (l.take (k+1))).length (ak (lF (l.take (k+1))))∧(lF (l.take (k+1))).length≤k+1∧SMap w9 mb ((lF (l.take (k+1))).map fun x=>(x.1,Value.agg #[]))∧Below mb w w9) :=by
     rw[HE.out];refine⟨?_,by rw[List.length_append];simp;omega,?_,?_⟩;·rw[cK,show(A++ [(tx,p0,p1,p2)]).length=A.length+1 from List.length_append];exact hown'
     ·rw[List.map_append];refine HM8.out.keep ?_;rw[hgrow.block mb (by simp;omega) (vF hO9 (by omega)),Below.heap_alloc _ _ _ (by omega)]
     ·exact(jJ.out.alloc (by omega) _).grown hgrow (by simp;omega) (fun k e=>by have:=bW hO9 k e;omega)
    clear hown' hgrow hne hat hO9 e0 e1 e2 e3;go_wp2_with fail;go_roundw;case rel=>exact⟨k+1,by omega,by go_num,RR.out⟩
    case measure=>simp[intOf];omega
   ·obtain⟨hyes,rfl⟩ :=Y3 hj;have HE:Hid (lF (l.take (k+1))=A) :=by show _=_;rw[jk.out,vT,if_pos hyes]
    clear hj hyes jk;go_wp2_with fail;go_roundw;case rel=>
     refine⟨k+1,by omega,by go_num,?_,?_,?_,(bq.out.alloc (by omega) _).alloc (by simp;omega) _⟩;·rw[HE.out];exact(HO.out.alloc _).alloc _
     ·rw[HE.out];omega
     ·rw[HE.out];exact Si.out.keep (Below.heap_alloc _ _ _ (Si.out.lt))
    case measure=>simp[intOf];omega
  ·have HE:Hid (lF (l.take k)=lF l) :=by show _=_;rw[List.take_of_length_le (by omega)]
   go_wp2_with fail;go_ret2;rw[←HE.out];try rw[hB]
   exact⟨_,rfl,dS HO.out (by omega),bq.out⟩
end Go.Proofs.YtcjiphknpagenaaGreatDoor
