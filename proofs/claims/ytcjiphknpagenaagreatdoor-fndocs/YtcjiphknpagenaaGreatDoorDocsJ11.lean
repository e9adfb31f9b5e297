import Derived.Test.YtcjiphknpagenaaGreatDoorDocsJ10
namespace Go.Proofs.YtcjiphknpagenaaGreatDoor
open Go Go.RowKit
set_option linter.unusedVariables false
set_option linter.unusedSimpArgs false
set_option maxRecDepth 100000
set_option maxHeartbeats 16000000
theorem Ij {W:World} {a:Option Addr} {n c:Nat} {l:List UInt8}(hl:l.length=n)(h:n=0∨∃b off,a=some ⟨b,off,none⟩∧BytesAt W b off l) :(convert 22 9 (.slice a n c)).run Tryz.prog W= .ok (.string ⟨l.toArray⟩) W:=by
 subst hl;rcases h with h| ⟨b,off,rfl,hB⟩
 ·have e:l= [] :=List.length_eq_zero_iff.1 h;subst e;cases a with
  |none=>exact run_convert_bytes_nil W 22 5 Tryz.underlying22 Tryz.underlying5 0 c 9 Tryz.underlying9
  |some ad=>exact run_convert_bytes_back W 22 9 5 ad c [] Tryz.underlying22 Tryz.underlying5 Tryz.underlying9 fun j hj=>absurd hj (by simp)
 ·refine run_convert_bytes_back W 22 9 5 ⟨b,off,none⟩ c l Tryz.underlying22 Tryz.underlying5 Tryz.underlying9 fun j hj=> ?_;have:=hB j hj;rw[Go.WideShapes.add_plain,this];simp[List.getD_eq_getElem?_getD,hj]
theorem iP.drew {w0 W:World} {B:Nat} {bs:List UInt8} {sh:Bool}(h:iP w0 W B bs sh) :iP w0 W.drew B bs sh:=h.below (below_drewN (Below.refl _ _) 1)
theorem Bg {w0 W:World} {B:Nat} {bs t r:List UInt8}(hn:bs.length≤1048576)(h:iP w0 W B bs false)(hr:oK bs=some (t,r)) :Calls Tryz.prog 79 #[.pointer (some ⟨B,0,none⟩)] W fun e w'=>e= .returned (.string ⟨t.toArray⟩)∧iP w0 w' B r false∧iI B W w':=by
 obtain⟨n,q,hq,hle,rfl,rfl⟩ :=XY hr;have Li:=tu hq;have HU:=aa (qM hn (by omega) h.drew hq);have HT:=aa (fun W'(h':iP w0 W' B q false)=>Te (by omega) h' hle);have htl:(q.take n).length=n:=by rw[List.length_take];omega
 clear h hr hq;go_enter Tryz.func79,Tryz.ntmps79;go_wp2_with fail;go_region_with(first| (go_at_call 80;refine HU.out.mono ?_;rintro e' w2⟨rfl,h2,hf2⟩)| (go_at_call 97;refine(HT.out _ h2).mono ?_;rintro e'' w3⟨a3,c3,rfl,hb3,h3,hf3⟩;have hcv:=Ij (c:=c3) htl hb3;obtain⟨v3,hx3,_⟩ :=h3.box;have x3:=ah hx3 1));all_goals have HF:Hid (iP w0 w3 B (q.drop n) false∧iI B W w3) :=⟨h3,hf2.trans hf3⟩;clear h2 h3 hf2 hf3;go_wp2_with fail;go_ret;exact⟨rfl,HF.out⟩
theorem AX {w0 W:World} {u:TypeId} {pv:Value} {B:Nat} {bs:List UInt8}(hE:zI w0 u pv)(hn:bs.length≤1048576)(h:iP w0 W B bs false)(hr:oK bs=none) :Calls Tryz.prog 79 #[.pointer (some ⟨B,0,none⟩)] W fun e w'=>Cut u pv w0 W B e w':=by
 rcases Wp hr with hq| ⟨n,q,hq,hle⟩
 ·have HU:=aa (tN hE hn (by omega) h.drew hq);have x0:=hE.at h.old;clear h hr hq hE;go_enter Tryz.func79,Tryz.ntmps79;go_wp2_with fail;refine wp_region_held_drew (S:=(fun w'=>w'.cell? ⟨0,0,none⟩=some (.iface u pv))) (by kernel_rfl) ?_ (fun hHeld=> ?_);·exact x0
  refine wpAnyH_take (i:=0) (v:= ?_) rfl (by kernel_rfl) (by kernel_rfl) (by kernel_rfl) (fun _ _ _ h=>h) (Or.inl ⟨by kernel_rfl,?_⟩) (by assumption) ?_;rotate_left;·(intro w hSw;(try dsimp only at hSw);go_simp<;>with_reducible rfl)
  (simp only[Act.put,List.getElem_toArray,List.getElem_cons_succ,List.getElem_cons_zero,List.setIfInBounds_toArray,List.set_cons_zero,List.set_cons_succ]);refine wpAnyH_take (i:=1) (v:= ?_) rfl (by kernel_rfl) (by kernel_rfl) (by kernel_rfl) (fun _ _ _ h=>h) (Or.inl ⟨by kernel_rfl,?_⟩) (by assumption) ?_;rotate_left;·(intro w hSw;(try dsimp only at hSw);go_simp<;>with_reducible rfl)
  (simp only[Act.put,List.getElem_toArray,List.getElem_cons_succ,List.getElem_cons_zero,List.setIfInBounds_toArray,List.set_cons_zero,List.set_cons_succ]);refine wpAnyH_take (i:=2) (v:= ?_) rfl (by kernel_rfl) (by kernel_rfl) (by kernel_rfl) (fun _ _ _ h=>h) (Or.inl ⟨by kernel_rfl,?_⟩) (by assumption) ?_;rotate_left;·(intro w hSw;(try dsimp only at hSw);go_simp<;>with_reducible rfl)
  (simp only[Act.put,List.getElem_toArray,List.getElem_cons_succ,List.getElem_cons_zero,List.setIfInBounds_toArray,List.set_cons_zero,List.set_cons_succ]);refine wpAnyH_take (i:=3) (v:= ?_) rfl (by kernel_rfl) (by kernel_rfl) (by kernel_rfl) (fun _ _ _ h=>h) (Or.inl ⟨by kernel_rfl,?_⟩) (by assumption) ?_;rotate_left;·(intro w hSw;(try dsimp only at hSw);go_simp<;>with_reducible rfl)
  (simp only[Act.put,List.getElem_toArray,List.getElem_cons_succ,List.getElem_cons_zero,List.setIfInBounds_toArray,List.set_cons_zero,List.set_cons_succ]);refine wpAnyH_ready (rs:=[4]) (by kernel_rfl) (by simp) ?_;refine AllReadyH.cons rfl (fun K hK=> ?_) AllReadyH.nil;go_simp;refine HU.out.mono ?_;rintro e' w2⟨rfl,h2,hf2⟩;exact⟨rfl,rfl,h2,hf2⟩
 ·have Li:=tu hq;have HU:=aa (qM hn (by omega) h.drew hq);have HT:=aa (fun W'(h':iP w0 W' B q false)=>SS (by omega) (by omega) h' hle);have HE:=aa hE;clear h hr hq hE;go_enter Tryz.func79,Tryz.ntmps79;go_wp2_with fail;go_region_with(first| (go_at_call 80;refine HU.out.mono ?_;rintro e' w2⟨rfl,h2,hf2⟩)| (go_at_call 97;refine(HT.out _ h2).mono ?_;rintro e'' w3⟨rfl,h3,hf3⟩;have hcv:=Ij (W:=w3) (a:=none) (n:=0) (c:=0) (l:=[]) rfl (Or.inl rfl);obtain⟨v3,hx3,_⟩ :=h3.box;have x3:=ah hx3 1;have x0:=HE.out.at h3.old));all_goals have HF:Hid (Below w0.heap.size w0 w3∧iI B W w3) :=⟨h3.old,hf2.trans hf3⟩;clear h2 h3 hf2 hf3;go_wp2_with fail;exact⟨rfl,rfl,HF.out⟩
theorem PG(v:Nat)(w:World)(hv:v≤2000000000000) :Calls Tryz.prog 81 #[.int .i64 (v:Int)] w fun e w'=>e= .returned (.int .i64 (AO v))∧w'=w:=by
 by_cases h:v %2=1
 ·have HS:Hid (AO v= -(((v:Int)+1) /2)) :=by show _=_;rw[AO,if_pos h];push_cast;rfl
  have hz:((v:Int) %2==1)=true:=by simp;omega
  have hm:(v:Int).tmod 2=1:=by rw[Int.tmod_eq_emod_of_nonneg (by omega)];omega
  have hd:(-((v:Int)+1)).tdiv 2= -((((v:Int)+1)) /2) :=by rw[Int.neg_tdiv,Int.tdiv_eq_ediv_of_nonneg (by omega)]
  go_enter Tryz.func81,Tryz.ntmps81;go_wp2_with fail;go_ret;rw[HS.out];exact⟨rfl,rfl⟩
 ·have HS:Hid (AO v=(v:Int) /2) :=by show _=_;rw[AO,if_neg h];push_cast;rfl
  have hv0:v %2=0:=by omega
  have hz:((v:Int) %2==1)=false:=by simp;omega
  have hm:(v:Int).tmod 2=0:=by rw[Int.tmod_eq_emod_of_nonneg (by omega)];omega
  clear h;go_enter Tryz.func81,Tryz.ntmps81;go_wp2_with fail;go_ret;rw[HS.out];exact⟨rfl,rfl⟩
theorem Cg(w:World) :Calls Tryz.prog 82 #[.int .i64 1000000000000] w fun e w'=>e= .returned (.int .i64 2000000000000)∧w'=w:=by go_enter Tryz.func82,Tryz.ntmps82;go_wp2_with fail;go_ret;exact⟨rfl,rfl⟩
def zo(xs:List Value)(i b:Nat) :Prop:=∃v,(xs[i*3+1]?=some v∨xs[i*3+2]?=some v)∧v.ownBlock=some b
def agj(w:World)(lo:Nat)(xs:List Value)(j:Nat)(v:Vl) :Prop:=∃vt vn,xs[j*3]?=some (mkS v.1)∧xs[j*3+1]?=some vt∧xs[j*3+2]?=some vn∧w.ownsRow lo 9 1 vt v.2.1.length (v.2.1.map mkS)∧w.ownsRow lo 3 1 vn v.2.2.length (v.2.2.map EJ)
structure kC(w:World)(lo hi:Nat)(va:Value)(V:List Vl)(xs:List Value) :Prop where
 row:w.ownsRow lo 43 3 va V.length xs
 top: ∀b,va.ownBlock=some b→b<hi
 val: ∀j,j<V.length→agj w lo xs j (V.getD j aQ)
 lie: ∀j b,j<V.length→zo xs j b→lo≤b∧b<hi
 dis: ∀i j b,i<j→j<V.length→zo xs i b→¬zo xs j b
theorem jC {w w':World} {base e sz n:Nat} {v:Value} {xs:List Value}(h:w.ownsRow base e sz v n xs)(hk: ∀b,v.ownBlock=some b→w'.heap[b]?=w.heap[b]?) :w'.ownsRow base e sz v n xs:=cz h hk
theorem kC.keep {w w':World} {lo hi:Nat} {va:Value} {V:List Vl} {xs:List Value}(h:kC w lo hi va V xs)(hk: ∀b,lo≤b→b<hi→w'.heap[b]?=w.heap[b]?) :kC w' lo hi va V xs:=by
 refine⟨jC h.row fun b hb=>hk b (h.row.lt b hb).1 (h.top b hb),h.top,fun j hj=> ?_,h.lie,h.dis⟩;obtain⟨vt,vn,h0,h1,h2,h3,h4⟩ :=h.val j hj;refine⟨vt,vn,h0,h1,h2,jC h3 fun b hb=> ?_,jC h4 fun b hb=> ?_⟩;·have:=h.lie j b hj ⟨vt,Or.inl h1,hb⟩;exact hk b this.1 this.2
 ·have:=h.lie j b hj ⟨vn,Or.inr h2,hb⟩;exact hk b this.1 this.2
theorem kC.mono {w:World} {lo hi hi':Nat} {va:Value} {V:List Vl} {xs:List Value}(h:kC w lo hi va V xs)(hh:hi≤hi') :kC w lo hi' va V xs:=⟨h.row,fun b hb=>by have:=h.top b hb;omega,h.val,fun j b hj hl=>by have:=h.lie j b hj hl;omega,h.dis⟩
theorem kC.nil(w:World)(lo hi:Nat) :kC w lo hi (.slice none 0 0) [] [] :=⟨World.ownsRow_nil _ _ _ _,fun b hb=>by simp[Value.ownBlock]at hb,fun j hj=>absurd hj (by simp),fun j b hj _=>absurd hj (by simp),fun i j b _ hj _=>absurd hj (by simp)⟩
theorem zG {w:World} {base base' e e' sz sz' n n':Nat} {v v':Value} {xs xs':List Value}(h:w.ownsRow base e sz v n xs)(h':w.ownsRow base' e' sz' v' n' xs')(hne:e≠e') :v.ownBlock=none∨v.ownBlock≠v'.ownBlock:=by
 rcases h.2 with⟨rfl,_⟩| ⟨g,cap,cur,rfl,_,hg,_⟩;·exact Or.inl rfl
 ·refine Or.inr fun e0=> ?_;rcases h'.2 with⟨rfl,_⟩| ⟨g',cap',cur',rfl,_,hg',_⟩;·simp[Value.ownBlock]at e0
  ·simp only[Value.ownBlock,Option.some.injEq]at e0;subst e0;rw[hg]at hg';simp only[Option.some.injEq,Obj.cells.injEq]at hg';exact hne hg'.2.1
theorem Ig {w:World} {base base' e n size:Nat} {v:Value} {xs:List Value}(h:w.ownsRow base e size v n xs)(hb:base'≤base) :w.ownsRow base' e size v n xs:=by
 refine⟨h.1,?_⟩;rcases h.2 with h'| ⟨g,cap,cur,h1,h2,h3⟩;·exact Or.inl h'
 ·exact Or.inr ⟨g,cap,cur,h1,by omega,h3⟩
theorem kC.snoc {w w':World} {lo hi lo2 hi':Nat} {va va' vt vn:Value} {V:List Vl} {v:Vl} {xs:List Value}(h:kC w lo hi va V xs)(hl:lo≤lo2)(hh:hi≤lo2)(hr:w'.ownsRow lo 43 3 va' (V.length+1) (xs++ [mkS v.1,vt,vn]))(ht: ∀b,va'.ownBlock=some b→b<hi')(h1:w'.ownsRow lo2 9 1 vt v.2.1.length (v.2.1.map mkS))(h2:w'.ownsRow lo2 3 1 vn v.2.2.length (v.2.2.map EJ))(hb: ∀b,vt.ownBlock=some b∨vn.ownBlock=some b→b<hi')(hhi:hi≤hi')(hk: ∀b j,j<V.length→zo xs j b→w'.heap[b]?=w.heap[b]?) :kC w' lo hi' va' (V++ [v]) (xs++ [mkS v.1,vt,vn]) :=by
 have hxl:=h.row.1;have old: ∀i j,i<V.length→j<3→(xs++ [mkS v.1,vt,vn])[i*3+j]?=xs[i*3+j]?:=fun i j hi hj=>List.getElem?_append_left (by omega);have new: ∀j,j<3→(xs++ [mkS v.1,vt,vn])[V.length*3+j]?= [mkS v.1,vt,vn][j]?:=fun j hj=>by rw[List.getElem?_append_right (by omega),hxl,Nat.add_sub_cancel_left]
 have PU: ∀i b,i<V.length→zo (xs++ [mkS v.1,vt,vn]) i b→zo xs i b:=fun i b hi⟨u,hu,hub⟩=>⟨u,by rw[old i 1 hi (by omega),old i 2 hi (by omega)]at hu;exact hu,hub⟩;have newL: ∀b,zo (xs++ [mkS v.1,vt,vn]) V.length b→lo2≤b∧b<hi':=fun b⟨u,hu,hub⟩=>by
  rw[new 1 (by omega),new 2 (by omega)]at hu;simp only[List.getElem?_cons_succ,List.getElem?_cons_zero,Option.some.injEq]at hu;rcases hu with rfl|rfl;·exact⟨(h1.lt b hub).1,hb b (Or.inl hub)⟩
  ·exact⟨(h2.lt b hub).1,hb b (Or.inr hub)⟩
 refine⟨by rw[List.length_append];exact hr,ht,fun j hj=> ?_,fun j b hj JS=> ?_,fun i j b hij hj hi1 hj1=> ?_⟩
 ·rw[List.length_append]at hj;by_cases e:j=V.length
  ·subst e;have g:(V++ [v]).getD V.length aQ=v:=by simp
   rw[g];have n0:=new 0 (by omega);exact⟨vt,vn,n0,new 1 (by omega),new 2 (by omega),Ig h1 hl,Ig h2 hl⟩
  ·have hj':j<V.length:=by simp at hj;omega
   have g:(V++ [v]).getD j aQ=V.getD j aQ:=by simp[List.getD_eq_getElem?_getD,List.getElem?_append_left hj']
   rw[g];obtain⟨ut,un,q0,q1,q2,q3,q4⟩ :=h.val j hj';have o0:=old j 0 hj' (by omega);exact⟨ut,un,o0.trans q0,(old j 1 hj' (by omega)).trans q1,(old j 2 hj' (by omega)).trans q2,jC q3 fun b hb'=>hk b j hj' ⟨ut,Or.inl q1,hb'⟩,jC q4 fun b hb'=>hk b j hj' ⟨un,Or.inr q2,hb'⟩⟩
 ·rw[List.length_append]at hj;by_cases e:j=V.length;·subst e;have:=newL b JS;omega
  ·have hj':j<V.length:=by simp at hj;omega
   have:=h.lie j b hj' (PU j b hj' JS);omega
 ·rw[List.length_append]at hj;by_cases e:j=V.length;·subst e;have a:=newL b hj1;have c:=h.lie i b (by omega) (PU i b (by omega) hi1);omega
  ·have hj':j<V.length:=by simp at hj;omega
   exact h.dis i j b hij hj' (PU i b (by omega) hi1) (PU j b hj' hj1)
structure D1(w0 W wr:World)(B B0 B1:Nat)(id:List UInt8)(va:Value)(V:List Vl)(xs:List Value)(r:List UInt8) :Prop where
 nI:iP w0 wr B r false
 b0:B<B0
 b1:B0<B1
 res:wr.heap[B0]?=some (.cells #[.string ⟨#[]⟩,.slice none 0 0] 28)
 box:wr.heap[B1]?=some (.cells #[.string ⟨id.toArray⟩,va] 28)
 ans:kC wr (B1+1) wr.heap.size va V xs
 fr: ∀b,b<B0→b≠B→wr.heap[b]?=W.heap[b]?
 top:W.heap.size≤B0
structure D2(w0 W wr:World)(B B0 B1 B2:Nat)(id f:List UInt8)(va vt vn:Value)(V:List Vl)(xs:List Value)(tx:List (List UInt8))(nz:List Int)(r:List UInt8) :Prop where
 nI:iP w0 wr B r false
 b0:B<B0
 b1:B0<B1
 b2:B1<B2
 res:wr.heap[B0]?=some (.cells #[.string ⟨#[]⟩,.slice none 0 0] 28)
 box:wr.heap[B1]?=some (.cells #[.string ⟨id.toArray⟩,va] 28)
 ans:kC wr (B1+1) B2 va V xs
 yx:wr.heap[B2]?=some (.cells #[.string ⟨f.toArray⟩,vt,vn] 43)
 rt:wr.ownsRow (B2+1) 9 1 vt tx.length (tx.map mkS)
 rn:wr.ownsRow (B2+1) 3 1 vn nz.length (nz.map EJ)
 fr: ∀b,b<B0→b≠B→wr.heap[b]?=W.heap[b]?
 top:W.heap.size≤B0
theorem D1.lt {w0 W wr:World} {B B0 B1:Nat} {id:List UInt8} {va:Value} {V:List Vl} {xs:List Value} {r:List UInt8}(h:D1 w0 W wr B B0 B1 id va V xs r) :B1<wr.heap.size:=(Array.getElem?_eq_some_iff.1 h.box).1
theorem D2.lt {w0 W wr:World} {B B0 B1 B2:Nat} {id f:List UInt8} {va vt vn:Value} {V:List Vl} {xs:List Value} {tx:List (List UInt8)} {nz:List Int} {r:List UInt8}(h:D2 w0 W wr B B0 B1 B2 id f va vt vn V xs tx nz r) :B2<wr.heap.size:=(Array.getElem?_eq_some_iff.1 h.yx).1
theorem D1.call {w0 W wr W':World} {B B0 B1:Nat} {id:List UInt8} {va:Value} {V:List Vl} {xs:List Value} {r r':List UInt8}(h:D1 w0 W wr B B0 B1 id va V xs r)(hr:iP w0 W' B r' false)(hf:iI B wr W') :D1 w0 W W' B B0 B1 id va V xs r':=by have hl:=h.lt;have a0:=h.b0;have a1:=h.b1;exact⟨hr,h.b0,h.b1,(hf.2 _ (by omega) (by omega)).trans h.res,(hf.2 _ hl (by omega)).trans h.box,(h.ans.keep fun b h1 h2=>hf.2 b h2 (by omega)).mono hf.1,fun b hb hne=>(hf.2 b (by omega) hne).trans (h.fr b hb hne),h.top⟩
theorem D2.call {w0 W wr W':World} {B B0 B1 B2:Nat} {id f:List UInt8} {va vt vn:Value} {V:List Vl} {xs:List Value} {tx:List (List UInt8)} {nz:List Int} {r r':List UInt8}(h:D2 w0 W wr B B0 B1 B2 id f va vt vn V xs tx nz r)(hr:iP w0 W' B r' false)(hf:iI B wr W') :D2 w0 W W' B B0 B1 B2 id f va vt vn V xs tx nz r':=by have hl:=h.lt;have a0:=h.b0;have a1:=h.b1;have a2:=h.b2;exact⟨hr,h.b0,h.b1,h.b2,(hf.2 _ (by omega) (by omega)).trans h.res,(hf.2 _ (by omega) (by omega)).trans h.box,h.ans.keep fun b h1 h2=>hf.2 b (by omega) (by omega),(hf.2 _ hl (by omega)).trans h.yx,jC h.rt fun b hb=>hf.2 b (h.rt.lt b hb).2 (by have:=(h.rt.lt b hb).1;omega),jC h.rn fun b hb=>hf.2 b (h.rn.lt b hb).2 (by have:=(h.rn.lt b hb).1;omega),fun b hb hne=>(hf.2 b (by omega) hne).trans (h.fr b hb hne),h.top⟩
theorem D1.below {w0 W wr W':World} {B B0 B1:Nat} {id:List UInt8} {va:Value} {V:List Vl} {xs:List Value} {r:List UInt8}(h:D1 w0 W wr B B0 B1 id va V xs r)(hb:Below wr.heap.size wr W') :D1 w0 W W' B B0 B1 id va V xs r:=h.call (h.nI.below hb) ⟨hb.size,fun b hl _=>hb.block b hl⟩
theorem D2.below {w0 W wr W':World} {B B0 B1 B2:Nat} {id f:List UInt8} {va vt vn:Value} {V:List Vl} {xs:List Value} {tx:List (List UInt8)} {nz:List Int} {r:List UInt8}(h:D2 w0 W wr B B0 B1 B2 id f va vt vn V xs tx nz r)(hb:Below wr.heap.size wr W') :D2 w0 W W' B B0 B1 B2 id f va vt vn V xs tx nz r:=h.call (h.nI.below hb) ⟨hb.size,fun b hl _=>hb.block b hl⟩
theorem D1.open {w0 W wr:World} {B B0 B1:Nat} {id f:List UInt8} {va:Value} {V:List Vl} {xs:List Value} {r:List UInt8}(h:D1 w0 W wr B B0 B1 id va V xs r) :D2 w0 W (wr.alloc (.cells #[.string ⟨f.toArray⟩,.slice none 0 0,.slice none 0 0] 43)) B B0 B1 wr.heap.size id f va (.slice none 0 0) (.slice none 0 0) V xs [] [] r:=by have hb:Below wr.heap.size wr (wr.alloc (.cells #[.string ⟨f.toArray⟩,.slice none 0 0,.slice none 0 0] 43)) :=(Below.refl _ _).alloc (Nat.le_refl _) _;have h2:=h.below hb;have hl:=h.lt;exact⟨h2.nI,h2.b0,h2.b1,hl,h2.res,h2.box,h.ans.keep fun b _ hb2=>hb.block b hb2,heap_alloc_new _ _,World.ownsRow_nil _ _ _ _,World.ownsRow_nil _ _ _ _,h2.fr,h2.top⟩
theorem D2.step {w0 W wr w':World} {B B0 B1 B2:Nat} {id f:List UInt8} {va vt vn vt' vn':Value} {V:List Vl} {xs:List Value} {tx EH:List (List UInt8)} {nz nz':List Int} {r:List UInt8}(h:D2 w0 W wr B B0 B1 B2 id f va vt vn V xs tx nz r)(hk: ∀b,b<B2→w'.heap[b]?=wr.heap[b]?)(hs:wr.heap.size≤w'.heap.size)(ho:w'.os=wr.os)(ht:w'.tape=wr.tape)(hu:w'.output=wr.output)(hv:w'.heap[B2]?=some (.cells #[.string ⟨f.toArray⟩,vt',vn'] 43))(h1:w'.ownsRow (B2+1) 9 1 vt' EH.length (EH.map mkS))(h2:w'.ownsRow (B2+1) 3 1 vn' nz'.length (nz'.map EJ)) :D2 w0 W w' B B0 B1 B2 id f va vt' vn' V xs EH nz' r:=by have hl:=h.lt;have a0:=h.b0;have a1:=h.b1;have a2:=h.b2;have hn:=h.nI.new;refine⟨h.nI.keep (h.nI.old.trans ⟨ho,ht,hu,hs,fun b hb=>hk b (by omega)⟩) (hk _ (by omega)),h.b0,h.b1,h.b2,(hk _ (by omega)).trans h.res,(hk _ (by omega)).trans h.box,h.ans.keep fun b _ hb=>hk b hb,hv,h1,h2,fun b hb hne=>(hk b (by omega)).trans (h.fr b hb hne),h.top⟩
theorem D2.JF {w0 W wr V' w6:World} {B B0 B1 B2 g6 bL:Nat} {id f t:List UInt8} {va vt vn:Value} {V:List Vl} {xs:List Value} {tx:List (List UInt8)} {nz:List Int} {r:List UInt8}(h:D2 w0 W wr B B0 B1 B2 id f va vt vn V xs tx nz r)(hV:Below wr.heap.size wr V')(hown:w6.ownsRow (B2+1) 9 1 (.slice (some ⟨g6,0,none⟩) (tx.length+1) bL) (tx.length+1) (tx.map mkS++ [mkS t]))(hg:V'.grownBy w6 vt.ownBlock)(hat:vt.ownBlock=some g6∨g6=V'.heap.size) :w6.heap[B2]?=some (.cells #[.string ⟨f.toArray⟩,vt,vn] 43)∧D2 w0 W (w6.setCell ⟨B2,1,none⟩ (.slice (some ⟨g6,0,none⟩) (tx.length+1) bL)) B B0 B1 B2 id f va (.slice (some ⟨g6,0,none⟩) (tx.length+1) bL) vn V xs (tx++ [t]) nz r:=by
 have hl:=h.lt;have hVs:=hV.size;have hva: ∀b,vt.ownBlock=some b→B2+1≤b:=fun b hb=>(h.rt.lt b hb).1;have hk: ∀b,b≤B2→w6.heap[b]?=wr.heap[b]?:=fun b hb=>by rw[hg.block b (by omega) (fun e=>by have:=hva b e.symm;omega),hV.block b (by omega)]
 have gZ:=(hk B2 (Nat.le_refl _)).trans h.yx;have Hg:g6≠B2:=by
  rcases hat with e|e;·have:=hva g6 e;omega
  ·omega
 refine⟨gZ,h.step (fun b hb=>(au w6 B2 1 _ b (by omega)).trans (hk b (by omega))) (by simpa using Nat.le_trans hV.size hg.size) (by show w6.os=_;rw[hg.os,hV.os]) (by show w6.tape=_;rw[hg.tape,hV.tape]) (by show w6.output=_;rw[hg.output,hV.output]) (aV gZ 1 _) ?_ ?_⟩;·rw[List.length_append,List.map_append];exact cz hown fun b hb=>au w6 B2 1 _ b (by cases hb;exact Hg)
 ·have hn1:w6.ownsRow (B2+1) 3 1 vn nz.length (nz.map EJ) :=by refine World.ownsRow.kept (jC h.rn fun b hb=>hV.block b (h.rn.lt b hb).2) hg ?_;exact zG h.rn h.rt (by decide)
  exact jC hn1 fun b hb=>au w6 B2 1 _ b (by have:=(hn1.lt b hb).1;omega)
theorem D2.ac1 {w0 W wr V' w6:World} {B B0 B1 B2 g6 bL:Nat} {id f:List UInt8} {z:Int} {va vt vn:Value} {V:List Vl} {xs:List Value} {tx:List (List UInt8)} {nz:List Int} {r:List UInt8}(h:D2 w0 W wr B B0 B1 B2 id f va vt vn V xs tx nz r)(hV:Below wr.heap.size wr V')(hown:w6.ownsRow (B2+1) 3 1 (.slice (some ⟨g6,0,none⟩) (nz.length+1) bL) (nz.length+1) (nz.map EJ++ [EJ z]))(hg:V'.grownBy w6 vn.ownBlock)(hat:vn.ownBlock=some g6∨g6=V'.heap.size) :w6.heap[B2]?=some (.cells #[.string ⟨f.toArray⟩,vt,vn] 43)∧D2 w0 W (w6.setCell ⟨B2,2,none⟩ (.slice (some ⟨g6,0,none⟩) (nz.length+1) bL)) B B0 B1 B2 id f va vt (.slice (some ⟨g6,0,none⟩) (nz.length+1) bL) V xs tx (nz++ [z]) r:=by
 have hl:=h.lt;have hVs:=hV.size;have hva: ∀b,vn.ownBlock=some b→B2+1≤b:=fun b hb=>(h.rn.lt b hb).1;have hk: ∀b,b≤B2→w6.heap[b]?=wr.heap[b]?:=fun b hb=>by rw[hg.block b (by omega) (fun e=>by have:=hva b e.symm;omega),hV.block b (by omega)]
 have gZ:=(hk B2 (Nat.le_refl _)).trans h.yx;have Hg:g6≠B2:=by
  rcases hat with e|e;·have:=hva g6 e;omega
  ·omega
 refine⟨gZ,h.step (fun b hb=>(au w6 B2 2 _ b (by omega)).trans (hk b (by omega))) (by simpa using Nat.le_trans hV.size hg.size) (by show w6.os=_;rw[hg.os,hV.os]) (by show w6.tape=_;rw[hg.tape,hV.tape]) (by show w6.output=_;rw[hg.output,hV.output]) (aV gZ 2 _) ?_ ?_⟩
 ·have hn1:w6.ownsRow (B2+1) 9 1 vt tx.length (tx.map mkS) :=by refine World.ownsRow.kept (jC h.rt fun b hb=>hV.block b (h.rt.lt b hb).2) hg ?_;exact zG h.rt h.rn (by decide)
  exact jC hn1 fun b hb=>au w6 B2 2 _ b (by have:=(hn1.lt b hb).1;omega)
 ·rw[List.length_append,List.map_append];exact cz hown fun b hb=>au w6 B2 2 _ b (by cases hb;exact Hg)
theorem D2.close {w0 W wr V' w6:World} {B B0 B1 B2 g6 bL:Nat} {id f:List UInt8} {va vt vn:Value} {V:List Vl} {xs:List Value} {tx:List (List UInt8)} {nz:List Int} {r:List UInt8}(h:D2 w0 W wr B B0 B1 B2 id f va vt vn V xs tx nz r)(hV:Below wr.heap.size wr V')(hown:w6.ownsRow (B1+1) 43 3 (.slice (some ⟨g6,0,none⟩) (V.length+1) bL) (V.length+1) (xs++ [mkS f,vt,vn]))(hg:V'.grownBy w6 va.ownBlock)(hat:va.ownBlock=some g6∨g6=V'.heap.size)(hlt:g6<w6.heap.size) :w6.heap[B1]?=some (.cells #[.string ⟨id.toArray⟩,va] 28)∧D1 w0 W (w6.setCell ⟨B1,1,none⟩ (.slice (some ⟨g6,0,none⟩) (V.length+1) bL)) B B0 B1 id (.slice (some ⟨g6,0,none⟩) (V.length+1) bL) (V++ [(f,tx,nz)]) (xs++ [mkS f,vt,vn]) r:=by
 have hl:=h.lt;have hVs:=hV.size;have hgs:=hg.size;have a0:=h.b0;have a1:=h.b1;have a2:=h.b2;have hn:=h.nI.new;have hva: ∀b,va.ownBlock=some b→B1+1≤b:=fun b hb=>(h.ans.row.lt b hb).1;have aah: ∀b,va.ownBlock=some b→b<B2:=h.ans.top;have hk: ∀b,b<wr.heap.size→va.ownBlock≠some b→w6.heap[b]?=wr.heap[b]?:=fun b hb hne=>by rw[hg.block b (by omega) (fun e=>hne e.symm),hV.block b hb]
 have gZ:=(hk B1 (by omega) (fun e=>by have:=hva B1 e;omega)).trans h.box;have Hg:g6≠B1:=by
  rcases hat with e|e;·have:=hva g6 e;omega
  ·omega
 have hset: ∀b,b≠B1→(w6.setCell ⟨B1,1,none⟩ (.slice (some ⟨g6,0,none⟩) (V.length+1) bL)).heap[b]?=w6.heap[b]?:=fun b hb=>au w6 B1 1 _ b hb;have hrow: ∀b,b<wr.heap.size→b≠B1→va.ownBlock≠some b→(w6.setCell ⟨B1,1,none⟩ (.slice (some ⟨g6,0,none⟩) (V.length+1) bL)).heap[b]?=wr.heap[b]?:=fun b hb h1 h2=>(hset b h1).trans (hk b hb h2);have ht1:(w6.setCell ⟨B1,1,none⟩ (.slice (some ⟨g6,0,none⟩) (V.length+1) bL)).ownsRow (B2+1) 9 1 vt tx.length (tx.map mkS) :=jC h.rt fun b hb=>hrow b (h.rt.lt b hb).2 (by have:=(h.rt.lt b hb).1;omega) (fun e=>by have:=aah b e;have:=(h.rt.lt b hb).1;omega);have ht2:(w6.setCell ⟨B1,1,none⟩ (.slice (some ⟨g6,0,none⟩) (V.length+1) bL)).ownsRow (B2+1) 3 1 vn nz.length (nz.map EJ) :=jC h.rn fun b hb=>hrow b (h.rn.lt b hb).2 (by have:=(h.rn.lt b hb).1;omega) (fun e=>by have:=aah b e;have:=(h.rn.lt b hb).1;omega);have qj:(w6.setCell ⟨B1,1,none⟩ (.slice (some ⟨g6,0,none⟩) (V.length+1) bL)).heap.size=w6.heap.size:=by simp
 refine⟨gZ,h.nI.keep (h.nI.old.trans ⟨by show w6.os=_;rw[hg.os,hV.os],by show w6.tape=_;rw[hg.tape,hV.tape],by show w6.output=_;rw[hg.output,hV.output],by rw[qj];omega,fun b hb=>hrow b (by omega) (by omega) (fun e=>by have:=hva b e;omega)⟩) (hrow _ (by omega) (by omega) (fun e=>by have:=hva _ e;omega)),h.b0,h.b1,(hrow _ (by omega) (by omega) (fun e=>by have:=hva _ e;omega)).trans h.res,aV gZ 1 _,?_,fun b hb hne=>(hrow b (by omega) (by omega) (fun e=>by have:=hva b e;omega)).trans (h.fr b hb hne),h.top⟩;refine h.ans.snoc (lo2:=B2+1) (v:=(f,tx,nz)) (by omega) (by omega) (cz hown fun b hb=>hset b (by cases hb;exact Hg)) (fun b hb=>by cases hb;rw[qj];exact hlt) ht1 ht2 (fun b hb=> ?_) (by rw[qj];omega) (fun b j hj JS=> ?_)
 ·rcases hb with hb|hb;·exact(ht1.lt b hb).2
  ·exact(ht2.lt b hb).2
 ·have q:=h.ans.lie j b hj JS;refine hrow b (by omega) (by omega) (fun e=> ?_);obtain⟨u,hu,hub⟩ :=JS;obtain⟨ut,un,p0,p1,p2,p3,p4⟩ :=h.ans.val j hj;rw[p1,p2]at hu;simp only[Option.some.injEq]at hu;rcases hu with rfl|rfl
  ·rcases zG h.ans.row p3 (by decide)with e2|e2;·rw[e2]at e;cases e
   ·exact e2 (e.trans hub.symm)
  ·rcases zG h.ans.row p4 (by decide)with e2|e2;·rw[e2]at e;cases e
   ·exact e2 (e.trans hub.symm)
def Bz(id:List UInt8)(V:List Vl)(o:Option (List Vl×List UInt8)) :Option (Dc×List UInt8) :=o.map fun p=>((id,V++p.1),p.2)
def Cq(tx:List (List UInt8))(o:Option (List (List UInt8) ×List UInt8)) :Option (List (List UInt8) ×List UInt8) :=o.map fun p=>(tx++p.1,p.2)
def Bu(nz:List Int)(o:Option (List Int×List UInt8)) :Option (List Int×List UInt8) :=o.map fun p=>(nz++p.1,p.2)
def CG(f:List UInt8)(tx:List (List UInt8))(o:Option (List Int×List UInt8)) :Option (Vl×List UInt8) :=o.map fun p=>((f,tx,p.1),p.2)
def ve(f:List UInt8)(o:Option (List (List UInt8) ×List UInt8)) :Option (Vl×List UInt8) :=match o with
 |none=>none
 |some (tx,r3)=>match jV 4096 r3 with
 |none=>none
 |some (m,r4)=>CG f tx (nL m r4)
theorem WC {bs f r1 r2:List UInt8} {n:Nat}(h1:oK bs=some (f,r1))(h2:jV 4096 r1=some (n,r2)) :tX bs=ve f (oI n r2) :=by
 unfold tX ve;rw[h1];simp only;rw[h2];simp only;cases oI n r2 with
 |none=>rfl
 |some p=>
  obtain⟨tx,r3⟩ :=p;simp only;cases jV 4096 r3 with
  |none=>rfl
  |some q=>
   obtain⟨m,r4⟩ :=q;simp only[CG];cases nL m r4 with
   |none=>rfl
   |some x=>obtain⟨zs,r5⟩ :=x;rfl
theorem Y5 {bs:List UInt8}(h1:oK bs=none) :tX bs=none:=by unfold tX;rw[h1]
theorem Zq {bs f r1:List UInt8}(h1:oK bs=some (f,r1))(h2:jV 4096 r1=none) :tX bs=none:=by unfold tX;rw[h1];simp only;rw[h2]
theorem Za {bs id r1 r2:List UInt8} {n:Nat}(h1:oK bs=some (id,r1))(h2:jV 4096 r1=some (n,r2)) :qa bs=Bz id [] (pg n r2) :=by
 unfold qa Bz;rw[h1];simp only;rw[h2];simp only;cases pg n r2 with
 |none=>rfl
 |some p=>rfl
theorem Zj {bs:List UInt8}(h1:oK bs=none) :qa bs=none:=by unfold qa;rw[h1]
theorem Zc {bs id r1:List UInt8}(h1:oK bs=some (id,r1))(h2:jV 4096 r1=none) :qa bs=none:=by unfold qa;rw[h1];simp only;rw[h2]
theorem Wl {id:List UInt8} {V:List Vl} {k:Nat} {r r':List UInt8} {v:Vl}(h:tX r=some (v,r')) :Bz id V (pg (k+1) r)=Bz id (V++ [v]) (pg k r') :=by
 unfold Bz;rw[pg,h];simp only;cases pg k r' with
 |none=>rfl
 |some p=>simp
theorem Cv {id:List UInt8} {V:List Vl} {k:Nat} {r:List UInt8}(h:tX r=none) :Bz id V (pg (k+1) r)=none:=by unfold Bz;rw[pg,h];rfl
theorem Y4 {id:List UInt8} {V:List Vl} {r:List UInt8} :Bz id V (pg 0 r)=some ((id,V),r) :=by unfold Bz;rw[pg];simp
theorem Vx {tx:List (List UInt8)} {k:Nat} {r r' t:List UInt8}(h:oK r=some (t,r')) :Cq tx (oI (k+1) r)=Cq (tx++ [t]) (oI k r') :=by
 unfold Cq;rw[oI,h];simp only;cases oI k r' with
 |none=>rfl
 |some p=>simp
theorem ZT {tx:List (List UInt8)} {k:Nat} {r:List UInt8}(h:oK r=none) :Cq tx (oI (k+1) r)=none:=by unfold Cq;rw[oI,h];rfl
theorem Zk {tx:List (List UInt8)} {r:List UInt8} :Cq tx (oI 0 r)=some (tx,r) :=by unfold Cq;rw[oI];simp
theorem Y9 {o:Option (List (List UInt8) ×List UInt8)} :Cq [] o=o:=by unfold Cq;cases o<;>simp
theorem Xw {nz:List Int} {k v:Nat} {r r':List UInt8}(h:jV 2000000000000 r=some (v,r')) :Bu nz (nL (k+1) r)=Bu (nz++ [AO v]) (nL k r') :=by
 unfold Bu;rw[nL,h];simp only;cases nL k r' with
 |none=>rfl
 |some p=>simp
theorem acn {nz:List Int} {k:Nat} {r:List UInt8}(h:jV 2000000000000 r=none) :Bu nz (nL (k+1) r)=none:=by unfold Bu;rw[nL,h];rfl
theorem Zu {nz:List Int} {r:List UInt8} :Bu nz (nL 0 r)=some (nz,r) :=by unfold Bu;rw[nL];simp
theorem Ze {o:Option (List Int×List UInt8)} :Bu [] o=o:=by unfold Bu;cases o<;>simp
theorem O4 {f r3 r4:List UInt8} {tx:List (List UInt8)} {m:Nat}(h:jV 4096 r3=some (m,r4)) :ve f (some (tx,r3))=CG f tx (nL m r4) :=by unfold ve;simp only;rw[h]
theorem XZ {f r3:List UInt8} {tx:List (List UInt8)}(h:jV 4096 r3=none) :ve f (some (tx,r3))=none:=by unfold ve;simp only;rw[h]
theorem nC {w:World} {base e sz n:Nat} {v:Value} {xs:List Value}(h:w.ownsRow base e sz v n xs) : ∃a c,v= .slice a n c:=by
 rcases h.2 with⟨rfl,rfl⟩| ⟨g,cap,cur,rfl,_⟩;·exact⟨none,0,rfl⟩
 ·exact⟨_,cap,rfl⟩
theorem ab8 {wb V w6:World} {row:Option Nat}(h:V.grownBy w6 row)(hb:Below wb.heap.size wb V) :Hid (Below wb.heap.size wb V) :=aa hb
theorem PO(W:World)(a:Act)(o:Oper)(f:FuncId)(x:Operand)(t:TypeId)(ho:o.op= .call {callee:= .value (.func f),args:=#[x],argTypes:=#[t]})(v:Value)(hx:a.eval x=v)(hf:(callFunc f #[v]).run Tryz.prog W= .ok (.enter f #[v]) W) :(execOp a.eval o).run Tryz.prog W= .ok (.enter f #[v]) W:=by have hfn:a.eval (.func f)= .func (.func f) #[] #[] :=rfl;unfold execOp;simp[ho,resolve,invoke,Deferred.ofValue,hfn,hx,hf]
theorem Qb(W:World)(a:Act)(o:Oper)(f:FuncId)(x y:Operand)(t u:TypeId)(ho:o.op= .call {callee:= .value (.func f),args:=#[x,y],argTypes:=#[t,u]})(v z:Value)(hx:a.eval x=v)(hy:a.eval y=z)(hf:(callFunc f #[v,z]).run Tryz.prog W= .ok (.enter f #[v,z]) W) :(execOp a.eval o).run Tryz.prog W= .ok (.enter f #[v,z]) W:=by have hfn:a.eval (.func f)= .func (.func f) #[] #[] :=rfl;unfold execOp;simp[ho,resolve,invoke,Deferred.ofValue,hfn,hx,hy,hf]
theorem xG {ops:Array Oper} {o:Oper} {a:Act} {w:World} {K:Act→World→Prop} {Q:Exit→Act→World→Prop} {E:Prop}(hgd:o.guard=none)(f:FuncId)(x:Operand)(t:TypeId)(ho:o.op= .call {callee:= .value (.func f),args:=#[x],argTypes:=#[t]})(v:Value)(hx:a.eval x=v)(hf:(callFunc f #[v]).run Tryz.prog w= .ok (.enter f #[v]) w)(R:Value→World→Prop)(hc:Calls Tryz.prog f #[v] w fun e w'=>∃r,e= .returned r∧R r w')(h: ∀r w',R r w'→K (a.put o.dst r) w') :if Region.wanted o (yielded ops a.tmps)=true then Oper.wp Tryz.prog o a w K Q else E:=by rw[if_pos (by simp[Region.wanted,hgd])];simp only[Oper.wp,PO w a o f x t ho v hx hf,Oper.upon];refine hc.mono ?_;rintro e w'⟨r,rfl,hr⟩;exact h r w' hr
theorem Nq {ops:Array Oper} {o:Oper} {a:Act} {w:World} {K:Act→World→Prop} {Q:Exit→Act→World→Prop} {E:Prop}(hgd:o.guard=none)(f:FuncId)(x y:Operand)(t u:TypeId)(ho:o.op= .call {callee:= .value (.func f),args:=#[x,y],argTypes:=#[t,u]})(v z:Value)(hx:a.eval x=v)(hy:a.eval y=z)(hf:(callFunc f #[v,z]).run Tryz.prog w= .ok (.enter f #[v,z]) w)(R:Value→World→Prop)(hc:Calls Tryz.prog f #[v,z] w fun e w'=>∃r,e= .returned r∧R r w')(h: ∀r w',R r w'→K (a.put o.dst r) w') :if Region.wanted o (yielded ops a.tmps)=true then Oper.wp Tryz.prog o a w K Q else E:=by rw[if_pos (by simp[Region.wanted,hgd])];simp only[Oper.wp,Qb w a o f x y t u ho v z hx hy hf,Oper.upon];refine hc.mono ?_;rintro e w'⟨r,rfl,hr⟩;exact h r w' hr
theorem Tryz.infoStrR:(Tryz.prog.info? 9).map (fun i=>(i.zero,i.size,i.bytes))=some (some (.string ⟨#[]⟩),1,16) :=by kernel_rfl
theorem Tryz.infoIntR:(Tryz.prog.info? 3).map (fun i=>(i.zero,i.size,i.bytes))=some (some (.int .i64 0),1,8) :=by kernel_rfl
theorem Tryz.infoValR:(Tryz.prog.info? 43).map (fun i=>(i.zero,i.size,i.bytes))=some (some (.agg #[.string ⟨#[]⟩,.slice none 0 0,.slice none 0 0]),3,64) :=by kernel_rfl
def Zh(u:TypeId)(pv:Value)(w0 W:World)(B:Nat)(bs:List UInt8)(e:Ending)(w':World) :Prop:=(∃id V va xs r lo,qa bs=some ((id,V),r)∧e= .returned (.agg #[.string ⟨id.toArray⟩,va])∧W.heap.size≤lo∧kC w' lo w'.heap.size va V xs∧iP w0 w' B r false∧iI B W w')∨(qa bs=none∧Cut u pv w0 W B e w')
theorem Ya {w0 W wr w':World} {B B0 B1:Nat} {id:List UInt8} {va:Value} {V:List Vl} {xs:List Value} {r:List UInt8}(hB:W.heap.size=B0)(h:D1 w0 W wr B B0 B1 id va V xs r)(hf:iI B wr w') :iI B W w':=by have hl:=h.lt;have a1:=h.b1;exact⟨by have:=hf.1;omega,fun b hb hne=>(hf.2 b (by omega) hne).trans (h.fr b (by omega) hne)⟩
theorem FO {w0 W wr w':World} {B B0 B1 B2:Nat} {id f:List UInt8} {va vt vn:Value} {V:List Vl} {xs:List Value} {tx:List (List UInt8)} {nz:List Int} {r:List UInt8}(hB:W.heap.size=B0)(h:D2 w0 W wr B B0 B1 B2 id f va vt vn V xs tx nz r)(hf:iI B wr w') :iI B W w':=by have hl:=h.lt;have a1:=h.b1;have a2:=h.b2;exact⟨by have:=hf.1;omega,fun b hb hne=>(hf.2 b (by omega) hne).trans (h.fr b (by omega) hne)⟩
theorem RG {w0 W : World} {u : TypeId} {pv : Value} {B : Nat} {bs : List UInt8} (hE : zI w0 u pv) (hn : bs.length ≤ 1048576) (h : iP w0 W B bs false) :
    Calls Tryz.prog 58 #[.pointer (some ⟨B, 0, none⟩)] W (Zh u pv w0 W B bs) := by
  have ax := aa ((Below.refl W.heap.size W).alloc (Nat.le_refl _) (.cells #[.string ⟨#[]⟩, .slice none 0 0] 28))
  have HQ := aa (heap_alloc_new W (.cells #[.string ⟨#[]⟩, .slice none 0 0] 28))
  have HR := aa h
  have HE := aa hE
  have hBW := h.lt
  clear h hE
  go_enter Tryz.func58, Tryz.ntmps58
  go_upto_region 1 with fail
  obtain ⟨wa, bN⟩ : ∃ wa, W.alloc (.cells #[.string ⟨#[]⟩, .slice none 0 0] 28) = wa := ⟨_, rfl⟩
  rw [bN] at ax HQ
  try rw [bN]
  clear bN
  have HR1 := aa (HR.out.below ax.out)
  have Ik : Hid (iI B W wa) := ⟨ax.out.size, fun b hb _ => ax.out.block b hb⟩
  have hzW : W.heap.size < wa.heap.size := (Array.getElem?_eq_some_iff.1 HQ.out).1
  cases h1 : oK bs with
  | none =>
    have HT := aa (AX HE.out hn HR1.out h1)
    have HD := aa (Zj h1)
    clear h1
    go_wp2_with fail
    refine HT.out.mono ?_
    rintro e w2 ⟨rfl, h2, hf2⟩
    exact ⟨rfl, Or.inr ⟨HD.out, rfl, h2, Ik.out.trans hf2⟩⟩
  | some p =>
    obtain ⟨id, r1⟩ := p
    have HT := aa (Bg hn HR1.out h1)
    have hl1 := Gz h1
    have H1 := aa h1
    clear h1
    go_wp2_with fail
    refine HT.out.mono ?_
    rintro e w1 ⟨rfl, hr1, hf1⟩
    clear HT
    have hw1 : W.heap.size < w1.heap.size := Nat.lt_of_lt_of_le hzW hf1.1
    have Bc := aa ((Below.refl w1.heap.size w1).alloc (Nat.le_refl _) (.cells #[.string ⟨id.toArray⟩, .slice none 0 0] 28))
    have HI0 : Hid (D1 w0 W (w1.alloc (.cells #[.string ⟨id.toArray⟩, .slice none 0 0] 28)) B W.heap.size w1.heap.size id (.slice none 0 0) [] [] r1) := by
      refine ⟨hr1.below Bc.out, hBW, hw1, ?_, heap_alloc_new w1 _, kC.nil _ _ _, fun b hb hne => ?_, Nat.le_refl _⟩
      · exact (Bc.out.block _ hw1).trans ((hf1.2 _ hzW (by omega)).trans HQ.out)
      · exact (Bc.out.block _ (by omega)).trans ((hf1.2 b (by omega) hne).trans (ax.out.block b hb))
    clear hr1 hf1 Bc HR1 HR HQ ax Ik
    dsimp only
    go_upto_region 2 with fail
    obtain ⟨B0, hB0⟩ : ∃ B0, W.heap.size = B0 := ⟨_, rfl⟩
    obtain ⟨B1, hB1⟩ : ∃ B1, w1.heap.size = B1 := ⟨_, rfl⟩
    rw [hB0, hB1] at HI0
    have HB0 := aa hB0
    try rw [hB0]
    try rw [hB1]
    generalize w1.alloc (.cells #[.string ⟨id.toArray⟩, .slice none 0 0] 28) = wi0 at *
    clear hB1 hB0 hw1 hzW hBW
    cases h2 : jV 4096 r1 with
    | none =>
      have HT := aa (tN HE.out (by omega) (by omega) HI0.out.nI h2)
      have HD := aa (Zc H1.out h2)
      clear h2
      go_wp2_with fail
      refine HT.out.mono ?_
      rintro e w2 ⟨rfl, h2, hf2⟩
      exact ⟨rfl, Or.inr ⟨HD.out, rfl, h2, Ya HB0.out HI0.out hf2⟩⟩
    | some p =>
      obtain ⟨n, r2⟩ := p
      have HT := aa (qM (by omega) (by omega) HI0.out.nI h2)
      have hl2 := tu h2
      have HD := aa (Za H1.out h2)
      clear h2 H1
      go_wp2_with fail
      refine HT.out.mono ?_
      rintro e w2 ⟨rfl, hr2, hf2⟩
      have HI1 := aa (HI0.out.call hr2 hf2)
      clear hr2 hf2 HT HI0
      dsimp only
      go_wp2_with fail
      go_loopw [10] (fun kv wr => ∃ (k : Nat) (va : Value) (V : List Vl) (xs : List Value) (r : List UInt8), k ≤ n ∧ kv = .int .i64 (k : Int) ∧ V.length = k ∧ r.length ≤ 1048576 ∧ qa bs = Bz id V (pg (n - k) r) ∧ D1 w0 W wr B B0 B1 id va V xs r) (fun kv _ => n - (intOf kv).toNat)
      case atStart => exact ⟨0, _, [], [], r2, Nat.zero_le _, rfl, rfl, by omega, HD.out, HI1.out⟩
      case round =>
        clear HI1 HD
        obtain ⟨k, va, V, xs, r, hk, rfl, En, hrl, hg, hd⟩ := hrel
        have HG := aa hg
        have HD := aa hd
        have HVl := aa En
        clear hg hd En
        by_cases hkn : k < n
        · have hkz : (k : Int) < (n : Int) := by omega
          obtain ⟨N1, hN1⟩ : ∃ N1, n - k = N1 + 1 := ⟨n - k - 1, by omega⟩
          rw [hN1] at HG
          have AY : Hid (n - (k + 1) = N1) := by show _ = _; omega
          clear hN1
          cases h3 : oK r with
          | none =>
            have HT := aa (AX HE.out hrl HD.out.nI h3)
            have fB : Hid (qa bs = none) := HG.out.trans (Cv (Y5 h3))
            clear h3
            go_wp2_with fail
            refine HT.out.mono ?_
            rintro e w3 ⟨rfl, h3, hf3⟩
            exact ⟨rfl, Or.inr ⟨fB.out, rfl, h3, Ya HB0.out HD.out hf3⟩⟩
          | some p =>
            obtain ⟨f, q1⟩ := p
            have HT := aa (Bg hrl HD.out.nI h3)
            have hl3 := Gz h3
            have H3 := aa h3
            clear h3
            go_wp2_with fail
            refine HT.out.mono ?_
            rintro e w3 ⟨rfl, hr3, hf3⟩
            have AR := aa ((HD.out.call hr3 hf3).open (f := f))
            clear hr3 hf3 HT HD
            dsimp only
            go_upto_region 5 with fail
            obtain ⟨B2, hB2⟩ : ∃ B2, w3.heap.size = B2 := ⟨_, rfl⟩
            rw [hB2] at AR
            try rw [hB2]
            generalize w3.alloc (.cells #[.string ⟨f.toArray⟩, .slice none 0 0, .slice none 0 0] 43) = wv at *
            clear hB2
            cases h4 : jV 4096 q1 with
            | none =>
              have HT := aa (tN HE.out (by omega) (by omega) AR.out.nI h4)
              have fB : Hid (qa bs = none) := HG.out.trans (Cv (Zq H3.out h4))
              clear h4
              go_wp2_with fail
              refine HT.out.mono ?_
              rintro e w4 ⟨rfl, h4, Af⟩
              exact ⟨rfl, Or.inr ⟨fB.out, rfl, h4, FO HB0.out AR.out Af⟩⟩
            | some p =>
              obtain ⟨n2, q2⟩ := p
              have HT := aa (qM (by omega) (by omega) AR.out.nI h4)
              have hl4 := tu h4
              have HV : Hid (tX r = ve f (oI n2 q2)) := WC H3.out h4
              clear h4 H3
              go_wp2_with fail
              refine HT.out.mono ?_
              rintro e w4 ⟨rfl, hr4, Af⟩
              have E5 := aa (AR.out.call hr4 Af)
              clear hr4 Af HT AR
              dsimp only
              go_wp2_with fail
              go_loopw [17] (fun kv wr => ∃ (k2 : Nat) (vt : Value) (tx : List (List UInt8)) (rr : List UInt8), k2 ≤ n2 ∧ kv = .int .i64 (k2 : Int) ∧ tx.length = k2 ∧ rr.length ≤ 1048576 ∧ tX r = ve f (Cq tx (oI (n2 - k2) rr)) ∧ D2 w0 W wr B B0 B1 B2 id f va vt (.slice none 0 0) V xs tx [] rr) (fun kv _ => n2 - (intOf kv).toNat)
              case atStart => exact ⟨0, _, [], q2, Nat.zero_le _, rfl, rfl, by omega, by rw [Y9]; exact HV.out, E5.out⟩
              case round =>
                clear E5 HV
                obtain ⟨k2, vt, tx, rr, hk2, rfl, htl, Cf, hv, hd2⟩ := hrel
                have HV := aa hv
                have HS := aa hd2
                have HTl := aa htl
                obtain ⟨aT, cT, rfl⟩ := nC hd2.rt
                clear hv hd2
                by_cases aiK : k2 < n2
                · have aao : (k2 : Int) < (n2 : Int) := by omega
                  have htx : tx.length ≤ 4096 := by omega
                  clear htl
                  obtain ⟨N2, Rj⟩ : ∃ N2, n2 - k2 = N2 + 1 := ⟨n2 - k2 - 1, by omega⟩
                  rw [Rj] at HV
                  have tO : Hid (n2 - (k2 + 1) = N2) := by show _ = _; omega
                  clear Rj
                  have t1 := ah HS.out.yx 1
                  have tf := aC HS.out.yx 1
                  have hB2 := HS.out.lt
                  simp only [List.getElem?_toArray, List.getElem?_cons_zero, List.getElem?_cons_succ] at t1
                  go_upto_region 7 with fail
                  cases h5 : oK rr with
                  | none =>
                    have HT2 := aa (AX HE.out Cf HS.out.nI.drew h5)
                    have fB : Hid (qa bs = none) := HG.out.trans (Cv (HV.out.trans (by rw [ZT h5]; rfl)))
                    clear h5
                    refine wp_region_held_drew (S := (fun w' => w'.cell? ⟨B2, 1, none⟩ = some (.slice aT tx.length cT))) (by kernel_rfl) ?_ (fun hHeld => ?_)
                    · exact t1
                    refine wpAnyH_take (i := 0) (v := ?_) rfl (by kernel_rfl) (by kernel_rfl) (by kernel_rfl) (fun _ _ _ h => h) (Or.inl ⟨by kernel_rfl, ?_⟩) (by assumption) ?_
                    rotate_left
                    · (intro w hSw; (try dsimp only at hSw); go_simp <;> with_reducible rfl)
                    (simp only [Act.put, List.getElem_toArray, List.getElem_cons_succ, List.getElem_cons_zero, List.setIfInBounds_toArray, List.set_cons_zero, List.set_cons_succ])
                    refine wpAnyH_take (i := 1) (v := ?_) rfl (by kernel_rfl) (by kernel_rfl) (by kernel_rfl) (fun _ _ _ h => h) (Or.inl ⟨by kernel_rfl, ?_⟩) (by assumption) ?_
                    rotate_left
                    · (intro w hSw; (try dsimp only at hSw); go_simp <;> with_reducible rfl)
                    (simp only [Act.put, List.getElem_toArray, List.getElem_cons_succ, List.getElem_cons_zero, List.setIfInBounds_toArray, List.set_cons_zero, List.set_cons_succ])
                    refine wpAnyH_take (i := 2) (v := ?_) rfl (by kernel_rfl) (by kernel_rfl) (by kernel_rfl) (fun _ _ _ h => h) (Or.inl ⟨by kernel_rfl, ?_⟩) (by assumption) ?_
                    rotate_left
                    · (intro w hSw; (try dsimp only at hSw); go_simp <;> with_reducible rfl)
                    (simp only [Act.put, List.getElem_toArray, List.getElem_cons_succ, List.getElem_cons_zero, List.setIfInBounds_toArray, List.set_cons_zero, List.set_cons_succ])
                    refine wpAnyH_ready (rs := [3]) (by kernel_rfl) (by simp) ?_
                    refine AllReadyH.cons rfl (fun K hK => ?_) AllReadyH.nil
                    go_simp
                    refine HT2.out.mono ?_
                    rintro e' w7 ⟨rfl, h7, hf7⟩
                    exact ⟨rfl, Or.inr ⟨fB.out, rfl, h7, FO HB0.out HS.out hf7⟩⟩
                  | some p =>
                    obtain ⟨t, q5⟩ := p
                    have HT2 := aa (fun W' (hW : Below wr.heap.size wr W') => Bg Cf (HS.out.nI.below hW) h5)
                    have hl5 := Gz h5
                    have Yy : Hid (tX r = ve f (Cq (tx ++ [t]) (oI N2 q5))) := HV.out.trans (by rw [Vx h5])
                    clear h5
                    obtain ⟨i1, hi1, hy0, hy1, hy2⟩ := info_parts Tryz.infoStrR
                    have HPu := aa (fun W3 V' w6 g6 bL (Au : D2 w0 W W3 B B0 B1 B2 id f va (.slice aT tx.length cT) (.slice none 0 0) V xs tx [] q5) => Au.JF (V' := V') (w6 := w6) (g6 := g6) (bL := bL) (t := t))
                    go_region_law (first
                      | (refine step_append_lies _ rfl (.tmp 20) (.tmp 23) 40 rfl (B2 + 1) 9 i1 (.string ⟨#[]⟩) 1 16 Tryz.underlying40 hi1 hy0 hy1 hy2 rfl (by decide) (.slice aT tx.length cT) tx.length (tx.map mkS) (by simp [Act.eval]) (by first | exact qb.out.drew.alloc _ | exact qb.out.alloc _) ⟨w3.heap.size, 0, none⟩ 1 1 [.string ⟨t.toArray⟩] (by simp [Act.eval]) rfl (World.news_of_block (by first | exact heap_alloc_new w3 _ | exact heap_alloc_new w3.drew _)) (by intro u' hu'; simp at hu'; subst hu'; rfl) (by omega) (by unfold maxLen; omega) (by omega) (by first | omega | (simp; omega)) _ rfl ?_; intro g6 bL w6 hown6 fE qd rW; have HV6 := ab8 (wb := w3) fE (by first | exact (below_drewN (Below.refl _ _) 1).alloc (by simp) _ | exact (Below.refl _ _).alloc (by simp) _); obtain ⟨t1', t2'⟩ := HPu.out w3 _ w6 g6 bL ql.out HV6.out hown6 fE qd; have s2 := ah t1' 1; have sf := aC t1' 1; have Tq := aa t2'; clear t1' t2' hown6 fE qd rW)
                      | (refine xG rfl 79 (.tmp 21) _ rfl (.pointer (some ⟨B, 0, none⟩)) (by first | rfl | simp [Act.eval, Act.put]) (Tryz.call79 _ _) (fun r' w' => r' = .string ⟨t.toArray⟩ ∧ D2 w0 W w' B B0 B1 B2 id f va (.slice aT tx.length cT) (.slice none 0 0) V xs tx [] q5) ((HT2.out _ (by first | exact below_drewN (Below.refl _ _) 1 | exact Below.refl _ _)).mono (by rintro e w3 ⟨rfl, hr3, hf3⟩; exact ⟨_, rfl, rfl, (HS.out.below (by first | exact below_drewN (Below.refl _ _) 1 | exact Below.refl _ _)).call hr3 hf3⟩)) ?_; rintro r' w3 ⟨rfl, Au⟩; have ql := aa Au; have b3 := ah ql.out.yx 1; have qb := aa ql.out.rt; have hB3 : B2 < w3.heap.size := ql.out.lt; clear Au))
                    all_goals
                      go_wp2_with fail
                      go_roundw
                      case rel => exact ⟨k2 + 1, _, tx ++ [t], q5, by omega, by go_num, by rw [List.length_append, HTl.out]; rfl, by omega, by rw [tO.out]; exact Yy.out, Tq.out⟩
                      case measure => simp [intOf]; omega
                · have aao : ¬ (k2 : Int) < (n2 : Int) := by omega
                  clear htl
                  obtain rfl : k2 = n2 := by omega
                  rw [Nat.sub_self, Zk] at HV
                  cases h6 : jV 4096 rr with
                  | none =>
                    have HT := aa (tN HE.out Cf (by omega) HS.out.nI h6)
                    have fB : Hid (qa bs = none) := HG.out.trans (Cv (HV.out.trans (XZ h6)))
                    clear h6
                    go_wp2_with fail
                    refine HT.out.mono ?_
                    rintro e w6 ⟨rfl, h6, YZ⟩
                    exact ⟨rfl, Or.inr ⟨fB.out, rfl, h6, FO HB0.out HS.out YZ⟩⟩
                  | some p =>
                    obtain ⟨m, q6⟩ := p
                    have HT := aa (qM Cf (by omega) HS.out.nI h6)
                    have hl6 := tu h6
                    have IM : Hid (tX r = CG f tx (nL m q6)) := HV.out.trans (O4 h6)
                    clear h6 HV
                    go_wp2_with fail
                    refine HT.out.mono ?_
                    rintro e w6 ⟨rfl, hr6, YZ⟩
                    have tV := aa (HS.out.call hr6 YZ)
                    clear hr6 YZ HT HS
                    obtain ⟨vt, hvt⟩ : ∃ vt, Value.slice aT tx.length cT = vt := ⟨_, rfl⟩
                    rw [hvt] at tV
                    clear hvt
                    dsimp only
                    go_wp2_with fail
                    go_loopw [29] (fun kv wr => ∃ (k3 : Nat) (vn : Value) (nz : List Int) (rr : List UInt8), k3 ≤ m ∧ kv = .int .i64 (k3 : Int) ∧ nz.length = k3 ∧ rr.length ≤ 1048576 ∧ tX r = CG f tx (Bu nz (nL (m - k3) rr)) ∧ D2 w0 W wr B B0 B1 B2 id f va vt vn V xs tx nz rr) (fun kv _ => m - (intOf kv).toNat)
                    case atStart => exact ⟨0, _, [], q6, Nat.zero_le _, rfl, rfl, by omega, by rw [Ze]; exact IM.out, tV.out⟩
                    case round =>
                      clear IM tV
                      obtain ⟨k3, vn, nz, rr, hk3, rfl, hnl, Cf, hv, hd2⟩ := hrel
                      have HV := aa hv
                      have HS := aa hd2
                      have HNl := aa hnl
                      obtain ⟨aN, cN, rfl⟩ := nC hd2.rn
                      clear hv hd2
                      by_cases aiw : k3 < m
                      · have ae8 : (k3 : Int) < (m : Int) := by omega
                        have hnx : nz.length ≤ 4096 := by omega
                        clear hnl
                        obtain ⟨N3, hN3⟩ : ∃ N3, m - k3 = N3 + 1 := ⟨m - k3 - 1, by omega⟩
                        rw [hN3] at HV
                        have Bn : Hid (m - (k3 + 1) = N3) := by show _ = _; omega
                        clear hN3
                        have t1 := ah HS.out.yx 2
                        have tf := aC HS.out.yx 2
                        have hB2 := HS.out.lt
                        simp only [List.getElem?_toArray, List.getElem?_cons_zero, List.getElem?_cons_succ] at t1
                        go_upto_region 11 with fail
                        cases h5 : jV 2000000000000 rr with
                        | none =>
                          have HT2 := aa (tN HE.out Cf (Nat.le_refl _) HS.out.nI.drew h5)
                          have fB : Hid (qa bs = none) := HG.out.trans (Cv (HV.out.trans (by rw [acn h5]; rfl)))
                          clear h5
                          refine wp_region_held_drew (S := (fun w' => w'.cell? ⟨B2, 2, none⟩ = some (.slice aN nz.length cN))) (by kernel_rfl) ?_ (fun hHeld => ?_)
                          · exact t1
                          refine wpAnyH_take (i := 0) (v := ?_) rfl (by kernel_rfl) (by kernel_rfl) (by kernel_rfl) (fun _ _ _ h => h) (Or.inl ⟨by kernel_rfl, ?_⟩) (by assumption) ?_
                          rotate_left
                          · (intro w hSw; (try dsimp only at hSw); go_simp <;> with_reducible rfl)
                          (simp only [Act.put, List.getElem_toArray, List.getElem_cons_succ, List.getElem_cons_zero, List.setIfInBounds_toArray, List.set_cons_zero, List.set_cons_succ])
                          refine wpAnyH_take (i := 1) (v := ?_) rfl (by kernel_rfl) (by kernel_rfl) (by kernel_rfl) (fun _ _ _ h => h) (Or.inl ⟨by kernel_rfl, ?_⟩) (by assumption) ?_
                          rotate_left
                          · (intro w hSw; (try dsimp only at hSw); go_simp <;> with_reducible rfl)
                          (simp only [Act.put, List.getElem_toArray, List.getElem_cons_succ, List.getElem_cons_zero, List.setIfInBounds_toArray, List.set_cons_zero, List.set_cons_succ])
                          refine wpAnyH_take (i := 2) (v := ?_) rfl (by kernel_rfl) (by kernel_rfl) (by kernel_rfl) (fun _ _ _ h => h) (Or.inl ⟨by kernel_rfl, ?_⟩) (by assumption) ?_
                          rotate_left
                          · (intro w hSw; (try dsimp only at hSw); go_simp <;> with_reducible rfl)
                          (simp only [Act.put, List.getElem_toArray, List.getElem_cons_succ, List.getElem_cons_zero, List.setIfInBounds_toArray, List.set_cons_zero, List.set_cons_succ])
                          refine wpAnyH_ready (rs := [3]) (by kernel_rfl) (by simp) ?_
                          refine AllReadyH.cons rfl (fun K hK => ?_) AllReadyH.nil
                          go_simp
                          refine (Cg _).mono ?_
                          rintro e' wq ⟨rfl, hwq⟩
                          subst hwq
                          go_wp2_with fail
                          refine hK.out _ _ ?_ (fun dn => ?_)
                          · exact t1
                          clear hK K
                          try simp only [Act.put, List.getElem_toArray, List.getElem_cons_succ, List.getElem_cons_zero, List.setIfInBounds_toArray, List.set_cons_zero, List.set_cons_succ]
                          refine wpAnyH_ready (rs := [4]) (by kernel_rfl) (by simp) ?_
                          refine AllReadyH.cons rfl (fun K hK => ?_) AllReadyH.nil
                          go_simp
                          refine HT2.out.mono ?_
                          rintro e' w7 ⟨rfl, h7, hf7⟩
                          exact ⟨rfl, Or.inr ⟨fB.out, rfl, h7, FO HB0.out HS.out hf7⟩⟩
                        | some p =>
                          obtain ⟨y, q5⟩ := p
                          have HT2 := aa (fun W' (hW : Below wr.heap.size wr W') => qM Cf (Nat.le_refl _) (HS.out.nI.below hW) h5)
                          have hl5 := tu h5
                          have Yy : Hid (tX r = CG f tx (Bu (nz ++ [AO y]) (nL N3 q5))) := HV.out.trans (by rw [Xw h5])
                          have NU := aa (fun W' => PG y W' hl5.2)
                          clear h5
                          obtain ⟨z, hz⟩ : ∃ z, AO y = z := ⟨_, rfl⟩
                          rw [hz] at Yy NU
                          clear hz
                          obtain ⟨i1, hi1, hy0, hy1, hy2⟩ := info_parts Tryz.infoIntR
                          have HPu := aa (fun W3 V' w6 g6 bL (Au : D2 w0 W W3 B B0 B1 B2 id f va vt (.slice aN nz.length cN) V xs tx nz q5) => Au.ac1 (V' := V') (w6 := w6) (g6 := g6) (bL := bL) (z := z))
                          go_region_law (first
                            | (refine step_append_lies _ rfl (.tmp 32) (.tmp 37) 41 rfl (B2 + 1) 3 i1 (.int .i64 0) 1 8 Tryz.underlying41 hi1 hy0 hy1 hy2 rfl (by decide) (.slice aN nz.length cN) nz.length (nz.map EJ) (by simp [Act.eval]) (by first | exact qb.out.drew.alloc _ | exact qb.out.alloc _) ⟨w3.heap.size, 0, none⟩ 1 1 [.int .i64 z] (by simp [Act.eval]) rfl (World.news_of_block (by first | exact heap_alloc_new w3 _ | exact heap_alloc_new w3.drew _)) (by intro u' hu'; simp at hu'; subst hu'; rfl) (by omega) (by unfold maxLen; omega) (by omega) (by first | omega | (simp; omega)) _ rfl ?_; intro g6 bL w6 hown6 fE qd rW; have HV6 := ab8 (wb := w3) fE (by first | exact (below_drewN (Below.refl _ _) 1).alloc (by simp) _ | exact (Below.refl _ _).alloc (by simp) _); obtain ⟨t1', t2'⟩ := HPu.out w3 _ w6 g6 bL ql.out HV6.out hown6 fE qd; have s2 := ah t1' 2; have sf := aC t1' 2; have Tq := aa t2'; clear t1' t2' hown6 fE qd rW)
                            | (refine xG rfl 82 (.const (.int .i64 1000000000000)) _ rfl (.int .i64 1000000000000) rfl (Tryz.call82 _ _) (fun r' w' => r' = .int .i64 ((2000000000000 : Nat) : Int) ∧ w' = wr.drew) ((Cg _).mono (by rintro e wq ⟨rfl, rfl⟩; exact ⟨_, rfl, rfl, rfl⟩)) ?_; rintro r' wq ⟨rfl, rfl⟩)
                            | (refine Nq rfl 80 (.tmp 33) (.tmp 34) _ _ rfl (.pointer (some ⟨B, 0, none⟩)) (.int .i64 ((2000000000000 : Nat) : Int)) (by first | rfl | simp [Act.eval, Act.put]) (by first | rfl | simp [Act.eval, Act.put]) (Tryz.call80 _ _) (fun r' w' => r' = .int .i64 (y : Int) ∧ D2 w0 W w' B B0 B1 B2 id f va vt (.slice aN nz.length cN) V xs tx nz q5) ((HT2.out _ (by first | exact below_drewN (Below.refl _ _) 1 | exact Below.refl _ _)).mono (by rintro e w3 ⟨rfl, hr3, hf3⟩; exact ⟨_, rfl, rfl, (HS.out.below (by first | exact below_drewN (Below.refl _ _) 1 | exact Below.refl _ _)).call hr3 hf3⟩)) ?_; rintro r' w3 ⟨rfl, Au⟩; have ql := aa Au; have b3 := ah ql.out.yx 2; have qb := aa ql.out.rn; have hB3 : B2 < w3.heap.size := ql.out.lt; clear Au)
                            | (refine xG rfl 81 (.tmp 35) _ rfl (.int .i64 (y : Int)) (by first | rfl | simp [Act.eval, Act.put]) (Tryz.call81 _ _) (fun r' w' => r' = .int .i64 z ∧ w' = w3) ((NU.out _).mono (by rintro e wq ⟨rfl, rfl⟩; exact ⟨_, rfl, rfl, rfl⟩)) ?_; rintro r' wq ⟨rfl, hwq⟩; obtain rfl := hwq.symm; clear hwq))
                          all_goals
                            go_wp2_with fail
                            go_roundw
                            case rel => exact ⟨k3 + 1, _, nz ++ [z], q5, by omega, by go_num, by rw [List.length_append, HNl.out]; rfl, by omega, by rw [Bn.out]; exact Yy.out, Tq.out⟩
                            case measure => simp [intOf]; omega
                      · have ae8 : ¬ (k3 : Int) < (m : Int) := by omega
                        clear hnl
                        obtain rfl : k3 = m := by omega
                        rw [Nat.sub_self, Zu] at HV
                        have Da : Hid (qa bs = Bz id (V ++ [(f, tx, nz)]) (pg N1 rr)) := HG.out.trans (Wl HV.out)
                        obtain ⟨aA, cA, rfl⟩ := nC HS.out.ans.row
                        obtain ⟨i1, hi1, hy0, hy1, hy2⟩ := info_parts Tryz.infoValR
                        have hVn : V.length ≤ 4096 := by have := HVl.out; omega
                        have b1 := ah HS.out.box 1
                        have v0 := ah HS.out.yx 0
                        have v1 := ah HS.out.yx 1
                        have v2 := ah HS.out.yx 2
                        simp only [List.getElem?_toArray, List.getElem?_cons_zero, List.getElem?_cons_succ] at b1 v0 v1 v2
                        have HOV := aa HS.out.ans.row
                        have hl2 := HS.out.lt
                        have aiO := HS.out.b2
                        obtain ⟨aT, cT, rfl⟩ := nC HS.out.rt
                        go_wp2_with (at_builtin; refine wpList_append_lies _ rfl (.tmp 42) (.tmp 44) 26 rfl (B1 + 1) 43 i1 (.agg #[.string ⟨#[]⟩, .slice none 0 0, .slice none 0 0]) 3 64 Tryz.underlying26 hi1 hy0 hy1 hy2 rfl (by decide) (.slice aA V.length cA) V.length xs rfl (HOV.out.alloc _) ⟨wr.heap.size, 0, none⟩ 1 1 [.string ⟨f.toArray⟩, .slice aT tx.length cT, .slice aN nz.length cN] rfl rfl (World.news_of_block (heap_alloc_new wr _)) (by intro u' hu'; simp at hu'; rcases hu' with rfl | rfl | rfl <;> rfl) (by decide) (by unfold maxLen; omega) (by omega) (by first | omega | (simp; omega)) _ rfl ?_)
                        intro g6 bL w6 hown6 fE qd rW
                        obtain ⟨t1', t2'⟩ := HS.out.close (V' := wr.alloc _) (w6 := w6) (g6 := g6) (bL := bL) ((Below.refl _ _).alloc (Nat.le_refl _) _) hown6 fE (qd.imp (fun e => e) (fun e => by rw [e]; simp)) rW
                        have s2 := ah t1' 1
                        have sf := aC t1' 1
                        simp only [List.getElem?_toArray, List.getElem?_cons_zero, List.getElem?_cons_succ] at s2
                        have Tq := aa t2'
                        clear t1' t2' hown6 fE qd rW b1 v0 v1 v2
                        go_wp2_with fail
                        go_roundw
                        case rel => exact ⟨k + 1, _, V ++ [(f, tx, nz)], _, rr, by omega, by go_num, by rw [List.length_append, HVl.out]; rfl, Cf, by rw [AY.out]; exact Da.out, Tq.out⟩
                        case measure => simp [intOf]; omega
        · have hkz : ¬ (k : Int) < (n : Int) := by omega
          obtain rfl : k = n := by omega
          rw [Nat.sub_self, Y4] at HG
          obtain ⟨aA, cA, rfl⟩ := nC HD.out.ans.row
          have x0 := ah HD.out.res 0
          have x1 := ah HD.out.res 1
          have f0 := aC HD.out.res 0
          have f1 := aC HD.out.res 1
          have y0 := ah HD.out.box 0
          have y1 := ah HD.out.box 1
          have hb0 := HD.out.b0
          have hb1 := HD.out.b1
          have HX := aa (nV (x := .string ⟨id.toArray⟩) (y := .slice aA V.length cA) HD.out.res)
          have z0 := ah HX.out 0
          have z1 := ah HX.out 1
          have hwr : B1 < wr.heap.size := HD.out.lt
          go_wp2_with fail
          refine bodyPost_ret (v := .agg #[.string ⟨id.toArray⟩, .slice aA V.length cA]) (by simp [results, Tryz.results58, go_sem, z0, z1]) rfl ?_
          refine Or.inl ⟨id, V, _, xs, r, B1 + 1, HG.out, rfl, by have := HB0.out; omega, ?_, ?_, ?_⟩
          · refine (HD.out.ans.keep fun b h1 h2 => ?_).mono (by simp)
            rw [au _ B0 1 _ b (by omega), au wr B0 0 _ b (by omega)]
          · refine HD.out.nI.keep ((HD.out.nI.old.setCell (p := ⟨B0, 0, none⟩) ?_ _).setCell (p := ⟨B0, 1, none⟩) ?_ _) ((au _ B0 1 _ B (by omega)).trans (au wr B0 0 _ B (by omega)))
            · have := HD.out.nI.new; dsimp only; omega
            · have := HD.out.nI.new; dsimp only; omega
          · have hB := HB0.out
            refine ⟨by simp; omega, fun b hb hne => ?_⟩
            rw [au _ B0 1 _ b (by omega), au wr B0 0 _ b (by omega)]
            exact HD.out.fr b (by omega) hne
end Go.Proofs.YtcjiphknpagenaaGreatDoor
