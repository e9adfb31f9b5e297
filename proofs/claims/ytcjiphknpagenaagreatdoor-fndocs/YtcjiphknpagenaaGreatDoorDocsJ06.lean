import Derived.Test.YtcjiphknpagenaaGreatDoorDocsJ05
namespace Go.Proofs.YtcjiphknpagenaaGreatDoor
open Go Go.RowKit
set_option linter.unusedVariables false
set_option linter.unusedSimpArgs false
set_option maxRecDepth 100000
theorem Dt(W:World)(ρ:Operand→Value)(o:Oper)(x:Operand)(ho:o.op= .load 40 x)(b off:Nat)(v:Value)(hv: ∃a n c,v= .slice a n c)(hx:ρ x= .pointer (some ⟨b,off,none⟩))(h0:W.cell? ⟨b,off,none⟩=some v) :(execOp ρ o).run Tryz.prog W= .ok (.value v) W:=by obtain⟨a,n,c,rfl⟩ :=hv;unfold execOp;simp only[ho,Instr.loadAt,Instr.sureAddr,hx,Sem.run_bind,Sem.run_pure,Result.andThen_ok];go_simp
theorem yH(W:World)(ρ:Operand→Value)(o:Oper)(x y:Operand)(ho:o.op= .store 40 x y)(b off:Nat)(a:Option Addr)(n c:Nat)(u:Value)(hx:ρ x= .pointer (some ⟨b,off,none⟩))(hy:ρ y= .slice a n c)(h0:W.cell? ⟨b,off,none⟩=some u)(hf:W.frozen? ⟨b,off,none⟩=false) :(execOp ρ o).run Tryz.prog W= .ok .skip (W.setCell ⟨b,off,none⟩ (.slice a n c)) :=by unfold execOp;simp only[ho,Instr.storeAt,Instr.sureAddr,hx,hy,Sem.run_bind,Sem.run_pure,Result.andThen_ok];go_simp
theorem DJ(W:World)(ρ:Operand→Value)(o:Oper)(x:Operand)(ho:o.op= .load 41 x)(b off:Nat)(v:Value)(hv: ∃a n c,v= .slice a n c)(hx:ρ x= .pointer (some ⟨b,off,none⟩))(h0:W.cell? ⟨b,off,none⟩=some v) :(execOp ρ o).run Tryz.prog W= .ok (.value v) W:=by obtain⟨a,n,c,rfl⟩ :=hv;unfold execOp;simp only[ho,Instr.loadAt,Instr.sureAddr,hx,Sem.run_bind,Sem.run_pure,Result.andThen_ok];go_simp
theorem yS(W:World)(ρ:Operand→Value)(o:Oper)(x y:Operand)(ho:o.op= .store 41 x y)(b off:Nat)(a:Option Addr)(n c:Nat)(u:Value)(hx:ρ x= .pointer (some ⟨b,off,none⟩))(hy:ρ y= .slice a n c)(h0:W.cell? ⟨b,off,none⟩=some u)(hf:W.frozen? ⟨b,off,none⟩=false) :(execOp ρ o).run Tryz.prog W= .ok .skip (W.setCell ⟨b,off,none⟩ (.slice a n c)) :=by unfold execOp;simp only[ho,Instr.storeAt,Instr.sureAddr,hx,hy,Sem.run_bind,Sem.run_pure,Result.andThen_ok];go_simp
theorem nN(W:World)(ρ:Operand→Value)(o:Oper)(x:Operand)(ho:o.op= .load 26 x)(b off:Nat)(v:Value)(hv: ∃a n c,v= .slice a n c)(hx:ρ x= .pointer (some ⟨b,off,none⟩))(h0:W.cell? ⟨b,off,none⟩=some v) :(execOp ρ o).run Tryz.prog W= .ok (.value v) W:=by obtain⟨a,n,c,rfl⟩ :=hv;unfold execOp;simp only[ho,Instr.loadAt,Instr.sureAddr,hx,Sem.run_bind,Sem.run_pure,Result.andThen_ok];go_simp
theorem XC(W:World)(ρ:Operand→Value)(o:Oper)(x y:Operand)(ho:o.op= .store 26 x y)(b off:Nat)(a:Option Addr)(n c:Nat)(u:Value)(hx:ρ x= .pointer (some ⟨b,off,none⟩))(hy:ρ y= .slice a n c)(h0:W.cell? ⟨b,off,none⟩=some u)(hf:W.frozen? ⟨b,off,none⟩=false) :(execOp ρ o).run Tryz.prog W= .ok .skip (W.setCell ⟨b,off,none⟩ (.slice a n c)) :=by unfold execOp;simp only[ho,Instr.storeAt,Instr.sureAddr,hx,hy,Sem.run_bind,Sem.run_pure,Result.andThen_ok];go_simp
theorem yI(W:World)(ρ:Operand→Value)(o:Oper)(y:Operand)(ho:o.op= .buildSlice 40 1 #[(0,y)])(t:ByteArray)(hx:ρ y= .string t) :(execOp ρ o).run Tryz.prog W= .ok (.value (.slice (some ⟨W.heap.size,0,none⟩) 1 1)) (W.alloc (.cells #[.string t] 9)) :=by unfold execOp;simp only[ho,hx,Sem.run_bind,Sem.run_pure,Result.andThen_ok];go_simp
theorem zH(W:World)(ρ:Operand→Value)(o:Oper)(y:Operand)(ho:o.op= .buildSlice 41 1 #[(0,y)])(t:Int)(hx:ρ y= .int .i64 t) :(execOp ρ o).run Tryz.prog W= .ok (.value (.slice (some ⟨W.heap.size,0,none⟩) 1 1)) (W.alloc (.cells #[.int .i64 t] 3)) :=by unfold execOp;simp only[ho,hx,Sem.run_bind,Sem.run_pure,Result.andThen_ok];go_simp
theorem IU(W:World)(ρ:Operand→Value)(o:Oper)(x0 x1 x2:Operand)(ho:o.op= .buildSlice 40 3 #[(0,x0),(1,x1),(2,x2)])(t0 t1 t2:ByteArray)(h0:ρ x0= .string t0)(h1:ρ x1= .string t1)(h2:ρ x2= .string t2) :(execOp ρ o).run Tryz.prog W= .ok (.value (.slice (some ⟨W.heap.size,0,none⟩) 3 3)) (W.alloc (.cells #[.string t0,.string t1,.string t2] 9)) :=by unfold execOp;simp only[ho,h0,h1,h2,Sem.run_bind,Sem.run_pure,Result.andThen_ok];go_simp
theorem GZ(W:World)(ρ:Operand→Value)(o:Oper)(x0 x1 x2 x3:Operand)(ho:o.op= .buildSlice 40 4 #[(0,x0),(1,x1),(2,x2),(3,x3)])(t0 t1 t2 t3:ByteArray)(h0:ρ x0= .string t0)(h1:ρ x1= .string t1)(h2:ρ x2= .string t2)(h3:ρ x3= .string t3) :(execOp ρ o).run Tryz.prog W= .ok (.value (.slice (some ⟨W.heap.size,0,none⟩) 4 4)) (W.alloc (.cells #[.string t0,.string t1,.string t2,.string t3] 9)) :=by unfold execOp;simp only[ho,h0,h1,h2,h3,Sem.run_bind,Sem.run_pure,Result.andThen_ok];go_simp
theorem IW(W:World)(ρ:Operand→Value)(o:Oper)(x0 x1 x2 x3 x4:Operand)(ho:o.op= .buildSlice 40 5 #[(0,x0),(1,x1),(2,x2),(3,x3),(4,x4)])(t0 t1 t2 t3 t4:ByteArray)(h0:ρ x0= .string t0)(h1:ρ x1= .string t1)(h2:ρ x2= .string t2)(h3:ρ x3= .string t3)(h4:ρ x4= .string t4) :(execOp ρ o).run Tryz.prog W= .ok (.value (.slice (some ⟨W.heap.size,0,none⟩) 5 5)) (W.alloc (.cells #[.string t0,.string t1,.string t2,.string t3,.string t4] 9)) :=by unfold execOp;simp only[ho,h0,h1,h2,h3,h4,Sem.run_bind,Sem.run_pure,Result.andThen_ok];go_simp
theorem Ic(W:World)(ρ:Operand→Value)(o:Oper)(x0 x1 x2 x3 x4:Operand)(ho:o.op= .buildSlice 41 5 #[(0,x0),(1,x1),(2,x2),(3,x3),(4,x4)])(t0 t1 t2 t3 t4:Int)(h0:ρ x0= .int .i64 t0)(h1:ρ x1= .int .i64 t1)(h2:ρ x2= .int .i64 t2)(h3:ρ x3= .int .i64 t3)(h4:ρ x4= .int .i64 t4) :(execOp ρ o).run Tryz.prog W= .ok (.value (.slice (some ⟨W.heap.size,0,none⟩) 5 5)) (W.alloc (.cells #[.int .i64 t0,.int .i64 t1,.int .i64 t2,.int .i64 t3,.int .i64 t4] 3)) :=by unfold execOp;simp only[ho,h0,h1,h2,h3,h4,Sem.run_bind,Sem.run_pure,Result.andThen_ok];go_simp
theorem vR(W:World)(ρ:Operand→Value)(o:Oper)(x y:Operand)(ho:o.op= .indexAddr 40 x y)(T X N:Nat)(hx:ρ x= .slice (some ⟨T,0,none⟩) N N)(hy:ρ y= .int .i64 (X:Int))(h:X<N)(hN:N≤5) :(execOp ρ o).run Tryz.prog W= .ok (.value (.pointer (some ⟨T,X,none⟩))) W:=by
 have hz:(X:Int)<(N:Int) :=by omega
 unfold execOp;simp only[ho,hx,hy,Sem.run_bind,Sem.run_pure,Result.andThen_ok];go_simp
theorem JO(W:World)(ρ:Operand→Value)(o:Oper)(x y:Operand)(ho:o.op= .indexAddr 41 x y)(T X N:Nat)(hx:ρ x= .slice (some ⟨T,0,none⟩) N N)(hy:ρ y= .int .i64 (X:Int))(h:X<N)(hN:N≤5) :(execOp ρ o).run Tryz.prog W= .ok (.value (.pointer (some ⟨T,X,none⟩))) W:=by
 have hz:(X:Int)<(N:Int) :=by omega
 unfold execOp;simp only[ho,hx,hy,Sem.run_bind,Sem.run_pure,Result.andThen_ok];go_simp
theorem nR(W:World)(ρ:Operand→Value)(o:Oper)(x:Operand)(ho:o.op= .load 9 x)(b off:Nat)(t:ByteArray)(hx:ρ x= .pointer (some ⟨b,off,none⟩))(h0:W.cell? ⟨b,off,none⟩=some (.string t)) :(execOp ρ o).run Tryz.prog W= .ok (.value (.string t)) W:=by unfold execOp;simp only[ho,Instr.loadAt,Instr.sureAddr,hx,Sem.run_bind,Sem.run_pure,Result.andThen_ok];go_simp
theorem Fj(W:World)(ρ:Operand→Value)(o:Oper)(x:Operand)(ho:o.op= .load 3 x)(b off:Nat)(t:Int)(hx:ρ x= .pointer (some ⟨b,off,none⟩))(h0:W.cell? ⟨b,off,none⟩=some (.int .i64 t)) :(execOp ρ o).run Tryz.prog W= .ok (.value (.int .i64 t)) W:=by unfold execOp;simp only[ho,Instr.loadAt,Instr.sureAddr,hx,Sem.run_bind,Sem.run_pure,Result.andThen_ok];go_simp
theorem uR(W:World)(ρ:Operand→Value)(o:Oper)(x y:Operand)(ho:o.op= .store 9 x y)(b off:Nat)(t:ByteArray)(u:Value)(hx:ρ x= .pointer (some ⟨b,off,none⟩))(hy:ρ y= .string t)(h0:W.cell? ⟨b,off,none⟩=some u)(hf:W.frozen? ⟨b,off,none⟩=false) :(execOp ρ o).run Tryz.prog W= .ok .skip (W.setCell ⟨b,off,none⟩ (.string t)) :=by unfold execOp;simp only[ho,Instr.storeAt,Instr.sureAddr,hx,hy,Sem.run_bind,Sem.run_pure,Result.andThen_ok];go_simp
theorem EW {W:World} {ops:Array Oper} {i:Nat} {o:Oper} {a:Act} {K:Act→World→Prop} {Q:Exit→Act→World→Prop}(Ff:ops[i]?=some o)(hw:Region.wanted o (yielded ops a.tmps)=true)(s x:Operand)(ho:o.op= .call {callee:= .builtin .append,args:=#[s,x],argTypes:=#[40,40]})(base:Nat)(v:Value)(xs:List (List UInt8))(hs:a.eval s=v)(hown:W.ownsRow base 9 1 v xs.length (sC xs))(bx:Nat)(y:List UInt8)(hx:a.eval x= .slice (some ⟨bx,0,none⟩) 1 1)(hb:W.heap[bx]?=some (.cells #[.string ⟨y.toArray⟩] 9))(hl:xs.length≤1048576)(hbase:base≤W.heap.size)(h: ∀g c w' N,Hid ((xs++ [y]).length=N)→w'.ownsRow base 9 1 (.slice (some ⟨g,0,none⟩) N c) N (sC (xs++ [y]))→W.grownBy w' v.ownBlock→K (a.put o.dst (.slice (some ⟨g,0,none⟩) N c)) w') :wpOp Tryz.prog ops Q i K a W:=by
 obtain⟨i0,hi0,hz0,hz1,hz2⟩ :=info_parts Tryz.infoStrL;refine jF Ff hw ?_;obtain⟨v',w',hr,h2,h3,h4,h5⟩ :=run_append_own_at (P:=Tryz.prog) W base 40 o.type 9 i0 (.string ⟨#[]⟩) 1 16 Tryz.underlying40 hi0 hz0 hz1 hz2 rfl (by decide) v xs.length (sC xs) hown ⟨bx,0,none⟩ 1 1 [.string ⟨y.toArray⟩] rfl (fun j u hj=>by
  match j,hj with
  |0,hj=>simp at hj;subst hj;rw[ko];exact ah hb 0
  |j+1,hj=>simp at hj) (fun u hu=>by rw[List.mem_singleton.1 hu];rfl) (by unfold maxLen;omega) (by omega) hbase;rcases h2.2 with⟨h',_⟩| ⟨g',cap',cur',h',_⟩;·exact absurd (h4.1 h').2 (by simp)
 subst h';rw[←Oo]at h2;have e:xs.length+1=(xs++ [y]).length:=by simp
 rw[e]at h2;have hq:=h g' cap' w' _ (aa rfl) h2 h3;unfold Oper.wp execOp;simp only[ho,resolve,invoke,builtin,Sem.run_bind,Sem.run_pure,Result.andThen_ok,List.map_toArray,List.map_cons,List.map_nil,hs,hx,hr];rw[←e]at hq;exact hq
theorem Pw {W:World} {ops:Array Oper} {i:Nat} {o:Oper} {a:Act} {K:Act→World→Prop} {Q:Exit→Act→World→Prop}(Ff:ops[i]?=some o)(hw:Region.wanted o (yielded ops a.tmps)=true)(s x:Operand)(ho:o.op= .call {callee:= .builtin .append,args:=#[s,x],argTypes:=#[41,41]})(base:Nat)(v:Value)(xs:List Int)(hs:a.eval s=v)(hown:W.ownsRow base 3 1 v xs.length (zC xs))(bx:Nat)(y:Int)(hx:a.eval x= .slice (some ⟨bx,0,none⟩) 1 1)(hb:W.heap[bx]?=some (.cells #[.int .i64 y] 3))(hl:xs.length≤1048576)(hbase:base≤W.heap.size)(h: ∀g c w' N,Hid ((xs++ [y]).length=N)→w'.ownsRow base 3 1 (.slice (some ⟨g,0,none⟩) N c) N (zC (xs++ [y]))→W.grownBy w' v.ownBlock→K (a.put o.dst (.slice (some ⟨g,0,none⟩) N c)) w') :wpOp Tryz.prog ops Q i K a W:=by
 obtain⟨i0,hi0,hz0,hz1,hz2⟩ :=info_parts Tryz.infoIntL;refine jF Ff hw ?_;obtain⟨v',w',hr,h2,h3,h4,h5⟩ :=run_append_own_at (P:=Tryz.prog) W base 41 o.type 3 i0 (.int .i64 0) 1 8 Tryz.underlying41 hi0 hz0 hz1 hz2 rfl (by decide) v xs.length (zC xs) hown ⟨bx,0,none⟩ 1 1 [.int .i64 y] rfl (fun j u hj=>by
  match j,hj with
  |0,hj=>simp at hj;subst hj;rw[ko];exact ah hb 0
  |j+1,hj=>simp at hj) (fun u hu=>by rw[List.mem_singleton.1 hu];rfl) (by unfold maxLen;omega) (by omega) hbase;rcases h2.2 with⟨h',_⟩| ⟨g',cap',cur',h',_⟩;·exact absurd (h4.1 h').2 (by simp)
 subst h';rw[←NJ]at h2;have e:xs.length+1=(xs++ [y]).length:=by simp
 rw[e]at h2;have hq:=h g' cap' w' _ (aa rfl) h2 h3;unfold Oper.wp execOp;simp only[ho,resolve,invoke,builtin,Sem.run_bind,Sem.run_pure,Result.andThen_ok,List.map_toArray,List.map_cons,List.map_nil,hs,hx,hr];rw[←e]at hq;exact hq
def gM(W W':World) :Prop:=W.heap.size≤W'.heap.size∧∀(g:Nat)(cs:Array Value)(t:TypeId),t=9∨t=3∨t=43→W.heap[g]?=some (Obj.cells cs t)→W'.heap[g]?=some (Obj.cells cs t)
theorem gM.trans {a b c:World}(h:gM a b)(k:gM b c) :gM a c:=⟨Nat.le_trans h.1 k.1,fun g cs t ht hg=>k.2 g cs t ht (h.2 g cs t ht hg)⟩
theorem gM.below {W W':World}(h:Below W.heap.size W W') :gM W W':=⟨h.size,fun g cs t _ hg=>aD hg h⟩
theorem gM.set {W:World} {g k:Nat} {u:Value} {cs:Array Value} {t:TypeId}(h:W.heap[g]?=some (.cells cs t))(h1:t≠9)(h2:t≠3)(h3:t≠43) :gM W (W.setCell ⟨g,k,none⟩ u) :=⟨by simp,fun x cs' t' ht hx=>(au W g k u x (fun e=>by
 subst e;rw[h]at hx;injection hx with hx;injection hx with _ hx;subst hx;rcases ht with e|e|e;·exact h1 e
 ·exact h2 e
 ·exact h3 e)).trans hx⟩
theorem Sx.keepD {b:Nat} {ao:Option Addr} {n cap:Nat} {A:Int} {W W':World}(h:Sx b ao n cap W A)(hb:But (fun x=>x=b) W W') :gM W W':=⟨hb.size,fun g cs t ht hg=>hb.blk hg fun e=>by subst e;obtain⟨_,_,_,_,_,_,h5,_⟩ :=h;unfold dQ at h5;rw[h5]at hg;injection hg with hg;injection hg with _ hg;subst hg;revert ht;decide⟩
theorem oP {W W':World} {base e sz n:Nat} {v:Value} {xs:List Value}(h:W.ownsRow base e sz v n xs)(hk:gM W W')(he:e=9∨e=3∨e=43) :W'.ownsRow base e sz v n xs:=cz h fun x hx=>by obtain⟨_,cur,hc⟩ :=dH h hx;rw[hc];exact hk.2 x cur e he hc
theorem Gx {w:World} {base base' e size n:Nat} {v:Value} {xs:List Value}(h:w.ownsRow base e size v n xs)(hb:base'≤base) :w.ownsRow base' e size v n xs:=by
 refine⟨h.1,?_⟩;rcases h.2 with h1| ⟨g,cap,cur,h1,hg,hr⟩;·exact Or.inl h1
 ·exact Or.inr ⟨g,cap,cur,h1,Nat.le_trans hb hg,hr⟩
def wI(W:World)(base:Nat)(u0 u1 u2:Option Value)(x:Vl) :Prop:=u0=some (.string ⟨x.1.toArray⟩)∧(∃v,u1=some v∧W.ownsRow base 9 1 v x.2.1.length (sC x.2.1))∧∃v,u2=some v∧W.ownsRow base 3 1 v x.2.2.length (zC x.2.2)
theorem wI.keep {W W':World} {base:Nat} {u0 u1 u2:Option Value} {x:Vl}(h:wI W base u0 u1 u2 x)(hk:gM W W') :wI W' base u0 u1 u2 x:=by obtain⟨h1,⟨v,h2,h3⟩,v',h4,h5⟩ :=h;exact⟨h1,⟨v,h2,oP h3 hk (Or.inl rfl)⟩,v',h4,oP h5 hk (Or.inr (Or.inl rfl))⟩
def wP(u v:Option Value) :Prop:=∀a b x,u=some a→v=some b→a.ownBlock=some x→b.ownBlock≠some x
structure iJ(W:World)(base:Nat)(dv:Value)(V:List Vl)(ys:List Value) :Prop where
 row:W.ownsRow base 43 3 dv V.length ys
 len:ys.length=V.length*3
 val: ∀i,i<V.length→wI W base ys[i*3]? ys[i*3+1]? ys[i*3+2]? (V.getD i aQ)
 LY: ∀i j,i<V.length→j<V.length→i≠j→wP ys[i*3+1]? ys[j*3+1]?∧wP ys[i*3+2]? ys[j*3+2]?
theorem iJ.nil(W:World)(base:Nat) :iJ W base (.slice none 0 0) [] [] :=⟨World.ownsRow_nil _ _ _ _,rfl,fun i hi=>absurd hi (by simp),fun i j hi=>absurd hi (by simp)⟩
theorem iJ.keep {W W':World} {base:Nat} {dv:Value} {V:List Vl} {ys:List Value}(h:iJ W base dv V ys)(hk:gM W W') :iJ W' base dv V ys:=⟨oP h.row hk (Or.inr (Or.inr rfl)),h.len,fun i hi=>(h.val i hi).keep hk,h.LY⟩
theorem iJ.push {W W':World} {base:Nat} {dv pX u0 u1 u2:Value} {V:List Vl} {ys:List Value} {x:Vl}(h:iJ W base dv V ys)(ho:W'.ownsRow base 43 3 pX (V++ [x]).length (ys++ [u0,u1,u2]))(hg:W.grownBy W' dv.ownBlock)(hx:wI W base (some u0) (some u1) (some u2) x)(hd: ∀i,i<V.length→(wP ys[i*3+1]? (some u1)∧wP (some u1) ys[i*3+1]?)∧wP ys[i*3+2]? (some u2)∧wP (some u2) ys[i*3+2]?) :iJ W' base pX (V++ [x]) (ys++ [u0,u1,u2]) :=by
 have hl:=h.len;have hV: ∀ {a b c:Option Value} {y:Vl},wI W base a b c y→wI W' base a b c y:=fun{a b c y}hv=>by obtain⟨h1,⟨v,h2,h3⟩,v',h4,h5⟩ :=hv;exact⟨h1,⟨v,h2,cz h3 fun z hz=>hg.block z (gu h3 hz) (fun e=>gI h3 h.row (by decide) hz e.symm)⟩,v',h4,cz h5 fun z hz=>hg.block z (gu h5 hz) (fun e=>gI h5 h.row (by decide) hz e.symm)⟩
 have g1: ∀i,i<V.length→(ys++ [u0,u1,u2])[i*3]?=ys[i*3]?∧(ys++ [u0,u1,u2])[i*3+1]?=ys[i*3+1]?∧(ys++ [u0,u1,u2])[i*3+2]?=ys[i*3+2]?:=fun i hi=>⟨List.getElem?_append_left (by omega),List.getElem?_append_left (by omega),List.getElem?_append_left (by omega)⟩;have g2:(ys++ [u0,u1,u2])[V.length*3]?=some u0∧(ys++ [u0,u1,u2])[V.length*3+1]?=some u1∧(ys++ [u0,u1,u2])[V.length*3+2]?=some u2:=by
  refine⟨?_,?_,?_⟩;·rw[List.getElem?_append_right (by omega),show V.length*3-ys.length=0 from by omega];rfl
  ·rw[List.getElem?_append_right (by omega),show V.length*3+1-ys.length=1 from by omega];rfl
  ·rw[List.getElem?_append_right (by omega),show V.length*3+2-ys.length=2 from by omega];rfl
 refine⟨ho,by simp[hl];omega,fun i hi=> ?_,fun i j hi hj hij=> ?_⟩
 ·by_cases hlt:i<V.length;·rw[(g1 i hlt).1,(g1 i hlt).2.1,(g1 i hlt).2.2,show(V++ [x]).getD i aQ=V.getD i aQ from by simp[List.getElem?_append_left hlt]];exact hV (h.val i hlt)
  ·have hi':i=V.length:=by simp at hi;omega
   subst hi';rw[g2.1,g2.2.1,g2.2.2,show(V++ [x]).getD V.length aQ=x from by simp];exact hV hx
 ·simp only[List.length_append,List.length_cons,List.length_nil]at hi hj;by_cases Ke:i<V.length
  ·by_cases hlj:j<V.length;·rw[(g1 i Ke).2.1,(g1 i Ke).2.2,(g1 j hlj).2.1,(g1 j hlj).2.2];exact h.LY i j Ke hlj hij
   ·have hj':j=V.length:=by omega
    subst hj';rw[(g1 i Ke).2.1,(g1 i Ke).2.2,g2.2.1,g2.2.2];exact⟨(hd i Ke).1.1,(hd i Ke).2.1⟩
  ·have hi':i=V.length:=by omega
   subst hi';have hlj:j<V.length:=by omega
   rw[(g1 j hlj).2.1,(g1 j hlj).2.2,g2.2.1,g2.2.2];exact⟨(hd j hlj).1.2,(hd j hlj).2.2⟩
theorem ji {w:World} {base e sz n:Nat} {v:Value} {xs:List Value}(h:w.ownsRow base e sz v n xs) : ∃a c,v= .slice a n c:=by
 rcases h.2 with⟨h1,h2⟩| ⟨g,cap,cur,h1,_⟩;·exact⟨none,0,by rw[h1,h2]⟩
 ·exact⟨_,_,h1⟩
theorem Qf {w:World} {base:Nat} {a:Option Addr} {m c:Nat} {l:List (List UInt8)}(h:w.ownsRow base 9 1 (.slice a m c) l.length (sC l)) :gN w a l:=by
 rcases h.2 with⟨h1,h2⟩| ⟨g,cap,cur,h1,hb,hg,hr⟩;·exact Or.inl (List.length_eq_zero_iff.1 h2)
 ·injection h1 with h1 h3 h4;refine Or.inr ⟨g,0,h1,(Array.getElem?_eq_some_iff.1 hg).1,fun i hi=> ?_⟩;subst h1 h3 h4;rw[Nat.zero_add,h.cellAt i (by omega)];simp[sC,hi]
theorem Rf {w:World} {base:Nat} {a:Option Addr} {m c:Nat} {l:List Int}(h:w.ownsRow base 3 1 (.slice a m c) l.length (zC l)) :qD w a l:=by
 rcases h.2 with⟨h1,h2⟩| ⟨g,cap,cur,h1,hb,hg,hr⟩;·exact Or.inl (List.length_eq_zero_iff.1 h2)
 ·injection h1 with h1 h3 h4;refine Or.inr ⟨g,0,h1,(Array.getElem?_eq_some_iff.1 hg).1,fun i hi=> ?_⟩;subst h1 h3 h4;rw[Nat.zero_add,h.cellAt i (by omega)];simp[zC,hi]
structure DD(w:World)(b:Nat)(ao:Option Addr)(n cap:Nat)(A:Int)(gs g m c g4 g5:Nat)(did:List UInt8)(dv:Value)(V:List Vl)(ys:List Value)(W:World) :Prop where
 src:Sx b ao n cap W A
 but:But (fun x=>x=b) w W
 Iq:W.heap[gs]?=some (.cells #[.slice (some ⟨g,0,none⟩) m c] 25)
 rT:zu W g
 res:W.heap[g4]?=some (.cells #[.string ⟨#[]⟩,.slice none 0 0] 28)
 box:W.heap[g5]?=some (.cells #[.string ⟨did.toArray⟩,dv] 28)
 doc:iJ W w.heap.size dv V ys
 bl:b<w.heap.size
 gl:g<w.heap.size
 gb:g≠b
 sl:w.heap.size≤gs
 rl:w.heap.size≤g4
 xl:w.heap.size≤g5
 ne:g4≠g5
 cb: ∀j,j<n→∃blk off,ao=some ⟨blk,off,none⟩∧blk<w.heap.size
section
variable {w W W':World} {b:Nat} {ao:Option Addr} {n cap:Nat} {A A':Int} {gs g m c g4 g5:Nat} {did:List UInt8} {dv:Value} {V:List Vl} {ys:List Value}
theorem DD.draw(h:DD w b ao n cap A gs g m c g4 g5 did dv V ys W)(hs:Sx b ao n cap W' A')(hb:But (fun x=>x=b) W W') :DD w b ao n cap A' gs g m c g4 g5 did dv V ys W':=by
 have q: ∀x,w.heap.size≤x→¬x=b:=fun x hx e=>by have:=h.bl;omega
 exact⟨hs,h.but.more hb,hb.blk h.Iq (q _ h.sl),h.rT.but hb h.gb,hb.blk h.res (q _ h.rl),hb.blk h.box (q _ h.xl),h.doc.keep (h.src.keepD hb),h.bl,h.gl,h.gb,h.sl,h.rl,h.xl,h.ne,h.cb⟩
theorem DD.below(h:DD w b ao n cap A gs g m c g4 g5 did dv V ys W)(hb:Below W.heap.size W W') :DD w b ao n cap A gs g m c g4 g5 did dv V ys W':=h.draw (h.src.below hb) (But.of_below hb)
theorem DD.mono(h:DD w b ao n cap A gs g m c g4 g5 did dv V ys W)(hA:A≤A') :DD w b ao n cap A' gs g m c g4 g5 did dv V ys W:=⟨h.src.mono hA,h.but,h.Iq,h.rT,h.res,h.box,h.doc,h.bl,h.gl,h.gb,h.sl,h.rl,h.xl,h.ne,h.cb⟩
theorem DD.Xv {id':List UInt8} {pX:Value} {V':List Vl} {ys':List Value}(h:DD w b ao n cap A gs g m c g4 g5 did dv V ys W)(k:Nat)(u:Value)(he:(#[.string ⟨did.toArray⟩,dv] :Array Value).setIfInBounds k u= #[.string ⟨id'.toArray⟩,pX])(hd:iJ (W.setCell ⟨g5,k,none⟩ u) w.heap.size pX V' ys') :DD w b ao n cap A gs g m c g4 g5 id' pX V' ys' (W.setCell ⟨g5,k,none⟩ u) :=by
 have hxl:=h.xl;have hbl:=h.bl;have hgl:=h.gl;have ho: ∀x,x≠g5→(W.setCell ⟨g5,k,none⟩ u).heap[x]?=W.heap[x]?:=fun x hx=>au _ _ _ _ _ hx;have hbx:=aV h.box k u;rw[he]at hbx;refine⟨h.src.set g5 k _ (by omega) (fun j hj=> ?_),h.but.Du g5 k _ hxl,(ho gs (fun e=> ?_)).trans h.Iq,h.rT.but ((But.refl (fun x=>x=g5) W).set g5 k _ rfl) (by show¬g=g5;omega),(ho g4 h.ne).trans h.res,hbx,hd,h.bl,h.gl,h.gb,h.sl,h.rl,h.xl,h.ne,h.cb⟩;·obtain⟨blk,off,h1,h2⟩ :=h.cb j hj;exact⟨blk,off,h1,by omega⟩
 ·have h1:=h.Iq;rw[e,h.box]at h1;injection h1 with h1;injection h1 with _ h1;exact absurd h1 (by decide)
theorem DD.QC(h:DD w b ao n cap A gs g m c g4 g5 did dv V ys W)(id':List UInt8) :DD w b ao n cap A gs g m c g4 g5 id' dv V ys (W.setCell ⟨g5,0,none⟩ (.string ⟨id'.toArray⟩)) :=h.Xv 0 _ rfl (h.doc.keep (gM.set h.box (by decide) (by decide) (by decide)))
theorem DD.grow {pX:Value} {V':List Vl} {ys':List Value}(h:DD w b ao n cap A gs g m c g4 g5 did dv V ys W)(hg:W.grownBy W' dv.ownBlock)(hd:iJ W' w.heap.size pX V' ys') :DD w b ao n cap A gs g m c g4 g5 did pX V' ys' (W'.setCell ⟨g5,1,none⟩ pX) :=by
 have hb:=kP hg;have hgl:=h.gl;have hX: ∀y,y<w.heap.size→¬(dv.ownBlock=some y) :=fun y hy e1=>by have:=(dH h.doc.row e1).1;omega
 have hT: ∀ {y:Nat} {cs:Array Value} {t:TypeId},W.heap[y]?=some (.cells cs t)→43≠t→¬(dv.ownBlock=some y) :=fun hy ht=>dO h.doc.row hy ht;have k5:W'.heap[g5]?=_:=hb.blk h.box (hT h.box (by decide));have k4:W'.heap[g4]?=_:=hb.blk h.res (hT h.res (by decide));have ks:W'.heap[gs]?=_:=hb.blk h.Iq (hT h.Iq (by decide));have hs:Sx b ao n cap W' A:=h.src.Gw hb (hX b h.bl) (fun j hj=>by obtain⟨blk,off,h1,h2⟩ :=h.cb j hj;exact⟨blk,off,h1,Nat.lt_of_lt_of_le h2 h.but.size,hX blk h2⟩);have hbw:But (fun x=>x=b) w W':=⟨hb.os.trans h.but.os,hb.tape.trans h.but.tape,hb.output.trans h.but.output,Nat.le_trans h.but.size hb.size,fun i hi hn=>(hb.block i (Nat.lt_of_lt_of_le hi h.but.size) (hX i hi)).trans (h.but.block i hi hn)⟩;have hxl:=h.xl;have hbl:=h.bl;have ho: ∀x,x≠g5→(W'.setCell ⟨g5,1,none⟩ pX).heap[x]?=W'.heap[x]?:=fun x hx=>au _ _ _ _ _ hx;refine⟨hs.set g5 1 _ (by omega) (fun j hj=> ?_),hbw.Du g5 1 _ hxl,(ho gs (fun e=> ?_)).trans ks,(h.rT.but hb (hX g hgl)).but ((But.refl (fun x=>x=g5) W').set g5 1 _ rfl) (by show¬g=g5;omega),(ho g4 h.ne).trans k4,aV k5 1 _,hd.keep (gM.set k5 (by decide) (by decide) (by decide)),h.bl,h.gl,h.gb,h.sl,h.rl,h.xl,h.ne,h.cb⟩
 ·obtain⟨blk,off,h1,h2⟩ :=h.cb j hj;exact⟨blk,off,h1,by omega⟩
 ·rw[e,k5]at ks;injection ks with ks;injection ks with _ ks;exact absurd ks (by decide)
end
theorem UO(w:World)(g cap:Nat)(x:Int)(h0:0≤x)(h1:x≤255)(h:w.cell? ⟨g,0,none⟩=some (.int .u8 x)) :(convert 22 9 (.slice (some ⟨g,0,none⟩) 1 cap)).run Tryz.prog w= .ok (.string ⟨#[UInt8.ofNat x.toNat]⟩) w:=by
 have:=run_convert_bytes_back (P:=Tryz.prog) w 22 9 5 ⟨g,0,none⟩ cap [UInt8.ofNat x.toNat] Tryz.underlying22 Tryz.underlying5 Tryz.underlying9 (fun j hj=>by
  have:j=0:=by simp at hj;omega
  subst this;rw[ko,h];have e:((UInt8.ofNat x.toNat).toNat:Int)=x:=by rw[UInt8.toNat_ofNat'];omega
  show _=some (Value.int .u8 ((UInt8.ofNat x.toNat).toNat:Int));rw[e]);exact this
theorem Zz(W:World)(ρ:Operand→Value)(o:Oper)(x:Operand)(ho:o.op= .convert 22 9 x)(v:Value)(hx:ρ x=v)(u:Value)(hc:(convert 22 9 v).run Tryz.prog W= .ok u W) :(execOp ρ o).run Tryz.prog W= .ok (.value u) W:=by unfold execOp;simp only[ho,hx,Sem.run_bind,Sem.run_pure,Result.andThen_ok,hc]
section
variable {P:Program} {md:Region.Mode} {ops:Array Oper} {Q:Exit→Act→World→Prop} {S:World→Prop} {z:Nat}
def eB(P:Program)(md:Region.Mode)(ops:Array Oper)(Q:Exit→Act→World→Prop)(S:World→Prop)(z:Nat) :Nat→Array Bool→Act→World→Prop
 |0,listed,a,w=>Region.ready md ops listed= []∧Q .normal a w
 |fuel+1,listed,a,w=>(Region.ready md ops listed= []→Q .normal a w)∧∀i∈Region.ready md ops listed,wpOp P ops Q i (fun a' w'=>((listed.setIfInBounds i true).getD z false=true∨S w')∧eB P md ops Q S z fuel (listed.setIfInBounds i true) a' w') a w
theorem Fh: ∀(fuel:Nat)(listed:Array Bool)(a:Act)(w:World),eB P md ops Q S z fuel listed a w→wpAny P md ops Q fuel listed a w
 |0,_,_,_,h=>h
 |fuel+1,_,_,_,h=>⟨h.1,fun i hi=>wpOp_mono (fun a' w' h'=>Fh fuel _ a' w' h'.2) (h.2 i hi)⟩
def waits(md:Region.Mode)(ops:Array Oper)(i j:Nat) :Bool:=((ops[j]?).map fun o=>o.after.any fun e=>Region.binds md e&&e.on==i).getD false
def CF(md:Region.Mode)(ops:Array Oper)(z:Nat) :Nat→List Nat→Bool
 |i,[]=>i==z
 |i,j::l=>waits md ops i j&&CF md ops z j l
theorem UR {i j:Nat} {listed:Array Bool}(h:waits md ops i j=true)(hi:listed.getD i true=false) :j∉Region.ready md ops listed:=fun hj=>by
 obtain⟨_,o,ho,hall⟩ :=mem_ready.1 hj;simp only[waits,ho,Option.map_some,Option.getD_some,Array.any_eq_true]at h;obtain⟨k,hk,he⟩ :=h;simp only[Bool.and_eq_true,beq_iff_eq]at he;have h1:=hall o.after[k] (Array.getElem_mem hk) he.1;rw[he.2]at h1;rcases Nat.lt_or_ge i listed.size with h'|h';·simp[h']at hi h1;rw[hi]at h1;cases h1
 ·simp[Array.getElem?_eq_none h']at h1
theorem KW {listed:Array Bool} : ∀(i:Nat)(l:List Nat),CF md ops z i l=true→listed.getD i true=false→(∀j∈l,listed.getD j true=false)→(∀j∈l,j∉Region.ready md ops listed)∧(z=i∨z∈l)
 |i,[],h,_,_=>⟨fun j hj=>absurd hj (by simp),Or.inl (by have h':(i==z)=true:=h;exact(eq_of_beq h').symm)⟩
 |i,j::l,h,hi,hl=>by
  simp only[CF,Bool.and_eq_true]at h;have h1:=UR h.1 hi;obtain⟨h2,h3⟩ :=KW j l h.2 (hl j (List.mem_cons_self ..)) fun k hk=>hl k (List.mem_cons_of_mem _ hk);refine⟨fun k hk=> ?_,?_⟩
  ·rcases List.mem_cons.1 hk with rfl|hk;·exact h1
   ·exact h2 k hk
  ·rcases h3 with rfl|h3;·exact Or.inr (List.mem_cons_self ..)
   ·exact Or.inr (List.mem_cons_of_mem _ h3)
theorem LB {i:Nat} {oi:Oper} {v:Value} {l:List Nat}(hi:ops[i]?=some oi)(hsel: ∀(j:Nat)(o:Oper)cs b,ops[j]?=some o→o.op≠ .select cs b)(hQ: ∀c a w,Q (.panic c) (a.put oi.dst v) w→Q (.panic c) a w)(hp:CF md ops z i l=true)(hiz:i≠z) : ∀(fuel:Nat)(listed:Array Bool)(a:Act)(w:World),(∀j oj,ops[j]?=some oj→j≠i→listed.getD j true=false→(∀e∈oj.after,Region.binds md e=true→e.on≠i)→oi.apart ops oj=true)→i∈Region.ready md ops listed→(∀j∈l,listed.getD j true=false)→YieldsIf P ops S oi v a→S w→eB P md ops Q S z fuel (listed.setIfInBounds i true) (a.put oi.dst v) w→eB P md ops Q S z (fuel+1) listed a w:=by
 intro fuel;induction fuel with
 |zero=>
  intro listed a w _ hr hl hy hS H;refine⟨fun h=>(by rw[h]at hr;cases hr),fun j hj=> ?_⟩;by_cases hji:j=i;·subst hji;exact hy.wpOp hi hS ⟨Or.inr hS,H⟩
  ·have:=ready_mono hj hji;rw[H.1]at this;cases this
 |succ fuel ih=>
  intro listed a w hfree hr hl hy hS H;refine⟨fun h=>(by rw[h]at hr;cases hr),fun j hj=> ?_⟩;by_cases hji:j=i;·subst hji;exact hy.wpOp hi hS ⟨Or.inr hS,H⟩
  ·have h1:=H.2 j (ready_mono hj hji);obtain⟨hjun,oj,hoj,hall⟩ :=mem_ready.1 hj;obtain⟨hnp,hzp⟩ :=KW i l hp (mem_ready.1 hr).1 hl;have hjz:j≠z:=fun e=>by
    rcases hzp with h|h;·exact hji (e.trans h)
    ·exact hnp z h (e▸hj)
   have hjl: ∀k∈l,j≠k:=fun k hk e=>hnp k hk (e▸hj);have hnot: ∀e∈oj.after,Region.binds md e=true→e.on≠i:=fun e he hb heq=>by
    have h1:=hall e he hb;have h0:=(mem_ready.1 hr).1;rw[heq]at h1;rcases Nat.lt_or_ge i listed.size with h'|h';·simp[h']at h0 h1;rw[h0]at h1;cases h1
    ·simp[Array.getElem?_eq_none h']at h1
   have h2:=wpOp_putIf hoj (hfree j oj hoj hji hjun hnot) (fun cs b=>hsel i oi cs b hi) (fun cs b=>hsel j oj cs b hoj) hQ hy h1;have hfree': ∀k ok,ops[k]?=some ok→k≠i→(listed.setIfInBounds j true).getD k true=false→(∀e∈ok.after,Region.binds md e=true→e.on≠i)→oi.apart ops ok=true:=fun k ok hk hki hun hno=>by
    refine hfree k ok hk hki ?_ hno;by_cases hjk:j=k;·subst hjk;exact hjun
    ·rw[getD_set_ne true hjk]at hun;exact hun
   have hl': ∀k∈l,(listed.setIfInBounds j true).getD k true=false:=fun k hk=>by rw[getD_set_ne true (hjl k hk)];exact hl k hk
   refine wpOp_mono (fun a' w' h3=> ?_) h2;have hzl:listed.getD z false=false:=by
    have h0:listed.getD z true=false:=by
     rcases hzp with h|h;·exact absurd h.symm hiz
     ·exact hl z h
    rcases Nat.lt_or_ge z listed.size with h'|h';·simp[h']at h0⊢;exact h0
    ·simp[Array.getElem?_eq_none h']at h0
   have hS':S w':=h3.2.1.resolve_left (fun h=>by rw[getD_set_ne false hjz,getD_set_ne false hiz,hzl]at h;cases h);refine⟨Or.inr hS',ih (listed.setIfInBounds j true) a' w' hfree' (ready_mono hr (Ne.symm hji)) hl' h3.1 hS' ?_⟩;rw[Array.setIfInBounds_comm _ _ hji];exact h3.2.2
theorem JA {i:Nat} {oi:Oper} {v:Value}(hi:ops[i]?=some oi)(hsel: ∀(j:Nat)(o:Oper)cs b,ops[j]?=some o→o.op≠ .select cs b)(hQ: ∀c a w,Q (.panic c) (a.put oi.dst v) w→Q (.panic c) a w)(hiz:i≠z) : ∀(fuel:Nat)(listed:Array Bool)(a:Act)(w:World),(∀j oj,ops[j]?=some oj→j≠i→listed.getD j true=false→(∀e∈oj.after,Region.binds md e=true→e.on≠i)→oi.apart ops oj=true)→i∈Region.ready md ops listed→YieldsIf P ops (fun _=>True) oi v a→(listed.getD z false=true∨S w)→eB P md ops Q S z fuel (listed.setIfInBounds i true) (a.put oi.dst v) w→eB P md ops Q S z (fuel+1) listed a w:=by
 intro fuel;induction fuel with
 |zero=>
  intro listed a w _ hr hy hS H;refine⟨fun h=>(by rw[h]at hr;cases hr),fun j hj=> ?_⟩;by_cases hji:j=i;·subst hji;exact hy.wpOp hi trivial ⟨hS.imp getD_set_true id,H⟩
  ·have:=ready_mono hj hji;rw[H.1]at this;cases this
 |succ fuel ih=>
  intro listed a w hfree hr hy hS H;refine⟨fun h=>(by rw[h]at hr;cases hr),fun j hj=> ?_⟩;by_cases hji:j=i;·subst hji;exact hy.wpOp hi trivial ⟨hS.imp getD_set_true id,H⟩
  ·have h1:=H.2 j (ready_mono hj hji);obtain⟨hjun,oj,hoj,hall⟩ :=mem_ready.1 hj;have hnot: ∀e∈oj.after,Region.binds md e=true→e.on≠i:=fun e he hb heq=>by
    have h1:=hall e he hb;have h0:=(mem_ready.1 hr).1;rw[heq]at h1;rcases Nat.lt_or_ge i listed.size with h'|h';·simp[h']at h0 h1;rw[h0]at h1;cases h1
    ·simp[Array.getElem?_eq_none h']at h1
   have h2:=wpOp_putIf hoj (hfree j oj hoj hji hjun hnot) (fun cs b=>hsel i oi cs b hi) (fun cs b=>hsel j oj cs b hoj) hQ hy h1;have hfree': ∀k ok,ops[k]?=some ok→k≠i→(listed.setIfInBounds j true).getD k true=false→(∀e∈ok.after,Region.binds md e=true→e.on≠i)→oi.apart ops ok=true:=fun k ok hk hki hun hno=>by
    refine hfree k ok hk hki ?_ hno;by_cases hjk:j=k;·subst hjk;exact hjun
    ·rw[getD_set_ne true hjk]at hun;exact hun
   refine wpOp_mono (fun a' w' h3=> ?_) h2;have hC:(listed.setIfInBounds j true).getD z false=true∨S w':=h3.2.1.imp (fun h=>by rw[Array.setIfInBounds_comm _ _ (Ne.symm hji),getD_set_ne false hiz]at h;exact h) id;refine⟨hC,ih (listed.setIfInBounds j true) a' w' hfree' (ready_mono hr (Ne.symm hji)) h3.1 hC ?_⟩;rw[Array.setIfInBounds_comm _ _ hji];exact h3.2.2
theorem ET {rs:List Nat} {fuel:Nat} {listed:Array Bool} {a:Act} {w:World}(hr:Region.ready md ops listed=rs)(hne:rs≠ [])(h: ∀i∈rs,wpOp P ops Q i (fun a' w'=>((listed.setIfInBounds i true).getD z false=true∨S w')∧eB P md ops Q S z fuel (listed.setIfInBounds i true) a' w') a w) :eB P md ops Q S z (fuel+1) listed a w:=⟨fun h0=>absurd (hr▸h0) hne,hr▸h⟩
theorem gD {listed:Array Bool} {a:Act} {w:World}(hr:Region.ready md ops listed= [])(h:Q .normal a w) : ∀fuel,eB P md ops Q S z fuel listed a w
 |0=>⟨hr,h⟩
 |_+1=>⟨fun _=>h,by rw[hr];simp⟩
theorem jN(S:World→Prop)(z:Nat) {id:Nat} {a:Act} {w:World}(hm:P.follows .mixedOrders=true)(h:eB P .any ops Q S z ops.size (Array.replicate ops.size false) a {w with drawn:=w.drawn+1}) :(Code.region id ops true).wp P Q a w:=wp_region_any hm (Fh _ _ _ _ h)
theorem aP(i:Nat) {fuel:Nat} {listed:Array Bool} {a:Act} {w:World}(hr:Region.ready md ops listed= [i])(h:wpOp P ops Q i (fun a' w'=>((listed.setIfInBounds i true).getD z false=true∨S w')∧eB P md ops Q S z fuel (listed.setIfInBounds i true) a' w') a w) :eB P md ops Q S z (fuel+1) listed a w:=ET hr (by simp) (fun j hj=>by
 have e:j=i:=by simpa using hj
 subst e;exact h)
theorem vo(i j:Nat) {fuel:Nat} {listed:Array Bool} {a:Act} {w:World}(hr:Region.ready md ops listed= [i,j])(h1:wpOp P ops Q i (fun a' w'=>((listed.setIfInBounds i true).getD z false=true∨S w')∧eB P md ops Q S z fuel (listed.setIfInBounds i true) a' w') a w)(h2:wpOp P ops Q j (fun a' w'=>((listed.setIfInBounds j true).getD z false=true∨S w')∧eB P md ops Q S z fuel (listed.setIfInBounds j true) a' w') a w) :eB P md ops Q S z (fuel+1) listed a w:=ET hr (by simp) (fun k hk=>by
 have e:k=i∨k=j:=by simpa using hk
 rcases e with rfl|rfl;·exact h1
 ·exact h2)
theorem ekL(i:Nat)(l:List Nat) {fuel:Nat} {listed:Array Bool} {a:Act} {w:World} {oi:Oper} {v:Value}(hi:ops[i]?=some oi:=by rfl)(hs:Region.noSelect ops=true:=by kernel_rfl)(hf:Region.free md ops listed i=true:=by kernel_rfl)(hr:(Region.ready md ops listed).contains i=true:=by kernel_rfl)(hp:CF md ops z i l=true:=by kernel_rfl)(hl:(l.all fun j=> !listed.getD j true)=true:=by kernel_rfl)(hiz:i≠z:=by decide)(hQ: ∀c a w,Q (.panic c) (a.put oi.dst v) w→Q (.panic c) a w:=by exact fun _ _ _ h=>h)(hw:Region.wanted oi (yielded ops a.tmps)=true:=by kernel_rfl)(hx: ∀w,S w→(execOp a.eval oi).run P w= .ok (.value v) w)(hS:S w)(h:eB P md ops Q S z fuel (listed.setIfInBounds i true) (a.put oi.dst v) w) :eB P md ops Q S z (fuel+1) listed a w:=LB hi (Region.noSelect_spec hs) hQ hp hiz fuel listed a w (Region.free_spec hi hf) (by simpa using hr) (fun j hj=>by have:=List.all_eq_true.1 hl j hj;simpa using this) (Or.inl ⟨hw,hx⟩) hS h
end
section
variable {md:Region.Mode} {ops:Array Oper} {Q:Exit→Act→World→Prop} {S:World→Prop} {z:Nat}
theorem ekP(i:Nat) {fuel:Nat} {listed:Array Bool} {a:Act} {w:World} {oi:Oper} {v:Value}(hi:ops[i]?=some oi:=by rfl)(hs:Region.noSelect ops=true:=by kernel_rfl)(hf:Region.free md ops listed i=true:=by kernel_rfl)(hr:(Region.ready md ops listed).contains i=true:=by kernel_rfl)(hiz:i≠z:=by decide)(hQ: ∀c a w,Q (.panic c) (a.put oi.dst v) w→Q (.panic c) a w:=by exact fun _ _ _ h=>h)(hw:Region.wanted oi (yielded ops a.tmps)=true:=by kernel_rfl)(hx: ∀w,(execOp a.eval oi).run Tryz.prog w= .ok (.value v) w:=by(intro w;go_simp<;>with_reducible rfl))(hS:S w)(h:eB Tryz.prog md ops Q S z fuel (listed.setIfInBounds i true) (a.put oi.dst v) w) :eB Tryz.prog md ops Q S z (fuel+1) listed a w:=JA hi (Region.noSelect_spec hs) hQ hiz fuel listed a w (Region.free_spec hi hf) (by simpa using hr) (Or.inl ⟨hw,fun w _=>hx w⟩) (Or.inr hS) h
end
section
variable {ops:Array Oper} {Q:Exit→Act→World→Prop} {S:World→Prop} {md:Region.Mode} {fuel z:Nat} {listed:Array Bool} {a:Act} {w:World}
theorem te {a':Act} {fuel:Nat}(h:eB Tryz.prog md ops Q S z fuel listed a' w)(ha:a=a':=by(first| (simp only[Act.put,List.getElem_toArray,List.getElem_cons_succ,List.getElem_cons_zero,List.setIfInBounds_toArray,List.set_cons_zero,List.set_cons_succ];rfl)|rfl)) :eB Tryz.prog md ops Q S z fuel listed a w:=ha▸h
theorem ep(i:Nat) {oi:Oper} {v:Value} {a':Act}(hS:S w)(h:eB Tryz.prog md ops Q S z fuel (listed.setIfInBounds i true) a' w)(hi:ops[i]?=some oi:=by rfl)(hs:Region.noSelect ops=true:=by kernel_rfl)(hf:Region.free md ops listed i=true:=by kernel_rfl)(hr:(Region.ready md ops listed).contains i=true:=by kernel_rfl)(hiz:i≠z:=by decide)(hx: ∀w,(execOp a.eval oi).run Tryz.prog w= .ok (.value v) w:=by(intro w;go_simp<;>with_reducible rfl))(hQ: ∀c a w,Q (.panic c) (a.put oi.dst v) w→Q (.panic c) a w:=by exact fun _ _ _ h=>h)(hw:Region.wanted oi (yielded ops a.tmps)=true:=by kernel_rfl)(ha:a.put oi.dst v=a':=by(first| (simp only[Act.put,List.getElem_toArray,List.getElem_cons_succ,List.getElem_cons_zero,List.setIfInBounds_toArray,List.set_cons_zero,List.set_cons_succ];rfl)|rfl)) :eB Tryz.prog md ops Q S z (fuel+1) listed a w:=ekP i hi hs hf hr hiz hQ hw hx hS (ha▸h)
theorem el(i:Nat)(l:List Nat) {oi:Oper} {v:Value} {a':Act}(hS:S w)(hx: ∀w,S w→(execOp a.eval oi).run Tryz.prog w= .ok (.value v) w)(h:eB Tryz.prog md ops Q S z fuel (listed.setIfInBounds i true) a' w)(hi:ops[i]?=some oi:=by rfl)(hs:Region.noSelect ops=true:=by kernel_rfl)(hf:Region.free md ops listed i=true:=by kernel_rfl)(hr:(Region.ready md ops listed).contains i=true:=by kernel_rfl)(hp:CF md ops z i l=true:=by kernel_rfl)(hl:(l.all fun j=> !listed.getD j true)=true:=by kernel_rfl)(hiz:i≠z:=by decide)(hQ: ∀c a w,Q (.panic c) (a.put oi.dst v) w→Q (.panic c) a w:=by exact fun _ _ _ h=>h)(hw:Region.wanted oi (yielded ops a.tmps)=true:=by kernel_rfl)(ha:a.put oi.dst v=a':=by(first| (simp only[Act.put,List.getElem_toArray,List.getElem_cons_succ,List.getElem_cons_zero,List.setIfInBounds_toArray,List.set_cons_zero,List.set_cons_succ];rfl)|rfl)) :eB Tryz.prog md ops Q S z (fuel+1) listed a w:=ekL i l hi hs hf hr hp hl hiz hQ hw hx hS (ha▸h)
theorem e1(i:Nat) {oi:Oper} {v:Value} {a':Act} {w':World}(ho:(execOp a.eval oi).run Tryz.prog w= .ok (.value v) w')(hS:S w')(h:eB Tryz.prog md ops Q S z fuel (listed.setIfInBounds i true) a' w')(hi:ops[i]?=some oi:=by rfl)(hr:Region.ready md ops listed= [i] :=by kernel_rfl)(hw:Region.wanted oi (yielded ops a.tmps)=true:=by kernel_rfl)(ha:a.put oi.dst v=a':=by(first| (simp only[Act.put,List.getElem_toArray,List.getElem_cons_succ,List.getElem_cons_zero,List.setIfInBounds_toArray,List.set_cons_zero,List.set_cons_succ];rfl)|rfl)) :eB Tryz.prog md ops Q S z (fuel+1) listed a w:=aP i hr (by unfold wpOp;simp only[hi,hw,if_true,Oper.wp,ho,Oper.upon];exact .inl ⟨.inr hS,ha▸h⟩)
theorem Yn(i:Nat) {oi:Oper} {a':Act} {w':World}(ho:(execOp a.eval oi).run Tryz.prog w= .ok .skip w')(h:eB Tryz.prog md ops Q S z fuel (listed.setIfInBounds i true) a' w')(hi:ops[i]?=some oi:=by rfl)(hr:Region.ready md ops listed= [i] :=by kernel_rfl)(hw:Region.wanted oi (yielded ops a.tmps)=true:=by kernel_rfl)(hz:(listed.setIfInBounds i true).getD z false=true:=by kernel_rfl)(ha:a.put oi.dst undef=a':=by(first| (simp only[Act.put,List.getElem_toArray,List.getElem_cons_succ,List.getElem_cons_zero,List.setIfInBounds_toArray,List.set_cons_zero,List.set_cons_succ];rfl)|rfl)) :eB Tryz.prog md ops Q S z (fuel+1) listed a w:=aP i hr (by unfold wpOp;simp only[hi,hw,if_true,Oper.wp,ho,Oper.upon];exact .inl ⟨.inl hz,ha▸h⟩)
end
end Go.Proofs.YtcjiphknpagenaaGreatDoor
