import Derived.Test.YtcjiphknpagenaaGreatDoorDocsJ01
import Derived.Sort.Walk7a
import Derived.Laws.AppendOwnNone
import Derived.Deep.AppendLies
namespace Go.Proofs.YtcjiphknpagenaaGreatDoor
open Go Go.RowKit
set_option linter.unusedVariables false
set_option linter.unusedSimpArgs false
set_option maxRecDepth 100000
set_option maxHeartbeats 16000000
def Off(a:Option Addr)(X:Nat→Prop) :Prop:=∀blk off,a=some ⟨blk,off,none⟩→¬X blk
theorem Off.imp {a:Option Addr} {X Y:Nat→Prop}(h:Off a X)(i: ∀x,Y x→X x) :Off a Y:=fun blk off e hy=>h blk off e (i blk hy)
theorem Off.none {X:Nat→Prop} :Off none X:=fun blk off e=>by cases e
structure BA(w W:World)(b:Nat)(ao:Option Addr)(n cap:Nat)(A:Int)(BX R:Nat)(fo st ph:Bool)(aS aY:Option Addr)(cS cY:Nat)(stops:List (List UInt8))(af:List (List UInt8×List UInt8))(lo hi:Int) :Prop where
 src:Sx b ao n cap W A
 but:But (fun x=>x=b) w W
 res: ∃cs,W.heap[R]?=some (.cells cs 73)∧cs.size=7
 box:W.heap[BX]?=some (.cells #[.bool fo,.bool st,.bool ph,.slice aS stops.length cS,.slice aY af.length cY,.int .i64 lo,.int .i64 hi] 73)
 nu:bE W aS stops
 syn:dB W aY af
 so:Off aS (fun x=>x≤b∨x=BX∨x=R)
 yo:Off aY (fun x=>x≤b∨x=BX∨x=R)
 bl:b<w.heap.size
 xl:w.heap.size≤BX
 rl:w.heap.size≤R
 ne:BX≠R
 cb: ∀j,j<n→∃blk off,ao=some ⟨blk,off,none⟩∧blk<w.heap.size
theorem jM {W W':World} {a:Option Addr} {l:List (List UInt8×List UInt8)}(h:dB W a l)(hz:W.heap.size≤W'.heap.size)(hx: ∀blk off,a=some ⟨blk,off,none⟩→blk<W.heap.size→W'.heap[blk]?=W.heap[blk]?) :dB W' a l:=by
 rcases h with h| ⟨g,off,h1,h2,h3⟩;·exact Or.inl h
 ·refine Or.inr ⟨g,off,h1,Nat.lt_of_lt_of_le h2 hz,fun t ht=> ?_⟩;have:=h3 t ht;simp only[World.cell?]at this⊢;rw[hx g off h1 h2];exact this
theorem qy {W W':World} {a:Option Addr} {l:List (List UInt8)}(h:bE W a l)(hz:W.heap.size≤W'.heap.size)(hx: ∀blk off,a=some ⟨blk,off,none⟩→blk<W.heap.size→W'.heap[blk]?=W.heap[blk]?) :bE W' a l:=by
 rcases h with h| ⟨g,off,h1,h2,h3⟩;·exact Or.inl h
 ·refine Or.inr ⟨g,off,h1,Nat.lt_of_lt_of_le h2 hz,fun t ht=> ?_⟩;have:=h3 t ht;simp only[World.cell?]at this⊢;rw[hx g off h1 h2];exact this
theorem addr_add(g off j:Nat) :(⟨g,off,none⟩ :Addr).add j=⟨g,off+j,none⟩ :=by by_cases h:j=0<;>simp[Addr.add,h]
theorem O1 {W:World} {ad:Addr} {l:List (List UInt8)}(h:bE W (some ad) l) : ∀j u,(bR l)[j]?=some u→W.cell? (ad.add j)=some u:=by
 intro j u e;rcases h with rfl| ⟨g,off,h1,h2,h3⟩;·simp[bR]at e
 ·cases h1;have hj:j<l.length:=by have:=(List.getElem?_eq_some_iff.1 e).1;rwa [FL]at this
  rw[G6 l j hj]at e;rw[←e];rw[addr_add];exact h3 j hj
theorem QT {W:World} {ad:Addr} {l:List (List UInt8×List UInt8)}(h:dB W (some ad) l) : ∀j u,(gB l)[j]?=some u→W.cell? (ad.add j)=some u:=by
 intro j u e;rcases h with rfl| ⟨g,off,h1,h2,h3⟩;·simp[gB]at e
 ·cases h1;have hj:j<l.length*2:=by have:=(List.getElem?_eq_some_iff.1 e).1;rwa [uO]at this
  have q:=h3 (j/2) (by omega);have q2:=wV l (j/2) (by omega);rcases Nat.mod_two_eq_zero_or_one j with hm|hm
  ·have ej:j=j/2*2:=by omega
   have e1:=q2.1;rw[←ej]at e1;rw[e1]at e;rw[←e];have:=q.1;rw[←ej]at this;rw[addr_add];exact this
  ·have ej:j=j/2*2+1:=by omega
   have e1:=q2.2;rw[←ej]at e1;rw[e1]at e;rw[←e];have:=q.2;rw[Nat.add_assoc,←ej]at this;rw[addr_add];exact this
theorem set_set(W:World)(g k:Nat)(u v:Value) :(W.setCell ⟨g,k,none⟩ u).setCell ⟨g,k,none⟩ v=W.setCell ⟨g,k,none⟩ v:=setCell_setCell W g k u v
theorem PS(l:List (List UInt8)) : ∀u∈bR l,u.oneCell'=true:=by intro u hu;rw[bR,List.mem_map]at hu;obtain⟨t,_,rfl⟩ :=hu;rfl
theorem O3(l:List (List UInt8×List UInt8)) : ∀u∈gB l,u.oneCell'=true:=by intro u hu;rw[gB,List.mem_flatMap]at hu;obtain⟨t,_,hu⟩ :=hu;simp at hu;rcases hu with rfl|rfl<;>rfl
theorem jY {W W':World} {base e sz m:Nat} {v:Value} {xs:List Value}(h:W.ownsRow base e sz v m xs)(hx: ∀g,v.ownBlock=some g→g<W.heap.size→W'.heap[g]?=W.heap[g]?) :W'.ownsRow base e sz v m xs:=by
 refine⟨h.1,?_⟩;rcases h.2 with h'| ⟨g,c,cur,rfl,h2,h3,h4⟩;·exact Or.inl h'
 ·exact Or.inr ⟨g,c,cur,rfl,h2,(hx g rfl (Array.getElem?_eq_some_iff.1 h3).1).trans h3,h4⟩
theorem kH {W:World} {base e sz m:Nat} {v:Value} {xs:List Value}(h:W.ownsRow base e sz v m xs) : ∀g,v.ownBlock=some g→base≤g∧g<W.heap.size:=by
 intro g e;rcases h.2 with⟨rfl,_⟩| ⟨g',c,cur,rfl,h2,h3,h4⟩;·cases e
 ·cases e;exact⟨h2,(Array.getElem?_eq_some_iff.1 h3).1⟩
theorem aa6 {W:World} {base e sz m c:Nat} {a:Option Addr} {xs:List Value}(h:W.ownsRow base e sz (.slice a m c) m xs) :Off a (fun x=>x<base) :=by
 intro blk off q hx;rcases h.2 with⟨e1,_⟩| ⟨g,c',cur,e1,e2,_⟩;·injection e1 with q1;rw[q1]at q;cases q
 ·injection e1 with q1;rw[q1]at q;cases q;omega
theorem aaQ {W:World} {base e sz m c:Nat} {a:Option Addr} {xs:List Value}(h:W.ownsRow base e sz (.slice a m c) m xs) :a=none→c=0:=by
 intro q;rcases h.2 with⟨e1,_⟩| ⟨g,c',cur,e1,e2,_⟩;·injection e1
 ·injection e1 with q1;rw[q]at q1;cases q1
theorem Pv(w:World)(e:TypeId) :(w.alloc (.cells #[] e)).ownsRow w.heap.size e 2 (.slice (some ⟨w.heap.size,0,none⟩) 0 0) 0 [] :=by have:=World.ownsRow_lit (base:=w.heap.size) (e:=e) (size:=2) w #[] 0 (Nat.le_refl _) (by unfold maxLen;omega) (by simp);simpa using this
theorem uD {P:Program}(w:World) {ops:Array Oper} {rest:List Oper} {o:Oper} {a:Act} {Q:Exit→Act→World→Prop}(hgd:o.guard=none)(s x:Operand)(t:TypeId)(ho:o.op= .call {callee:= .builtin .append,args:=#[s,x],argTypes:=#[t,t]})(base:Nat)(e:TypeId)(i:TypeInfo)(z:Value)(size bytes:Nat)(ht:P.underlying t=some (.slice e))(hi:P.info? e=some i)(hz:i.zero=some z)(hsize:i.size=size)(hby:i.bytes=bytes)(hzs:z.cells.size=size)(hsz:0<size)(v:Value)(n:Nat)(xs:List Value)(hs:a.eval s=v)(hown:w.ownsRow base e size v n xs)(al:Option Addr)(m c:Nat)(news:List Value)(hx:a.eval x= .slice al m c)(hsrc:(al=none∧m=0∧c=0∧news= [])∨∃ad,al=some ad∧news.length=m*size∧(∀j u,news[j]?=some u→w.cell? (ad.add j)=some u)∧∀u∈news,u.oneCell'=true)(h63:n+m≤maxLen)(hbytes:(n+m)*bytes≤140737488355328)(hbase:base≤w.heap.size)(h: ∀v' w',w'.ownsRow base e size v' (n+m) (xs++news)→w.grownBy w' v.ownBlock→wpList P ops Q rest (a.put o.dst v') w') :wpList P ops Q (o::rest) a w:=by
 rcases hsrc with⟨rfl,rfl,rfl,rfl⟩| ⟨ad,rfl,h1,h2,h3⟩;·exact wpList_append_own_none hgd s x t ho base e i size ht hi v n xs hs hown hx (h v w (by simpa using hown) ⟨rfl,rfl,rfl,Nat.le_refl _,fun _ _ _=>rfl⟩)
 ·exact wpList_append_own w hgd s x t ho base e i z size bytes ht hi hz hsize hby hzs hsz v n xs hs hown ad m c news hx h1 h2 h3 h63 hbytes hbase (fun v' w' q1 q2 _=>h v' w' q1 q2)
theorem RL {W:World} {a:Option Addr} {c:Nat} {l:List (List UInt8)}(h:bE W a l)(hc:a=none→c=0) :(a=none∧l.length=0∧c=0∧bR l= [])∨∃ad,a=some ad∧(bR l).length=l.length*1∧(∀j u,(bR l)[j]?=some u→W.cell? (ad.add j)=some u)∧∀u∈bR l,u.oneCell'=true:=by
 cases a with
 |none=>
  have e:l= [] :=by
   rcases h with h| ⟨_,_,h,_⟩;·exact h
   ·cases h
  subst e;exact Or.inl ⟨rfl,rfl,hc rfl,rfl⟩
 |some ad=>exact Or.inr ⟨ad,rfl,by rw[FL,Nat.mul_one],O1 h,PS l⟩
theorem SL {W:World} {a:Option Addr} {c:Nat} {l:List (List UInt8×List UInt8)}(h:dB W a l)(hc:a=none→c=0) :(a=none∧l.length=0∧c=0∧gB l= [])∨∃ad,a=some ad∧(gB l).length=l.length*2∧(∀j u,(gB l)[j]?=some u→W.cell? (ad.add j)=some u)∧∀u∈gB l,u.oneCell'=true:=by
 cases a with
 |none=>
  have e:l= [] :=by
   rcases h with h| ⟨_,_,h,_⟩;·exact h
   ·cases h
  subst e;exact Or.inl ⟨rfl,rfl,hc rfl,rfl⟩
 |some ad=>exact Or.inr ⟨ad,rfl,uO l,QT h,O3 l⟩
theorem Yr(r:ByteArray) :bs r.data.toList=r:=by rcases r with⟨d⟩;show(⟨d.toList.toArray⟩ :ByteArray)=⟨d⟩;simp
theorem ac4 {W:World} {T:Nat} {r:ByteArray}(h:W.heap[T]?=some (.cells #[.string ⟨#[]⟩,.string ⟨#[255]⟩,.string r] 9))(hr:r.size≤1048576)(Y:Nat)(hY:Y<3) : ∃y:List UInt8,W.cell? ⟨T,Y,none⟩=some (.string (bs y))∧y.length≤1048576:=by
 match Y,hY with
 |0,_=>exact⟨[],ah h 0,by decide⟩
 |1,_=>exact⟨[255],ah h 1,by decide⟩
 |2,_=>exact⟨r.data.toList,(ah h 2).trans (by rw[Yr];rfl),by rw[←Lib.size_eq];exact hr⟩
theorem adf {W:World} {T:Nat} {r:ByteArray}(h:W.heap[T]?=some (.cells #[.string ⟨#[120]⟩,.string ⟨#[120]⟩,.string ⟨#[]⟩,.string ⟨#[120]⟩,.string ⟨#[120]⟩,.string ⟨#[195]⟩,.string ⟨#[120]⟩,.string r] 114))(hr:r.size≤1048576)(Y:Nat)(hY:Y<4) : ∃y:List UInt8×List UInt8,W.cell? ⟨T,Y*2,none⟩=some (.string (bs y.1))∧W.cell? ⟨T,Y*2+1,none⟩=some (.string (bs y.2))∧y.1.length≤1048576∧y.2.length≤1048576:=by
 match Y,hY with
 |0,_=>exact⟨([120],[120]),ah h 0,ah h 1,by decide,by decide⟩
 |1,_=>exact⟨([],[120]),ah h 2,ah h 3,by decide,by decide⟩
 |2,_=>exact⟨([120],[195]),ah h 4,ah h 5,by decide,by decide⟩
 |3,_=>exact⟨([120],r.data.toList),ah h 6,(ah h 7).trans (by rw[Yr];rfl),by simp,by rw[←Lib.size_eq];exact hr⟩
section
variable {w W W':World} {b:Nat} {ao:Option Addr} {n cap:Nat} {A:Int} {BX R:Nat} {fo st ph:Bool} {aS aY:Option Addr} {cS cY:Nat} {stops:List (List UInt8)} {af:List (List UInt8×List UInt8)} {lo hi:Int}
theorem BA.size(h:BA w W b ao n cap A BX R fo st ph aS aY cS cY stops af lo hi) :BX<W.heap.size∧R<W.heap.size:=by obtain⟨cs,hr1,hr2⟩ :=h.res;exact⟨(Array.getElem?_eq_some_iff.1 h.box).1,(Array.getElem?_eq_some_iff.1 hr1).1⟩
theorem BA.draw(h:BA w W b ao n cap A BX R fo st ph aS aY cS cY stops af lo hi) {A':Int}(hs:Sx b ao n cap W' A')(hb:But (fun x=>x=b) W W') :BA w W' b ao n cap A' BX R fo st ph aS aY cS cY stops af lo hi:=by have h1:=h.bl;have h2:=h.xl;have h3:=h.rl;have h4:=h.size;obtain⟨cs,hr1,hr2⟩ :=h.res;exact⟨hs,h.but.trans hb (fun _ _ h=>h) (fun _ _ h=>h),⟨cs,(hb.block R h4.2 (by omega)).trans hr1,hr2⟩,(hb.block BX h4.1 (by omega)).trans h.box,qy h.nu hb.size (fun blk off e hl=>hb.block blk hl (fun q=>h.so blk off e (Or.inl (Nat.le_of_eq q)))),jM h.syn hb.size (fun blk off e hl=>hb.block blk hl (fun q=>h.yo blk off e (Or.inl (Nat.le_of_eq q)))),h.so,h.yo,h1,h2,h3,h.ne,h.cb⟩
theorem BA.alloc(h:BA w W b ao n cap A BX R fo st ph aS aY cS cY stops af lo hi)(o:Obj) :BA w (W.alloc o) b ao n cap A BX R fo st ph aS aY cS cY stops af lo hi:=h.draw (h.src.alloc o) ((But.refl _ _).alloc o)
theorem BA.mono(h:BA w W b ao n cap A BX R fo st ph aS aY cS cY stops af lo hi) {A':Int}(hA:A≤A') :BA w W b ao n cap A' BX R fo st ph aS aY cS cY stops af lo hi:=h.draw (h.src.mono hA) (But.refl _ _)
theorem BA.put(h:BA w W b ao n cap A BX R fo st ph aS aY cS cY stops af lo hi)(k:Nat)(u:Value) {xu Yi:Option Addr} {zL cY':Nat} {stops':List (List UInt8)} {PK:List (List UInt8×List UInt8)} {lo' hi':Int}
    (he:(#[.bool fo,.bool st,.bool ph,.slice aS stops.length cS,.slice aY af.length cY,.int .i64 lo,.int .i64 hi] :Array Value).setIfInBounds k u= #[.bool fo,.bool st,.bool ph,.slice xu stops'.length zL,.slice Yi PK.length cY',.int .i64 lo',.int .i64 hi'])
    (h1:bE W xu stops')(h2:dB W Yi PK)(h3:Off xu (fun x=>x≤b∨x=BX∨x=R))(h4:Off Yi (fun x=>x≤b∨x=BX∨x=R)) :
    BA w (W.setCell ⟨BX,k,none⟩ u) b ao n cap A BX R fo st ph xu Yi zL cY' stops' PK lo' hi':=by
  have q1:=h.bl
  have q2:=h.xl
  have q3:=h.rl
  have q4:=h.ne
  have hg: ∀g,g≠BX→(W.setCell ⟨BX,k,none⟩ u).heap[g]?=W.heap[g]?:=fun g hne=>au W BX k u g hne
  obtain⟨cs,hr1,hr2⟩ :=h.res
  refine⟨h.src.set BX k u (by omega) (fun j hj=> ?_),⟨h.but.os,h.but.tape,h.but.output,by have:=h.but.size;simpa using this,fun i hi hn=>(hg i (by omega)).trans (h.but.block i hi hn)⟩,⟨cs,(hg R (by omega)).trans hr1,hr2⟩,by rw[aV h.box k u,he],qy h1 (by simp) (fun blk off e _=>hg blk (fun q=>h3 blk off e (Or.inr (Or.inl q)))),jM h2 (by simp) (fun blk off e _=>hg blk (fun q=>h4 blk off e (Or.inr (Or.inl q)))),h3,h4,q1,q2,q3,q4,h.cb⟩
  obtain⟨blk,off,z1,z2⟩ :=h.cb j hj
  exact⟨blk,off,z1,by omega⟩
theorem BA.Qk(h:BA w W b ao n cap A BX R fo st ph aS aY cS cY stops af lo hi)(z:Int) :BA w (W.setCell ⟨BX,5,none⟩ (.int .i64 z)) b ao n cap A BX R fo st ph aS aY cS cY stops af z hi:=h.put 5 _ rfl h.nu h.syn h.so h.yo
theorem BA.Ql(h:BA w W b ao n cap A BX R fo st ph aS aY cS cY stops af lo hi)(z:Int) :BA w (W.setCell ⟨BX,6,none⟩ (.int .i64 z)) b ao n cap A BX R fo st ph aS aY cS cY stops af lo z:=h.put 6 _ rfl h.nu h.syn h.so h.yo
theorem BA.JM(h:BA w W b ao n cap A BX R fo st ph aS aY cS cY stops af lo hi) {a':Option Addr} {c':Nat} {l':List (List UInt8)}(h1:bE W a' l')(h3:Off a' (fun x=>x≤b∨x=BX∨x=R)) :BA w (W.setCell ⟨BX,3,none⟩ (.slice a' l'.length c')) b ao n cap A BX R fo st ph a' aY c' cY l' af lo hi:=h.put 3 _ rfl h1 h.syn h3 h.yo
theorem BA.P5(h:BA w W b ao n cap A BX R fo st ph aS aY cS cY stops af lo hi) {a':Option Addr} {c':Nat} {l':List (List UInt8×List UInt8)}(h1:dB W a' l')(h3:Off a' (fun x=>x≤b∨x=BX∨x=R)) :BA w (W.setCell ⟨BX,4,none⟩ (.slice a' l'.length c')) b ao n cap A BX R fo st ph aS a' cS c' stops l' lo hi:=h.put 4 _ rfl h.nu h1 h.so h3
theorem BA.dM(h:BA w W b ao n cap A BX R fo st ph aS aY cS cY stops af lo hi)(k:Nat)(u:Value) :BA w (W.setCell ⟨R,k,none⟩ u) b ao n cap A BX R fo st ph aS aY cS cY stops af lo hi:=by have q1:=h.bl;have q2:=h.xl;have q3:=h.rl;have q4:=h.ne;have hg: ∀g,g≠R→(W.setCell ⟨R,k,none⟩ u).heap[g]?=W.heap[g]?:=fun g hne=>au W R k u g hne;obtain⟨cs,hr1,hr2⟩ :=h.res;refine⟨h.src.set R k u (by omega) (fun j hj=> ?_),⟨h.but.os,h.but.tape,h.but.output,by have:=h.but.size;simpa using this,fun i hi hn=>(hg i (by omega)).trans (h.but.block i hi hn)⟩,⟨_,aV hr1 k u,by rw[Array.size_setIfInBounds];exact hr2⟩,(hg BX (by omega)).trans h.box,qy h.nu (by simp) (fun blk off e _=>hg blk (fun q=>h.so blk off e (Or.inr (Or.inr q)))),jM h.syn (by simp) (fun blk off e _=>hg blk (fun q=>h.yo blk off e (Or.inr (Or.inr q)))),h.so,h.yo,q1,q2,q3,q4,h.cb⟩;obtain⟨blk,off,z1,z2⟩ :=h.cb j hj;exact⟨blk,off,z1,by omega⟩
theorem BA.grow(h:BA w W b ao n cap A BX R fo st ph aS aY cS cY stops af lo hi) {ob:Option Nat} {N:Nat}(hg:W.grownBy W' ob)(tL: ∀g,ob=some g→N≤g)(hN:BX<N∧R<N)(hS:Off aS (fun x=>N≤x))(hY:Off aY (fun x=>N≤x)) :BA w W' b ao n cap A BX R fo st ph aS aY cS cY stops af lo hi:=by
  have q1:=h.bl
  have q2:=h.xl
  have q3:=h.rl
  have q4:=h.size
  have hk: ∀g,g<N→g<W.heap.size→W'.heap[g]?=W.heap[g]?:=fun g h1 h2=>hg.block g h2 (fun e=>by have:=tL g e.symm;omega)
  obtain⟨cs,hr1,hr2⟩ :=h.res
  refine⟨?_,⟨hg.os.trans h.but.os,hg.tape.trans h.but.tape,hg.output.trans h.but.output,Nat.le_trans h.but.size hg.size,fun i hi hn=>(hk i (by omega) (by have:=h.but.size;omega)).trans (h.but.block i hi hn)⟩,⟨cs,(hk R hN.2 q4.2).trans hr1,hr2⟩,(hk BX hN.1 q4.1).trans h.box,qy h.nu hg.size (fun blk off e hl=>hk blk (by have:=hS blk off e;omega) hl),jM h.syn hg.size (fun blk off e hl=>hk blk (by have:=hY blk off e;omega) hl),h.so,h.yo,q1,q2,q3,h.ne,h.cb⟩
  obtain⟨a,sd,h1,h2,h3,h4,h5,h6⟩ :=h.src
  refine⟨a,sd,h1,h2,h3,h4,(hk b (by omega) h5.lt).trans h5,fun j hj=> ?_⟩
  obtain⟨blk,off,z,r1,r2,r3,r4,r5⟩ :=h6 j hj
  obtain⟨BU,off',e1,e2⟩ :=h.cb j hj
  rw[r1]at e1
  cases e1
  refine⟨blk,off,z,r1,r2,r3,r4,?_⟩
  have hl:=cell_lt r5
  simp only[World.cell?]at r5⊢
  rw[hk blk (by omega) hl]
  exact r5
theorem BA.Z4(h:BA w W b ao n cap A BX R fo st ph aS aY cS cY stops af lo hi) {ob:Option Nat} {N:Nat}(hg:W.grownBy W' ob)(tL: ∀g,ob=some g→N≤g)(hN:BX<N∧R<N)(hY:Off aY (fun x=>N≤x)) {a':Option Addr} {c':Nat} {l':List (List UInt8)}(hH:bE W' a' l')(ha:Off a' (fun x=>x<N)) :BA w (W'.setCell ⟨BX,3,none⟩ (.slice a' l'.length c')) b ao n cap A BX R fo st ph a' aY c' cY l' af lo hi:=by
 have q1:=h.bl;have q2:=h.xl;have h0:BA w (W.setCell ⟨BX,3,none⟩ (.slice none 0 0)) b ao n cap A BX R fo st ph none aY 0 cY [] af lo hi:=h.JM (l':=[]) (Or.inl rfl) Off.none;have hg2:(W.setCell ⟨BX,3,none⟩ (.slice none 0 0)).grownBy (W'.setCell ⟨BX,3,none⟩ (.slice none 0 0)) ob:=by
  refine⟨hg.os,hg.tape,hg.output,by have:=hg.size;simpa using this,fun i hi hn=> ?_⟩;have hi2:i<W.heap.size:=by simpa using hi
  by_cases e:i=BX;·subst e;have hbx:W'.heap[i]?=_:=(hg.block i hi2 hn).trans h.box;rw[aV hbx 3 _,aV h.box 3 _]
  ·rw[au _ _ _ _ _ e,au _ _ _ _ _ e];exact hg.block i hi2 hn
 have h1:=h0.grow hg2 tL hN Off.none hY;have hz: ∀g,g≠BX→(W'.setCell ⟨BX,3,none⟩ (.slice none 0 0)).heap[g]?=W'.heap[g]?:=fun g e=>au _ _ _ _ _ e;have h2:=h1.JM (a':=a') (c':=c') (l':=l') (qy hH (by simp) (fun blk off e _=>hz blk (fun q=>ha blk off e (by omega)))) (ha.imp (fun x hx=>by have:=hN;rcases hx with hx|hx|hx<;>omega));have e:(W'.setCell ⟨BX,3,none⟩ (.slice none 0 0)).setCell ⟨BX,3,none⟩ (.slice a' l'.length c')=W'.setCell ⟨BX,3,none⟩ (.slice a' l'.length c') :=set_set _ _ _ _ _;rw[e]at h2;exact h2
theorem BA.age(h:BA w W b ao n cap A BX R fo st ph aS aY cS cY stops af lo hi) {ob:Option Nat} {N:Nat}(hg:W.grownBy W' ob)(tL: ∀g,ob=some g→N≤g)(hN:BX<N∧R<N)(hY:Off aS (fun x=>N≤x)) {a':Option Addr} {c':Nat} {l':List (List UInt8×List UInt8)}(hH:dB W' a' l')(ha:Off a' (fun x=>x<N)) :BA w (W'.setCell ⟨BX,4,none⟩ (.slice a' l'.length c')) b ao n cap A BX R fo st ph aS a' cS c' stops l' lo hi:=by
 have q1:=h.bl;have q2:=h.xl;have h0:BA w (W.setCell ⟨BX,4,none⟩ (.slice none 0 0)) b ao n cap A BX R fo st ph aS none cS 0 stops [] lo hi:=h.P5 (l':=[]) (Or.inl rfl) Off.none;have hg2:(W.setCell ⟨BX,4,none⟩ (.slice none 0 0)).grownBy (W'.setCell ⟨BX,4,none⟩ (.slice none 0 0)) ob:=by
  refine⟨hg.os,hg.tape,hg.output,by have:=hg.size;simpa using this,fun i hi hn=> ?_⟩;have hi2:i<W.heap.size:=by simpa using hi
  by_cases e:i=BX;·subst e;have hbx:W'.heap[i]?=_:=(hg.block i hi2 hn).trans h.box;rw[aV hbx 4 _,aV h.box 4 _]
  ·rw[au _ _ _ _ _ e,au _ _ _ _ _ e];exact hg.block i hi2 hn
 have h1:=h0.grow hg2 tL hN hY Off.none;have hz: ∀g,g≠BX→(W'.setCell ⟨BX,4,none⟩ (.slice none 0 0)).heap[g]?=W'.heap[g]?:=fun g e=>au _ _ _ _ _ e;have h2:=h1.P5 (a':=a') (c':=c') (l':=l') (jM hH (by simp) (fun blk off e _=>hz blk (fun q=>ha blk off e (by omega)))) (ha.imp (fun x hx=>by have:=hN;rcases hx with hx|hx|hx<;>omega));have e:(W'.setCell ⟨BX,4,none⟩ (.slice none 0 0)).setCell ⟨BX,4,none⟩ (.slice a' l'.length c')=W'.setCell ⟨BX,4,none⟩ (.slice a' l'.length c') :=set_set _ _ _ _ _;rw[e]at h2;exact h2
end
def mY(stops:List (List UInt8))(af:List (List UInt8×List UInt8))(lo hi:Int) :Prop:=stops.length≤200∧af.length≤200∧(∀t∈stops,t.length≤1048576)∧(∀y∈af,y.1.length≤1048576∧y.2.length≤1048576)∧ -100≤lo∧lo≤100∧ -100≤hi∧hi≤100
def ac0(aS0 aY0:Option Addr)(w:World)(b:Nat)(ao:Option Addr)(n cap:Nat)(A:Int)(e:Ending)(w':World) :Prop:=∃(fo st ph:Bool)(aS aY:Option Addr)(cS cY:Nat)(stops:List (List UInt8))(af:List (List UInt8×List UInt8))(lo hi:Int),e= .returned (.agg #[.bool fo,.bool st,.bool ph,.slice aS stops.length cS,.slice aY af.length cY,.int .i64 lo,.int .i64 hi])∧Sx b ao n cap w' A∧But (fun x=>x=b) w w'∧bE w' aS stops∧dB w' aY af∧Off aS (fun x=>x≤b)∧Off aY (fun x=>x≤b)∧mY stops af lo hi∧(aS=aS0∨Off aS (fun x=>x<w.heap.size))∧(aY=aY0∨Off aY (fun x=>x<w.heap.size))∧(aS=none→cS=0)
theorem QF (b : Nat) (ao : Option Addr) (n cap : Nat) (A : Int) (w : World) (hn : n ≤ 1048576) (hA : A ≤ 1000000) (hs : Sx b ao n cap w A) (hcb : ∀ j, j < n → ∃ blk off, ao = some ⟨blk, off, none⟩ ∧ blk < w.heap.size)
    (fo st ph : Bool) (aS aY : Option Addr) (cS cY : Nat) (stops : List (List UInt8)) (af : List (List UInt8 × List UInt8)) (lo hi : Int) (hS : bE w aS stops) (hY : dB w aY af) (hSo : Off aS (fun x => x ≤ b ∨ w.heap.size ≤ x)) (hYo : Off aY (fun x => x ≤ b ∨ w.heap.size ≤ x)) (hsm : mY stops af lo hi) (hS9 : stops.length ≤ 100) (hY9 : af.length ≤ 100) (Vd : aS = none → cS = 0) (hcY : aY = none → cY = 0) :
    Calls Tryz.prog 41 #[.pointer (some ⟨b, 0, none⟩), .agg #[.bool fo, .bool st, .bool ph, .slice aS stops.length cS, .slice aY af.length cY, .int .i64 lo, .int .i64 hi]] w (ac0 aS aY w b ao n cap (A + 60)) := by
  obtain ⟨i0, hi0, hz0, hz1, hz2⟩ := info_parts Tryz.infoSyn
  obtain ⟨i1, hi1, hy0, hy1, hy2⟩ := info_parts Tryz.infoStr2
  have HB0 : Hid (BA w ((w.alloc (.cells #[.bool fo, .bool st, .bool ph, .slice aS stops.length cS, .slice aY af.length cY, .int .i64 lo, .int .i64 hi] 73)).alloc (.cells #[.bool false, .bool false, .bool false, .slice none 0 0, .slice none 0 0, .int .i64 0, .int .i64 0] 73)) b ao n cap A w.heap.size (w.heap.size + 1) fo st ph aS aY cS cY stops af lo hi) := by
    have hbx := gm w (.cells #[.bool fo, .bool st, .bool ph, .slice aS stops.length cS, .slice aY af.length cY, .int .i64 lo, .int .i64 hi] 73) (.cells #[.bool false, .bool false, .bool false, .slice none 0 0, .slice none 0 0, .int .i64 0, .int .i64 0] 73)
    have hbel : Below w.heap.size w ((w.alloc (.cells #[.bool fo, .bool st, .bool ph, .slice aS stops.length cS, .slice aY af.length cY, .int .i64 lo, .int .i64 hi] 73)).alloc (.cells #[.bool false, .bool false, .bool false, .slice none 0 0, .slice none 0 0, .int .i64 0, .int .i64 0] 73)) := ((Below.refl _ _).alloc (Nat.le_refl _) _).alloc (by simp) _
    have hb := hs.lt
    exact ⟨(hs.alloc _).alloc _, ((But.refl _ _).alloc _).alloc _, ⟨_, hbx.2, rfl⟩, hbx.1, hS.below hbel, hY.below hbel, hSo.imp (fun x h => by rcases h with h | h | h <;> omega), hYo.imp (fun x h => by rcases h with h | h | h <;> omega), hb, Nat.le_refl _, by omega, by omega, hcb⟩
  have qi := aa hsm
  have HSO : Hid (Off aS (fun x => w.heap.size + 2 ≤ x)) := hSo.imp (fun x h => Or.inr (by omega))
  have HYO : Hid (Off aY (fun x => w.heap.size + 2 ≤ x)) := hYo.imp (fun x h => Or.inr (by omega))
  clear hs hcb hS hY hSo hYo hsm
  go_enter Tryz.func41, Tryz.ntmps41
  go_upto_region 1 with fail
  generalize (w.alloc (.cells #[.bool fo, .bool st, .bool ph, .slice aS stops.length cS, .slice aY af.length cY, .int .i64 lo, .int .i64 hi] 73)).alloc (.cells #[.bool false, .bool false, .bool false, .slice none 0 0, .slice none 0 0, .int .i64 0, .int .i64 0] 73) = w1 at *
  generalize hBX : w.heap.size = BX at *
  have hN0 := HB0.out.size
  have vL : Hid (∀ N, BX + 2 ≤ N → Off aS (fun x => N ≤ x) ∧ Off aY (fun x => N ≤ x)) := fun N hN => ⟨HSO.out.imp (fun x h => by omega), HYO.out.imp (fun x h => by omega)⟩
  generalize hR : BX + 1 = R at *
  go_upto_region 2 with (go_at_call 38; refine (dx HB0.out.src hn (by omega) 16 (by omega) (by omega)).mono ?_; rintro e w2 ⟨X, rfl, hX, hs2, hb2⟩)
  have HB1 := aa (HB0.out.draw hs2 hb2)
  clear hs2 hb2 HB0
  by_cases h0 : X = 0
  · subst h0
    go_upto_region 16 with (go_at_call 38; refine (dx HB1.out.src hn (by omega) 11 (by omega) (by omega)).mono ?_; rintro e wA ⟨Z, rfl, hZ, hsA, ic⟩; have HB2 := aa (HB1.out.draw hsA ic); have c5 := ah HB2.out.box 5; have f5 := aC HB2.out.box 5; clear hsA ic)
    have HF := aa ((HB2.out.Qk ((Z : Int) - 1)))
    have HM : Hid (mY stops af ((Z : Int) - 1) hi) := ⟨qi.out.1, qi.out.2.1, qi.out.2.2.1, qi.out.2.2.2.1, by omega, by omega, qi.out.2.2.2.2.2.2⟩
    clear HB1 HB2 c5 f5
    generalize wA.setCell ⟨BX, 5, none⟩ (.int .i64 ((Z : Int) - 1)) = wq at *
    obtain ⟨cs, hr1, hr2⟩ := HF.out.res
    obtain ⟨r0, r1, r2, r3, r4, r5, r6, rfl⟩ := D6 hr2
    have c0 : wq.cell? ⟨BX, 0, none⟩ = some (.bool fo) := ah HF.out.box 0
    have d0 : wq.cell? ⟨R, 0, none⟩ = some r0 := ah hr1 0
    have e0 := aC hr1 0
    have c1 : wq.cell? ⟨BX, 1, none⟩ = some (.bool st) := ah HF.out.box 1
    have d1 : wq.cell? ⟨R, 1, none⟩ = some r1 := ah hr1 1
    have e1 := aC hr1 1
    have c2 : wq.cell? ⟨BX, 2, none⟩ = some (.bool ph) := ah HF.out.box 2
    have d2 : wq.cell? ⟨R, 2, none⟩ = some r2 := ah hr1 2
    have e2 := aC hr1 2
    have c3 : wq.cell? ⟨BX, 3, none⟩ = some (.slice (aS) (stops).length cS) := ah HF.out.box 3
    have d3 : wq.cell? ⟨R, 3, none⟩ = some r3 := ah hr1 3
    have e3 := aC hr1 3
    have c4 : wq.cell? ⟨BX, 4, none⟩ = some (.slice (aY) (af).length cY) := ah HF.out.box 4
    have d4 : wq.cell? ⟨R, 4, none⟩ = some r4 := ah hr1 4
    have e4 := aC hr1 4
    have c5 : wq.cell? ⟨BX, 5, none⟩ = some (.int .i64 ((Z : Int) - 1)) := ah HF.out.box 5
    have d5 : wq.cell? ⟨R, 5, none⟩ = some r5 := ah hr1 5
    have e5 := aC hr1 5
    have c6 : wq.cell? ⟨BX, 6, none⟩ = some (.int .i64 hi) := ah HF.out.box 6
    have d6 : wq.cell? ⟨R, 6, none⟩ = some r6 := ah hr1 6
    have e6 := aC hr1 6
    have hne := HF.out.ne
    clear hr1 hr2
    go_wp2_with fail
    refine bodyPost_ret (v := .agg #[.bool fo, .bool st, .bool ph, .slice (aS) (stops).length cS, .slice (aY) (af).length cY, .int .i64 (((Z : Int) - 1)), .int .i64 (hi)]) (by simp [results, Tryz.results41, go_sem, *]) rfl ?_
    have HR := aa (((((((HF.out.dM 0 (.bool fo)).dM 1 (.bool st)).dM 2 (.bool ph)).dM 3 (.slice (aS) (stops).length cS)).dM 4 (.slice (aY) (af).length cY)).dM 5 (.int .i64 (((Z : Int) - 1)))).dM 6 (.int .i64 (hi)))
    exact ⟨fo, st, ph, _, _, _, _, _, _, _, _, rfl, HR.out.src.mono (by omega), HR.out.but, HR.out.nu, HR.out.syn, HR.out.so.imp (fun x h => Or.inl h), HR.out.yo.imp (fun x h => Or.inl h), HM.out, Or.inl rfl, Or.inl rfl, Vd⟩
  by_cases h1 : X = 1
  · subst h1
    go_upto_region 16 with (go_at_call 38; refine (dx HB1.out.src hn (by omega) 11 (by omega) (by omega)).mono ?_; rintro e wA ⟨Z, rfl, hZ, hsA, ic⟩; have HB2 := aa (HB1.out.draw hsA ic); have c6 := ah HB2.out.box 6; have f6 := aC HB2.out.box 6; clear hsA ic)
    have HF := aa ((HB2.out.Ql ((Z : Int) - 1)))
    have HM : Hid (mY stops af lo ((Z : Int) - 1)) := ⟨qi.out.1, qi.out.2.1, qi.out.2.2.1, qi.out.2.2.2.1, qi.out.2.2.2.2.1, qi.out.2.2.2.2.2.1, by omega, by omega⟩
    clear HB1 HB2 c6 f6
    generalize wA.setCell ⟨BX, 6, none⟩ (.int .i64 ((Z : Int) - 1)) = wq at *
    obtain ⟨cs, hr1, hr2⟩ := HF.out.res
    obtain ⟨r0, r1, r2, r3, r4, r5, r6, rfl⟩ := D6 hr2
    have c0 : wq.cell? ⟨BX, 0, none⟩ = some (.bool fo) := ah HF.out.box 0
    have d0 : wq.cell? ⟨R, 0, none⟩ = some r0 := ah hr1 0
    have e0 := aC hr1 0
    have c1 : wq.cell? ⟨BX, 1, none⟩ = some (.bool st) := ah HF.out.box 1
    have d1 : wq.cell? ⟨R, 1, none⟩ = some r1 := ah hr1 1
    have e1 := aC hr1 1
    have c2 : wq.cell? ⟨BX, 2, none⟩ = some (.bool ph) := ah HF.out.box 2
    have d2 : wq.cell? ⟨R, 2, none⟩ = some r2 := ah hr1 2
    have e2 := aC hr1 2
    have c3 : wq.cell? ⟨BX, 3, none⟩ = some (.slice (aS) (stops).length cS) := ah HF.out.box 3
    have d3 : wq.cell? ⟨R, 3, none⟩ = some r3 := ah hr1 3
    have e3 := aC hr1 3
    have c4 : wq.cell? ⟨BX, 4, none⟩ = some (.slice (aY) (af).length cY) := ah HF.out.box 4
    have d4 : wq.cell? ⟨R, 4, none⟩ = some r4 := ah hr1 4
    have e4 := aC hr1 4
    have c5 : wq.cell? ⟨BX, 5, none⟩ = some (.int .i64 lo) := ah HF.out.box 5
    have d5 : wq.cell? ⟨R, 5, none⟩ = some r5 := ah hr1 5
    have e5 := aC hr1 5
    have c6 : wq.cell? ⟨BX, 6, none⟩ = some (.int .i64 ((Z : Int) - 1)) := ah HF.out.box 6
    have d6 : wq.cell? ⟨R, 6, none⟩ = some r6 := ah hr1 6
    have e6 := aC hr1 6
    have hne := HF.out.ne
    clear hr1 hr2
    go_wp2_with fail
    refine bodyPost_ret (v := .agg #[.bool fo, .bool st, .bool ph, .slice (aS) (stops).length cS, .slice (aY) (af).length cY, .int .i64 (lo), .int .i64 (((Z : Int) - 1))]) (by simp [results, Tryz.results41, go_sem, *]) rfl ?_
    have HR := aa (((((((HF.out.dM 0 (.bool fo)).dM 1 (.bool st)).dM 2 (.bool ph)).dM 3 (.slice (aS) (stops).length cS)).dM 4 (.slice (aY) (af).length cY)).dM 5 (.int .i64 (lo))).dM 6 (.int .i64 (((Z : Int) - 1))))
    exact ⟨fo, st, ph, _, _, _, _, _, _, _, _, rfl, HR.out.src.mono (by omega), HR.out.but, HR.out.nu, HR.out.syn, HR.out.so.imp (fun x h => Or.inl h), HR.out.yo.imp (fun x h => Or.inl h), HM.out, Or.inl rfl, Or.inl rfl, Vd⟩
  by_cases h2 : X = 2
  · subst h2
    have c3 : (w2.alloc (.cells #[] 9)).cell? ⟨BX, 3, none⟩ = some (.slice aS stops.length cS) := ah (HB1.out.alloc _).box 3
    have EG := HB1.out.size
    have iA : Hid ((w2.alloc (.cells #[] 9)).ownsRow w2.heap.size 9 1 (.slice (some ⟨w2.heap.size, 0, none⟩) 0 0) 0 []) := dJ w2 _
    have bU := aa (HB1.out.alloc (.cells #[] 9))
    have Av := aa (RL (c := cS) bU.out.nu Vd)
    go_wp2_with (at_builtin; refine uD _ rfl _ _ 40 rfl w2.heap.size 9 i1 (.string ⟨#[]⟩) 1 16 Tryz.underlying40 hi1 hy0 hy1 hy2 rfl (by decide) _ _ _ rfl iA.out _ _ _ _ rfl Av.out ?c1 ?c2 ?c3 ?_)
    case c1 => unfold maxLen; omega
    case c2 => omega
    case c3 => simp
    intro v25 OJ vE sP
    have jH : Hid (OJ.ownsRow w2.heap.size 9 1 v25 stops.length (bR stops)) := by
      first
        | exact vE
        | (have q := vE; rw [Nat.zero_add, List.nil_append] at q; exact q)
    have eG := aa (bU.out.grow (N := w2.heap.size) sP (fun g e => by cases e; exact Nat.le_refl _) EG (vL.out _ (by omega)).1 (vL.out _ (by omega)).2)
    have Xg : w2.heap.size ≤ OJ.heap.size := by have := sP.size; simp at this; omega
    clear vE sP bU iA Av c3
    go_wp2_with fail
    refine (dx eG.out.src hn (by omega) 2 (by omega) (by omega)).mono ?_
    rintro e w27 ⟨Z, rfl, hZ, hsA, ic⟩
    have fu := aa (eG.out.draw hsA ic)
    have lQ := aa (jY jH.out (fun g e hl => ic.block g hl (fun q => by have := (kH jH.out g e).1; have := eG.out.bl; have := eG.out.xl; omega)))
    have VQ : w2.heap.size ≤ w27.heap.size := Nat.le_trans Xg ic.size
    clear hsA ic eG jH
    have MC := zh ⟨#[115]⟩ (64 + Z) w27 (by decide) (by omega)
    rw [show ((64 + Z : Nat) : Int) = 64 + (Z : Int) by omega] at MC
    have Uw := aa MC
    clear MC
    go_wp2_with fail
    refine Uw.out.mono ?_
    rintro e EN ⟨r, rfl, hr, sO⟩
    have hr2 : r.size ≤ 1048576 := by
      have : (⟨#[115]⟩ : ByteArray).size = 1 := rfl
      rw [this] at hr
      omega
    have gF := aa ((fu.out.draw (fu.out.src.below sO) (But.of_below sO)).alloc (.cells #[.string ⟨#[]⟩, .string ⟨#[255]⟩, .string r] 9))
    have jy : Hid ((EN.alloc (.cells #[.string ⟨#[]⟩, .string ⟨#[255]⟩, .string r] 9)).ownsRow _ _ _ _ _ _) := jY lQ.out (fun g e hl => (Below.heap_alloc _ _ _ (by have := sO.size; omega)).trans (sO.block g hl))
    have xk : Hid ((EN.alloc (.cells #[.string ⟨#[]⟩, .string ⟨#[255]⟩, .string r] 9)).heap[EN.heap.size]? = some (.cells #[.string ⟨#[]⟩, .string ⟨#[255]⟩, .string r] 9)) := heap_alloc_new _ _
    have hz9 : w2.heap.size ≤ EN.heap.size := Nat.le_trans VQ sO.size
    clear hr sO fu lQ Uw
    go_wp2_with fail
    refine (dx gF.out.src hn (by omega) 3 (by omega) (by omega)).mono ?_
    rintro e w32 ⟨Y, rfl, hY, hsA, ic⟩
    have jJ := aa (gF.out.draw hsA ic)
    have uF := aa (jY jy.out (fun g e hl => ic.block g hl (fun q => by have := (kH jy.out g e).1; have := gF.out.bl; have := gF.out.xl; omega)))
    have Ld := (ic.block _ (Array.getElem?_eq_some_iff.1 xk.out).1 (by have := gF.out.bl; have := gF.out.xl; omega)).trans xk.out
    have hz32 : w2.heap.size ≤ w32.heap.size := by have := ic.size; simp at this; omega
    obtain ⟨y, hy, hyl⟩ := ac4 Ld hr2 Y (by omega)
    have hTl := (Array.getElem?_eq_some_iff.1 Ld).1
    clear hsA ic gF jy xk Ld
    have gY := aa (jJ.out.alloc (.cells #[.string (bs y)] 9))
    have qw : Hid ((w32.alloc (.cells #[.string (bs y)] 9)).ownsRow _ _ _ _ _ _) := jY uF.out (fun g e hl => Below.heap_alloc _ _ _ hl)
    go_wp2_with (at_builtin; refine wpList_append_lies _ rfl _ _ 40 rfl w2.heap.size 9 i1 (.string ⟨#[]⟩) 1 16 Tryz.underlying40 hi1 hy0 hy1 hy2 rfl (by decide) _ _ _ rfl qw.out ⟨w32.heap.size, 0, none⟩ 1 1 [.string (bs y)] rfl rfl (World.news_of_block (heap_alloc_new w32 _)) (by intro v hv; simp at hv; subst hv; rfl) (by omega) ?c3 ?c4 ?c5 _ rfl ?_)
    case c3 => unfold maxLen; omega
    case c4 => omega
    case c5 => simp; omega
    intro g6 bL rq hown hgrow hat hlt
    have hlen : (stops ++ [y]).length = stops.length + 1 := by simp
    have Hg := (kH hown g6 rfl).1
    have HH : Hid (bE rq (some ⟨g6, 0, none⟩) (stops ++ [y])) := by
      refine II (base := w2.heap.size) (cap := bL) ?_
      rw [ow, hlen]
      exact hown
    have tL : ∀ g, v25.ownBlock = some g → w2.heap.size ≤ g := fun g e => (kH qw.out g e).1
    have HG := aa (gY.out.grow (N := w2.heap.size) hgrow tL EG (vL.out _ (by omega)).1 (vL.out _ (by omega)).2)
    have c3 : rq.cell? ⟨BX, 3, none⟩ = some (.slice aS stops.length cS) := ah HG.out.box 3
    have f3 := aC HG.out.box 3
    have HF : Hid (BA w (rq.setCell ⟨BX, 3, none⟩ (.slice (some ⟨g6, 0, none⟩) (stops.length + 1) bL)) b ao n cap (A + 3 + 3 + 3) BX R fo st ph (some ⟨g6, 0, none⟩) aY bL cY (stops ++ [y]) af lo hi) := by
      have q := gY.out.Z4 (N := w2.heap.size) (c' := bL) hgrow tL EG (vL.out _ (by omega)).2 HH.out (fun blk off e hx => by cases e; omega)
      rw [hlen] at q
      exact q
    have HM : Hid (mY (stops ++ [y]) af lo hi) := ⟨by rw [List.length_append, List.length_singleton]; omega, qi.out.2.1, fun t ht => by
      rcases List.mem_append.1 ht with ht | ht
      · exact qi.out.2.2.1 t ht
      · rw [List.mem_singleton] at ht; rw [ht]; exact hyl, qi.out.2.2.2⟩
    clear hown hgrow hat hlt tL HG gY qw jJ uF hy 
    go_upto_region 16 with fail
    clear c3 f3
    generalize rq.setCell ⟨BX, 3, none⟩ (.slice (some ⟨g6, 0, none⟩) (stops.length + 1) bL) = wq at *
    clear HH hlen
    generalize stops ++ [y] = ST at *
    obtain ⟨cs, hr1, hr2⟩ := HF.out.res
    obtain ⟨r0, r1, r2, r3, r4, r5, r6, rfl⟩ := D6 hr2
    have c0 : wq.cell? ⟨BX, 0, none⟩ = some (.bool fo) := ah HF.out.box 0
    have d0 : wq.cell? ⟨R, 0, none⟩ = some r0 := ah hr1 0
    have e0 := aC hr1 0
    have c1 : wq.cell? ⟨BX, 1, none⟩ = some (.bool st) := ah HF.out.box 1
    have d1 : wq.cell? ⟨R, 1, none⟩ = some r1 := ah hr1 1
    have e1 := aC hr1 1
    have c2 : wq.cell? ⟨BX, 2, none⟩ = some (.bool ph) := ah HF.out.box 2
    have d2 : wq.cell? ⟨R, 2, none⟩ = some r2 := ah hr1 2
    have e2 := aC hr1 2
    have c3 : wq.cell? ⟨BX, 3, none⟩ = some (.slice (some ⟨g6, 0, none⟩) (ST).length bL) := ah HF.out.box 3
    have d3 : wq.cell? ⟨R, 3, none⟩ = some r3 := ah hr1 3
    have e3 := aC hr1 3
    have c4 : wq.cell? ⟨BX, 4, none⟩ = some (.slice (aY) (af).length cY) := ah HF.out.box 4
    have d4 : wq.cell? ⟨R, 4, none⟩ = some r4 := ah hr1 4
    have e4 := aC hr1 4
    have c5 : wq.cell? ⟨BX, 5, none⟩ = some (.int .i64 lo) := ah HF.out.box 5
    have d5 : wq.cell? ⟨R, 5, none⟩ = some r5 := ah hr1 5
    have e5 := aC hr1 5
    have c6 : wq.cell? ⟨BX, 6, none⟩ = some (.int .i64 hi) := ah HF.out.box 6
    have d6 : wq.cell? ⟨R, 6, none⟩ = some r6 := ah hr1 6
    have e6 := aC hr1 6
    have hne := HF.out.ne
    clear hr1 hr2
    go_wp2_with fail
    refine bodyPost_ret (v := .agg #[.bool fo, .bool st, .bool ph, .slice (some ⟨g6, 0, none⟩) (ST).length bL, .slice (aY) (af).length cY, .int .i64 (lo), .int .i64 (hi)]) (by simp [results, Tryz.results41, go_sem, *]) rfl ?_
    have HR := aa (((((((HF.out.dM 0 (.bool fo)).dM 1 (.bool st)).dM 2 (.bool ph)).dM 3 (.slice (some ⟨g6, 0, none⟩) (ST).length bL)).dM 4 (.slice (aY) (af).length cY)).dM 5 (.int .i64 (lo))).dM 6 (.int .i64 (hi)))
    exact ⟨fo, st, ph, _, _, _, _, _, _, _, _, rfl, HR.out.src.mono (by omega), HR.out.but, HR.out.nu, HR.out.syn, HR.out.so.imp (fun x h => Or.inl h), HR.out.yo.imp (fun x h => Or.inl h), HM.out, Or.inr (fun blk off e hx => by cases e; omega), Or.inl rfl, (fun e => by cases e)⟩
  by_cases h3 : X = 3
  · subst h3
    have c3 : (w2.alloc (.cells #[] 114)).cell? ⟨BX, 4, none⟩ = some (.slice aY af.length cY) := ah (HB1.out.alloc _).box 4
    have EG := HB1.out.size
    have iA : Hid ((w2.alloc (.cells #[] 114)).ownsRow w2.heap.size 114 2 (.slice (some ⟨w2.heap.size, 0, none⟩) 0 0) 0 []) := Pv w2 _
    have bU := aa (HB1.out.alloc (.cells #[] 114))
    have Av := aa (SL (c := cY) bU.out.syn hcY)
    go_wp2_with (at_builtin; refine uD _ rfl _ _ 71 rfl w2.heap.size 114 i0 (.agg #[.string ⟨#[]⟩, .string ⟨#[]⟩]) 2 32 Tryz.underlying71 hi0 hz0 hz1 hz2 rfl (by decide) _ _ _ rfl iA.out _ _ _ _ rfl Av.out ?c1 ?c2 ?c3 ?_)
    case c1 => unfold maxLen; omega
    case c2 => omega
    case c3 => simp
    intro v25 OJ vE sP
    have jH : Hid (OJ.ownsRow w2.heap.size 114 2 v25 af.length (gB af)) := by
      first
        | exact vE
        | (have q := vE; rw [Nat.zero_add, List.nil_append] at q; exact q)
    have eG := aa (bU.out.grow (N := w2.heap.size) sP (fun g e => by cases e; exact Nat.le_refl _) EG (vL.out _ (by omega)).1 (vL.out _ (by omega)).2)
    have Xg : w2.heap.size ≤ OJ.heap.size := by have := sP.size; simp at this; omega
    clear vE sP bU iA Av c3
    have fu := eG
    have lQ := jH
    have VQ := Xg
    clear eG jH
    have MC := zh ⟨#[121]⟩ 64 OJ (by decide) (by omega)
    rw [show ((64 : Nat) : Int) = 64 from rfl] at MC
    have Uw := aa MC
    clear MC
    go_wp2_with fail
    refine Uw.out.mono ?_
    rintro e EN ⟨r, rfl, hr, sO⟩
    have hr2 : r.size ≤ 1048576 := by
      have : (⟨#[121]⟩ : ByteArray).size = 1 := rfl
      rw [this] at hr
      omega
    have gF := aa ((fu.out.draw (fu.out.src.below sO) (But.of_below sO)).alloc (.cells #[.string ⟨#[120]⟩, .string ⟨#[120]⟩, .string ⟨#[]⟩, .string ⟨#[120]⟩, .string ⟨#[120]⟩, .string ⟨#[195]⟩, .string ⟨#[120]⟩, .string r] 114))
    have jy : Hid ((EN.alloc (.cells #[.string ⟨#[120]⟩, .string ⟨#[120]⟩, .string ⟨#[]⟩, .string ⟨#[120]⟩, .string ⟨#[120]⟩, .string ⟨#[195]⟩, .string ⟨#[120]⟩, .string r] 114)).ownsRow _ _ _ _ _ _) := jY lQ.out (fun g e hl => (Below.heap_alloc _ _ _ (by have := sO.size; omega)).trans (sO.block g hl))
    have xk : Hid ((EN.alloc (.cells #[.string ⟨#[120]⟩, .string ⟨#[120]⟩, .string ⟨#[]⟩, .string ⟨#[120]⟩, .string ⟨#[120]⟩, .string ⟨#[195]⟩, .string ⟨#[120]⟩, .string r] 114)).heap[EN.heap.size]? = some (.cells #[.string ⟨#[120]⟩, .string ⟨#[120]⟩, .string ⟨#[]⟩, .string ⟨#[120]⟩, .string ⟨#[120]⟩, .string ⟨#[195]⟩, .string ⟨#[120]⟩, .string r] 114)) := heap_alloc_new _ _
    have hz9 : w2.heap.size ≤ EN.heap.size := Nat.le_trans VQ sO.size
    clear hr sO fu lQ Uw
    go_wp2_with fail
    refine (dx gF.out.src hn (by omega) 4 (by omega) (by omega)).mono ?_
    rintro e w32 ⟨Y, rfl, hY, hsA, ic⟩
    have jJ := aa (gF.out.draw hsA ic)
    have uF := aa (jY jy.out (fun g e hl => ic.block g hl (fun q => by have := (kH jy.out g e).1; have := gF.out.bl; have := gF.out.xl; omega)))
    have Ld := (ic.block _ (Array.getElem?_eq_some_iff.1 xk.out).1 (by have := gF.out.bl; have := gF.out.xl; omega)).trans xk.out
    have hz32 : w2.heap.size ≤ w32.heap.size := by have := ic.size; simp at this; omega
    obtain ⟨y, hy, hy', hyl⟩ := adf Ld hr2 Y (by omega)
    have hTl := (Array.getElem?_eq_some_iff.1 Ld).1
    clear hsA ic gF jy xk Ld
    have gY := aa (jJ.out.alloc (.cells #[.string (bs y.1), .string (bs y.2)] 114))
    have qw : Hid ((w32.alloc (.cells #[.string (bs y.1), .string (bs y.2)] 114)).ownsRow _ _ _ _ _ _) := jY uF.out (fun g e hl => Below.heap_alloc _ _ _ hl)
    go_wp2_with (at_builtin; refine wpList_append_lies _ rfl _ _ 71 rfl w2.heap.size 114 i0 (.agg #[.string ⟨#[]⟩, .string ⟨#[]⟩]) 2 32 Tryz.underlying71 hi0 hz0 hz1 hz2 rfl (by decide) _ _ _ rfl qw.out ⟨w32.heap.size, 0, none⟩ 1 1 [.string (bs y.1), .string (bs y.2)] rfl rfl (World.news_of_block (heap_alloc_new w32 _)) (by intro v hv; simp at hv; rcases hv with rfl | rfl <;> rfl) (by omega) ?c3 ?c4 ?c5 _ rfl ?_)
    case c3 => unfold maxLen; omega
    case c4 => omega
    case c5 => simp; omega
    intro g6 bL rq hown hgrow hat hlt
    have hlen : (af ++ [y]).length = af.length + 1 := by simp
    have Hg := (kH hown g6 rfl).1
    have HH : Hid (dB rq (some ⟨g6, 0, none⟩) (af ++ [y])) := by
      refine IX (base := w2.heap.size) (cap := bL) ?_
      rw [Dr, hlen]
      exact hown
    have tL : ∀ g, v25.ownBlock = some g → w2.heap.size ≤ g := fun g e => (kH qw.out g e).1
    have HG := aa (gY.out.grow (N := w2.heap.size) hgrow tL EG (vL.out _ (by omega)).1 (vL.out _ (by omega)).2)
    have c3 : rq.cell? ⟨BX, 4, none⟩ = some (.slice aY af.length cY) := ah HG.out.box 4
    have f3 := aC HG.out.box 4
    have HF : Hid (BA w (rq.setCell ⟨BX, 4, none⟩ (.slice (some ⟨g6, 0, none⟩) (af.length + 1) bL)) b ao n cap (A + 3 + 3) BX R fo st ph aS (some ⟨g6, 0, none⟩) cS bL stops (af ++ [y]) lo hi) := by
      have q := gY.out.age (N := w2.heap.size) (c' := bL) hgrow tL EG (vL.out _ (by omega)).1 HH.out (fun blk off e hx => by cases e; omega)
      rw [hlen] at q
      exact q
    have HM : Hid (mY stops (af ++ [y]) lo hi) := ⟨qi.out.1, by rw [List.length_append, List.length_singleton]; omega, qi.out.2.2.1, fun t ht => by
      rcases List.mem_append.1 ht with ht | ht
      · exact qi.out.2.2.2.1 t ht
      · rw [List.mem_singleton] at ht; rw [ht]; exact hyl, qi.out.2.2.2.2⟩
    clear hown hgrow hat hlt tL HG gY qw jJ uF hy 
    go_upto_region 16 with fail
    clear c3 f3
    generalize rq.setCell ⟨BX, 4, none⟩ (.slice (some ⟨g6, 0, none⟩) (af.length + 1) bL) = wq at *
    clear HH hlen
    generalize af ++ [y] = ST at *
    obtain ⟨cs, hr1, hr2⟩ := HF.out.res
    obtain ⟨r0, r1, r2, r3, r4, r5, r6, rfl⟩ := D6 hr2
    have c0 : wq.cell? ⟨BX, 0, none⟩ = some (.bool fo) := ah HF.out.box 0
    have d0 : wq.cell? ⟨R, 0, none⟩ = some r0 := ah hr1 0
    have e0 := aC hr1 0
    have c1 : wq.cell? ⟨BX, 1, none⟩ = some (.bool st) := ah HF.out.box 1
    have d1 : wq.cell? ⟨R, 1, none⟩ = some r1 := ah hr1 1
    have e1 := aC hr1 1
    have c2 : wq.cell? ⟨BX, 2, none⟩ = some (.bool ph) := ah HF.out.box 2
    have d2 : wq.cell? ⟨R, 2, none⟩ = some r2 := ah hr1 2
    have e2 := aC hr1 2
    have c3 : wq.cell? ⟨BX, 3, none⟩ = some (.slice (aS) (stops).length cS) := ah HF.out.box 3
    have d3 : wq.cell? ⟨R, 3, none⟩ = some r3 := ah hr1 3
    have e3 := aC hr1 3
    have c4 : wq.cell? ⟨BX, 4, none⟩ = some (.slice (some ⟨g6, 0, none⟩) (ST).length bL) := ah HF.out.box 4
    have d4 : wq.cell? ⟨R, 4, none⟩ = some r4 := ah hr1 4
    have e4 := aC hr1 4
    have c5 : wq.cell? ⟨BX, 5, none⟩ = some (.int .i64 lo) := ah HF.out.box 5
    have d5 : wq.cell? ⟨R, 5, none⟩ = some r5 := ah hr1 5
    have e5 := aC hr1 5
    have c6 : wq.cell? ⟨BX, 6, none⟩ = some (.int .i64 hi) := ah HF.out.box 6
    have d6 : wq.cell? ⟨R, 6, none⟩ = some r6 := ah hr1 6
    have e6 := aC hr1 6
    have hne := HF.out.ne
    clear hr1 hr2
    go_wp2_with fail
    refine bodyPost_ret (v := .agg #[.bool fo, .bool st, .bool ph, .slice (aS) (stops).length cS, .slice (some ⟨g6, 0, none⟩) (ST).length bL, .int .i64 (lo), .int .i64 (hi)]) (by simp [results, Tryz.results41, go_sem, *]) rfl ?_
    have HR := aa (((((((HF.out.dM 0 (.bool fo)).dM 1 (.bool st)).dM 2 (.bool ph)).dM 3 (.slice (aS) (stops).length cS)).dM 4 (.slice (some ⟨g6, 0, none⟩) (ST).length bL)).dM 5 (.int .i64 (lo))).dM 6 (.int .i64 (hi)))
    exact ⟨fo, st, ph, _, _, _, _, _, _, _, _, rfl, HR.out.src.mono (by omega), HR.out.but, HR.out.nu, HR.out.syn, HR.out.so.imp (fun x h => Or.inl h), HR.out.yo.imp (fun x h => Or.inl h), HM.out, Or.inl rfl, Or.inr (fun blk off e hx => by cases e; omega), Vd⟩
  by_cases h4 : X = 4
  · subst h4
    have c3 : (w2.alloc (.cells #[] 9)).cell? ⟨BX, 3, none⟩ = some (.slice aS stops.length cS) := ah (HB1.out.alloc _).box 3
    have f3 := aC (HB1.out.alloc (.cells #[] 9)).box 3
    have HNw := aa HB1.out.size
    have Ik : Hid (BA w ((w2.alloc (.cells #[] 9)).setCell ⟨BX, 3, none⟩ (.slice (some ⟨w2.heap.size, 0, none⟩) 0 0)) b ao n cap (A + 3) BX R fo st ph (some ⟨w2.heap.size, 0, none⟩) aY 0 cY [] af lo hi) := (HB1.out.alloc _).JM (a' := some ⟨w2.heap.size, 0, none⟩) (c' := 0) (l' := []) (Or.inl rfl) (fun blk off e hx => by cases e; have := HB1.out.bl; have := HB1.out.xl; have := HB1.out.size; omega)
    have GU : Hid (((w2.alloc (.cells #[] 9)).setCell ⟨BX, 3, none⟩ (.slice (some ⟨w2.heap.size, 0, none⟩) 0 0)).ownsRow w2.heap.size 9 1 (.slice (some ⟨w2.heap.size, 0, none⟩) 0 0) 0 []) := jY (dJ w2 _) (fun g e hl => au _ _ _ _ _ (by have e2 : w2.heap.size = g := Option.some.inj e; have := HNw.out; omega))
    have HYN := aa (vL.out w2.heap.size (by have := HNw.out; omega)).2
    go_upto_region 12 with fail
    clear c3 f3 HB1
    generalize (w2.alloc (.cells #[] 9)).setCell ⟨BX, 3, none⟩ (.slice (some ⟨w2.heap.size, 0, none⟩) 0 0) = w4 at *
    generalize w2.heap.size = N at *
    have EG := HNw.out
    go_upto_region 13 with (go_at_call 38; refine (dx Ik.out.src hn (by omega) 2 (by omega) (by omega)).mono ?_; rintro e w5 ⟨Z, rfl, hZ, hs5, hb5⟩)
    have Ep := aa (Ik.out.draw hs5 hb5)
    have lY := aa (jY GU.out (fun g e hl => hb5.block g hl (fun q => by have e2 : N = g := Option.some.inj e; have := Ik.out.bl; have := Ik.out.xl; omega)))
    clear hs5 hb5 Ik GU
    go_loopw [5] (fun iv wx => ∃ (k : Nat) (xu : Option Addr) (zL : Nat) (L : List (List UInt8)), iv = .int .i64 (k : Int) ∧ k + L.length ≤ 65 ∧ BA w wx b ao n cap (A + 6) BX R fo st ph xu aY zL cY L af lo hi ∧ wx.ownsRow N 9 1 (.slice xu L.length zL) L.length (bR L) ∧ (∀ t ∈ L, t.length ≤ 1048576) ∧ N ≤ wx.heap.size) (fun iv _ => (intOf iv).toNat)
    case atStart => exact ⟨64 + Z, _, _, [], by rw [show ((64 + Z : Nat) : Int) = 64 + (Z : Int) by omega], by simp; omega, Ep.out.mono (by omega), lY.out, (fun t ht => by simp at ht), Nat.le_of_lt (kH lY.out N rfl).2⟩
    case round =>
      obtain ⟨k, xu, zL, L, rfl, hkL, hB, hO, hLt, hNr⟩ := hrel
      have bq := aa hB
      have oM := aa hO
      have HLt := aa hLt
      clear hB hO hLt Ep lY
      by_cases hk : 0 < k
      · have hkz : (0 : Int) < (k : Int) := by omega
        have c3 : wr.cell? ⟨BX, 3, none⟩ = some (.slice xu L.length zL) := ah bq.out.box 3
        have gY := aa (bq.out.alloc (.cells #[.string ⟨#[119]⟩] 9))
        have qw : Hid ((wr.alloc (.cells #[.string ⟨#[119]⟩] 9)).ownsRow _ _ _ _ _ _) := jY oM.out (fun g e hl => Below.heap_alloc _ _ _ hl)
        have sG := bq.out.size
        go_wp2_with (at_builtin; refine wpList_append_lies _ rfl _ _ 40 rfl N 9 i1 (.string ⟨#[]⟩) 1 16 Tryz.underlying40 hi1 hy0 hy1 hy2 rfl (by decide) _ _ _ rfl qw.out ⟨wr.heap.size, 0, none⟩ 1 1 [.string ⟨#[119]⟩] rfl rfl (World.news_of_block (heap_alloc_new wr _)) (by intro v hv; simp at hv; subst hv; rfl) (by omega) ?c3 ?c4 ?c5 _ rfl ?_)
        case c3 => unfold maxLen; omega
        case c4 => omega
        case c5 => simp; omega
        intro g6 bL rq hown hgrow hat hlt
        have hlen : (L ++ [[119]]).length = L.length + 1 := by simp
        have Hg := (kH hown g6 rfl).1
        have ru : Hid (rq.ownsRow N 9 1 (.slice (some ⟨g6, 0, none⟩) (L ++ [[119]]).length bL) (L ++ [[119]]).length (bR (L ++ [[119]]))) := by
          rw [ow, hlen]
          exact hown
        have tL : ∀ g, (Value.slice xu L.length zL).ownBlock = some g → N ≤ g := fun g e => (kH qw.out g e).1
        have hbx : rq.heap[BX]? = _ := (hgrow.block BX gY.out.size.1 (fun e => by have := tL BX e.symm; omega)).trans gY.out.box
        have c3' : rq.cell? ⟨BX, 3, none⟩ = some (.slice xu L.length zL) := ah hbx 3
        have f3' := aC hbx 3
        have HF : Hid (BA w (rq.setCell ⟨BX, 3, none⟩ (.slice (some ⟨g6, 0, none⟩) (L.length + 1) bL)) b ao n cap (A + 6) BX R fo st ph (some ⟨g6, 0, none⟩) aY bL cY (L ++ [[119]]) af lo hi) := by
          have q := gY.out.Z4 (N := N) (c' := bL) hgrow tL EG HYN.out (II ru.out) (fun blk off e hx => by cases e; omega)
          rw [hlen] at q
          exact q
        have HOf : Hid ((rq.setCell ⟨BX, 3, none⟩ (.slice (some ⟨g6, 0, none⟩) (L.length + 1) bL)).ownsRow N 9 1 (.slice (some ⟨g6, 0, none⟩) (L ++ [[119]]).length bL) (L ++ [[119]]).length (bR (L ++ [[119]]))) := jY ru.out (fun g e hl => au _ _ _ _ _ (by have e2 : g6 = g := Option.some.inj e; omega))
        have aft : Hid (N ≤ (rq.setCell ⟨BX, 3, none⟩ (.slice (some ⟨g6, 0, none⟩) (L.length + 1) bL)).heap.size) := by
          show _ ≤ _
          have := hgrow.size
          simp at this ⊢
          omega
        clear hown hgrow hat hlt tL hbx ru gY qw bq oM c3
        go_upto_region 14 with fail
        clear c3' f3'
        generalize rq.setCell ⟨BX, 3, none⟩ (.slice (some ⟨g6, 0, none⟩) (L.length + 1) bL) = w40 at *
        go_wp2_with fail
        refine ⟨⟨k - 1, _, _, L ++ [[119]], by rw [show ((k - 1 : Nat) : Int) = (k : Int) - 1 by omega], by rw [hlen]; omega, HF.out, HOf.out, ?_, aft.out⟩, by simp [intOf]; omega⟩
        intro t ht
        rcases List.mem_append.1 ht with ht | ht
        · exact HLt.out t ht
        · rw [List.mem_singleton] at ht; rw [ht]; decide
      · have hkz : ¬ (0 : Int) < (k : Int) := by omega
        have HM : Hid (mY L af lo hi) := ⟨by omega, qi.out.2.1, HLt.out, qi.out.2.2.2⟩
        go_upto_region 16 with fail
        obtain ⟨cs, hr1, hr2⟩ := bq.out.res
        obtain ⟨r0, r1, r2, r3, r4, r5, r6, rfl⟩ := D6 hr2
        have c0 : wr.cell? ⟨BX, 0, none⟩ = some (.bool fo) := ah bq.out.box 0
        have d0 : wr.cell? ⟨R, 0, none⟩ = some r0 := ah hr1 0
        have e0 := aC hr1 0
        have c1 : wr.cell? ⟨BX, 1, none⟩ = some (.bool st) := ah bq.out.box 1
        have d1 : wr.cell? ⟨R, 1, none⟩ = some r1 := ah hr1 1
        have e1 := aC hr1 1
        have c2 : wr.cell? ⟨BX, 2, none⟩ = some (.bool ph) := ah bq.out.box 2
        have d2 : wr.cell? ⟨R, 2, none⟩ = some r2 := ah hr1 2
        have e2 := aC hr1 2
        have c3 : wr.cell? ⟨BX, 3, none⟩ = some (.slice (xu) (L).length zL) := ah bq.out.box 3
        have d3 : wr.cell? ⟨R, 3, none⟩ = some r3 := ah hr1 3
        have e3 := aC hr1 3
        have c4 : wr.cell? ⟨BX, 4, none⟩ = some (.slice (aY) (af).length cY) := ah bq.out.box 4
        have d4 : wr.cell? ⟨R, 4, none⟩ = some r4 := ah hr1 4
        have e4 := aC hr1 4
        have c5 : wr.cell? ⟨BX, 5, none⟩ = some (.int .i64 lo) := ah bq.out.box 5
        have d5 : wr.cell? ⟨R, 5, none⟩ = some r5 := ah hr1 5
        have e5 := aC hr1 5
        have c6 : wr.cell? ⟨BX, 6, none⟩ = some (.int .i64 hi) := ah bq.out.box 6
        have d6 : wr.cell? ⟨R, 6, none⟩ = some r6 := ah hr1 6
        have e6 := aC hr1 6
        have hne := bq.out.ne
        clear hr1 hr2
        go_wp2_with fail
        refine bodyPost_ret (v := .agg #[.bool fo, .bool st, .bool ph, .slice (xu) (L).length zL, .slice (aY) (af).length cY, .int .i64 (lo), .int .i64 (hi)]) (by simp [results, Tryz.results41, go_sem, *]) rfl ?_
        have HR := aa (((((((bq.out.dM 0 (.bool fo)).dM 1 (.bool st)).dM 2 (.bool ph)).dM 3 (.slice (xu) (L).length zL)).dM 4 (.slice (aY) (af).length cY)).dM 5 (.int .i64 (lo))).dM 6 (.int .i64 (hi)))
        exact ⟨fo, st, ph, _, _, _, _, _, _, _, _, rfl, HR.out.src.mono (by omega), HR.out.but, HR.out.nu, HR.out.syn, HR.out.so.imp (fun x h => Or.inl h), HR.out.yo.imp (fun x h => Or.inl h), HM.out, Or.inr ((aa6 oM.out).imp (fun x hx => by omega)), Or.inl rfl, aaQ oM.out⟩
  have g0 : ¬ ((X : Int) = 0) := by omega
  have g1 : ¬ ((X : Int) = 1) := by omega
  have g2 : ¬ ((X : Int) = 2) := by omega
  have g3 : ¬ ((X : Int) = 3) := by omega
  have g4 : ¬ ((X : Int) = 4) := by omega
  go_upto_region 16 with fail
  obtain ⟨cs, hr1, hr2⟩ := HB1.out.res
  obtain ⟨r0, r1, r2, r3, r4, r5, r6, rfl⟩ := D6 hr2
  have c0 : w2.cell? ⟨BX, 0, none⟩ = some (.bool fo) := ah HB1.out.box 0
  have d0 : w2.cell? ⟨R, 0, none⟩ = some r0 := ah hr1 0
  have e0 := aC hr1 0
  have c1 : w2.cell? ⟨BX, 1, none⟩ = some (.bool st) := ah HB1.out.box 1
  have d1 : w2.cell? ⟨R, 1, none⟩ = some r1 := ah hr1 1
  have e1 := aC hr1 1
  have c2 : w2.cell? ⟨BX, 2, none⟩ = some (.bool ph) := ah HB1.out.box 2
  have d2 : w2.cell? ⟨R, 2, none⟩ = some r2 := ah hr1 2
  have e2 := aC hr1 2
  have c3 : w2.cell? ⟨BX, 3, none⟩ = some (.slice (aS) (stops).length cS) := ah HB1.out.box 3
  have d3 : w2.cell? ⟨R, 3, none⟩ = some r3 := ah hr1 3
  have e3 := aC hr1 3
  have c4 : w2.cell? ⟨BX, 4, none⟩ = some (.slice (aY) (af).length cY) := ah HB1.out.box 4
  have d4 : w2.cell? ⟨R, 4, none⟩ = some r4 := ah hr1 4
  have e4 := aC hr1 4
  have c5 : w2.cell? ⟨BX, 5, none⟩ = some (.int .i64 lo) := ah HB1.out.box 5
  have d5 : w2.cell? ⟨R, 5, none⟩ = some r5 := ah hr1 5
  have e5 := aC hr1 5
  have c6 : w2.cell? ⟨BX, 6, none⟩ = some (.int .i64 hi) := ah HB1.out.box 6
  have d6 : w2.cell? ⟨R, 6, none⟩ = some r6 := ah hr1 6
  have e6 := aC hr1 6
  have hne := HB1.out.ne
  clear hr1 hr2
  go_wp2_with fail
  refine bodyPost_ret (v := .agg #[.bool fo, .bool st, .bool ph, .slice (aS) (stops).length cS, .slice (aY) (af).length cY, .int .i64 (lo), .int .i64 (hi)]) (by simp [results, Tryz.results41, go_sem, *]) rfl ?_
  have HR := aa (((((((HB1.out.dM 0 (.bool fo)).dM 1 (.bool st)).dM 2 (.bool ph)).dM 3 (.slice (aS) (stops).length cS)).dM 4 (.slice (aY) (af).length cY)).dM 5 (.int .i64 (lo))).dM 6 (.int .i64 (hi)))
  exact ⟨fo, st, ph, _, _, _, _, _, _, _, _, rfl, HR.out.src.mono (by omega), HR.out.but, HR.out.nu, HR.out.syn, HR.out.so.imp (fun x h => Or.inl h), HR.out.yo.imp (fun x h => Or.inl h), qi.out, Or.inl rfl, Or.inl rfl, Vd⟩
structure Fd where
 name:List UInt8
 kind:Int
 bf:Bool
 bA:Bool
 bp:Bool
 stops:List (List UInt8)
 af:List (List UInt8×List UInt8)
 lo:Int
 hi:Int
def fd0:Fd:=⟨[],0,false,false,false,[],[],0,0⟩
def fq(c:UInt8) :Bool:=decide (97≤(c.toNat:Int)) &&decide ((c.toNat:Int)≤122)
def F9(c:UInt8) :Bool:=decide (48≤(c.toNat:Int)) &&decide ((c.toNat:Int)≤57)
def sF(c:UInt8) :Bool:=fq c ||F9 c ||decide ((c.toNat:Int)=95)
def je(n:List UInt8) :Bool:=decide (1≤n.length) &&decide (n.length≤30) &&fq (n.getD 0 0) &&n.all sF
def qF(f:Fd) :Bool:= !f.bf&& !f.bA&& !f.bp&&decide (f.stops.length+f.af.length=0) &&decide (f.lo=0) &&decide (f.hi=0)
def kI(x y:List UInt8) :Bool:=Op.bytesLess x y ||x==y
def vQ(f:Fd) :Bool:=je f.name&&(if f.kind=1 then mq f.stops f.af f.lo f.hi else if f.kind=2∨f.kind=3 then qF f else false)
def jm(l:List Fd)(i:Nat) :Bool:=vQ (l.getD i fd0) && !(decide (0<i) &&kI (l.getD i fd0).name (l.getD (i-1) fd0).name)
def jW(l:List Fd) :Bool:=decide (1≤l.length) &&decide (l.length≤16) &&(List.range l.length).all (jm l)
theorem ac5(f:Fd)(h:qF f=true) :mq f.stops f.af f.lo f.hi=true:=by simp only[qF,Bool.and_eq_true,decide_eq_true_eq]at h;obtain⟨⟨⟨_,h1⟩,h2⟩,h3⟩ :=h;have e1:f.stops= [] :=List.length_eq_zero_iff.1 (by omega);have e2:f.af= [] :=List.length_eq_zero_iff.1 (by omega);rw[e1,e2,h2,h3];rfl
theorem Oe(f:Fd) :vQ f=(je f.name&&decide (1≤f.kind) &&decide (f.kind≤3) &&mq f.stops f.af f.lo f.hi&&(decide (f.kind=1)||qF f)) :=by
 unfold vQ;by_cases h1:f.kind=1;·rw[if_pos h1,decide_eq_true h1,decide_eq_true (p:=1≤f.kind) (by omega),decide_eq_true (p:=f.kind≤3) (by omega)];simp
 ·rw[if_neg h1,decide_eq_false h1];by_cases h2:f.kind=2∨f.kind=3
  ·rw[if_pos h2,decide_eq_true (p:=1≤f.kind) (by omega),decide_eq_true (p:=f.kind≤3) (by omega)];cases hz:qF f with
   |true=>rw[ac5 f hz];simp
   |false=>simp
  ·rw[if_neg h2];by_cases h3:1≤f.kind;·rw[decide_eq_false (p:=f.kind≤3) (by omega)];simp
   ·rw[decide_eq_false h3];simp
theorem pR(p:Nat→Bool)(n k:Nat)(h:(List.range k).all p=true)(hp:p k=true) :(List.range (k+1)).all p=true:=by rw[List.range_succ,List.all_append,h];simpa using hp
theorem OU {l:List Fd} {k:Nat}(hk:k<l.length)(h:jm l k=false) :jW l=false:=by
 unfold jW;have:(List.range l.length).all (jm l)=false:=by rw[List.all_eq_false];exact⟨k,List.mem_range.2 hk,by simp[h]⟩
 rw[this];simp
theorem DX {l:List Fd}(h:l.length<1∨16<l.length) :jW l=false:=by
 unfold jW;rcases h with h|h;·rw[decide_eq_false (p:=1≤l.length) (by omega)];simp
 ·rw[decide_eq_false (p:=l.length≤16) (by omega)];simp
theorem J7 {l:List Fd}(h1:1≤l.length)(h2:l.length≤16)(h:(List.range l.length).all (jm l)=true) :jW l=true:=by unfold jW;rw[decide_eq_true h1,decide_eq_true h2,h];rfl
theorem OT {n:List UInt8} {k:Nat}(hk:k<n.length)(h:sF (n.getD k 0)=false) :je n=false:=by
 unfold je;have:n.all sF=false:=by rw[List.all_eq_false];refine⟨n.getD k 0,?_,by rw[h];simp⟩;rw[List.getD_eq_getElem?_getD,List.getElem?_eq_getElem hk,Option.getD_some];exact List.getElem_mem _
 rw[this];simp
end Go.Proofs.YtcjiphknpagenaaGreatDoor
