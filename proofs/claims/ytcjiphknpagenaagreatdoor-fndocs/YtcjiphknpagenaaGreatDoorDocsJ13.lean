import Derived.Test.YtcjiphknpagenaaGreatDoorDocsJ10
import Derived.Test.YtcjiphknpagenaaGreatDoorDocsJ01
import Derived.Test.YtcjiphknpagenaaGreatDoorDocsJ04
import Derived.Test.YtcjiphknpagenaaGreatDoorDocsJ12
import Derived.Deep.Heap
import Derived.Test.YtcjiphknpagenaaGreatDoorDocsJ05
import Derived.WalkLawsBesides
import Derived.BigQuiet
import Derived.Deep.QuietTactic
import Derived.Deep.RegionWith
import Derived.Deep.CutBlock
import Derived.Test.YtcjiphknpagenaaGreatDoorDocsJ02
import Derived.Ground.NamesProg
import Derived.Shelf.Unicode.ValidAny
import Derived.Shelf.Strings.Builder1
import Derived.Shelf.Strings.Builder2
import Derived.Shelf.Small.Utf8
import Derived.Shelf.Small.Strs
import Derived.Shelf.Small.Wraps
import Derived.Shelf.Strings.BuilderF
import Derived.Shelf.Strings.BuilderK
import Derived.Shelf.Strings.BuilderRune
import Derived.Shelf.Utf8.RuneCount
import Derived.Shelf.Strings.Builder2Cap
import Derived.Shelf.Strconv.Itoa0
import Derived.Shelf.LaysM
import Derived.Shelf.Strconv.Clone
import Derived.Shelf.Strings.Search1
import Derived.Shelf.Strings.Prefix
import Derived.Shelf.Strings.Runes
import Derived.Shelf.Strings.IndexAny
import Derived.Shelf.Strings.AsciiSet
import Derived.Shelf.Strings.IndexAnyAll
import Derived.Shelf.Slices.Turned
import Derived.Test.YtcjiphknpagenaaGreatDoorProg
import Derived.Test.YtcjiphknpagenaaGreatDoorDocsJ00
namespace Go.Proofs.YtcjiphknpagenaaGreatDoor
open Go Go.RowKit
set_option linter.unusedVariables false
theorem nW {X:Type}(p:X→Bool)(l:List X)(d:X) {k:Nat}(hk:k<l.length)(h:(l.take k).all p=true)(hp:p (l.getD k d)=true) :(l.take (k+1)).all p=true:=by rw[List.take_succ_eq_append_getElem hk,List.all_append,h];rw[List.getD_eq_getElem?_getD,List.getElem?_eq_getElem hk]at hp;simpa using hp
theorem ou {X:Type}(p:X→Bool)(l:List X)(d:X) {k:Nat}(hk:k<l.length)(hp:p (l.getD k d)=false) :l.all p=false:=by rw[List.all_eq_false];rw[List.getD_eq_getElem?_getD,List.getElem?_eq_getElem hk]at hp;exact⟨l[k],List.getElem_mem hk,by simpa using hp⟩
theorem getD_in {X:Type} {l:List X} {d:X} {k:Nat}(hk:k<l.length) :l.getD k d∈l:=by rw[List.getD_eq_getElem?_getD,List.getElem?_eq_getElem hk];exact List.getElem_mem hk
def wJ(c:UInt8) :Bool:=decide (33≤(c.toNat:Int)) &&decide ((c.toNat:Int)≤126)
def sI(id:List UInt8) :Bool:=decide (1≤id.length) &&decide (id.length≤30) &&id.all wJ
def gJ(tx:List (List UInt8)) :Nat:=(tx.map List.length).sum
def dR(V:List Vl) :Nat:=(V.map fun v=>gJ v.2.1).sum
def dL(l:List Fd)(n:List UInt8) :Nat:=l.findIdx fun f=>f.name==n
def xZ(f:Fd)(t:List UInt8) :Int:=(oU f.bf f.bA f.bp f.stops f.af f.lo f.hi (bs t)).2
def iX(f:Fd)(t:List UInt8) :Bool:=if f.kind=2 then lu t else decide (xZ f t=0)
def rM(f:Fd)(v:Vl) :Bool:=decide (v.2.2.length=0) &&decide (1≤v.2.1.length) &&decide (v.2.1.length≤16) &&v.2.1.all (iX f)
def wZ(v:Vl) :Bool:=decide (v.2.1.length=0) &&decide (1≤v.2.2.length) &&decide (v.2.2.length≤16) &&v.2.2.all dU
def mX(f:Fd)(v:Vl) :Bool:=if f.kind=3 then wZ v else rM f v
def qB(l:List Fd)(v:Vl) :Bool:=decide (dL l v.1<l.length) &&mX (l.getD (dL l v.1) fd0) v
def kS(l:List Fd)(V:List Vl)(i:Nat) :Bool:=qB l (V.getD i aQ) && !(decide (0<i) &&kI (V.getD i aQ).1 (V.getD (i-1) aQ).1)
def jG(l:List Fd)(id:List UInt8)(V:List Vl) :Bool:=sI id&&decide (dR V≤4000) &&(List.range V.length).all (kS l V)
theorem abW {l:List Fd} {id:List UInt8} {V:List Vl} {k:Nat}(hk:k<V.length)(h:kS l V k=false) :jG l id V=false:=by
 unfold jG;have:(List.range V.length).all (kS l V)=false:=by rw[List.all_eq_false];exact⟨k,List.mem_range.2 hk,by simp[h]⟩
 rw[this];simp
theorem Tg {l:List Fd} {id:List UInt8} {V:List Vl}(h:sI id=false) :jG l id V=false:=by unfold jG;rw[h];simp
theorem Ku {l:List Fd} {id:List UInt8} {V:List Vl}(h:4000<dR V) :jG l id V=false:=by unfold jG;rw[decide_eq_false (p:=dR V≤4000) (by omega)];simp
theorem Rb {f:Fd} {t:List UInt8}(h:xZ f t=0) :bM (bs t)=true:=by
 unfold xZ oU at h;split at h;·simp at h
 ·split at h
  ·split at h
   ·rename_i hb;unfold dI at hb;split at hb
    ·rename_i hd;unfold aJ at hd;split at hd;·simp at hd
     ·split at hd;·assumption
      ·simp at hd
    ·rename_i hd;exact absurd hb hd
   ·rename_i hb;exact absurd h hb
  ·simp at h
theorem MP {f:Fd} {t:List UInt8}(h:iX f t=true) :bM (bs t)=true:=by
 unfold iX at h;split at h;·unfold lu at h;simp at h;exact h.2
 ·exact Rb (of_decide_eq_true h)
theorem AA {tx:List (List UInt8)} {t:List UInt8}(h:t∈tx) :t.length≤gJ tx:=by
 induction tx with
 |nil=>simp at h
 |cons x r ih=>
  simp only[gJ,List.map_cons,List.sum_cons]at ih⊢;rcases List.mem_cons.1 h with rfl|h;·omega
  ·have:=ih h;omega
theorem BS {V:List Vl} {v:Vl}(h:v∈V) :gJ v.2.1≤dR V:=by
 induction V with
 |nil=>simp at h
 |cons x r ih=>
  simp only[dR,List.map_cons,List.sum_cons]at ih⊢;rcases List.mem_cons.1 h with rfl|h;·omega
  ·have:=ih h;omega
theorem KS(ns:List Nat) {k:Nat}(hk:k<ns.length) :(ns.take (k+1)).sum=(ns.take k).sum+ns.getD k 0:=by rw[List.take_add_one,List.sum_append];simp[hk]
theorem zB(tx:List (List UInt8)) {k:Nat}(hk:k<tx.length) :gJ (tx.take (k+1))=gJ (tx.take k)+(tx.getD k []).length:=by unfold gJ;rw[List.map_take,List.map_take,KS _ (by simpa using hk)];simp[hk]
theorem Ex(V:List Vl) {k:Nat}(hk:k<V.length) :dR (V.take (k+1))=dR (V.take k)+gJ (V.getD k aQ).2.1:=by unfold dR;rw[List.map_take,List.map_take,KS _ (by simpa using hk)];simp[hk]
theorem CQ(ns:List Nat)(k:Nat) :(ns.take k).sum≤ns.sum:=by
 have:(ns.take k).sum+(ns.drop k).sum=ns.sum:=by rw[←List.sum_append,List.take_append_drop]
 omega
theorem uy(tx:List (List UInt8))(k:Nat) :gJ (tx.take k)≤gJ tx:=by unfold gJ;rw[List.map_take];exact CQ _ _
theorem Ap(V:List Vl)(k:Nat) :dR (V.take k)≤dR V:=by unfold dR;rw[List.map_take];exact CQ _ _
theorem MF(a b:UInt8)(x y:List UInt8) :kI (a::x) (b::y)=(decide (a.toNat<b.toNat)|| (decide (a.toNat=b.toNat) &&kI x y)) :=by
 unfold kI;rw[Op.bytesLess];rcases Nat.lt_trichotomy a.toNat b.toNat with h|h|h;·have h1:a<b:=h;simp[h1,h]
 ·have h1:a=b:=UInt8.toNat_inj.1 h;subst h1;have h2: ¬a<a:=fun e=>Nat.lt_irrefl a.toNat e;simp[h2]
 ·have h1: ¬a<b:=fun e=>by have e2:a.toNat<b.toNat:=e;omega
  have h2: ¬a=b:=fun e=>by rw[e]at h;omega
  have h3: ¬a.toNat<b.toNat:=by omega
  have h4: ¬a.toNat=b.toNat:=by omega
  simp[h1,h2,h3,h4]
theorem NQ(y:List UInt8) :kI [] y=true:=by cases y<;>rfl
theorem MJ(y:List UInt8) :kI y y=true:=by unfold kI;simp
theorem JU: ∀(x y z:List UInt8),kI x z=true→kI x y=true∨kI y z=true
 | [],y,z,_=>Or.inl (NQ y)
 |a::x,[],z,_=>Or.inr (NQ z)
 |a::x,b::y,[],h=>by simp[kI,Op.bytesLess]at h
 |a::x,b::y,c::z,h=>by
  have ih:=JU x y z;rw[MF]at h⊢;rw[MF];simp only[Bool.or_eq_true,Bool.and_eq_true,decide_eq_true_eq]at h⊢;by_cases h1:a.toNat<b.toNat;·exact Or.inl (Or.inl h1)
  ·by_cases h2:b.toNat<c.toNat;·exact Or.inr (Or.inl h2)
   ·rcases h with h| ⟨h3,h4⟩;·omega
    ·rcases ih h4 with h5|h5;·exact Or.inl (Or.inr ⟨by omega,h5⟩)
     ·exact Or.inr (Or.inr ⟨by omega,h5⟩)
theorem aaB {x y z:List UInt8}(h1:kI x y=false)(h2:kI y z=false) :kI x z=false:=by
 cases h:kI x z with
 |false=>rfl
 |true=>rcases JU x y z h with h3|h3<;>simp[h1,h2]at h3
theorem YO {α:Type} [DecidableEq α] : ∀(a b:List α),a.Nodup→(∀x∈a,x∈b)→a.length≤b.length
 | [],b,_,_=>Nat.zero_le _
 |x::a,b,hn,hs=>by have hx:x∈b:=hs x List.mem_cons_self;obtain⟨hxa,hna⟩ :=List.nodup_cons.1 hn;have h1:=YO a (b.erase x) hna fun y hy=>(List.mem_erase_of_ne (fun e:y=x=>hxa (by rw[←e];exact hy))).2 (hs y (List.mem_cons_of_mem _ hy));have h2:=List.length_erase_of_mem hx;have h3:0<b.length:=List.length_pos_of_mem hx;simp only[List.length_cons];omega
theorem Gp {N:Nat→List UInt8} {n:Nat}(h: ∀i,0<i→i<n→kI (N i) (N (i-1))=false) : ∀(d i:Nat),i+d+1<n→kI (N (i+d+1)) (N i)=false
 |0,i,hi=>h (i+1) (by omega) (by omega)
 |d+1,i,hi=>aaB (h (i+(d+1)+1) (by omega) hi) (Gp h d i (by omega))
theorem uf {l:List Fd} {n:List UInt8}(h:dL l n<l.length) :(l.getD (dL l n) fd0).name=n:=by have:=List.findIdx_getElem (w:=h);rw[List.getD_eq_getElem?_getD,List.getElem?_eq_getElem h,Option.getD_some];exact eq_of_beq this
theorem ZI {l:List Fd} {id:List UInt8} {V:List Vl}(h:l.length<V.length) :jG l id V=false:=by
 cases hd:jG l id V with
 |false=>rfl
 |true=>
  exfalso;unfold jG at hd;simp only[Bool.and_eq_true,List.all_eq_true,List.mem_range]at hd;have hv: ∀i,i<V.length→qB l (V.getD i aQ)=true∧(0<i→kI (V.getD i aQ).1 (V.getD (i-1) aQ).1=false) :=fun i hi=>by have:=hd.2 i hi;unfold kS at this;simp only[Bool.and_eq_true,Bool.not_eq_true']at this;refine⟨this.1,fun h0=> ?_⟩;have h2:=this.2;simpa[h0]using h2
  have hr:=Gp (N:=fun i=>(V.getD i aQ).1) (n:=V.length) fun i h0 hi=>(hv i hi).2 h0;have hlen:=YO (V.map fun v=>v.1) (l.map fun f=>f.name) (by
   rw[List.Nodup,List.pairwise_iff_getElem];intro i j hi hj hij he;simp only[List.length_map]at hi hj;have h5:=hr (j-i-1) i (by omega);rw[show i+(j-i-1)+1=j by omega]at h5;have e1:(V.getD i aQ).1=(V.getD j aQ).1:=by simpa[List.getD_eq_getElem?_getD,hi,hj]using he
   rw[e1,MJ]at h5;cases h5) (by
   intro x hx;obtain⟨v,hv1,rfl⟩ :=List.mem_map.1 hx;obtain⟨i,hi,rfl⟩ :=List.getElem_of_mem hv1;have h6:=(hv i hi).1;have e2:V.getD i aQ=V[i] :=by simp[hi]
   rw[e2]at h6;unfold qB at h6;simp only[Bool.and_eq_true,decide_eq_true_eq]at h6;exact List.mem_map.2 ⟨_,getD_in (d:=fd0) h6.1,uf h6.1⟩);simp only[List.length_map]at hlen;omega
end Go.Proofs.YtcjiphknpagenaaGreatDoor
namespace Go.Proofs.YtcjiphknpagenaaGreatDoor
open Go Go.RowKit
set_option linter.unusedVariables false
theorem dX {w:World} {b:Nat} {cs:Array Value} {t:TypeId}(h:w.heap[b]?=some (.cells cs t))(k:Nat) :w.cell? ⟨b,k,none⟩=cs[k]?:=by simp[World.cell?,h]
theorem sV {w w':World} {b:Nat} {o:Obj}(h:w.heap[b]?=some o)(hb:Below w.heap.size w w') :w'.heap[b]?=some o:=(hb.block b (Array.getElem?_eq_some_iff.1 h).1).trans h
theorem SK(w:World)(o1 o2 o3:Obj) :let w':=((w.alloc o1).alloc o2).alloc o3
    w'.heap[w.heap.size]?=some o1∧w'.heap[w.heap.size+1]?=some o2∧w'.heap[w.heap.size+1+1]?=some o3:=by
  have s1:(w.alloc o1).heap.size=w.heap.size+1:=by simp
  have s2:((w.alloc o1).alloc o2).heap.size=w.heap.size+1+1:=by simp
  have a1:=heap_alloc_new w o1
  have a2:=heap_alloc_new (w.alloc o1) o2
  have a3:=heap_alloc_new ((w.alloc o1).alloc o2) o3
  rw[s1]at a2
  rw[s2]at a3
  have up: ∀(v:World)(o:Obj),Below v.heap.size v (v.alloc o) :=fun v o=>(Below.refl _ _).alloc (Nat.le_refl _) o
  exact⟨sV (sV a1 (up _ _)) (up _ _),sV a2 (up _ _),a3⟩
theorem kM {w:World} {base base' e sz n:Nat} {v:Value} {xs:List Value}(h:w.ownsRow base e sz v n xs)(hb:base'≤base) :w.ownsRow base' e sz v n xs:=by
 refine⟨h.1,?_⟩;rcases h.2 with h'| ⟨g,cap,cur,h1,h2,h3⟩;·exact Or.inl h'
 ·exact Or.inr ⟨g,cap,cur,h1,Nat.le_trans hb h2,h3⟩
end Go.Proofs.YtcjiphknpagenaaGreatDoor
namespace Go.Proofs.YtcjiphknpagenaaGreatDoor
open Go Go.RowKit
set_option linter.unusedVariables false
set_option maxRecDepth 100000
end Go.Proofs.YtcjiphknpagenaaGreatDoor
namespace Go.Proofs.YtcjiphknpagenaaGreatDoor
open Go Go.RowKit
set_option linter.unusedVariables false
set_option linter.unusedSimpArgs false
set_option maxRecDepth 100000
theorem IJ {w:World} {base:Nat} {v:Value} {l:List (List UInt8)}(h:w.ownsRow base 9 1 v l.length (l.map fun t=> .string ⟨t.toArray⟩)) : ∃a c,v= .slice a l.length c∧gN w a l:=by
 rcases h.2 with⟨rfl,h0⟩| ⟨g,cap,cur,rfl,_,hg,_⟩;·exact⟨none,0,by rw[h0],Or.inl (List.length_eq_zero_iff.1 h0)⟩
 ·refine⟨_,cap,rfl,Or.inr ⟨g,0,rfl,(Array.getElem?_eq_some_iff.1 hg).1,fun i hi=> ?_⟩⟩;rw[Nat.zero_add,h.cellAt i (by omega)];simp[List.getD_eq_getElem?_getD,hi]
theorem RX {w:World} {base:Nat} {v:Value} {l:List Int}(h:w.ownsRow base 3 1 v l.length (l.map (Value.int .i64))) : ∃a c,v= .slice a l.length c∧qD w a l:=by
 rcases h.2 with⟨rfl,h0⟩| ⟨g,cap,cur,rfl,_,hg,_⟩;·exact⟨none,0,by rw[h0],Or.inl (List.length_eq_zero_iff.1 h0)⟩
 ·refine⟨_,cap,rfl,Or.inr ⟨g,0,rfl,(Array.getElem?_eq_some_iff.1 hg).1,fun i hi=> ?_⟩⟩;rw[Nat.zero_add,h.cellAt i (by omega)];simp[List.getD_eq_getElem?_getD,hi]
theorem kC.hold {w:World} {lo hi:Nat} {a:Option Addr} {c:Nat} {V:List Vl} {xs:List Value}(h:kC w lo hi (.slice a V.length c) V xs) :gK w a V:=by
 rcases h.row.2 with⟨e,h0⟩| ⟨g,cap,cur,e,_,hg,_⟩;·exact Or.inl (List.length_eq_zero_iff.1 h0)
 ·simp only[Value.slice.injEq]at e;obtain⟨rfl,_,rfl⟩ :=e;refine Or.inr ⟨g,0,rfl,(Array.getElem?_eq_some_iff.1 hg).1,fun i hi'=> ?_⟩;obtain⟨vt,vn,q0,q1,q2,q3,q4⟩ :=h.val i hi';obtain⟨at_,ct,rfl,hT⟩ :=IJ q3;obtain⟨an,cn,rfl,hN⟩ :=RX q4;rw[Nat.zero_add];refine⟨?_,⟨at_,ct,?_,hT⟩,an,cn,?_,hN⟩;·rw[h.row.cellAt (i*3) (by omega)];exact q0
  ·rw[h.row.cellAt (i*3+1) (by omega)];exact q1
  ·rw[h.row.cellAt (i*3+2) (by omega)];exact q2
theorem Df {w:World}(m:Nat) :Below w.heap.size w (w.drewN m) :=below_drewN (Below.refl _ _) m
set_option maxHeartbeats 400000 in theorem Gg(b1 o1 c1 b2 o2 c2 n:Nat)(f:Nat→List UInt8)(w:World)(hn:n≤1048576)(h1: ∀t,t<n→w.cell? ⟨b1,o1+t,none⟩=some (.string ⟨(f t).toArray⟩))(h2: ∀t,t<n→w.cell? ⟨b2,o2+t,none⟩=some (.string ⟨(f t).toArray⟩)) :Calls Tryz.prog 14 #[.slice (some ⟨b1,o1,none⟩) n c1,.slice (some ⟨b2,o2,none⟩) n c2] w fun e w'=>e= .returned (.bool true)∧∃m,w'=w.drewN m:=by
 go_enter Tryz.func14,Tryz.ntmps14;go_wp2;go_loopw [5](fun i wr=>∃k:Nat,k≤n∧i= .int .i64 k∧∃m,wr=w.drewN m)(fun i _=>n-(intOf i).toNat);case atStart=>exact⟨0,Nat.zero_le _,rfl,0,rfl⟩
 case round=>
  obtain⟨k,hk,rfl,m,rfl⟩ :=hrel;by_cases hlt:k<n
  ·have g1:=h1 k hlt;have g2:=h2 k hlt;clear h1 h2;generalize(⟨(f k).toArray⟩ :ByteArray)=s at*;go_wp2;go_quiet(fail);go_wp2;go_roundw;case rel=>exact⟨k+1,by omega,by go_num,_,rfl⟩
   case measure=>simp[intOf];omega
  ·go_wp2;go_ret;exact⟨rfl,m,rfl⟩
set_option maxHeartbeats 400000 in theorem Gq(a1 a2:Option Addr)(c1 c2:Nat)(w:World) :Calls Tryz.prog 14 #[.slice a1 0 c1,.slice a2 0 c2] w fun e w'=>e= .returned (.bool true)∧w'=w:=by go_enter Tryz.func14,Tryz.ntmps14;go_wp2;refine wp_loop_rounds 1 ?_;rw[rounds_succ];go_wp2;go_ret;exact⟨rfl,rfl⟩
def Yw(w:World)(e:Ending)(w':World) :Prop:=e= .returned (.bool true)∧Below w.heap.size w w'
theorem Eo(a1 a2:Option Addr)(c1 c2:Nat)(l:List (List UInt8))(w:World)(hn:l.length≤1048576)(h1:gN w a1 l)(h2:gN w a2 l) :Calls Tryz.prog 14 #[.slice a1 l.length c1,.slice a2 l.length c2] w (Yw w) :=by
 by_cases h0:l.length=0;·rw[h0];exact(Gq a1 a2 c1 c2 w).mono fun e w'⟨p,q⟩=>⟨p,by rw[q];exact Below.refl _ _⟩
 ·obtain⟨b1,o1,rfl,_,k1⟩ :=h1.resolve_left (fun e=>h0 (by rw[e];rfl));obtain⟨b2,o2,rfl,_,k2⟩ :=h2.resolve_left (fun e=>h0 (by rw[e];rfl));exact(Gg b1 o1 c1 b2 o2 c2 l.length (fun t=>l.getD t []) w hn k1 k2).mono fun e w'⟨p,m,q⟩=>⟨p,by rw[q];exact Df m⟩
theorem Qo(a1 a2:Option Addr)(c1 c2:Nat)(l:List Int)(w:World)(hn:l.length≤1048576)(h1:qD w a1 l)(h2:qD w a2 l) :Calls Tryz.prog 32 #[.slice a1 l.length c1,.slice a2 l.length c2] w (Yw w) :=by
 by_cases h0:l.length=0;·rw[h0];exact(I5 a1 a2 c1 c2 w).mono fun e w'⟨p,q⟩=>⟨p,by rw[q];exact Below.refl _ _⟩
 ·obtain⟨b1,o1,rfl,_,k1⟩ :=h1.resolve_left (fun e=>h0 (by rw[e];rfl));obtain⟨b2,o2,rfl,_,k2⟩ :=h2.resolve_left (fun e=>h0 (by rw[e];rfl));exact(I8 b1 o1 c1 b2 o2 c2 l.length l w hn k1 k2).mono fun e w'⟨p,m,q⟩=>⟨p,by rw[q];exact Df m⟩
def BI(l:List Fd)(n:List UInt8) :Bool:=decide (dL l n<l.length) &&decide ((l.getD (dL l n) fd0).kind=2)
theorem VL {l:List Fd} {n:List UInt8} {k:Nat}(hk:k<l.length)(h: ∀j,j<k→(l.getD j fd0).name≠n)(he:(l.getD k fd0).name=n) :dL l n=k:=by
 unfold dL;rw[List.findIdx_eq hk];constructor;·rw[List.getD_eq_getElem?_getD,List.getElem?_eq_getElem hk]at he;exact beq_iff_eq.2 he
 ·intro j hj;have:=h j hj;rw[List.getD_eq_getElem?_getD,List.getElem?_eq_getElem (by omega)]at this;simpa using this
theorem Wx {l:List Fd} {n:List UInt8}(h: ∀j,j<l.length→(l.getD j fd0).name≠n) :dL l n=l.length:=by unfold dL;rw[List.findIdx_eq_length];intro x hx;obtain⟨j,hj,rfl⟩ :=List.getElem_of_mem hx;have:=h j hj;rw[List.getD_eq_getElem?_getD,List.getElem?_eq_getElem hj]at this;simpa using this
set_option maxHeartbeats 1000000 in theorem Qa(a:Option Addr)(cap:Nat)(l:List Fd)(n:List UInt8)(w:World)(hn:l.length≤1048576)(hH:jK w a l) :Calls Tryz.prog 13 #[.agg #[.slice a l.length cap],.string (bs n)] w fun e w'=>e= .returned (.bool (BI l n))∧Below w.heap.size w w':=by
 have HX:=aa (heap_alloc_new w (.cells #[.slice a l.length cap] 25));have HB:=aa ((Below.refl w.heap.size w).alloc (Nat.le_refl _) (.cells #[.slice a l.length cap] 25));have HH:=aa hH;obtain⟨B,hB⟩ : ∃b,BI l n=b:=⟨_,rfl⟩;have HW:=aa hB;rw[hB];clear hH hB;go_enter Tryz.func13,Tryz.ntmps13;go_upto_region 1 with fail;generalize w.alloc (.cells #[.slice a l.length cap] 25)=w1 at*;go_wp2_with fail;go_loopw [5](fun i wr=>∃k:Nat,k≤l.length∧i= .int .i64 k∧Below w1.heap.size w1 wr∧∀j,j<k→(l.getD j fd0).name≠n)(fun i _=>l.length-(intOf i).toNat);case atStart=>exact⟨0,Nat.zero_le _,rfl,Below.refl _ _,fun j hj=>by omega⟩
 case round=>
  obtain⟨k,hk,rfl,hbr,hno⟩ :=hrel;have bg:=aa (HB.out.trans (hbr.mono HB.out.size));have YK:=aa hbr;have hX:=aD HX.out hbr;have s0:wr.cell? ⟨w.heap.size,0,none⟩=some (.slice a l.length cap) :=ah hX 0;have fB:=aa hno;clear hbr hno hX;by_cases hlt:k<l.length
  ·obtain⟨bl,iE,rfl,nk,hcl⟩ :=(HH.out.below bg.out).resolve_left (fun h=>by rw[h]at hlt;simp at hlt);have hkz:(k:Int)<(l.length:Int) :=by omega
   have g0:=(hcl k hlt).1;have g1:=(hcl k hlt).2.1;clear hcl;by_cases he:(l.getD k fd0).name=n
   ·have hix:=VL hlt fB.out he;have hw:decide ((l.getD k fd0).kind=2)=B:=by rw[←HW.out];unfold BI;rw[hix,decide_eq_true hlt];simp
    have HQ:=aa hw;rw[he]at g0;generalize(l.getD k fd0).kind=kd at*;clear hw hix he;go_wp2_with fail;go_ret;exact⟨by rw[←HQ.out];rfl,bg.out⟩
   ·have hne:((bs (l.getD k fd0).name).toList==(bs n).toList)=false:=by rw[Lib.toList_data,Lib.toList_data];show(ai (bs _)==ai (bs _))=false;rw[bH,bH];exact beq_eq_false_iff_ne.2 he
    have HE:=aa he;generalize hnm:(l.getD k fd0).name=nm at*;have HM:=aa hnm;clear hnm he;go_wp2_with fail;go_roundw;case rel=>
     exact⟨k+1,by omega,by go_num,YK.out,fun j hj=>by
      rcases Nat.lt_or_ge j k with h|h;·exact fB.out j h
      ·rw[show j=k by omega,HM.out];exact HE.out⟩
    case measure=>simp[intOf];omega
  ·have hix:=Wx (l:=l) (n:=n) (fun j hj=>fB.out j (by omega));have hw:false=B:=by rw[←HW.out];unfold BI;rw[hix];simp
   have HQ:=aa hw;clear hw hix;have hkz: ¬(k:Int)<(l.length:Int) :=by omega
   go_wp2_with fail;go_ret;exact⟨by rw[←HQ.out];rfl,bg.out⟩
end Go.Proofs.YtcjiphknpagenaaGreatDoor
namespace Go.Proofs
open Go.Shelf
def Tryz.laysValid_ren:Go.Shelf.Ren:=⟨fun|196=>114|259=>134|n=>n,fun|9=>9|4=>4|3=>3|5=>5|12=>12|119=>155|0=>0|46=>89|139=>158|138=>157|53=>88|n=>n,fun|3=>1|4=>2|n=>n⟩
theorem Tryz.laysValid:Go.Proofs.Lays.n196 Tryz.prog Tryz.laysValid_ren:={
  mixed:=by kernel_rfl
  f196:=Tryz.func114.trans (congrArg some (by kernel_rfl))
  f259:=Tryz.func134.trans (congrArg some (by kernel_rfl))
  t0:=Tryz.underlying0
  a0:=Tryz.isAgg0
  z0:=Tryz.sizeOf0
  v0:=Tryz.zeroValue0
  t3:=Tryz.underlying3
  a3:=Tryz.isAgg3
  z3:=Tryz.sizeOf3
  v3:=Tryz.zeroValue3
  t4:=Tryz.underlying4
  a4:=Tryz.isAgg4
  z4:=Tryz.sizeOf4
  v4:=Tryz.zeroValue4
  t5:=Tryz.underlying5
  a5:=Tryz.isAgg5
  z5:=Tryz.sizeOf5
  v5:=Tryz.zeroValue5
  t9:=Tryz.underlying9
  a9:=Tryz.isAgg9
  z9:=Tryz.sizeOf9
  v9:=Tryz.zeroValue9
  t12:=Tryz.underlying12
  a12:=Tryz.isAgg12
  z12:=Tryz.sizeOf12
  v12:=Tryz.zeroValue12
  t46:=Tryz.underlying89
  a46:=Tryz.isAgg89
  z46:=Tryz.sizeOf89
  v46:=Tryz.zeroValue89
  t53:=Tryz.underlying88
  a53:=Tryz.isAgg88
  z53:=Tryz.sizeOf88
  v53:=Tryz.zeroValue88
  t119:=Tryz.underlying155
  a119:=Tryz.isAgg155
  z119:=Tryz.sizeOf155
  t138:=Tryz.underlying157
  a138:=Tryz.isAgg157
  z138:=Tryz.sizeOf157
  v138:=Tryz.zeroValue157
  t139:=Tryz.underlying158
  a139:=Tryz.isAgg158
  z139:=Tryz.sizeOf158
  v139:=Tryz.zeroValue158
  g3:=by kernel_rfl
  g4:=by kernel_rfl}
def Tryz.lays169_ren:Go.Shelf.Ren:=⟨fun|169=>148|n=>n,fun|70=>171|9=>9|0=>0|72=>173|37=>22|127=>147|3=>3|5=>5|n=>n,fun|n=>n⟩
theorem Tryz.lays169:Go.Proofs.Lays.n169 Tryz.prog Tryz.lays169_ren:={
  mixed:=by kernel_rfl
  f169:=Tryz.func148.trans (congrArg some (by kernel_rfl))
  t0:=Tryz.underlying0
  a0:=Tryz.isAgg0
  z0:=Tryz.sizeOf0
  v0:=Tryz.zeroValue0
  t3:=Tryz.underlying3
  a3:=Tryz.isAgg3
  z3:=Tryz.sizeOf3
  v3:=Tryz.zeroValue3
  t9:=Tryz.underlying9
  a9:=Tryz.isAgg9
  z9:=Tryz.sizeOf9
  v9:=Tryz.zeroValue9
  t37:=Tryz.underlying22
  a37:=Tryz.isAgg22
  z37:=Tryz.sizeOf22
  v37:=Tryz.zeroValue22
  t70:=Tryz.underlying171
  a70:=Tryz.isAgg171
  z70:=Tryz.sizeOf171
  v70:=Tryz.zeroValue171
  t72:=Tryz.underlying173
  a72:=Tryz.isAgg173
  z72:=Tryz.sizeOf173
  v72:=Tryz.zeroValue173
  t127:=Tryz.underlying147
  a127:=Tryz.isAgg147
  z127:=Tryz.sizeOf147
  v127:=Tryz.zeroValue147}
theorem Tryz.Builder_Extra_169:Builder.Extra Tryz.prog Tryz.lays169_ren:={
  sizeBuilder:=by kernel_rfl
  liesBuilder:=by kernel_rfl
  t5:=Tryz.underlying5
  a5:=Tryz.isAgg5
  z5:=Tryz.sizeOf5
  v5:=Tryz.zeroValue5
  infoByte:=by kernel_rfl
  cellsByte:=by kernel_rfl
  sizeByte:=by kernel_rfl
  neB5:=by decide}
open Go.RowKit in open Go.RowKit in open Go.RowKit in open Go.RowKit in def Tryz.lays165_ren:Go.Shelf.Ren:=⟨fun|165=>145|240=>159|241=>160|276=>167|277=>168|n=>n,fun|70=>171|3=>3|0=>0|4=>4|9=>9|20=>20|72=>173|37=>22|164=>184|5=>5|n=>n,fun|n=>n⟩
theorem Tryz.lays165:Go.Proofs.Lays.n165 Tryz.prog Tryz.lays165_ren:={
  mixed:=by kernel_rfl
  f165:=Tryz.func145.trans (congrArg some (by kernel_rfl))
  f240:=Tryz.func159.trans (congrArg some (by kernel_rfl))
  f241:=Tryz.func160.trans (congrArg some (by kernel_rfl))
  f276:=Tryz.func167.trans (congrArg some (by kernel_rfl))
  f277:=Tryz.func168.trans (congrArg some (by kernel_rfl))
  t0:=Tryz.underlying0
  a0:=Tryz.isAgg0
  z0:=Tryz.sizeOf0
  v0:=Tryz.zeroValue0
  t3:=Tryz.underlying3
  a3:=Tryz.isAgg3
  z3:=Tryz.sizeOf3
  v3:=Tryz.zeroValue3
  t4:=Tryz.underlying4
  a4:=Tryz.isAgg4
  z4:=Tryz.sizeOf4
  v4:=Tryz.zeroValue4
  t9:=Tryz.underlying9
  a9:=Tryz.isAgg9
  z9:=Tryz.sizeOf9
  v9:=Tryz.zeroValue9
  t20:=Tryz.underlying20
  a20:=Tryz.isAgg20
  z20:=Tryz.sizeOf20
  v20:=Tryz.zeroValue20
  t37:=Tryz.underlying22
  a37:=Tryz.isAgg22
  z37:=Tryz.sizeOf22
  v37:=Tryz.zeroValue22
  t70:=Tryz.underlying171
  a70:=Tryz.isAgg171
  z70:=Tryz.sizeOf171
  v70:=Tryz.zeroValue171
  t72:=Tryz.underlying173
  a72:=Tryz.isAgg173
  z72:=Tryz.sizeOf173
  v72:=Tryz.zeroValue173
  t164:=Tryz.underlying184
  a164:=Tryz.isAgg184
  z164:=Tryz.sizeOf184
  v164:=Tryz.zeroValue184}
theorem Tryz.Builder_Extra_165:Builder.Extra Tryz.prog Tryz.lays165_ren:={
  sizeBuilder:=by kernel_rfl
  liesBuilder:=by kernel_rfl
  t5:=Tryz.underlying5
  a5:=Tryz.isAgg5
  z5:=Tryz.sizeOf5
  v5:=Tryz.zeroValue5
  infoByte:=by kernel_rfl
  cellsByte:=by kernel_rfl
  sizeByte:=by kernel_rfl
  neB5:=by decide}
open Go.RowKit in theorem Tryz.Builder_Grow_fresh(B b n:Nat)(w:World)(hB:B≤b)(hbk:w.heap[b]?=some (.cells #[.pointer none,.slice none 0 0] 173 (0,0)))(hBw:B≤w.heap.size)(hn:n≤281474976710656) :Calls Tryz.prog 145 #[.pointer (some ⟨b,0,none⟩),.int .i64 n] w fun e w'=>e= .returned (.tuple #[])∧(Lib.BuilderAt 173 5 B b (.pointer (some ⟨b,0,none⟩)) [] w'∧Below B w w') :=Any.Builder_Grow_fresh Tryz.lays165 Tryz.Builder_Extra_165 B b n w hB hbk hBw hn
def Tryz.lays118_ren:Go.Shelf.Ren:=⟨fun|118=>107|n=>n,fun|21=>21|3=>3|4=>4|n=>n,fun|n=>n⟩
theorem Tryz.lays118:Go.Proofs.Lays.n118 Tryz.prog Tryz.lays118_ren:={
  mixed:=by kernel_rfl
  f118:=Tryz.func107.trans (congrArg some (by kernel_rfl))
  t3:=Tryz.underlying3
  a3:=Tryz.isAgg3
  z3:=Tryz.sizeOf3
  v3:=Tryz.zeroValue3
  t4:=Tryz.underlying4
  a4:=Tryz.isAgg4
  z4:=Tryz.sizeOf4
  v4:=Tryz.zeroValue4
  t21:=Tryz.underlying21
  a21:=Tryz.isAgg21
  z21:=Tryz.sizeOf21
  v21:=Tryz.zeroValue21}
theorem Tryz.utf8_RuneLen(r:Int)(w:World) :Calls Tryz.prog 107 #[.int .i32 r] w fun e w'=>e= .returned (.int .i64 (Lib.runeLen r))∧w'=w:=Any.utf8_RuneLen Tryz.lays118 r w
def Tryz.lays137_ren:Go.Shelf.Ren:=⟨fun|137=>171|217=>177|266=>181|n=>n,fun|9=>9|5=>5|3=>3|n=>n,fun|n=>n⟩
theorem Tryz.lays137:Go.Proofs.Lays.n137 Tryz.prog Tryz.lays137_ren:={
  mixed:=by kernel_rfl
  f137:=Tryz.func171.trans (congrArg some (by kernel_rfl))
  f217:=Tryz.func177.trans (congrArg some (by kernel_rfl))
  f266:=Tryz.func181.trans (congrArg some (by kernel_rfl))
  t3:=Tryz.underlying3
  a3:=Tryz.isAgg3
  z3:=Tryz.sizeOf3
  v3:=Tryz.zeroValue3
  t5:=Tryz.underlying5
  a5:=Tryz.isAgg5
  z5:=Tryz.sizeOf5
  v5:=Tryz.zeroValue5
  t9:=Tryz.underlying9
  a9:=Tryz.isAgg9
  z9:=Tryz.sizeOf9
  v9:=Tryz.zeroValue9}
open Go.RowKit in theorem Tryz.strings_IndexByte(s:ByteArray)(c:Int)(w:World) :Calls Tryz.prog 171 #[.string s,.int .u8 c] w fun e w'=>e= .returned (.int .i64 (Lib.indexByte s.data.toList c.toNat.toUInt8))∧w'=w:=Any.strings_IndexByte Tryz.lays137 s c w
open Go.RowKit in def Tryz.lays104_ren:Go.Shelf.Ren:=⟨fun|104=>155|211=>166|207=>172|n=>n,fun|9=>9|4=>4|24=>179|3=>3|n=>n,fun|n=>n⟩
theorem Tryz.lays104:Go.Proofs.Lays.n104 Tryz.prog Tryz.lays104_ren:={
  mixed:=by kernel_rfl
  f104:=Tryz.func155.trans (congrArg some (by kernel_rfl))
  f207:=Tryz.func172.trans (congrArg some (by kernel_rfl))
  f211:=Tryz.func166.trans (congrArg some (by kernel_rfl))
  t3:=Tryz.underlying3
  a3:=Tryz.isAgg3
  z3:=Tryz.sizeOf3
  v3:=Tryz.zeroValue3
  t4:=Tryz.underlying4
  a4:=Tryz.isAgg4
  z4:=Tryz.sizeOf4
  v4:=Tryz.zeroValue4
  t9:=Tryz.underlying9
  a9:=Tryz.isAgg9
  z9:=Tryz.sizeOf9
  v9:=Tryz.zeroValue9
  t24:=Tryz.underlying179
  a24:=Tryz.isAgg179
  z24:=Tryz.sizeOf179
  v24:=Tryz.zeroValue179}
open Go.RowKit in theorem Tryz.strings_CutSuffix(s p:ByteArray)(w:World)(hs:s.size≤9223372036854775807) :Calls Tryz.prog 155 #[.string s,.string p] w fun e w'=>e= .returned (.tuple #[.string ⟨(Lib.trimSuffix s.data.toList p.data.toList).toArray⟩,.bool (Lib.hasSuffix s.data.toList p.data.toList)])∧w'=w:=Any.strings_CutSuffix Tryz.lays104 s p w hs
open Go.RowKit in open Go.RowKit in open Go.RowKit in open Go.RowKit in open Go.RowKit in open Go.RowKit in theorem Tryz.Builder_String_any_k(B b:Nat)(l:List UInt8)(w:World)(h:Lib.IsBuilderF 173 5 B b (Lib.byteCells l) w)(hBw:B≤w.heap.size) :Calls Tryz.prog 148 #[.pointer (some ⟨b,0,none⟩)] w fun e w'=>e= .returned (.string ⟨l.toArray⟩)∧(Lib.IsBuilderF 173 5 B b (Lib.byteCells l) w'∧Below B w w'∧Lib.OthersKept 5 (some b) w w') :=Any.Builder_String_any_k Tryz.lays169 Tryz.Builder_Extra_169 B b l w h hBw
def Tryz.lays195_ren:Go.Shelf.Ren:=⟨fun|195=>157|n=>n,fun|9=>9|3=>3|0=>0|4=>4|n=>n,fun|n=>n⟩
theorem Tryz.lays195:Go.Proofs.Lays.n195 Tryz.prog Tryz.lays195_ren:={
  mixed:=by kernel_rfl
  f195:=Tryz.func157.trans (congrArg some (by kernel_rfl))
  t0:=Tryz.underlying0
  a0:=Tryz.isAgg0
  z0:=Tryz.sizeOf0
  v0:=Tryz.zeroValue0
  t3:=Tryz.underlying3
  a3:=Tryz.isAgg3
  z3:=Tryz.sizeOf3
  v3:=Tryz.zeroValue3
  t4:=Tryz.underlying4
  a4:=Tryz.isAgg4
  z4:=Tryz.sizeOf4
  v4:=Tryz.zeroValue4
  t9:=Tryz.underlying9
  a9:=Tryz.isAgg9
  z9:=Tryz.sizeOf9
  v9:=Tryz.zeroValue9}
open Go.RowKit in theorem Tryz.utf8_RuneCountInString(s:ByteArray)(w:World)(hs:s.size<9223372036854775807) :Calls Tryz.prog 157 #[.string s] w fun e w'=>e= .returned (.int .i64 (Lib.runeCount s))∧∃pos,w'=w.iter s pos:=Any.utf8_RuneCountInString Tryz.lays195 s w hs
open Go.RowKit in open Go.RowKit in def Tryz.laysM316_ren:Go.Shelf.Ren:=⟨fun|316=>99|n=>n,fun|9=>9|3=>3|4=>4|37=>22|0=>0|127=>147|5=>5|n=>n,fun|n=>n⟩
theorem Tryz.laysM316:Go.Proofs.LaysM.n316 Tryz.prog Tryz.laysM316_ren:={
  mixed:=by kernel_rfl
  f316:=Tryz.func99.trans (congrArg some (by kernel_rfl))
  t0:=Tryz.underlying0
  a0:=Tryz.isAgg0
  z0:=Tryz.sizeOf0
  v0:=Tryz.zeroValue0
  t3:=Tryz.underlying3
  a3:=Tryz.isAgg3
  z3:=Tryz.sizeOf3
  v3:=Tryz.zeroValue3
  t4:=Tryz.underlying4
  a4:=Tryz.isAgg4
  z4:=Tryz.sizeOf4
  v4:=Tryz.zeroValue4
  t9:=Tryz.underlying9
  a9:=Tryz.isAgg9
  z9:=Tryz.sizeOf9
  v9:=Tryz.zeroValue9
  t37:=Tryz.underlying22
  a37:=Tryz.isAgg22
  z37:=Tryz.sizeOf22
  v37:=Tryz.zeroValue22
  t127:=Tryz.underlying147
  a127:=Tryz.isAgg147
  z127:=Tryz.sizeOf147
  v127:=Tryz.zeroValue147
  t5:=Tryz.underlying5
  a5:=Tryz.isAgg5
  z5:=Tryz.sizeOf5
  v5:=Tryz.zeroValue5
  i0:=by kernel_rfl
  i3:=by kernel_rfl
  i4:=by kernel_rfl
  i5:=by kernel_rfl
  i9:=by kernel_rfl
  i37:=by kernel_rfl
  i127:=by kernel_rfl}
open Go.RowKit in theorem Tryz.stringslite_Clone(s:ByteArray)(w:World)(hlim:s.size≤281474976710656) :Calls Tryz.prog 99 #[.string s] w fun e w'=>e= .returned (.string s)∧Below w.heap.size w w':=Any.stringslite_Clone Tryz.laysM316 s w hlim
open Go.RowKit Go.Lib in open Go.RowKit Go.Lib in open Go.RowKit Go.Lib in open Go.RowKit Go.Lib in open Go.RowKit Go.Lib in open Go.RowKit Go.Lib in open Go.RowKit Go.Lib in open Go.RowKit Go.Lib in open Go.RowKit Go.Lib in open Go.RowKit Go.Lib in open Go.RowKit Go.Lib in open Go.RowKit Go.Lib in def Tryz.lays150_ren:Go.Shelf.Ren:=⟨fun|150=>164|153=>170|152=>173|226=>174|227=>175|228=>176|137=>171|119=>178|224=>179|225=>180|217=>177|266=>181|n=>n,fun|9=>9|4=>4|3=>3|5=>5|21=>21|117=>192|116=>191|0=>0|46=>89|124=>195|n=>n,fun|n=>n⟩
theorem Tryz.lays150:Go.Proofs.Lays.n150 Tryz.prog Tryz.lays150_ren:={
  mixed:=by kernel_rfl
  f119:=Tryz.func178.trans (congrArg some (by kernel_rfl))
  f137:=Tryz.func171.trans (congrArg some (by kernel_rfl))
  f150:=Tryz.func164.trans (congrArg some (by kernel_rfl))
  f152:=Tryz.func173.trans (congrArg some (by kernel_rfl))
  f153:=Tryz.func170.trans (congrArg some (by kernel_rfl))
  f217:=Tryz.func177.trans (congrArg some (by kernel_rfl))
  f224:=Tryz.func179.trans (congrArg some (by kernel_rfl))
  f225:=Tryz.func180.trans (congrArg some (by kernel_rfl))
  f226:=Tryz.func174.trans (congrArg some (by kernel_rfl))
  f227:=Tryz.func175.trans (congrArg some (by kernel_rfl))
  f228:=Tryz.func176.trans (congrArg some (by kernel_rfl))
  f266:=Tryz.func181.trans (congrArg some (by kernel_rfl))
  t0:=Tryz.underlying0
  a0:=Tryz.isAgg0
  z0:=Tryz.sizeOf0
  v0:=Tryz.zeroValue0
  t3:=Tryz.underlying3
  a3:=Tryz.isAgg3
  z3:=Tryz.sizeOf3
  v3:=Tryz.zeroValue3
  t4:=Tryz.underlying4
  a4:=Tryz.isAgg4
  z4:=Tryz.sizeOf4
  v4:=Tryz.zeroValue4
  t5:=Tryz.underlying5
  a5:=Tryz.isAgg5
  z5:=Tryz.sizeOf5
  v5:=Tryz.zeroValue5
  t9:=Tryz.underlying9
  a9:=Tryz.isAgg9
  z9:=Tryz.sizeOf9
  v9:=Tryz.zeroValue9
  t21:=Tryz.underlying21
  a21:=Tryz.isAgg21
  z21:=Tryz.sizeOf21
  v21:=Tryz.zeroValue21
  t46:=Tryz.underlying89
  a46:=Tryz.isAgg89
  z46:=Tryz.sizeOf89
  v46:=Tryz.zeroValue89
  t116:=Tryz.underlying191
  a116:=Tryz.isAgg191
  z116:=Tryz.sizeOf191
  t117:=Tryz.underlying192
  a117:=Tryz.isAgg192
  z117:=Tryz.sizeOf192
  v117:=Tryz.zeroValue192
  t124:=Tryz.underlying195
  a124:=Tryz.isAgg195
  z124:=Tryz.sizeOf195
  v124:=Tryz.zeroValue195}
open Go.RowKit Go.Lib in open Go.RowKit Go.Lib in open Go.RowKit Go.Lib in theorem Tryz.strings_ContainsAny_laid(s chars:ByteArray)(w:World)(hs:s.size<4294967281)(hcs:chars.size<4294967281)(has: ∀(j:Nat)b,s.data.toList[j]?=some b→b.toNat<128)(hac: ∀(j:Nat)b,chars.data.toList[j]?=some b→b.toNat<128) :Calls Tryz.prog 164 #[.string s,.string chars] w fun e w'=>e= .returned (.bool (Lib.containsAny s.data.toList chars.data.toList))∧Below w.heap.size w w':=Any.strings_ContainsAny_laid Tryz.lays150 (by kernel_rfl) s chars w hs hcs has hac
open Go.Lib in open Go.Lib in def Tryz.lays110_ren:Go.Shelf.Ren:=⟨fun|110=>138|109=>149|n=>n,fun|31=>40|9=>9|4=>4|3=>3|0=>0|n=>n,fun|n=>n⟩
theorem Tryz.lays110:Go.Proofs.Lays.n110 Tryz.prog Tryz.lays110_ren:={
  mixed:=by kernel_rfl
  f109:=Tryz.func149.trans (congrArg some (by kernel_rfl))
  f110:=Tryz.func138.trans (congrArg some (by kernel_rfl))
  t0:=Tryz.underlying0
  a0:=Tryz.isAgg0
  z0:=Tryz.sizeOf0
  v0:=Tryz.zeroValue0
  t3:=Tryz.underlying3
  a3:=Tryz.isAgg3
  z3:=Tryz.sizeOf3
  v3:=Tryz.zeroValue3
  t4:=Tryz.underlying4
  a4:=Tryz.isAgg4
  z4:=Tryz.sizeOf4
  v4:=Tryz.zeroValue4
  t9:=Tryz.underlying9
  a9:=Tryz.isAgg9
  z9:=Tryz.sizeOf9
  v9:=Tryz.zeroValue9
  t31:=Tryz.underlying40
  a31:=Tryz.isAgg40
  z31:=Tryz.sizeOf40
  v31:=Tryz.zeroValue40}
open Go.Lib in theorem Tryz.slices_Contains_string(b off n c:Nat)(zs:List ByteArray)(x:ByteArray)(w:World)(hz:n≤zs.length)(hbig:n≤9223372036854775807)(hc: ∀j,j<zs.length→w.cell? ⟨b,off+j,none⟩=some (.string (zs.getD j ByteArray.empty))) :Calls Tryz.prog 138 #[.slice (some ⟨b,off,none⟩) n c,.string x] w fun e w'=>e= .returned (.bool (Lib.containsS (zs.take n) x))∧w'=w:=Any.slices_Contains_string Tryz.lays110 b off n c zs x w hz hbig hc
open Go.Lib in theorem Tryz.slices_Contains_string_empty(a:Option Addr)(c:Nat)(x:ByteArray)(w:World) :Calls Tryz.prog 138 #[.slice a 0 c,.string x] w fun e w'=>e= .returned (.bool false)∧w'=w:=Any.slices_Contains_string_empty Tryz.lays110 a c x w
end Go.Proofs
namespace Go.Proofs.YtcjiphknpagenaaGreatDoor
open Go Go.RowKit
set_option linter.unusedVariables false
theorem nH(s:ByteArray)(w:World)(hs:s.size≤65536) :Calls Tryz.prog 83 #[.string s] w fun e w'=>e= .returned (.string s)∧Below w.heap.size w w':=by go_enter Tryz.func83,Tryz.ntmps83;go_wp2_with fail;refine(Tryz.stringslite_Clone s _ (by omega)).mono ?_;rintro e w1⟨rfl,hb⟩;go_wp2;go_ret;exact⟨rfl,hb⟩
end Go.Proofs.YtcjiphknpagenaaGreatDoor
namespace Go.Proofs.YtcjiphknpagenaaGreatDoor
open Go Go.RowKit
set_option linter.unusedVariables false
set_option maxHeartbeats 8000000 in theorem Ai(a:Int)(w:World) :Calls Tryz.prog 106 #[.int .i64 a] w fun e w'=>e= .returned (.int .i64 (dZ a))∧w'=w:=by
 rcases(by omega:a≤38∨a=39∨(40≤a∧a≤47)∨(48≤a∧a≤57)∨(58≤a∧a≤64)∨(65≤a∧a≤90)∨(91≤a∧a≤94)∨a=95∨a=96∨(97≤a∧a≤122)∨(123≤a∧a≤191)∨(192≤a∧a≤214)∨a=215∨(216≤a∧a≤246)∨a=247∨(248≤a∧a≤591)∨(592≤a∧a≤879)∨(880≤a∧a≤1279)∨(1280≤a∧a≤12351)∨(12352≤a∧a≤12543)∨(12544≤a∧a≤19967)∨(19968≤a∧a≤40959)∨40960≤a)with h|h|h|h|h|h|h|h|h|h|h|h|h|h|h|h|h|h|h|h|h|h|h;all_goals
  first| (subst h;go_enter Tryz.func106,Tryz.ntmps106;go_wp2;go_ret;exact⟨rfl,rfl⟩)|
   (
    have HH:=aa h;try(have l:=h.1;have u:=h.2)
    have e39:(a==39)=false:=beq_eq_false_iff_ne.2 (by omega);have e95:(a==95)=false:=beq_eq_false_iff_ne.2 (by omega);have e215:(a==215)=false:=beq_eq_false_iff_ne.2 (by omega);have e247:(a==247)=false:=beq_eq_false_iff_ne.2 (by omega);have n215:(a !=215)=true:=by rw[bne_iff_ne];omega
    have n247:(a !=247)=true:=by rw[bne_iff_ne];omega
    go_enter Tryz.func106,Tryz.ntmps106;go_wp2;go_ret;have h:=HH.out;refine⟨?_,rfl⟩;unfold dZ;(repeat(first|rw[if_pos (by omega)]|rw[if_neg (by omega)]));rfl)
end Go.Proofs.YtcjiphknpagenaaGreatDoor
