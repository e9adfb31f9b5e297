import Derived.Test.YtkbjimkngmlfcaaDoorSetsJ02
import Derived.Deep.RegionHeld3
namespace Go.Proofs.YtkbjimkngmlfcaaDoor
open Go Go.RowKit
open Bool renaming true_and→aa3,false_and→aaR,and_eq_true→aat
open Go renaming World→aab,Operand→aav,Value→aaa,Calls→aar,heap_alloc_new→aaE
open Go.RowKit renaming Below→aal,intOf→aax
open Go.RowKit.Below renaming refl→aaA
open Go.World renaming ownsRow_nil→aaU
open List renaming map_append→aa4,length_append→aa1,length_singleton→aa5,getElem?_append_right→abk,length_map→aa',getElem?_eq_getElem→aaL,getD_eq_getElem?_getD→aaQ,getElem_mem→abd,countP_eq_zero→abn,mem_cons_self→aa9,getElem_cons_drop→abf,drop_eq_nil_of_le→abl
open Nat renaming le_refl→aas,lt_of_lt_of_le→aa8,zero_add→aa7,zero_le→aaY
open Or renaming inl→aau,inr→aap
set_option linter.unusedVariables false
set_option linter.unusedSimpArgs false
set_option maxRecDepth 100000
set_option maxHeartbeats 4000000
theorem adq {P:Prop}(h:P:=by
 have e1:l.getD t (0,0)=l[t] :=by simp[List.getD_eq_getElem?_getD,List.getElem?_eq_getElem (show t<l.length by omega)]
 have e2:l.getD h (0,0)=l[h] :=by simp[List.getD_eq_getElem?_getD,List.getElem?_eq_getElem (show h<l.length by omega)]
 rw[←e1,←e2,Hx.out,HK.out]at h1;omega) :P:=h
theorem XL {P:Prop}(h:P:=by go_wp2_with(go_at_call 72;refine(Sz _ _).mono ?_;rintro e w'⟨rfl,rfl⟩);go_ret;exact⟨by rw[HC.out];rfl,rfl⟩) :P:=h
theorem Z9 {P:Prop}(h:P:=by
 rcases h.2 with⟨h1,h2⟩| ⟨g,cap,cur,h1,_⟩;·exact⟨none,0,by rw[h1,h2]⟩
 ·exact⟨_,cap,h1⟩) :P:=h
section
theorem lN {W:aab} {ops:Array Oper} {o:Oper} {a:Act} {K:Act→aab→Prop} {Q:Exit→Act→aab→Prop} {E:Prop}(hgd:o.guard=none)(s x:aav)(t e:TypeId)(ho:o.op= .call {callee:= .builtin .append,args:=#[s,x],argTypes:=#[t,t]})(i:TypeInfo)(z:aaa)(size bytes:Nat)(ht:Tryd.prog.underlying t=some (.slice e))(hi:Tryd.prog.info? e=some i)(hz:i.zero=some z)(hsize:i.size=size)(hby:i.bytes=bytes)(hzs:z.cells.size=size)(hsz:0<size)(base:Nat)(v:aaa)(n:Nat)(xs:List aaa)(hs:a.eval s=v)(hown:W.ownsRow base e size v n xs)(ys:Array aaa)(hys:ys.size=size)(hy: ∀y∈ys.toList,y.oneCell'=true)(ad:Nat)(had:ad=W.heap.size)(hx:a.eval x= .slice (some ⟨ad,0,none⟩) 1 1)(hb:(n+1)*bytes≤140737488355328)(KA:0<bytes)(hbase:base≤W.heap.size)(h: ∀g cap w',w'.ownsRow base e size (.slice (some ⟨g,0,none⟩) (n+1) cap) (n+1) (xs++ys.toList)→But (fun b=>v.ownBlock=some b) W w'→(∀b,(Value.slice (some ⟨g,0,none⟩) (n+1) cap).ownBlock=some b→v.ownBlock=some b∨W.heap.size≤b)→K (a.put o.dst (.slice (some ⟨g,0,none⟩) (n+1) cap)) w') :if Region.wanted o (yielded ops a.tmps)=true then Oper.wp Tryd.prog o a (W.alloc (.cells ys e)) K Q else E:=by
 subst had;have hn:n+1≤140737488355328:=Nat.le_trans (Nat.le_mul_of_pos_right (n+1) KA) hb;refine step_append_lies _ hgd s x t ho base e i z size bytes ht hi hz hsize hby hzs hsz v n xs hs (hown.alloc _) ⟨W.heap.size,0,none⟩ 1 1 ys.toList hx (by simp[hys]) ?_ hy (by omega) (by unfold maxLen;omega) hb (by simp;omega) _ rfl ?_;·exact abB
 ·intro g cap w' h1 h2 h3 h4;refine h g cap w' h1 ?_ ?_;·exact Z7
  ·intro b hb;cases hb;rcases h3 with h5|h5;·exact aau h5
   ·exact aap (by rw[h5];simp)
theorem j6.reset {w0 W:aab} {rb db sb:Nat} {raw:Array aaa} {R:aU} {v:aaa} {l:List dK} {va:aaa} {f:Bool} {rs:List (Int×Int)} {e:Int}(h:j6 w0 W rb db sb raw R v l va f rs e) :j6 w0 (((W.setCell ⟨sb,0,none⟩ (.bool false)).setCell ⟨sb,1,none⟩ (.slice none 0 0)).setCell ⟨sb,2,none⟩ (.int .i64 (-1))) rb db sb raw R v l (.slice none 0 0) false [] (-1) :=by
 have hX:But (fun b=>b=sb) W (((W.setCell ⟨sb,0,none⟩ (.bool false)).setCell ⟨sb,1,none⟩ (.slice none 0 0)).setCell ⟨sb,2,none⟩ (.int .i64 (-1))) :=(((But.refl (fun b=>b=sb) W).set sb 0 _ rfl).set sb 1 _ rfl).set sb 2 _ rfl;have hk: ∀(b:Nat),b≠sb→(((W.setCell ⟨sb,0,none⟩ (.bool false)).setCell ⟨sb,1,none⟩ (.slice none 0 0)).setCell ⟨sb,2,none⟩ (.int .i64 (-1))).heap[b]?=W.heap[b]?:=fun b hb=>(ay _ sb 2 _ b hb).trans ((ay _ sb 1 _ b hb).trans (ay W sb 0 _ b hb));have hc:=h.cur;refine⟨h.below.trans (hX.below h.below.size (fun j hj e'=>by have:=hc.from_;omega)),?_,?_,?_,h.rows.but hX (fun b e'=>by subst e';exact nU h.rows hc.box (by decide)),⟨?_,?_,aaU _ _ _ _,fun s _=> ?_,hc.off,hc.from_⟩,h.from_,h.ne⟩;·rw[hk _ (aN h.bW hc.box (by decide))];exact h.bW
 ·rw[hk _ (aN h.res hc.box (by decide))];exact h.res
 ·rw[hk _ (aN h.jk hc.box (by decide))];exact h.jk
 ·exact Xg
 ·have:=aL (aL (aL hc.box 0 (.bool false)) 1 (.slice none 0 0)) 2 (.int .i64 (-1));simpa using this
 ·exact Wy
section
variable(T:Sys Nat)(m:Nat)(x:Nat)(o:List Nat)
def o7(k:Nat) :List Nat:=if k≤m then oH T m x o k else dW T (oH T m x o m) (T.aZ x m)
def e7(k:Nat) :Int:=if k≤m then-1 else T.num (o7 T m x o k) (T.aZ x m)
theorem CV:o7 T m x o 0=o:=by simp[o7,oH,jq]
theorem De:o7 T m x o (m+1)=meets o (T.nexts m x) :=by unfold o7;rw[if_neg (by omega),TB]
theorem LD {o:List Nat} {z y:Nat}(ho: ∀a∈o,a<z)(hn:o.Nodup)(hy:y<z) :(∀a∈dW T o y,a<z)∧(dW T o y).Nodup:=by
 unfold dW;split;·exact⟨ho,hn⟩
 ·refine⟨fun a ha=> ?_,GL hn⟩;rcases jQ.1 ha with h|h;·exact ho a h
  ·omega
end
variable {T:Sys Nat} {m x:Nat} {o:List Nat}
theorem Ex {z:Nat}(ho: ∀a∈o,a<z)(hn:o.Nodup)(ht: ∀k,k≤m→T.aZ x k<z) : ∀k,k≤m→(∀a∈oH T m x o k,a<z)∧(oH T m x o k).Nodup
 |0,_=>by simpa[oH,jq]using⟨ho,hn⟩
 |k+1,hk=>by
  obtain⟨h1,h2⟩ :=Ex ho hn ht k (by omega);rw[uX];split;·exact⟨h1,h2⟩
  ·exact LD T h1 h2 (ht k (by omega))
theorem aaM {z:Nat}(ho: ∀a∈o,a<z)(hn:o.Nodup)(ht: ∀k,k≤m→T.aZ x k<z)(k:Nat) :(∀a∈o7 T m x o k,a<z)∧(o7 T m x o k).Nodup:=by
 unfold o7;split;·rename_i h;exact Ex ho hn ht k h
 ·obtain⟨h1,h2⟩ :=Ex ho hn ht m (aas m);exact LD T h1 h2 (ht m (aas m))
theorem NB {k:Nat}(hk:k<m)(h:T.aZ x k=T.aZ x m)(ls:List Int) :o7 T m x o (k+1)=o7 T m x o k∧bJ T m ls (o7 T m x o (k+1)) x (k+1)=bJ T m ls (o7 T m x o k) x k:=by
 have e:o7 T m x o (k+1)=o7 T m x o k:=by unfold o7;rw[if_pos (show k+1≤m by omega),if_pos (show k≤m by omega),uX,if_pos h]
 refine⟨e,?_⟩;rw[e];unfold bJ;rw[sV,if_pos h]
theorem KX {k:Nat}(hk:k<m)(h:T.aZ x k≠T.aZ x m)(ls:List Int) :o7 T m x o (k+1)=dW T (o7 T m x o k) (T.aZ x k)∧bJ T m ls (o7 T m x o (k+1)) x (k+1)=bJ T m ls (o7 T m x o k) x k++ [(ls.getD k 0,T.num (o7 T m x o (k+1)) (T.aZ x k))] :=by
 have e:o7 T m x o (k+1)=dW T (o7 T m x o k) (T.aZ x k) :=by unfold o7;rw[if_pos (show k+1≤m by omega),if_pos (show k≤m by omega),uX,if_neg h]
 refine⟨e,?_⟩;obtain⟨r,hr⟩ :=Cc T (o7 T m x o k) (T.aZ x k);have hkn: ∀a∈jq T m x k,T.aZ x a∈o7 T m x o k∨T.dead (T.aZ x a)=true:=by unfold o7;rw[if_pos (show k≤m by omega)];exact tJ T m x o k
 have e2:=zT (ls:=ls) (r:=r) hkn;rw[←hr,←e]at e2;rw[←e2];unfold bJ;rw[sV,if_neg h,aa4];rfl
theorem JS(ls:List Int) :o7 T m x o (m+1)=dW T (o7 T m x o m) (T.aZ x m)∧bJ T m ls (o7 T m x o (m+1)) x m=bJ T m ls (o7 T m x o m) x m:=by
 have e:o7 T m x o (m+1)=dW T (o7 T m x o m) (T.aZ x m) :=by unfold o7;rw[if_neg (by omega),if_pos (aas m)]
 refine⟨e,?_⟩;obtain⟨r,hr⟩ :=Cc T (o7 T m x o m) (T.aZ x m);have hkn: ∀a∈jq T m x m,T.aZ x a∈o7 T m x o m∨T.dead (T.aZ x a)=true:=by unfold o7;rw[if_pos (aas m)];exact tJ T m x o m
 have e2:=zT (ls:=ls) (r:=r) hkn;rw[←hr,←e]at e2;exact e2
theorem Pp {ls:List Int} {q:List Nat}(hf:T.fin x=false)(ht: ∀a,a≤m→T.aZ x a=x)(hd:T.dead x=true) :T.fin x=false∧bJ T m ls q x m= []∧T.num q (T.aZ x m)= -1:=by
 refine⟨hf,?_,?_⟩
 ·unfold bJ jq;have:(List.range m).filter (fun a=>decide (T.aZ x a≠T.aZ x m))= [] :=by rw[List.filter_eq_nil_iff];intro a ha;have:=List.mem_range.1 ha;rw[ht a (by omega),ht m (aas m)];simp
  rw[this];rfl
 ·rw[ht m (aas m)];unfold Sys.num;rw[if_pos hd]
theorem Jv {ls:List Int} {i:Nat} {D:List aT}(hx:o[i]?=some x)(hD:D=(o.take i).map (T.state m ls o))(hk: ∀y∈o.take i,∀a,a≤m→T.aZ y a∈o∨T.dead (T.aZ y a)=true) :D++ [T.state m ls (o7 T m x o (m+1)) x]=((o7 T m x o (m+1)).take (i+1)).map (T.state m ls (o7 T m x o (m+1)))∧(∀y∈(o7 T m x o (m+1)).take (i+1),∀a,a≤m→T.aZ y a∈o7 T m x o (m+1)∨T.dead (T.aZ y a)=true)∧(o7 T m x o (m+1))[i]?=some x∧i+1≤(o7 T m x o (m+1)).length:=by
 have h7:(∀a,a≤m→T.aZ x a∈o7 T m x o (m+1)∨T.dead (T.aZ x a)=true)∧∃r,o7 T m x o (m+1)=o++r:=by
  refine⟨fun a ha=> ?_,by rw[De];exact xD _ _⟩;rw[De];by_cases hd:T.dead (T.aZ x a)=true;·exact aap hd
  ·refine aau (jC.2 (aap (List.mem_filter.2 ⟨?_,by simp[hd]⟩)));by_cases e:T.aZ x a=T.aZ x m;·rw[e];exact List.mem_append_right _ (by simp)
   ·exact ahj
 obtain⟨hto,r,hr⟩ :=h7;have hil:=(List.getElem?_eq_some_iff.1 hx).1;have htk:(o7 T m x o (m+1)).take (i+1)=o.take i++ [x] :=by rw[hr,List.take_append_of_le_length (by omega),List.take_succ_eq_append_getElem hil,(List.getElem?_eq_some_iff.1 hx).2]
 refine⟨?_,?_,?_,?_⟩;·rw[htk,aa4,hD];congr 1;rw[hr];exact List.map_congr_left fun y hy=>(Sq (hk y hy)).symm
 ·rw[htk];intro y hy a ha;rcases List.mem_append.1 hy with h1|h1
  ·rcases hk y h1 a ha with h2|h2;·exact aau (by rw[hr];exact List.mem_append_left _ h2)
   ·exact aap h2
  ·rw[List.mem_singleton.1 h1];exact hto a ha
 ·rw[hr,List.getElem?_append_left hil];exact hx
 ·rw[hr,aa1];omega
end
theorem aY.ajT {W W':aab} {base:Nat} {R:aU} {X:Nat→Prop}(h:aY W base R) {i:Nat} {v v':aaa} {zs ys:List Int}(hi:R i=some (v,zs))(hb:But X W W')(hX: ∀b,X b→v.ownBlock=some b∨∀cur,W.heap[b]?≠some (.cells cur 3))(hv:W'.ownsRow base 3 1 v' ys.length (zI ys))(hat: ∀b,v'.ownBlock=some b→v.ownBlock=some b∨W.heap.size≤b) :aY W' base (upd R i (some (v',ys))) :=by
 have keep: ∀a u xs,a≠i→R a=some (u,xs)→W'.ownsRow base 3 1 u xs.length (zI xs) :=by
  intro a u xs ha hr;refine aG (h.own a u xs hr) (fun b hk=> ?_);obtain⟨_,cur,h2⟩ :=aA (h.own a u xs hr) hk;refine hb.block b (Array.getElem?_eq_some_iff.1 h2).1 (fun hx=> ?_);rcases hX b hx with h3|h3
  ·rcases h.apart a i u xs v zs ha hr hi with h1|h1;·rw[hk]at h1;cases h1
   ·exact h1 (hk.trans h3.symm)
  ·exact h3 cur h2
 exact acQ
theorem ahL(L:List Int) :gV dX L=zI L:=by
 unfold gV dX zI;induction L with
 |nil=>rfl
 |cons x t ih=>simp[ih]
theorem Bg {W:aab} {base sb:Nat} {vm vs:aaa} {L:List Int}(h:bA dX W base sb vm vs L) : ∀b,bB sb vm vs b→vs.ownBlock=some b∨∀cur,W.heap[b]?≠some (.cells cur 3) :=by
 intro b hb;rcases hb with rfl|rfl|hb;·refine aap fun cur e=> ?_;rw[h.box]at e;exact aaO
 ·refine aap fun cur e=> ?_;rcases h.map with⟨h1,_⟩| ⟨mb,h1,_,h2⟩;·cases h1
  ·cases h1;obtain⟨es,c,h3,_⟩ :=h2;rw[h3]at e;cases e
 ·exact aau hb
theorem aY.place {W W':aab} {base sb:Nat} {R:aU} {i:Nat} {vm vs dF vs':aaa} {L L':List Int}(h:aY W base R)(hi:R i=some (vs,L))(hs:bA dX W base sb vm vs L)(hs':bA dX W' base sb dF vs' L')(hb:But (bB sb vm vs) W W')(hat: ∀b,vs'.ownBlock=some b→vs.ownBlock=some b∨W.heap.size≤b) :aY W' base (upd R i (some (vs',L'))) :=h.ajT hi hb (Bg hs) (by have:=hs'.row;rw[ahL]at this;exact this) hat
theorem LH {W:aab} {b:Nat} {x0 x1 x2 x3:aaa} {t:TypeId}(h:W.heap[b]?=some (.cells #[x0,x1,x2,x3] t))(y0 y1 y2 y3:aaa) :((((W.setCell ⟨b,0,none⟩ y0).setCell ⟨b,1,none⟩ y1).setCell ⟨b,2,none⟩ y2).setCell ⟨b,3,none⟩ y3).heap[b]?=some (.cells #[y0,y1,y2,y3] t) :=by have h1:=aL (aL (aL (aL h 0 y0) 1 y1) 2 y2) 3 y3;simpa using h1
section
abbrev aJ:aaa:= .slice none 0 0
structure tK(w W:aab)(ab sb:Nat)(cs:Array aaa)(vm aI:aaa)(M:List Int)(R:aU) :Prop where
 box:W.heap[ab]?=some (.cells cs 74)
 FP:W.heap[w.heap.size]?=some (.cells #[aJ,aJ,aJ,aJ] 74)
 set:bA dX W w.heap.size sb vm aI M
 rows:aY W w.heap.size R
 mem:R 3=some (aI,M)
 bel:aal w.heap.size w W
 ge:w.heap.size<ab∧w.heap.size<sb
variable {w W W1:aab} {ab sb:Nat} {cs:Array aaa} {vm aI:aaa} {M:List Int} {R:aU}
theorem tK.push(h:tK w W ab sb cs vm aI M R) {i:Nat}(h3:i≠3) {v v':aaa} {zs:List Int} {x:Int}(hi:R i=some (v,zs))(hb:But (fun b=>v.ownBlock=some b) W W1)(ho:W1.ownsRow w.heap.size 3 1 v' (zs.length+1) (zI zs++ [.int .i64 x]))(hat: ∀b,v'.ownBlock=some b→v.ownBlock=some b∨W.heap.size≤b)(j:Nat) :tK w (W1.setCell ⟨ab,j,none⟩ v') ab sb (cs.setIfInBounds j v') vm aI M (upd R i (some (v',zs++ [x])))∧W1.heap[ab]?=some (.cells cs 74) :=by
 have hown:=h.rows.own i v zs hi;have hab:W1.heap[ab]?=some (.cells cs 74) :=by rw[hb.block ab (Array.getElem?_eq_some_iff.1 h.box).1 (fun e=>by obtain⟨_,cur,h2⟩ :=aA hown e;exact aN h.box h2 (by decide) rfl)];exact h.box
 have Am:bA dX W1 w.heap.size sb vm aI M:=h.set.but hb (fun b hB e=>by
  obtain⟨_,cur,h2⟩ :=aA hown e;rcases Bg h.set b hB with h1|h1
  ·rcases h.rows.apart 3 i aI M v zs (Ne.symm h3) h.mem hi with h4|h4;·rw[h1]at h4;cases h4
   ·exact h4 (h1.trans e.symm)
  ·exact h1 cur h2);have hr1:aY W1 w.heap.size (upd R i (some (v',zs++ [x]))) :=h.rows.uS hi hb (by rw[aa1,aa5,mh];exact ho) hat;have hz1:W1.heap[w.heap.size]?=some (.cells #[aJ,aJ,aJ,aJ] 74) :=by rw[hb.block _ (Array.getElem?_eq_some_iff.1 h.FP).1 (fun e=>by obtain⟨_,cur,h2⟩ :=aA hown e;exact aN h.FP h2 (by decide) rfl)];exact h.FP
 have hB1:aal w.heap.size w W1:=h.bel.trans (hb.below h.bel.size (fun k hk e=>by have:=fF hown k e;omega));refine⟨⟨?_,?_,?_,?_,?_,?_,h.ge⟩,hab⟩;·exact aL hab j v'
 ·rw[ay _ _ _ _ _ (by have:=h.ge;omega)];exact hz1
 ·refine Am.keep (fun b hB=>ay _ _ _ _ _ ?_);rintro rfl;rcases hB with h1|h1|h1;·have h2:=Am.box;rw[←h1]at h2;exact aN hab h2 (by decide) rfl
  ·rcases Am.map with⟨h5,_⟩| ⟨mb,h5,_,es,c,h6,_⟩;·rw[h5]at h1;cases h1
   ·rw[h5]at h1;cases h1;rw[hab]at h6;cases h6
  ·obtain⟨_,cur,h2⟩ :=aA Am.row h1;exact aN hab h2 (by decide) rfl
 ·refine hr1.but ((But.refl (fun b=>b=ab) W1).set ab j v' rfl) (fun b hB cur e=> ?_);subst hB;exact aN hab e (by decide) rfl
 ·rw[aD _ _ (Ne.symm h3)];exact h.mem
 ·exact hB1.setCell (by show w.heap.size≤ab;have:=h.ge;omega) v'
theorem tK.placed(h:tK w W ab sb cs vm aI M R) {dF bG:aaa} {M':List Int}(hs':bA dX W1 w.heap.size sb dF bG M')(hb:But (bB sb vm aI) W W1)(hat: ∀b,bG.ownBlock=some b→aI.ownBlock=some b∨W.heap.size≤b) :tK w W1 ab sb cs dF bG M' (upd R 3 (some (bG,M'))) :=by
 have far: ∀b,(∃cs',W.heap[b]?=some (.cells cs' 74))→¬bB sb vm aI b:=by
  rintro b⟨cs',hb'⟩hB;rcases hB with rfl|h1|h1;·exact aN hb' h.set.box (by decide) rfl
  ·rcases h.set.map with⟨h5,_⟩| ⟨mb,h5,_,es,c,h6,_⟩;·rw[h5]at h1;cases h1
   ·rw[h5]at h1;cases h1;rw[hb']at h6;cases h6
  ·obtain⟨_,cur,h2⟩ :=aA h.set.row h1;exact aN hb' h2 (by decide) rfl
 refine⟨?_,?_,hs',h.rows.place h.mem h.set hs' hb hat,upd_same _ _ _,h.bel.trans (hb.below h.bel.size (fun k hk hB=> ?_)),h.ge⟩;·rw[hb.block ab (Array.getElem?_eq_some_iff.1 h.box).1 (far _ ⟨_,h.box⟩)];exact h.box
 ·rw[hb.block _ (Array.getElem?_eq_some_iff.1 h.FP).1 (far _ ⟨_,h.FP⟩)];exact h.FP
 ·rcases h.set.from_ hB with h1|h1;·have:=h.ge;omega
  ·omega
theorem tK.put(h:tK w W ab sb cs vm aI M R) {i:Nat}(h3:i≠3) {g cap n:Nat} {zs:List Int}(hnl:zs.length=n)(hi:R i=some (.slice (some ⟨g,0,none⟩) n cap,zs)) {k:Nat}(hk:k<n)(x:Int) :tK w (W.setCell ⟨g,k,none⟩ (.int .i64 x)) ab sb cs vm aI M (upd R i (some (.slice (some ⟨g,0,none⟩) n cap,zs.set k x))) :=by
 subst hnl;have hown:=h.rows.own i _ zs hi;obtain⟨hg,cur,hgb⟩ :=aA hown (b:=g) rfl;refine⟨?_,?_,?_,h.rows.set hi hk x,?_,h.bel.setCell (by exact hg) _,h.ge⟩;·rw[ay _ _ _ _ _ (aN h.box hgb (by decide))];exact h.box
 ·rw[ay _ _ _ _ _ (aN h.FP hgb (by decide))];exact h.FP
 ·refine h.set.keep (fun b hB=>ay _ _ _ _ _ ?_);rintro rfl;rcases Bg h.set b hB with h1|h1
  ·rcases h.rows.apart 3 i aI M _ zs (Ne.symm h3) h.mem hi with h4|h4;·rw[h1]at h4;cases h4
   ·exact h4 h1
  ·exact h1 cur hgb
 ·rw[aD _ _ (Ne.symm h3)];exact h.mem
end
theorem nZ {W:aab} {base e n:Nat} {v:aaa} {xs:List aaa}(h:W.ownsRow base e 1 v (n+1) xs)(hn:v≠ .slice none 0 0) : ∃g cap,v= .slice (some ⟨g,0,none⟩) (n+1) cap:=by
 rcases h.2 with⟨h1,_⟩| ⟨g,cap,cur,h1,_⟩;·exact absurd h1 hn
 ·exact⟨g,cap,h1⟩
theorem yZ {W:aab} {base e n:Nat} {v:aaa} {xs:List aaa}(h:W.ownsRow base e 1 v n xs) : ∃ad cap,v= .slice ad n cap:=by exact Z9
theorem XQ(w:aab)(v:aaa) :tK w (((w.alloc (.cells #[aJ,aJ,aJ,aJ] 74)).alloc (.cells #[v,aJ,aJ,aJ] 74)).alloc (.cells #[.map none,aJ] 142)) (w.heap.size+1) (w.heap.size+2) #[v,aJ,aJ,aJ] (.map none) aJ [] (fun a=>if a<4 then some (aJ,[])else none) :=by
 have hz1:(w.alloc (.cells #[aJ,aJ,aJ,aJ] 74)).heap.size=w.heap.size+1:=by simp
 have hz2:((w.alloc (.cells #[aJ,aJ,aJ,aJ] 74)).alloc (.cells #[v,aJ,aJ,aJ] 74)).heap.size=w.heap.size+2:=by rw[World.size_alloc,hz1]
 refine⟨?_,?_,?_,⟨fun a u zs h=> ?_,fun a b u zs x ys hab h h'=> ?_⟩,rfl,(((aaA _ _).alloc (aas _) _).alloc (by rw[hz1];omega) _).alloc (by rw[hz2];omega) _,by omega⟩;·exact aaH
 ·exact ZK
 ·have:=qz (K:=dX) ((w.alloc (.cells #[aJ,aJ,aJ,aJ] 74)).alloc (.cells #[v,aJ,aJ,aJ] 74)) w.heap.size;rw[hz2]at this;exact this
 ·split at h;·cases h;exact aaU _ _ _ _
  ·cases h
 ·split at h;·cases h;exact aau rfl
  ·cases h
def strCells(l:List (Nat×Nat)) :List aaa:=l.flatMap fun s=>[.int .i64 (s.1:Int),.int .i64 (s.2:Int)]
theorem JF(l:List (Nat×Nat))(s:Nat×Nat) :strCells (l++ [s])=strCells l++ [.int .i64 (s.1:Int),.int .i64 (s.2:Int)] :=by simp[strCells]
abbrev gT:=aaa×List (Nat×Nat)
structure jW(W:aab)(base:Nat)(v:aaa)(l:List gT) :Prop where
 row:W.ownsRow base 127 1 v l.length (l.map (·.1))
 each: ∀s∈l,W.ownsRow base 129 2 s.1 s.2.length (strCells s.2)
 apart:l.Pairwise fun s t=>iy s.1 t.1
theorem jW.nil(W:aab)(base:Nat) :jW W base aJ [] :=⟨aaU _ _ _ _,fun s hs=>by simp at hs,List.Pairwise.nil⟩
theorem jW.congr {W W':aab} {base:Nat} {v:aaa} {l:List gT}(h:jW W base v l)(hb: ∀(b:Nat)(cs:Array aaa)(t:TypeId),(t=127∨t=129)→(v.ownBlock=some b∨∃s∈l,s.1.ownBlock=some b)→W.heap[b]?=some (.cells cs t)→W'.heap[b]?=some (.cells cs t)) :jW W' base v l:=by
 refine⟨aG h.row (fun b hk=> ?_),fun s hs=>aG (h.each s hs) (fun b hk=> ?_),h.apart⟩;·exact Zr
 ·obtain⟨_,cur,h2⟩ :=aA (h.each s hs) hk;rw[hb b cur _ (aap rfl) (aap ⟨s,hs,hk⟩) h2,h2]
structure yB(W:aab)(base:Nat)(v:aaa)(l:List gT)(vr:aaa)(rs:List (Nat×Nat)) :Prop where
 rows:jW W base v l
 cur:W.ownsRow base 129 2 vr rs.length (strCells rs)
 apart: ∀s∈l,iy s.1 vr
theorem jW.start {W:aab} {base:Nat} {v:aaa} {l:List gT}(h:jW W base v l) :yB W base v l aJ [] :=by refine⟨h,aaU _ _ _ _,fun s _=> ?_⟩;exact Wy
theorem yB.congr {W W':aab} {base:Nat} {v vr:aaa} {l:List gT} {rs:List (Nat×Nat)}(h:yB W base v l vr rs)(hb: ∀(b:Nat)(cs:Array aaa)(t:TypeId),(t=127∨t=129)→W.heap[b]?=some (.cells cs t)→W'.heap[b]?=some (.cells cs t)) :yB W' base v l vr rs:=by refine⟨h.rows.congr fun b cs t ht _ hh=>hb b cs t ht hh,aG h.cur (fun b hk=> ?_),h.apart⟩;obtain⟨_,cur,h2⟩ :=aA h.cur hk;rw[hb b cur _ (aap rfl) h2,h2]
theorem yB.push {W W1:aab} {base:Nat} {v vr xB:aaa} {l:List gT} {rs:List (Nat×Nat)} {p:Nat×Nat}(h:yB W base v l vr rs)(hb:But (fun b=>vr.ownBlock=some b) W W1)(ho:W1.ownsRow base 129 2 xB (rs.length+1) (strCells rs++ [.int .i64 (p.1:Int),.int .i64 (p.2:Int)]))(hat: ∀b,xB.ownBlock=some b→vr.ownBlock=some b∨W.heap.size≤b) :yB W1 base v l xB (rs++ [p]) :=by
 refine⟨h.rows.congr fun b cs t ht hk hh=> ?_,by rw[aa1,aa5,JF];exact ho,fun s hs=> ?_⟩
 ·rw[hb.block b (Array.getElem?_eq_some_iff.1 hh).1 (fun e'=>by
   rcases hk with hk| ⟨s,hs,hk⟩;·obtain⟨_,c1,h1⟩ :=aA h.rows.row hk;obtain⟨_,c2,h2⟩ :=aA h.cur e';exact aN h1 h2 (by decide) rfl
   ·rcases h.apart s hs with h2|h2;·rw[hk]at h2;cases h2
    ·exact h2 (hk.trans e'.symm))];exact hh
 ·unfold iy;cases hu:s.1.ownBlock with
  |none=>exact aau rfl
  |some k=>
   refine aap ?_;intro e';rcases hat k e'.symm with h1|h1;·exact abe
   ·have:=(Array.getElem?_eq_some_iff.1 (aA (h.rows.each s hs) hu).2.choose_spec).1;omega
theorem yB.done {W W1:aab} {base:Nat} {v v' vr:aaa} {l:List gT} {rs:List (Nat×Nat)}(h:yB W base v l vr rs)(hb:But (fun b=>v.ownBlock=some b) W W1)(ho:W1.ownsRow base 127 1 v' (l.length+1) (l.map (·.1)++ [vr])) :jW W1 base v' (l++ [(vr,rs)]) :=by
 have key: ∀(u:aaa)(n:Nat)(xs:List aaa),W.ownsRow base 129 2 u n xs→W1.ownsRow base 129 2 u n xs:=by intro u n xs hu;refine aG hu (fun b hk=>hb.block b (Array.getElem?_eq_some_iff.1 (aA hu hk).2.choose_spec).1 (fun e'=> ?_));obtain⟨_,c1,h1⟩ :=aA hu hk;obtain⟨_,c2,h2⟩ :=aA h.rows.row e';exact aN h1 h2 (by decide) rfl
 refine⟨?_,fun s hs=> ?_,?_⟩;·rw[aa1,aa5,aa4];exact ho
 ·rcases List.mem_append.1 hs with h1|h1;·exact key _ _ _ (h.rows.each s h1)
  ·rw[List.mem_singleton.1 h1];exact key _ _ _ h.cur
 ·rw[List.pairwise_append];refine⟨h.rows.apart,by simp,fun s hs t ht=> ?_⟩;rw[List.mem_singleton.1 ht];exact h.apart s hs
theorem aQ {W:aab} {base e size n g cap:Nat} {xs:List aaa}(h:W.ownsRow base e size (.slice (some ⟨g,0,none⟩) n cap) n xs) {p:Nat} {u:aaa}(hp:xs[p]?=some u) :W.cell? ⟨g,p,none⟩=some u:=by
 rcases h.2 with⟨h',_⟩| ⟨g',c',cur,h1,h2,h3,h4,h5,h6,h7⟩;·simp at h'
 ·simp only[Value.slice.injEq,Option.some.injEq,Addr.mk.injEq,and_true,true_and]at h1;obtain⟨rfl,rfl⟩ :=h1;rw[aj h3 p];rw[←h7,List.getElem?_take]at hp;split at hp;·rw[←hp];simp
  ·cases hp
theorem gI {W:aab} {base e size n g cap:Nat} {xs:List aaa}(h:W.ownsRow base e size (.slice (some ⟨g,0,none⟩) n cap) n xs)(k:Nat) :W.frozen? ⟨g,k,none⟩=false:=by
 rcases h.2 with⟨h',_⟩| ⟨g',c',cur,h1,h2,h3,_⟩;·simp at h'
 ·simp only[Value.slice.injEq,Option.some.injEq,Addr.mk.injEq,and_true,true_and]at h1;obtain⟨rfl,rfl⟩ :=h1;exact frozen_of_row _ _ k _ _ h3
theorem iK {W:aab} {base e size n:Nat} {v:aaa} {xs:List aaa}(h:W.ownsRow base e size v n xs) : ∃ad cap,v= .slice ad n cap:=by exact Z9
theorem dA {W:aab} {base e size n:Nat} {v:aaa} {xs:List aaa}(h:W.ownsRow base e size v n xs)(hn:0<n) : ∃g cap,v= .slice (some ⟨g,0,none⟩) n cap:=by
 rcases h.2 with⟨h1,h2⟩| ⟨g,cap,cur,h1,_⟩;·omega
 ·exact⟨g,cap,h1⟩
theorem tN(l:List (Nat×Nat)) : ∀(i:Nat)(s:Nat×Nat),l[i]?=some s→(strCells l)[i*2]?=some (.int .i64 (s.1:Int))∧(strCells l)[i*2+1]?=some (.int .i64 (s.2:Int)) :=by
 induction l with
 |nil=>intro i s h;simp at h
 |cons a l ih=>
  intro i s h;have e:strCells (a::l)= [.int .i64 (a.1:Int),.int .i64 (a.2:Int)]++strCells l:=by simp[strCells]
  rw[e];cases i with
  |zero=>simp at h;subst h;simp
  |succ i=>
   obtain⟨h1,h2⟩ :=ih i s (by simpa using h);rw[abk (by simp;omega),abk (by simp;omega)];refine⟨?_,?_⟩;·rw[←h1];congr 1;simp;omega
   ·rw[←h2];congr 1;simp;omega
theorem RP(W:aab)(ρ:aav→aaa)(o:Oper)(x y:aav)(ho:o.op= .indexAddr 127 x y)(g X len c:Nat)(hx:ρ x= .slice (some ⟨g,0,none⟩) len c)(hy:ρ y= .int .i64 (X:Int))(h:X<len) :(execOp ρ o).run Tryd.prog W= .ok (.value (.pointer (some ⟨g,X*2,none⟩))) W:=by exact xV
theorem og(W:aab)(ρ:aav→aaa)(o:Oper)(x:aav)(ho:o.op= .load 57 x)(b off n c:Nat)(ad:Option Addr)(hx:ρ x= .pointer (some ⟨b,off,none⟩))(h0:W.cell? ⟨b,off,none⟩=some (.slice ad n c)) :(execOp ρ o).run Tryd.prog W= .ok (.value (.slice ad n c)) W:=by exact vG
theorem l9(W:aab)(ρ:aav→aaa)(o:Oper)(y:aav)(ho:o.op= .buildSlice 57 1 #[(0,y)])(b:Bool)(hx:ρ y= .bool b) :(execOp ρ o).run Tryd.prog W= .ok (.value (.slice (some ⟨W.heap.size,0,none⟩) 1 1)) (W.alloc (.cells #[.bool b] 4)) :=by exact uA
theorem D5(W:aab)(ρ:aav→aaa)(o:Oper)(x y:aav)(ho:o.op= .store 57 x y)(b off g n c:Nat)(u:aaa)(hx:ρ x= .pointer (some ⟨b,off,none⟩))(hy:ρ y= .slice (some ⟨g,0,none⟩) n c)(hc:W.cell? ⟨b,off,none⟩=some u)(hf:W.frozen? ⟨b,off,none⟩=false) :(execOp ρ o).run Tryd.prog W= .ok .skip (W.setCell ⟨b,off,none⟩ (.slice (some ⟨g,0,none⟩) n c)) :=by exact yu
def ps0:aT:=(false,[],0)
def Ii(w:aab)(a:Option Addr)(l:List (Int×Int)) :Prop:=l= []∨∃b off,a=some ⟨b,off,none⟩∧b<w.heap.size∧∀t,t<l.length→w.cell? ⟨b,off+t*2,none⟩=some (.int .i64 (l.getD t (0,0)).1)∧w.cell? ⟨b,off+t*2+1,none⟩=some (.int .i64 (l.getD t (0,0)).2)
theorem Ii.below {w w':aab} {a:Option Addr} {l:List (Int×Int)}(h:Ii w a l)(hb:aal w.heap.size w w') :Ii w' a l:=by
 rcases h with h| ⟨b,off,h1,h2,h3⟩;·exact .inl h
 ·refine .inr ⟨b,off,h1,aa8 h2 hb.size,fun t ht=> ?_⟩;obtain⟨k1,k2⟩ :=h3 t ht;exact⟨(hb.cell (p:=⟨b,off+t*2,none⟩) h2).trans k1,(hb.cell (p:=⟨b,off+t*2+1,none⟩) h2).trans k2⟩
def dP(w:aab)(a:Option Addr)(S:List aT) :Prop:=S= []∨∃b off,a=some ⟨b,off,none⟩∧b<w.heap.size∧∀t,t<S.length→w.cell? ⟨b,off+t*3,none⟩=some (.bool (S.getD t ps0).1)∧∃ai ci,w.cell? ⟨b,off+t*3+1,none⟩=some (.slice ai (S.getD t ps0).2.1.length ci)∧Ii w ai (S.getD t ps0).2.1∧w.cell? ⟨b,off+t*3+2,none⟩=some (.int .i64 (S.getD t ps0).2.2)
theorem dP.below {w w':aab} {a:Option Addr} {S:List aT}(h:dP w a S)(hb:aal w.heap.size w w') :dP w' a S:=by
 rcases h with h| ⟨b,off,h1,h2,h3⟩;·exact .inl h
 ·refine .inr ⟨b,off,h1,aa8 h2 hb.size,fun t ht=> ?_⟩;obtain⟨k1,ai,ci,k2,k3,k4⟩ :=h3 t ht;exact⟨(hb.cell (p:=⟨b,off+t*3,none⟩) h2).trans k1,ai,ci,(hb.cell (p:=⟨b,off+t*3+1,none⟩) h2).trans k2,k3.below hb,(hb.cell (p:=⟨b,off+t*3+2,none⟩) h2).trans k4⟩
theorem agE(l:List (Int×Int)) : ∀(i:Nat),i<l.length→(dN l)[i*2]?=some (.int .i64 (l.getD i (0,0)).1)∧(dN l)[i*2+1]?=some (.int .i64 (l.getD i (0,0)).2) :=by
 induction l with
 |nil=>intro i h;simp at h
 |cons x l ih=>
  intro i h;cases i with
  |zero=>exact⟨rfl,rfl⟩
  |succ i=>
   have:=ih i (by simpa using h);have e1:(i+1)*2=i*2+1+1:=by omega
   have e2:(i+1)*2+1=i*2+1+1+1:=by omega
   show(.int .i64 x.1:: .int .i64 x.2::dN l)[(i+1)*2]?=_∧(.int .i64 x.1:: .int .i64 x.2::dN l)[(i+1)*2+1]?=_;rw[e1];simpa using this
theorem ajO(l:List dK) : ∀(i:Nat)(s:dK),l[i]?=some s→(dS l)[i*3]?=some (.bool s.2.1)∧(dS l)[i*3+1]?=some s.1∧(dS l)[i*3+2]?=some (.int .i64 s.2.2.2) :=by
 induction l with
 |nil=>intro i s h;simp at h
 |cons x l ih=>
  intro i s h;cases i with
  |zero=>
   have e:x=s:=by simpa using h
   subst e;exact⟨rfl,rfl,rfl⟩
  |succ i=>
   have:=ih i s (by simpa using h);have e1:(i+1)*3=i*3+1+1+1:=by omega
   show(.bool x.2.1::x.1:: .int .i64 x.2.2.2::dS l)[(i+1)*3]?=_∧(.bool x.2.1::x.1:: .int .i64 x.2.2.2::dS l)[(i+1)*3+1]?=_∧(.bool x.2.1::x.1:: .int .i64 x.2.2.2::dS l)[(i+1)*3+2]?=_;rw[e1];simpa using this
theorem Ws {W:aab} {base:Nat} {va:aaa} {rs:List (Int×Int)}(h:W.ownsRow base 44 2 va rs.length (dN rs)) : ∃a c,va= .slice a rs.length c∧Ii W a rs:=by
 rcases h.2 with⟨h1,h2⟩| ⟨g,cap,cur,rfl,h2,h3,_⟩;·exact⟨none,0,by rw[h1,h2],aau (List.length_eq_zero_iff.1 h2)⟩
 ·refine⟨_,cap,rfl,aap ⟨g,0,rfl,(Array.getElem?_eq_some_iff.1 h3).1,fun t ht=> ?_⟩⟩;obtain⟨e1,e2⟩ :=agE rs t ht;rw[aa7];exact⟨aQ h e1,aQ h e2⟩
theorem bq.hds {W:aab} {base:Nat} {v:aaa} {l:List dK}(h:bq W base v l) : ∃a c,v= .slice a (l.map Prod.snd).length c∧dP W a (l.map Prod.snd) :=by
 rw[aa'];rcases h.row.2 with⟨h1,h2⟩| ⟨g,cap,cur,rfl,h2,h3,_⟩;·exact⟨none,0,by rw[h1,h2],aau (by rw[List.length_eq_zero_iff.1 h2];rfl)⟩
 ·refine⟨_,cap,rfl,aap ⟨g,0,rfl,(Array.getElem?_eq_some_iff.1 h3).1,fun t ht=> ?_⟩⟩;rw[aa']at ht;have hs:=aaL ht;obtain⟨e1,e2,e3⟩ :=ajO l t _ hs;have eg:(l.map Prod.snd).getD t ps0=l[t].2:=by rw[aaQ,List.getElem?_map,hs];rfl
  obtain⟨ai,ci,q1,q2⟩ :=Ws (h.aR _ (abd ht));rw[aa7,eg];refine⟨aQ h.row e1,ai,ci,?_,q2,aQ h.row e3⟩;rw[aQ h.row e2,q1]
def below(key:(Int×Int)→Int)(T:Int)(l:List (Int×Int)) :Nat:=l.countP fun a=>decide (key a<T)
def foundAt(key:(Int×Int)→Int)(T:Int)(l:List (Int×Int)) :Bool:=match l[below key T l]? with
 |some a=>decide (key a=T)
 |none=>false
theorem E8(key:(Int×Int)→Int)(T:Int) : ∀(l:List (Int×Int))(i:Nat),i≤l.length→(∀t,t<i→key (l.getD t (0,0))<T)→(∀t,i≤t→t<l.length→¬key (l.getD t (0,0))<T)→below key T l=i
 | [],i,hi,_,_=>by simp at hi;simp[below,hi]
 |a::r,0,_,_,h2=>by
  unfold below;rw[abn];intro x hx;obtain⟨t,ht,rfl⟩ :=List.getElem_of_mem hx;have:=h2 t (aaY _) ht;have e:(a::r).getD t (0,0)=(a::r)[t] :=by simp[aaQ,aaL ht]
  rw[e]at this;simpa using this
 |a::r,i+1,hi,h1,h2=>by
  have ha:key a<T:=by simpa using h1 0 (Nat.succ_pos _)
  have ih:=E8 key T r i (by simpa using hi) (fun t ht=>by simpa using h1 (t+1) (by omega)) (fun t h3 h4=>by simpa using h2 (t+1) (by omega) (by simpa using h4));unfold below at ih⊢;rw[List.countP_cons,ih];simp[ha]
theorem below_le(key:(Int×Int)→Int)(T:Int)(l:List (Int×Int)) :below key T l≤l.length:=List.countP_le_length
def qd(x y:Int) :Int:=if x<y then-1 else if y<x then 1 else 0
theorem Sz(x:Int)(w:aab) :aar Tryd.prog 72 #[.int .i64 x] w fun e w'=>e= .returned (.bool false)∧w'=w:=by
 have hx:(x !=x)=false:=by simp
 go_enter Tryd.func72,Tryd.ntmps72;go_wp2;go_ret;exact⟨rfl,rfl⟩
theorem MU(x y:Int)(w:aab) :aar Tryd.prog 54 #[.int .i64 x,.int .i64 y] w fun e w'=>e= .returned (.int .i64 (qd x y))∧w'=w:=by
 go_enter Tryd.func54,Tryd.ntmps54;by_cases h1:x<y
 ·have hc:qd x y= -1:=by rw[qd,if_pos h1]
  have HC:=ah hc;clear hc;exact XL
 ·by_cases h2:y<x
  ·have hc:qd x y=1:=by rw[qd,if_neg h1,if_pos h2]
   have HC:=ah hc;have h3:x>y:=h2;clear hc h2;exact XL
  ·have hc:qd x y=0:=by rw[qd,if_neg h1,if_neg h2]
   have HC:=ah hc;have h3: ¬x>y:=h2;clear hc h2;exact XL
theorem Sl(a0 a1 T:Int)(w:aab) :aar Tryd.prog 53 #[.agg #[.int .i64 a0,.int .i64 a1],.int .i64 T] w fun e w'=>e= .returned (.int .i64 (qd a0 T))∧aal w.heap.size w w':=by have HB:=ah ((aaA w.heap.size w).alloc (aas _) (.cells #[.int .i64 a0,.int .i64 a1] 44));go_enter Tryd.func53,Tryd.ntmps53;go_wp2_with(go_at_call 54;refine(MU _ _ _).mono ?_;rintro e w'⟨rfl,rfl⟩);go_ret;exact⟨rfl,HB.out⟩
def amx(w:aab)(g:Nat)(key:(Int×Int)→Int)(T:Int) :Prop:=∀W,aal w.heap.size w W→∀x:(Int×Int),aar Tryd.prog g #[.agg #[.int .i64 x.1,.int .i64 x.2],.int .i64 T] W fun e w'=>e= .returned (.int .i64 (qd (key x) T))∧aal W.heap.size W w'
theorem Ol {x T:Int} :qd x T<0↔x<T:=by
 unfold qd;by_cases h:x<T;·simp[h]
 ·rw[if_neg h];by_cases h2:T<x;·simp[h2];omega
  ·simp[h2];omega
theorem ace {x T:Int} :(qd x T==0)=decide (x=T) :=by
 unfold qd;by_cases h:x<T
 ·have: ¬x=T:=by omega
  simp[h,this]
 ·rw[if_neg h];by_cases h2:T<x
  ·have: ¬x=T:=by omega
   simp[h2,this]
  ·have:x=T:=by omega
   simp[this]
theorem abT(g:Nat)(hg: ∀args W,(callFunc g args).run Tryd.prog W= .ok (.enter g args) W)(key:(Int×Int)→Int)(T:Int)(a:Option Addr)(c:Nat)(l:List (Int×Int))(w:aab)(hl:l.length≤1048576)(hA:Ii w a l)(hC:amx w g key T)(hs:l.Pairwise fun x y=>key x<key y) :aar Tryd.prog 52 #[.slice a l.length c,.int .i64 T,.func (.func g) #[] #[]] w fun e w'=>e= .returned (.tuple #[.int .i64 ((below key T l:Nat) :Int),.bool (foundAt key T l)])∧aal w.heap.size w w':=by
 have HA:=ah hA;have HC:=ah hC;have HS:=ah hs;clear hA hC hs;go_enter Tryd.func52,Tryd.ntmps52;go_wp2_with fail;go_loopw [9,10](fun iv jv wr=>∃i j:Nat,i≤j∧j≤l.length∧iv= .int .i64 (i:Int)∧jv= .int .i64 (j:Int)∧(∀t,t<i→key (l.getD t (0,0))<T)∧(∀t,j≤t→t<l.length→¬key (l.getD t (0,0))<T)∧aal w.heap.size w wr)(fun iv jv _=>(aax jv).toNat-(aax iv).toNat);case atStart=>exact⟨0,l.length,aaY _,aas _,rfl,rfl,fun t h=>by omega,fun t h1 h2=>by omega,aaA _ _⟩
 case round=>
  obtain⟨i,j,hij,hj,rfl,rfl,hlo,hhi,hb⟩ :=hrel;have xH:=ah hlo;have HHi:=ah hhi;have HB:=ah hb;clear hlo hhi hb;by_cases hlt:i<j
  ·have hltz:(i:Int)<(j:Int) :=by omega
   obtain⟨b,off,rfl,hbl,hc⟩ :=HA.out.resolve_left (fun h=>by rw[h]at hj;simp at hj;omega);go_upto_region 5 with fail;obtain⟨h,hh⟩ : ∃h:Nat,((i:Int)+(j:Int)) /2=(h:Int) :=⟨(i+j) /2,by omega⟩;simp only[hh];have hi1:i≤h:=by omega
   have hj1:h<j:=by omega
   clear hh;have uo:(h:Int)<(l.length:Int) :=by omega
   obtain⟨p0,p1⟩ :=hc h (by omega);replace p0:=(HB.out.cell (p:=⟨b,off+h*2,none⟩) hbl).trans p0;replace p1:=(HB.out.cell (p:=⟨b,off+h*2+1,none⟩) hbl).trans p1;clear hc;obtain⟨x,hx⟩ : ∃x,l.getD h (0,0)=x:=⟨_,rfl⟩;rw[hx]at p0 p1;have Hx:=ah hx;clear hx;have AX:=ah (HC.out wr HB.out x);obtain⟨x0,x1⟩ :=x;dsimp only at p0 p1 AX;go_wp2_with fail;refine AX.out.mono ?_;rintro e w1⟨rfl,hb1⟩;have HB1:=ah (HB.out.trans (hb1.mono HB.out.size));obtain⟨K,hK⟩ : ∃K,key (x0,x1)=K:=⟨_,rfl⟩;have HK:=ah hK;try rw[hK]
   clear hb1 hK p0 p1 AX;dsimp only;by_cases hk:K<T
   ·have hk0:qd K T<0:=Ol.2 hk;have amu:Hid (∀t,t<h+1→key (l.getD t (0,0))<T) :=fun t ht=>by
     by_cases e:t=h;·rw[e,Hx.out,HK.out];exact hk
     ·have h1:=List.pairwise_iff_getElem.1 HS.out t h (by omega) (by omega) (by omega);exact adq
    go_wp2_with fail;go_roundw;case rel=>exact⟨h+1,j,by omega,hj,by go_num,rfl,amu.out,fun t h1 h2=>by have:=HHi.out t h1 h2;omega,HB1.out⟩
    case measure=>simp[aax];omega
   ·have hk0: ¬qd K T<0:=fun e=>hk (Ol.1 e);have aog:Hid (∀t,h≤t→t<l.length→¬key (l.getD t (0,0))<T) :=fun t ht1 ht2=>by
     by_cases e:t=h;·rw[e,Hx.out,HK.out];exact hk
     ·have h1:=List.pairwise_iff_getElem.1 HS.out h t (by omega) (by omega) (by omega);exact adq
    go_wp2_with fail;go_roundw;case rel=>exact⟨i,h,hi1,by omega,rfl,rfl,xH.out,aog.out,HB1.out⟩
    case measure=>simp[aax];omega
  ·have hltz: ¬(i:Int)<(j:Int) :=by omega
   obtain rfl:i=j:=by omega
   have fP:=ah (E8 key T l i hj xH.out HHi.out);by_cases hin:i<l.length
   ·have Bf:(i:Int)<(l.length:Int) :=by omega
    obtain⟨b,off,rfl,hbl,hc⟩ :=HA.out.resolve_left (fun h=>by rw[h]at hin;simp at hin);obtain⟨p0,p1⟩ :=hc i hin;replace p0:=(HB.out.cell (p:=⟨b,off+i*2,none⟩) hbl).trans p0;replace p1:=(HB.out.cell (p:=⟨b,off+i*2+1,none⟩) hbl).trans p1;clear hc;obtain⟨x,hx⟩ : ∃x,l.getD i (0,0)=x:=⟨_,rfl⟩;rw[hx]at p0 p1;have uL:Hid (foundAt key T l=decide (key x=T)) :=by
     show _=_;have e:l[i]?=some x:=by rw[←hx,aaQ,aaL hin];rfl
     rw[foundAt,fP.out,e]
    clear hx;have AX:=ah (HC.out wr HB.out x);obtain⟨x0,x1⟩ :=x;dsimp only at p0 p1 AX;go_wp2_with fail;refine AX.out.mono ?_;rintro e w1⟨rfl,hb1⟩;have HB1:=ah (HB.out.trans (hb1.mono HB.out.size));obtain⟨K,hK⟩ : ∃K,key (x0,x1)=K:=⟨_,rfl⟩;rw[hK]at uL;try rw[hK]
    clear hb1 hK p0 p1 AX;dsimp only;go_wp2_with fail;go_ret2;exact⟨by rw[fP.out,uL.out,←ace];rfl,HB1.out⟩
   ·have Bf: ¬(i:Int)<(l.length:Int) :=by omega
    have uL:Hid (foundAt key T l=false) :=by show _=_;rw[foundAt,fP.out,List.getElem?_eq_none (by omega)]
    go_wp2_with fail;go_ret2;exact⟨by rw[fP.out,uL.out];rfl,HB.out⟩
theorem Qf: ∀(l:List (Int×Int))(T:Int),l.Pairwise (fun x y=>x.1<y.1)→(match l.find? (fun a=>a.1==T)with|some a=>foundAt (fun a=>a.1) T l=true∧l[below (fun a=>a.1) T l]?=some a|none=>foundAt (fun a=>a.1) T l=false) :=by
 intro l T hp;have key: ∀(l:List (Int×Int)),l.Pairwise (fun x y=>x.1<y.1)→∀a,l.find? (fun a=>a.1==T)=some a→l[below (fun a=>a.1) T l]?=some a∧a.1=T:=by
  intro l;induction l with
  |nil=>intro _ a h;simp at h
  |cons x l ih=>
   intro hp a h;obtain⟨h1,h2⟩ :=List.pairwise_cons.1 hp;by_cases e:x.1=T
   ·rw[List.find?_cons_of_pos (by simpa using e)]at h;have hxa:x=a:=by simpa using h
    subst hxa;have hz:below (fun a=>a.1) T (x::l)=0:=by
     unfold below;rw[abn];intro y hy;rcases List.mem_cons.1 hy with rfl|hy;·simp;omega
     ·have:=h1 y hy;simp;omega
    rw[hz];exact⟨rfl,e⟩
   ·rw[List.find?_cons_of_neg (by simpa using e)]at h;obtain⟨h3,h4⟩ :=ih h2 a h;have ha:a∈l:=List.mem_of_find?_eq_some h;have hx:x.1<T:=by have:=h1 a ha;omega
    have hb:below (fun a=>a.1) T (x::l)=below (fun a=>a.1) T l+1:=by unfold below;rw[List.countP_cons_of_pos (by simpa using hx)]
    rw[hb];exact⟨h3,h4⟩
 cases hf:l.find? (fun a=>a.1==T)with
 |some a=>obtain⟨h1,h2⟩ :=key l hp a hf;refine⟨?_,h1⟩;unfold foundAt;rw[h1];simpa using h2
 |none=>
  show foundAt (fun a=>a.1) T l=false;unfold foundAt;cases hg:l[below (fun a=>a.1) T l]? with
  |none=>rfl
  |some a=>have hm:=List.mem_of_getElem? hg;have:=List.find?_eq_none.1 hf a hm;simpa using this
theorem rA(r lo hi:Int)(w:aab) :aar Tryd.prog 43 #[.int .i64 r,.int .i64 lo,.int .i64 hi] w fun e w'=>e= .returned (.bool (decide (lo≤r) &&decide (r≤hi)))∧w'=w:=by
 by_cases h:lo≤r;·have HB:Hid (decide (lo≤r)=true) :=decide_eq_true h;go_enter Tryd.func43,Tryd.ntmps43;go_wp2;go_ret;rw[HB.out,aa3];exact⟨rfl,rfl⟩
 ·have HB:Hid (decide (lo≤r)=false) :=decide_eq_false h;go_enter Tryd.func43,Tryd.ntmps43;go_wp2;go_ret;rw[HB.out,aaR];exact⟨rfl,rfl⟩
def aaJ(n:Nat)(l:List (Int×Int)) :Prop:=l.Pairwise (fun x y=>x.1<y.1)∧(∀a∈l,ig a.1=true∧ -1≤a.2∧a.2<n)∧l.length≤1048576
def bP(D:List aT) :Prop:=1≤D.length∧D.length≤256∧∀s∈D,aaJ D.length s.2.1∧ -1≤s.2.2∧s.2.2<D.length
def dB(n:Nat) :Int→List (Int×Int)→Bool
 |_,[]=>true
 |z,a::l=>decide (z<a.1) &&ig a.1&&(decide (-1≤a.2) &&decide (a.2≤(n:Int)-1)) &&dB n a.1 l
def sI(D:List aT) :Bool:=decide (1≤D.length) &&decide (D.length≤256) &&D.all fun s=>decide (-1≤s.2.2) &&decide (s.2.2≤(D.length:Int)-1) &&dB D.length (-1) s.2.1
theorem BC(n:Nat) : ∀(l:List (Int×Int))(z:Int),dB n z l=true↔(∀a∈l,z<a.1)∧l.Pairwise (fun x y=>x.1<y.1)∧∀a∈l,ig a.1=true∧ -1≤a.2∧a.2<n
 | [],z=>by simp[dB]
 |a::l,z=>by
  unfold dB;rw[aat,aat,aat,aat,BC n l a.1,decide_eq_true_iff,decide_eq_true_iff,decide_eq_true_iff,List.pairwise_cons];constructor
  ·rintro⟨⟨⟨h1,h2⟩,h3,h4⟩,h5,h6,h7⟩;refine⟨fun b hb=> ?_,⟨h5,h6⟩,fun b hb=> ?_⟩
   ·rcases List.mem_cons.1 hb with rfl|hb;·exact h1
    ·have:=h5 b hb;omega
   ·rcases List.mem_cons.1 hb with rfl|hb;·exact⟨h2,h3,by omega⟩
    ·exact h7 b hb
  ·rintro⟨h1,⟨h5,h6⟩,h7⟩;obtain⟨k1,k2,k3⟩ :=h7 a aa9;exact⟨⟨⟨h1 a aa9,k1⟩,k2,by omega⟩,h5,h6,fun b hb=>h7 b (List.mem_cons_of_mem _ hb)⟩
theorem jP(D:List aT)(hs: ∀s∈D,s.2.1.length≤1048576) :sI D=true↔bP D:=by
 unfold sI bP aaJ;rw[aat,aat,decide_eq_true_iff,decide_eq_true_iff,List.all_eq_true,and_assoc];refine and_congr Iff.rfl (and_congr Iff.rfl ⟨fun h s hsD=> ?_,fun h s hsD=> ?_⟩);·have:=h s hsD;rw[aat,aat,decide_eq_true_iff,decide_eq_true_iff,BC]at this;obtain⟨⟨h1,h2⟩,_,h4,h5⟩ :=this;exact⟨⟨h4,h5,hs s hsD⟩,h1,by omega⟩
 ·obtain⟨⟨h1,h2,_⟩,h3,h4⟩ :=h s hsD;rw[aat,aat,decide_eq_true_iff,decide_eq_true_iff,BC];refine⟨⟨h3,by omega⟩,fun a ha=> ?_,h1,h2⟩;have:=(jH _).1 (h2 a ha).1;omega
theorem RO(r:Int)(w:aab) :aar Tryd.prog 62 #[.int .i64 r] w fun e w'=>e= .returned (.bool (ig r))∧w'=w:=by
 have HW1:=ah (rA r 0 1114111 w);have HW2:=ah (rA r 55296 57343 w);by_cases h1:0≤r∧r≤1114111
 ·rw[show(decide (0≤r) &&decide (r≤1114111))=true by simp;omega]at HW1;obtain⟨B,hB⟩ : ∃B,(decide (55296≤r) &&decide (r≤57343))=B:=⟨_,rfl⟩;have HC:Hid (ig r= !B) :=by show _=_;rw[←hB,Bool.eq_iff_iff,jH];simp;omega
  rw[hB]at HW2;clear hB h1;go_enter Tryd.func62,Tryd.ntmps62;go_wp2_with fail;refine HW1.out.mono ?_;rintro e w1⟨rfl,rfl⟩;go_wp2_with fail;refine HW2.out.mono ?_;rintro e w2⟨rfl,rfl⟩;go_wp2_with fail;go_ret;exact⟨by rw[HC.out];rfl,rfl⟩
 ·have hd:(decide (0≤r) &&decide (r≤1114111))=false:=by
   rw[Bool.and_eq_false_iff];by_cases h4:0≤r;·exact aap (decide_eq_false (by omega))
   ·exact aau (decide_eq_false h4)
  have HC:Hid (ig r=false) :=by show _=_;rw[Bool.eq_false_iff];intro hc;have:=(jH r).1 hc;omega
  rw[hd]at HW1;clear hd h1 HW2;go_enter Tryd.func62,Tryd.ntmps62;go_wp2_with fail;refine HW1.out.mono ?_;rintro e w1⟨rfl,rfl⟩;go_wp2_with fail;go_ret;exact⟨by rw[HC.out];rfl,rfl⟩
theorem QM (n c : Nat) (a : Option Addr) (l : List (Int × Int)) (last : Int) (w : aab) (hlast : last = (n : Int) - 1) (hl : l.length ≤ 1048576) (h : Ii w a l) :
    aar Tryd.prog 44 #[.slice a l.length c, .int .i64 last] w fun e w' => e = .returned (.bool (dB n (-1) l)) ∧ aal w.heap.size w w' := by
  have H := ah h
  have RX := ah hlast
  clear h hlast
  go_enter Tryd.func44, Tryd.ntmps44
  go_wp2_with fail
  go_loopw [10, 5] (fun iv av wr => ∃ (i : Nat) (z : Int), i ≤ l.length ∧ iv = .int .i64 (i : Int) ∧ av = .int .i64 z ∧ dB n (-1) l = dB n z (l.drop i) ∧ aal w.heap.size w wr) (fun iv _ _ => l.length - (aax iv).toNat)
  case atStart => exact ⟨0, -1, aaY _, rfl, rfl, rfl, aaA _ _⟩
  case round =>
    obtain ⟨i, z, hi, rfl, rfl, hd, hb⟩ := hrel
    have HD := ah hd
    have HB := ah hb
    clear hd hb
    by_cases hlt : i < l.length
    · have hltz : (i : Int) < (l.length : Int) := by omega
      obtain ⟨b, off, rfl, hb1, hc⟩ := (H.out.below HB.out).resolve_left (fun e => by rw [e] at hlt; simp at hlt)
      obtain ⟨x0, x1⟩ := hc i hlt
      have hx : l.getD i (0, 0) = l[i] := by rw [aaQ, aaL hlt]; rfl
      rw [hx] at x0 x1
      have hdr : l.drop i = l[i] :: l.drop (i + 1) := (abf hlt).symm
      rw [hdr] at HD
      clear hc hx hdr
      generalize l[i] = p at *
      obtain ⟨p0, p1⟩ := p
      dsimp only at x0 x1
      have yM : Hid (∀ W, aar Tryd.prog 62 #[.int .i64 p0] W fun e w' => e = .returned (.bool (ig p0)) ∧ w' = W) := fun W => RO p0 W
      have HW : Hid (∀ W, aar Tryd.prog 43 #[.int .i64 p1, .int .i64 (-1), .int .i64 last] W fun e w' => e = .returned (.bool (decide (-1 ≤ p1) && decide (p1 ≤ last))) ∧ w' = W) := fun W => rA p1 (-1) last W
      have rR := ah (HB.out.alloc HB.out.size (.cells #[.int .i64 p0, .int .i64 p1] 44))
      by_cases hle : p0 ≤ z
      · have HN : Hid (dB n (-1) l = false) := by
          show _ = _
          rw [HD.out]
          unfold dB
          rw [decide_eq_false (show ¬ z < p0 by omega)]
          rfl
        go_wp2_with fail
        go_ret
        exact ⟨by rw [HN.out]; rfl, rR.out⟩
      · have dle : decide (p0 ≤ z) = false := decide_eq_false hle
        have O4 : decide (z < p0) = true := decide_eq_true (by omega)
        by_cases hch : ig p0 = true
        · rw [hch] at yM
          by_cases hto : (decide (-1 ≤ p1) && decide (p1 ≤ last)) = true
          · rw [hto] at HW
            have HN : Hid (dB n (-1) l = dB n p0 (l.drop (i + 1))) := by
              show _ = _
              rw [HD.out]
              conv => lhs; unfold dB
              rw [O4, hch, ← RX.out, hto]
              rfl
            clear hto hch O4 hle
            go_wp2_with fail
            refine (yM.out _).mono ?_
            rintro e w1 ⟨rfl, hw1⟩
            have y1 : w1.cell? ⟨wr.heap.size, 1, none⟩ = some (.int .i64 p1) := by rw [hw1]; exact aj (aaE _ _) 1
            have y0 : w1.cell? ⟨wr.heap.size, 0, none⟩ = some (.int .i64 p0) := by rw [hw1]; exact aj (aaE _ _) 0
            have Ui : Hid (aal w.heap.size w w1) := by
              show aal _ _ _
              rw [hw1]; exact rR.out
            clear hw1 x0 x1 rR yM
            go_wp2_with fail
            refine (HW.out _).mono ?_
            rintro e w2 ⟨rfl, hw2⟩
            obtain rfl := hw2
            go_wp2_with fail
            go_roundw
            case rel => exact ⟨i + 1, p0, by omega, by go_num, rfl, HN.out, Ui.out⟩
            case measure => simp [aax]; omega
          · have Wv : (decide (-1 ≤ p1) && decide (p1 ≤ last)) = false := by simpa using hto
            rw [Wv] at HW
            have HN : Hid (dB n (-1) l = false) := by
              show _ = _
              rw [HD.out]
              unfold dB
              rw [O4, hch, ← RX.out, Wv]
              rfl
            clear hto Wv hch O4 hle
            go_wp2_with fail
            refine (yM.out _).mono ?_
            rintro e w1 ⟨rfl, hw1⟩
            have y1 : w1.cell? ⟨wr.heap.size, 1, none⟩ = some (.int .i64 p1) := by rw [hw1]; exact aj (aaE _ _) 1
            have y0 : w1.cell? ⟨wr.heap.size, 0, none⟩ = some (.int .i64 p0) := by rw [hw1]; exact aj (aaE _ _) 0
            have Ui : Hid (aal w.heap.size w w1) := by
              show aal _ _ _
              rw [hw1]; exact rR.out
            clear hw1 x0 x1 rR yM
            go_wp2_with fail
            refine (HW.out _).mono ?_
            rintro e w2 ⟨rfl, hw2⟩
            obtain rfl := hw2
            go_wp2_with fail
            go_ret
            exact ⟨by rw [HN.out]; rfl, Ui.out⟩
        · have hch' : ig p0 = false := by simpa using hch
          rw [hch'] at yM
          have HN : Hid (dB n (-1) l = false) := by
            show _ = _
            rw [HD.out]
            unfold dB
            rw [O4, hch']
            rfl
          clear hch hch' O4 hle HW
          go_wp2_with fail
          refine (yM.out _).mono ?_
          rintro e w1 ⟨rfl, hw1⟩
          have Ui : Hid (aal w.heap.size w w1) := by
            show aal _ _ _
            rw [hw1]; exact rR.out
          clear hw1 x0 x1 rR yM
          go_wp2_with fail
          go_ret
          exact ⟨by rw [HN.out]; rfl, Ui.out⟩
    · have hltz : ¬ (i : Int) < (l.length : Int) := by omega
      have HN : Hid (dB n (-1) l = true) := by
        show _ = _
        rw [HD.out, abl (by omega)]
        rfl
      go_wp2_with fail
      go_ret
      exact ⟨by rw [HN.out]; rfl, HB.out⟩
def Bj(n:Nat)(s:aT) :Bool:=decide (-1≤s.2.2) &&decide (s.2.2≤(n:Int)-1) &&dB n (-1) s.2.1
theorem Al(c:Nat)(a:Option Addr)(D:List aT)(w:aab)(hs: ∀s∈D,s.2.1.length≤1048576)(hl3:D.length≤1048576)(h:dP w a D) :aar Tryd.prog 26 #[.agg #[.slice a D.length c]] w fun e w'=>e= .returned (.bool (sI D))∧aal w.heap.size w w':=by
 have hb0:aal w.heap.size w (w.alloc (.cells #[.slice a D.length c] 25)) :=(aaA _ _).alloc (aas _) _;have hn0:=aaE w (.cells #[.slice a D.length c] 25);have H:=ah (h.below hb0);have HS:=ah hs;have HB0:=ah hb0;have x0:(w.alloc (.cells #[.slice a D.length c] 25)).cell? ⟨w.heap.size,0,none⟩=some (.slice a D.length c) :=aj hn0 0;have HW0:=ah (rA (D.length:Int) 1 256 (w.alloc (.cells #[.slice a D.length c] 25)));obtain⟨last,hlast⟩ : ∃last:Int,(D.length:Int)-1=last:=⟨_,rfl⟩;have RX:=ah hlast;clear h hs hb0 hn0;have xO:Hid (sI D=((decide (1≤(D.length:Int)) &&decide ((D.length:Int)≤256)) &&D.all (Bj D.length))) :=by
  show _=_;unfold sI Bj;congr 2;·exact decide_eq_decide.2 (by omega)
  ·exact decide_eq_decide.2 (by omega)
 by_cases hok:(decide (1≤(D.length:Int)) &&decide ((D.length:Int)≤256))=true
 ·rw[hok]at HW0;rw[hok,aa3]at xO;clear hok;go_enter Tryd.func26,Tryd.ntmps26;go_wp2_with fail;refine HW0.out.mono ?_;rintro e w1⟨rfl,hw1⟩;rw[←hw1]at x0 H HB0;clear hw1 HW0;go_wp2_with fail;clear hlast x0;go_loopw [18](fun iv wr=>∃(i:Nat),i≤D.length∧iv= .int .i64 (i:Int)∧D.all (Bj D.length)=(D.drop i).all (Bj D.length)∧aal w1.heap.size w1 wr)(fun iv _=>D.length-(aax iv).toNat);case atStart=>exact⟨0,aaY _,rfl,rfl,aaA _ _⟩
  case round=>
   obtain⟨i,hi,rfl,hdr,hb⟩ :=hrel;have HB:=ah hb;have qE:=ah hdr;clear hb hdr;by_cases hlt:i<D.length
   ·have hltz:(i:Int)<(D.length:Int) :=by omega
    obtain⟨b,off,rfl,hb1,hc⟩ :=(H.out.below HB.out).resolve_left (fun e=>by rw[e]at hlt;simp at hlt);obtain⟨x0,ai,ci,x1,hx,x2⟩ :=hc i hlt;have hgd:D.getD i ps0=D[i] :=by rw[aaQ,aaL hlt];rfl
    have hsl:=HS.out _ (abd hlt);have hdr:D.drop i=D[i] ::D.drop (i+1) :=(abf hlt).symm;rw[hdr,List.all_cons]at qE;rw[hgd]at x0 x1 hx x2;clear hc hgd hdr;generalize D[i]=s at*;obtain⟨f,rs,z⟩ :=s;dsimp only at x0 x1 hx x2 hsl;obtain⟨W2,hW2⟩ : ∃W2,wr.alloc (.cells #[.bool f,.slice ai rs.length ci,.int .i64 z] 42)=W2:=⟨_,rfl⟩;have hb2:aal wr.heap.size wr W2:=by rw[←hW2];exact(aaA _ _).alloc (aas _) _
    have hn2:W2.heap[wr.heap.size]?=some (.cells #[.bool f,.slice ai rs.length ci,.int .i64 z] 42) :=by rw[←hW2];exact aaE _ _
    have HA:=ah (QM D.length ci ai rs last W2 RX.out.symm hsl (hx.below hb2));have HW:Hid (aar Tryd.prog 43 #[.int .i64 z,.int .i64 (-1),.int .i64 last] W2 fun e w'=>e= .returned (.bool (decide (-1≤z) &&decide (z≤last)))∧w'=W2) :=rA z (-1) last W2;have y1:W2.cell? ⟨wr.heap.size,1,none⟩=some (.slice ai rs.length ci) :=aj hn2 1;have y2:W2.cell? ⟨wr.heap.size,2,none⟩=some (.int .i64 z) :=aj hn2 2;have HB2:=ah (HB.out.trans (hb2.mono HB.out.size));have fZ:Hid (Bj D.length (f,rs,z)=((decide (-1≤z) &&decide (z≤last)) &&dB D.length (-1) rs)) :=by show _=_;rw[←RX.out];rfl
    rw[fZ.out]at qE;clear hx hb2 hn2 fZ;go_upto_region 7 with fail;try rw[hW2]
    clear hW2 x0 x1 x2;by_cases hz:(decide (-1≤z) &&decide (z≤last))=true
    ·rw[hz]at HW;rw[hz,aa3]at qE;clear hz;go_wp2_with fail;refine HW.out.mono ?_;rintro e w2⟨rfl,hw2⟩;subst hw2;go_wp2_with fail;refine HA.out.mono ?_;rintro e w3⟨rfl,hb3⟩;have HB3:=ah (HB2.out.trans (hb3.mono HB2.out.size));clear hb3;cases hq:dB D.length (-1) rs with
     |true=>
      rw[hq,aa3]at qE;go_wp2_with fail;go_roundw;case rel=>exact⟨i+1,by omega,by go_num,qE.out,HB3.out⟩
      case measure=>simp[aax];omega
     |false=>rw[hq,aaR]at qE;go_wp2_with fail;go_ret;exact⟨by rw[xO.out,qE.out];rfl,HB0.out.trans (HB3.out.mono HB0.out.size)⟩
    ·have hz':(decide (-1≤z) &&decide (z≤last))=false:=by simpa using hz
     rw[hz']at HW;rw[hz',aaR,aaR]at qE;clear hz hz';go_wp2_with fail;refine HW.out.mono ?_;rintro e w2⟨rfl,hw2⟩;subst hw2;go_wp2_with fail;go_ret;exact⟨by rw[xO.out,qE.out];rfl,HB0.out.trans (HB2.out.mono HB0.out.size)⟩
   ·have hltz: ¬(i:Int)<(D.length:Int) :=by omega
    have HE:Hid (D.all (Bj D.length)=true) :=by show _=_;rw[qE.out,abl (by omega)];rfl
    exact aaX
 ·have hok':(decide (1≤(D.length:Int)) &&decide ((D.length:Int)≤256))=false:=by simpa using hok
  rw[hok']at HW0;rw[hok',aaR]at xO;clear hok hok';go_enter Tryd.func26,Tryd.ntmps26;go_wp2_with fail;refine HW0.out.mono ?_;rintro e w1⟨rfl,hw1⟩;rw[←hw1]at HB0;clear hw1 HW0 x0;go_wp2_with fail;go_ret;exact⟨by rw[xO.out];rfl,HB0.out⟩
theorem Jt(c:Nat)(a:Option Addr)(D:List aT)(w:aab)(hV:bP D)(h:dP w a D) :aar Tryd.prog 26 #[.agg #[.slice a D.length c]] w fun e w'=>e= .returned (.bool true)∧aal w.heap.size w w':=by have hs: ∀s∈D,s.2.1.length≤1048576:=fun s hs=>(hV.2.2 s hs).1.2.2;have:=Al c a D w hs (by have:=hV.2.1;omega) h;rwa [(jP D hs).2 hV]at this
end Go.Proofs.YtkbjimkngmlfcaaDoor
