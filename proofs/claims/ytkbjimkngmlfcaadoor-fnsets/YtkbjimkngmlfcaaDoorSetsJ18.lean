import Derived.Test.YtkbjimkngmlfcaaDoorSetsJ16
import Derived.Test.YtkbjimkngmlfcaaDoorSetsJ17
open Go renaming World→aal,Value→aab,info_parts→aaQ,heap_alloc_new→aaF,wp_region_held→aaY
open Go.RowKit renaming Below→aah,wrap64→aax,intOf→aau
open Go.RowKit.Below renaming refl→aap,heap_alloc→aaV
open Go.World renaming ownsRow_nil→aa4,ownsRow→aaK,ownsRow_lit→aaR
open List renaming length_append→aav,length_map→aaA,map_append→aa5,getD_eq_getElem?_getD→aa8,getElem?_eq_getElem→aaU,append_assoc→aa9,take_of_length_le→aaT,replicate→aat,length_replicate→aa7
open List.Mem renaming head→aaw,tail→aaE
open Nat renaming le_refl→aas,zero_le→aaL,le_trans→aar
namespace Go.Proofs.YtkbjimkngmlfcaaDoor
open Go Go.RowKit
set_option linter.unusedVariables false
set_option linter.unusedSimpArgs false
set_option maxRecDepth 100000
set_option maxHeartbeats 8000000
theorem af2 {P:Prop}(h:P:=by
 have ahS:(k:Int)<(k9:Int) :=by omega
 have hkl:k<rs.length:=by rw[O5.out];exact hkn
 obtain⟨b2,o2,rfl,ar2,hac⟩ :=((Zt.out.below HB2.out)).resolve_left (fun e=>by rw[e]at hkl;simp at hkl);obtain⟨f0,f1⟩ :=hac k hkl;have OL:=ah (UB L rs k hkl);have wV:=ah (Wi L rs k (Nat.le_of_lt hkl));clear hac f1 hkl;generalize(rs.getD k (0,0)).1=r at*;have agC:=HB2.out.size;have arL:(oQ L rs k).length≤1048576:=by have:=Qn.out;rw[wV.out];omega
 go_wp2_with(at_builtin;refine dm rfl _ _ 56 3 rfl i0 (.int .i64 0) 8 Tryd.underlying56 hi hz0 hz1 hz2 rfl w1.heap.size _ _ _ rfl HO.out _ rfl rfl (by omega) (by decide) agC ?_);intro v' w' hown' xK hat' hne';have dO:Hid (w'.ownsRow w1.heap.size 3 1 v' (oQ L rs (k+1)).length (zI (oQ L rs (k+1)))) :=by show World.ownsRow _ _ _ _ _ _ _;rw[OL.out,mh,List.length_append,List.length_singleton];exact hown'
 have HB3:Hid (Below w1.heap.size w1 w') :=HB2.out.trans (xK.below agC (fun x hx e=>by have:=(aA HO.out e).1;omega));clear hown' xK hat' hne';go_wp2_with fail;go_roundw;case rel=>exact⟨k+1,by omega,by go_num,dO.out,HB3.out⟩
 case measure=>simp[intOf];omega) :P:=h
theorem ac3 {P:Prop}(h:P:=by unfold fK;rw[if_neg (by omega),Int.toNat_natCast,List.getElem?_eq_getElem hal,List.getD_eq_getElem?_getD,List.getElem?_eq_getElem hal];rfl) :P:=h
theorem acV {P:Prop}(h:P:=by
 go_wp2_with fail;go_roundw;case rel=>exact⟨i+1,by omega,by go_num,dO.out,HB2.out⟩
 case measure=>simp[intOf];omega) :P:=h
theorem ae9 {P:Prop}(h:P:=by have BQ:=ah hf;clear hc s1 hx s2 hf;go_quiet(fail);go_wp2_with fail;go_meet;case rel=>exact⟨by rw[BQ.out],_,rfl⟩) :P:=h
theorem aaI {P:Prop}(h:P:=by go_quiet(fail);go_wp2_with fail;go_meet;case rel=>exact⟨by rw[hf],_,rfl⟩) :P:=h
theorem Gz {D:List aT} {i:Nat}(hi:i<D.length) :(bE (D.take i)).length+(D.getD i ps0).2.1.length≤(bE D).length:=by
 have h:=BR D i hi;have e:bE D=bE (D.take (i+1))++bE (D.drop (i+1)) :=by unfold bE;rw[←List.flatMap_append,List.take_append_drop]
 rw[e,h,aav,aav,aaA];omega
def oQ(L:List Int)(rs:List (Int×Int))(k:Nat) :List Int:=L++(rs.take k).map Prod.fst
theorem Jf(L:List Int)(rs:List (Int×Int)) :oQ L rs 0=L:=by simp[oQ]
theorem UB(L:List Int)(rs:List (Int×Int))(k:Nat)(hk:k<rs.length) :oQ L rs (k+1)=oQ L rs k++ [(rs.getD k (0,0)).1] :=by unfold oQ;rw[List.take_succ_eq_append_getElem hk,aa5,aa8,aaU hk,aa9];rfl
theorem Wi(L:List Int)(rs:List (Int×Int))(k:Nat)(hk:k≤rs.length) :(oQ L rs k).length=L.length+k:=by simp[oQ];omega
theorem Kh(L:List Int)(rs:List (Int×Int))(k:Nat)(hk:rs.length≤k) :oQ L rs k=L++rs.map Prod.fst:=by unfold oQ;rw[aaT hk]
theorem dY.first {ks:uU} {w0 W:aal} {rb:Nat} {vl vw vr vp:aab} {ls sn x0:List Int} {R:aU}(h1:aah w0.heap.size w0 W)(h2:w0.heap.size≤rb)(h3: ∀p∈ks,(p.1≠rb∧p.2.2≠3∧p.2.2≠56∧p.2.2≠4)∧W.heap[p.1]?=some (.cells p.2.1 p.2.2))(h4:W.heap[rb]?=some (.cells #[vl,.slice none 0 0,.slice none 0 0] 60))(h5:aY W w0.heap.size R)(r0:R 0=some (vl,ls))(r1:R 1=some (vw,sn))(r4:R 4=some (vp,x0))(ho:W.ownsRow w0.heap.size 56 1 vr 1 [vp]) :dY ks w0 W rb vl (.slice none 0 0) (.slice none 0 0) vw vr sn ls [x0] [vp] [] [] [] R:=by
 refine⟨h1,h2,h3,h4,h5,r0,r1,ho,fun j u z k1 k2=> ?_,aa4 _ _ _ _,fun j u z k1 k2=>by simp at k1,fun b hb e=>(nomatch e),aa4 _ _ _ _⟩;match j,k1,k2 with
 |0,k1,k2=>simp at k1 k2;subst k1 k2;exact r4
 |j+1,k1,k2=>simp at k1
theorem dY.setW {ks:uU} {w0 W:aal} {rb M gw cw:Nat} {vl vf vn vr:aab} {word ls:List Int} {Z:List (List Int)} {us:List aab} {aB:List (List Nat)} {ns:List aab} {ak:List Bool} {R:aU}(h:dY ks w0 W rb vl vf vn (.slice (some ⟨gw,0,none⟩) M cw) vr word ls Z us aB ns ak R)(hM:word.length=M) {k:Nat}(hk:k<M)(x:Int) :dY ks w0 (W.setCell ⟨gw,k,none⟩ (.int .i64 x)) rb vl vf vn (.slice (some ⟨gw,0,none⟩) M cw) vr (word.set k x) ls Z us aB ns ak (upd R 1 (some (.slice (some ⟨gw,0,none⟩) M cw,word.set k x))) :=by subst hM;exact h.aeu hk x
theorem dY.other {ks:uU} {w0 W W':aal} {rb:Nat} {vl vf vn vw vr:aab} {word ls:List Int} {Z:List (List Int)} {us:List aab} {aB:List (List Nat)} {ns:List aab} {ak:List Bool} {R:aU}(h:dY ks w0 W rb vl vf vn vw vr word ls Z us aB ns ak R) {b:Nat} {cs:Array aab} {t:TypeId}(hh:W.heap[b]?=some (.cells cs t))(h1:t≠3)(h2:t≠56)(h3:t≠4)(hr:b≠rb)(hge:w0.heap.size≤b)(hb:But (fun x=>x=b) W W') :dY [] w0 W' rb vl vf vn vw vr word ls Z us aB ns ak R:=by
 have ho: ∀x,x<W.heap.size→x≠b→W'.heap[x]?=W.heap[x]?:=fun x hx hn=>hb.block x hx hn;have hown: ∀ {e base n:Nat} {v:aab} {xs:List aab},e≠t→W.ownsRow base e 1 v n xs→W'.ownsRow base e 1 v n xs:=by intro e base n v xs he hx;refine aG hx (fun x hv=> ?_);obtain⟨_,cur,k⟩ :=aA hx hv;exact ho x (Array.getElem?_eq_some_iff.1 k).1 (bU k hh he)
 exact⟨h.below.trans (hb.below h.below.size (fun j hj e=>by omega)),h.low,fun p hp=>absurd hp (by simp),(ho rb (Array.getElem?_eq_some_iff.1 h.bW).1 (Ne.symm hr)).trans h.bW,h.rows.but hb (fun x hx cur k=>by subst hx;exact bU hh k h1 rfl),h.mE,h.AQ,hown (Ne.symm h2) h.outer,h.row,hown (Ne.symm h2) h.nx,h.zu,h.apart,hown (Ne.symm h3) h.fin⟩
theorem dY.VC {ks:uU} {w0 W:aal} {rb g c:Nat} {vl vf vn vw:aab} {word ls:List Int} {Q:List (Int×Int)} {us:List aab} {aB:List (List Nat)} {ns:List aab} {ak:List Bool} {R:aU}(h:dY ks w0 W rb vl vf vn vw (.slice (some ⟨g,0,none⟩) Q.length c) word ls (Q.map lU) us aB ns ak R) {i:Nat} {x:Int×Int}(hi:Q[i]?=some x) : ∃gu cu,(∃cs t,W.heap[g]?=some (.cells cs t)∧cs[i]?=some (.slice (some ⟨gu,0,none⟩) 2 cu))∧(∃cs t,W.heap[gu]?=some (.cells cs t)∧cs[0]?=some (.int .i64 x.1)∧cs[1]?=some (.int .i64 x.2))∧2≤cu:=by
 have hlt:=(List.getElem?_eq_some_iff.1 hi).1;have hz:(Q.map lU)[i]?=some (lU x) :=by rw[List.getElem?_map,hi];rfl
 have DR:us.length=Q.length:=by have k:=h.outer.1;rw[aaA]at k;omega
 obtain⟨u,hu⟩ : ∃u,us[i]?=some u:=⟨_,aaU (by omega)⟩;have hou:=h.rows.own _ _ _ (h.row i u (lU x) hu hz);obtain⟨_,cs,kg⟩ :=aA h.outer (b:=g) rfl;have ho:=h.outer;rw[aaA]at ho;have kc:=aQ ho hu;rw[aj kg]at kc;rcases hou.2 with⟨_,h0⟩| ⟨gu,cu,cur,rfl,h2,h3,h4,_⟩;·simp[lU]at h0
 ·have c0:=aQ hou (p:=0) (u:= .int .i64 x.1) rfl;have c1:=aQ hou (p:=1) (u:= .int .i64 x.2) rfl;rw[aj h3]at c0 c1;exact⟨gu,cu,⟨cs,_,kg,kc⟩,⟨cur,_,h3,c0,c1⟩,h4⟩
theorem dY.seenAt {ks:uU} {w0 W:aal} {rb gs M cM:Nat} {vl vf vn vr:aab} {word ls:List Int} {Z:List (List Int)} {us:List aab} {aB:List (List Nat)} {ns:List aab} {ak:List Bool} {R:aU}(h:dY ks w0 W rb vl vf vn (.slice (some ⟨gs,0,none⟩) M cM) vr word ls Z us aB ns ak R)(hl:word.length=M) {k:Nat}(hk:k<M) :W.cell? ⟨gs,k,none⟩=some (.int .i64 (word.getD k 0))∧W.frozen? ⟨gs,k,none⟩=false:=by have ho:=h.rows.own _ _ _ h.AQ;subst hl;refine⟨aQ ho (by simp[zI,hk]),gI ho k⟩
theorem ajE {y1:Int} {n P:Nat}(h:(y1+1).toNat*(n+1)=P)(h0: -1≤y1)(h1:P≤66049) :aax ((y1+1)*((n:Int)+1))=(P:Int) :=by
 have e:y1+1=(((y1+1).toNat:Nat) :Int) :=by omega
 have Uk:(y1+1)*((n:Int)+1)=(P:Int) :=by rw[e,←h];simp
 rw[Uk];unfold aax;omega
theorem Xu {X:Type} [DecidableEq X](Q:List X)(y:X) :(meet Q y).length≤Q.length+1:=by unfold meet;split<;>simp
abbrev tX(sz:Nat)(ad bd:Option Addr)(m n ca cb:Nat) :uU:=[(sz,#[.slice ad m ca],25),(sz+1,#[.slice bd n cb],25),(sz+1+1,#[.slice none 0 0,.slice none 0 0,.slice none 0 0],60)]
theorem wrapM {m n M:Nat}(h:(m+1)*(n+1)=M)(h1:M≤66049) :aax (((m:Int)+1)*((n:Int)+1))=(M:Int) :=by
 have Uk:((m:Int)+1)*((n:Int)+1)=(M:Int) :=by rw[←h];simp
 rw[Uk];unfold aax;omega
theorem SX {m n M:Nat}(h:(m+1)*(n+1)=M)(h1:m≤256)(h2:n≤256) :M≤66049:=by have:=Nat.mul_le_mul (show m+1≤257 by omega) (show n+1≤257 by omega);rw[h]at this;simpa using this
theorem XG {m n M:Nat}(h:(m+1)*(n+1)=M)(h1:1≤m)(h2:1≤n) :n+2<M:=by have h3:=Nat.mul_le_mul_right (n+1) (show 2≤m+1 by omega);rw[h]at h3;omega
def aeD(A B:List aT)(op:Bool→Bool→Bool)(w:aal)(e:Ending)(w':aal) :Prop:=∃ks rb vl vf vn vw vr sn ls Z us aB ns ak R,e= .returned (.agg #[vl,vf,vn])∧dY ks w w' rb vl vf vn vw vr sn ls (Z.map lU) us aB ns ak R∧iG ls∧(∀r,r∈ls↔r∈bE A++bE B)∧ls.length≤(bE A++bE B).length∧jL (lV A B op (ls++ [-9])) (ls.length+1) (0,0) Z.length Z aB ak∧Z.Nodup∧(∀z∈Z,lu A B z)∧0<Z.length
theorem Bb(A B:List aT)(how:Int)(Ev:how=0∨how=1)(ad bd:Option Addr)(ca cb:Nat)(w:aal)(hA:bP A)(hB:bP B)(hsA: ∀s∈A,s.2.1.length≤4096)(hsB: ∀s∈B,s.2.1.length≤4096)(Ns:(bE A++bE B).length≤1048576)(ha:dP w ad A)(hb:dP w bd B) :Calls Tryd.prog 31 #[.agg #[.slice ad A.length ca],.agg #[.slice bd B.length cb],.int .i64 how] w (aeD A B (wJ how) w) :=by
 obtain⟨i0,hi,hz0,hz1,hz2⟩ :=aaQ Tryd.infoIntL;obtain⟨is,his,hs0,hs1,hs2⟩ :=aaQ Tryd.infoSlI;obtain⟨ib,hib,hb0,hb1,hb2⟩ :=aaQ Tryd.infoBoP;have YZ:=ah Ev;clear Ev;have jm:=ah hA;have nI:=ah hB;have DJ:=ah hsA;have IG:=ah hsB;have yc:=ah Ns;have hx1:(w.alloc (.cells #[.slice ad A.length ca] 25)).heap.size=w.heap.size+1:=by simp
 have hx2:((w.alloc (.cells #[.slice ad A.length ca] 25)).alloc (.cells #[.slice bd B.length cb] 25)).heap.size=w.heap.size+2:=by simp
 have hbe:aah w.heap.size w (((w.alloc (.cells #[.slice ad A.length ca] 25)).alloc (.cells #[.slice bd B.length cb] 25)).alloc (.cells #[.slice none 0 0,.slice none 0 0,.slice none 0 0] 60)) :=(((aap _ _).alloc (aas _) _).alloc (by rw[hx1];omega) _).alloc (by rw[hx2];omega) _;have p0:(((w.alloc (.cells #[.slice ad A.length ca] 25)).alloc (.cells #[.slice bd B.length cb] 25)).alloc (.cells #[.slice none 0 0,.slice none 0 0,.slice none 0 0] 60)).heap[w.heap.size]?=some (.cells #[.slice ad A.length ca] 25) :=by rw[aaV _ _ _ (by rw[hx2];omega),aaV _ _ _ (by rw[hx1];omega)];exact aaF _ _
 have p1:(((w.alloc (.cells #[.slice ad A.length ca] 25)).alloc (.cells #[.slice bd B.length cb] 25)).alloc (.cells #[.slice none 0 0,.slice none 0 0,.slice none 0 0] 60)).heap[w.heap.size+1]?=some (.cells #[.slice bd B.length cb] 25) :=by rw[aaV _ _ _ (by rw[hx2];omega),←hx1];exact aaF _ _
 have p2:(((w.alloc (.cells #[.slice ad A.length ca] 25)).alloc (.cells #[.slice bd B.length cb] 25)).alloc (.cells #[.slice none 0 0,.slice none 0 0,.slice none 0 0] 60)).heap[w.heap.size+2]?=some (.cells #[.slice none 0 0,.slice none 0 0,.slice none 0 0] 60) :=by rw[←hx2];exact aaF _ _
 have hl1:=hA.2.1;have hl2:=hB.2.1;have hp1:=hA.1;have hp2:=hB.1;clear hx1 hx2 hA hB hsA hsB Ns;obtain⟨m,hm⟩ : ∃m,A.length=m:=⟨_,rfl⟩;obtain⟨n,hn⟩ : ∃n,B.length=n:=⟨_,rfl⟩;have jN:=ah hm;have fG:=ah hn;rw[hm]at hbe p0 p1 p2 hl1 hp1⊢;rw[hn]at hbe p0 p1 p2 hl2 hp2⊢;go_enter Tryd.func31,Tryd.ntmps31;go_upto_region 1 with fail;obtain⟨w1,hw1⟩ : ∃w1,((w.alloc (.cells #[.slice ad m ca] 25)).alloc (.cells #[.slice bd n cb] 25)).alloc (.cells #[.slice none 0 0,.slice none 0 0,.slice none 0 0] 60)=w1:=⟨_,rfl⟩;rw[hw1]at hbe p0 p1 p2;try rw[hw1]
 have pQ:=ah hbe;have jc:=ah p0;have bY:=ah p1;have cZ:=ah p2;have MF:=ah ha;have rF:=ah hb;have HHA:=ah (ha.below hbe);have HHB:=ah (hb.below hbe);have hbz:=hbe.size;clear hw1 hbe p0 p1 p2 ha hb hm hn;obtain⟨sz,hsz⟩ : ∃sz,w.heap.size=sz:=⟨_,rfl⟩;have uq:=ah hsz;rw[hsz]at jc bY cZ hbz;try simp only[hsz]
 clear hsz;have Bh:=ah (gF w1 3);have HB0:Hid (aah w1.heap.size w1 (w1.alloc (.cells #[] 3))) :=(aap _ _).alloc (aas _) _;go_upto_region 2 with fail;generalize w1.alloc (.cells #[] 3)=w2 at*;go_wp2_with fail;go_loopw [7,8](fun vv iv wx=>∃i:Nat,i≤m∧iv= .int .i64 (i:Int)∧wx.ownsRow w1.heap.size 3 1 vv (bE (A.take i)).length (zI (bE (A.take i)))∧aah w1.heap.size w1 wx)(fun _ iv _=>m-(aau iv).toNat);case atStart=>exact⟨0,aaL _,rfl,Bh.out,HB0.out⟩
 case round=>
  clear Bh HB0;obtain⟨i,hile,rfl,hown,hbx⟩ :=hrel;have HO:=ah hown;have HB:=ah hbx;have q0:wr.cell? ⟨sz,0,none⟩=some (.slice ad m ca) :=aj (aC jc.out hbx) 0;clear hown hbx;by_cases hin:i<m
  ·have Bf:(i:Int)<(m:Int) :=by omega
   obtain⟨b,off,rfl,hbl,hc⟩ :=HHA.out.resolve_left (fun e=>by have:=jN.out;rw[e]at this;simp at this;omega);have jY:i<A.length:=by rw[jN.out];exact hin
   obtain⟨s0,ai,ci,s1,hx,s2⟩ :=hc i jY;have qB:=ah (BR A i jY);have rH:Hid ((bE (A.take i)).length+(A.getD i ps0).2.1.length≤(bE A).length) :=Gz jY;clear hc s0 s2 jY;generalize(A.getD i ps0).2.1=rs at*;obtain⟨k9,tT⟩ : ∃k9,rs.length=k9:=⟨_,rfl⟩;have O5:=ah tT;rw[tT]at s1;clear tT;have Zt:=ah hx;clear hx;obtain⟨L,hL⟩ : ∃L,(bE (A.take i))=L:=⟨_,rfl⟩;have HL:=ah hL;rw[hL]at HO;have Qn:Hid (L.length+k9≤1048576) :=by show _≤_;have h1:=yc.out;have h2:=rH.out;have h3:=O5.out;rw[aav]at h1;rw[←hL];omega
   have amO:k9≤1048576:=by have:=Qn.out;omega
   clear hL;go_wp2_with fail;go_loopw [7,9](fun vv kv wx=>∃k:Nat,k≤k9∧kv= .int .i64 (k:Int)∧wx.ownsRow w1.heap.size 3 1 vv (oQ L rs k).length (zI (oQ L rs k))∧aah w1.heap.size w1 wx)(fun _ kv _=>k9-(aau kv).toNat);case atStart=>exact⟨0,aaL _,rfl,by rw[Jf];exact HO.out,HB.out⟩
   case round=>
    clear HO;obtain⟨k,hkle,rfl,hown,hbx⟩ :=hrel;have HO:=ah hown;have HB2:=ah hbx;have e0:wr.cell? ⟨sz,0,none⟩=some (.slice (some ⟨b,off,none⟩) m ca) :=aj (aC jc.out hbx) 0;have e1:wr.cell? ⟨b,off+i*3+1,none⟩=some (.slice ai k9 ci) :=(hbx.cell (p:=⟨b,off+i*3+1,none⟩) hbl).trans s1;clear hown hbx;by_cases hkn:k<k9;·exact af2
    ·have ahS: ¬(k:Int)<(k9:Int) :=by omega
     have dO:Hid (wr.ownsRow w1.heap.size 3 1 u7 (bE (A.take (i+1))).length (zI (bE (A.take (i+1))))) :=by show aaK _ _ _ _ _ _ _;have h:=HO.out;rw[Kh _ _ _ (by rw[O5.out];omega),←HL.out,←qB.out]at h;exact h
     exact acV
  ·have Bf: ¬(i:Int)<(m:Int) :=by omega
   have dO:Hid (wr.ownsRow w1.heap.size 3 1 u7 (bE A).length (zI (bE A))) :=by show aaK _ _ _ _ _ _ _;have h:=HO.out;rw[aaT (by rw[jN.out];omega)]at h;exact h
   clear HO;go_wp2_with fail;go_loopw [7,10](fun vv iv wx=>∃i:Nat,i≤n∧iv= .int .i64 (i:Int)∧wx.ownsRow w1.heap.size 3 1 vv (bE A++bE (B.take i)).length (zI (bE A++bE (B.take i)))∧aah w1.heap.size w1 wx)(fun _ iv _=>n-(aau iv).toNat);case atStart=>exact⟨0,aaL _,rfl,(by have h:=dO.out;rw[←List.append_nil (bE A)]at h;exact h),HB.out⟩
   case round=>
    clear dO HB;obtain⟨i,hile,rfl,hown,hbx⟩ :=hrel;have HO:=ah hown;have HB:=ah hbx;have q0:wr.cell? ⟨sz+1,0,none⟩=some (.slice bd n cb) :=aj (aC bY.out hbx) 0;clear hown hbx;by_cases hin:i<n
    ·have Bf:(i:Int)<(n:Int) :=by omega
     obtain⟨b,off,rfl,hbl,hc⟩ :=HHB.out.resolve_left (fun e=>by have:=fG.out;rw[e]at this;simp at this;omega);have jY:i<B.length:=by rw[fG.out];exact hin
     obtain⟨s0,ai,ci,s1,hx,s2⟩ :=hc i jY;have qB:=ah (BR B i jY);have rH:Hid ((bE (B.take i)).length+(B.getD i ps0).2.1.length≤(bE B).length) :=Gz jY;clear hc s0 s2 jY;generalize(B.getD i ps0).2.1=rs at*;obtain⟨k9,tT⟩ : ∃k9,rs.length=k9:=⟨_,rfl⟩;have O5:=ah tT;rw[tT]at s1;clear tT;have Zt:=ah hx;clear hx;obtain⟨L,hL⟩ : ∃L,(bE A++bE (B.take i))=L:=⟨_,rfl⟩;have HL:=ah hL;rw[hL]at HO;have Qn:Hid (L.length+k9≤1048576) :=by show _≤_;have h1:=yc.out;have h2:=rH.out;have h3:=O5.out;rw[aav]at h1;rw[←hL,aav];omega
     have amO:k9≤1048576:=by have:=Qn.out;omega
     clear hL;go_wp2_with fail;go_loopw [7,11](fun vv kv wx=>∃k:Nat,k≤k9∧kv= .int .i64 (k:Int)∧wx.ownsRow w1.heap.size 3 1 vv (oQ L rs k).length (zI (oQ L rs k))∧aah w1.heap.size w1 wx)(fun _ kv _=>k9-(aau kv).toNat);case atStart=>exact⟨0,aaL _,rfl,by rw[Jf];exact HO.out,HB.out⟩
     case round=>
      clear HO;obtain⟨k,hkle,rfl,hown,hbx⟩ :=hrel;have HO:=ah hown;have HB2:=ah hbx;have e0:wr.cell? ⟨sz+1,0,none⟩=some (.slice (some ⟨b,off,none⟩) n cb) :=aj (aC bY.out hbx) 0;have e1:wr.cell? ⟨b,off+i*3+1,none⟩=some (.slice ai k9 ci) :=(hbx.cell (p:=⟨b,off+i*3+1,none⟩) hbl).trans s1;clear hown hbx;by_cases hkn:k<k9;·exact af2
      ·have ahS: ¬(k:Int)<(k9:Int) :=by omega
       have dO:Hid (wr.ownsRow w1.heap.size 3 1 u7 (bE A++bE (B.take (i+1))).length (zI (bE A++bE (B.take (i+1))))) :=by show aaK _ _ _ _ _ _ _;have h:=HO.out;rw[Kh _ _ _ (by rw[O5.out];omega),←HL.out,aa9,←qB.out]at h;exact h
       exact acV
    ·have Bf: ¬(i:Int)<(n:Int) :=by omega
     have dO:Hid (wr.ownsRow w1.heap.size 3 1 u7 (bE A++bE B).length (zI (bE A++bE B))) :=by show aaK _ _ _ _ _ _ _;have h:=HO.out;rw[aaT (by rw[fG.out];omega)]at h;exact h
     clear HO;go_wp2_with fail;refine(yo (bE A++bE B) _ _ yc.out (bD.own dO.out)).mono ?_;rintro e w3⟨vl,ls,rfl,hrise,hmem,G6,sO,hb3⟩;have qF:=ah hrise;have kH:=ah hmem;have wV:=ah G6;have hll:ls.length≤1048576:=aar G6 yc.out;obtain⟨al,cl,rfl⟩ : ∃a c,vl= .slice a ls.length c:=by exact agh
     have yz:aah w1.heap.size w1 w3:=HB.out.trans (hb3.mono HB.out.size);have aij:aah w.heap.size w w3:=pQ.out.trans (yz.mono pQ.out.size);have Ag:=ah yz;have Pm:=ah aij;have FJ:Hid (w3.ownsRow w.heap.size 3 1 (.slice al ls.length cl) ls.length (zI ls)) :=sO.mono (aar pQ.out.size HB.out.size);clear hrise hmem G6 sO hb3 yz aij dO HB;go_upto_region 17 with fail;have Ew:aah w3.heap.size w3 (w3.alloc (.cells #[.slice al ls.length cl,.slice none 0 0,.slice none 0 0] 60)) :=(aap _ _).alloc (aas _) _;have hr4:(w3.alloc (.cells #[.slice al ls.length cl,.slice none 0 0,.slice none 0 0] 60)).heap[w3.heap.size]?=some (.cells #[.slice al ls.length cl,.slice none 0 0,.slice none 0 0] 60) :=aaF _ _;generalize w3.alloc (.cells #[.slice al ls.length cl,.slice none 0 0,.slice none 0 0] 60)=w4 at*;obtain⟨rb,hrb⟩ : ∃rb,w3.heap.size=rb:=⟨_,rfl⟩
     have za:=ah hrb;have Ak:=ah Ew;rw[hrb]at hr4;have HR4:=ah hr4;try simp only[hrb]
     clear Ew hr4 hrb;go_upto_region 18 with fail;have hy5:(w4.alloc (.cells #[.int .i64 0,.int .i64 0] 3)).heap.size=w4.heap.size+1:=by simp
     have acX:aah w4.heap.size w4 ((w4.alloc (.cells #[.int .i64 0,.int .i64 0] 3)).alloc (.cells #[.slice (some ⟨w4.heap.size,0,none⟩) 2 2] 56)) :=((aap _ _).alloc (aas _) _).alloc (by rw[hy5];omega) _;have hr5:((w4.alloc (.cells #[.int .i64 0,.int .i64 0] 3)).alloc (.cells #[.slice (some ⟨w4.heap.size,0,none⟩) 2 2] 56)).ownsRow w4.heap.size 3 1 (.slice (some ⟨w4.heap.size,0,none⟩) 2 2) 2 (zI [0,0]) :=by have:=aaR (base:=w4.heap.size) (e:=3) (size:=1) w4 #[.int .i64 0,.int .i64 0] 2 (aas _) (by unfold maxLen;omega) (by simp);exact own_below (by simpa[zI]using this) ((aap _ _).alloc (aas _) _)
     have hq5:((w4.alloc (.cells #[.int .i64 0,.int .i64 0] 3)).alloc (.cells #[.slice (some ⟨w4.heap.size,0,none⟩) 2 2] 56)).ownsRow w.heap.size 56 1 (.slice (some ⟨w4.heap.size+1,0,none⟩) 1 1) 1 [.slice (some ⟨w4.heap.size,0,none⟩) 2 2] :=by rw[←hy5];exact aaR (base:=w.heap.size) (e:=56) (size:=1) (w4.alloc (.cells #[.int .i64 0,.int .i64 0] 3)) #[.slice (some ⟨w4.heap.size,0,none⟩) 2 2] 1 (by rw[hy5];have h1:=Pm.out.size;have h2:=Ak.out.size;omega) (by unfold maxLen;omega) (by simp)
     have Jd:=ah hq5;have kK:=ah hr5;have Qo:=ah acX;generalize(w4.alloc (.cells #[.int .i64 0,.int .i64 0] 3)).alloc (.cells #[.slice (some ⟨w4.heap.size,0,none⟩) 2 2] 56)=w5 at*;clear hy5 hr5 hq5 acX;have e1:w5.cell? ⟨sz+1,0,none⟩=some (.slice bd n cb) :=aj (aC (aC (aC bY.out Ag.out) Ak.out) Qo.out) 0;have e0:w5.cell? ⟨sz,0,none⟩=some (.slice ad m ca) :=aj (aC (aC (aC jc.out Ag.out) Ak.out) Qo.out) 0;obtain⟨M,hM⟩ : ∃M,(m+1)*(n+1)=M:=⟨_,rfl⟩;have hM1:M≤66049:=SX hM hl1 hl2;have hM2:n+2<M:=XG hM hp1 hp2;have hwr:aax (((m:Int)+1)*((n:Int)+1))=(M:Int) :=by exact wrapM hM hM1
     have hmk:=uh M (aar hM1 (by decide));have HM:=ah hM;have ann:(n:Int)+2<(M:Int) :=by exact_mod_cast hM2
     have arw:(n:Int)+1+1<(M:Int) :=ann;have arH:n+1+1<M:=hM2;have BS:aah w5.heap.size w5 (w5.alloc (.cells (zI (aat M 0)).toArray 3)) :=(aap _ _).alloc (aas _) _;have Ir:=tY w5 M w5.heap.size (aar hM1 (by decide)) (aas _);have adQ:Hid (dY (tX sz ad bd m n ca cb) w (w5.alloc (.cells (zI (aat M 0)).toArray 3)) rb (.slice al ls.length cl) (.slice none 0 0) (.slice none 0 0) (.slice (some ⟨w5.heap.size,0,none⟩) M M) (.slice (some ⟨w4.heap.size+1,0,none⟩) 1 1) (aat M 0) ls [lU (0,0)] [.slice (some ⟨w4.heap.size,0,none⟩) 2 2] [] [] [] (upd (upd (upd (fun _=>none) 0 (some (.slice al ls.length cl,ls))) 4 (some (.slice (some ⟨w4.heap.size,0,none⟩) 2 2,[0,0]))) 1 (some (.slice (some ⟨w5.heap.size,0,none⟩) M M,aat M 0)))) :=by
      have NU:=Ak.out;have Mq:=Qo.out;have z3:=Pm.out.size;have z4:=NU.size;have z5:=Mq.size;have q2:=aC (aC (aC (aC cZ.out Ag.out) NU) Mq) BS;have arD:sz+1+1<rb:=by rw[←za.out];exact(Array.getElem?_eq_some_iff.1 (aC cZ.out Ag.out)).1
      have e5:w5.heap.size=w5.heap.size:=rfl;refine dY.first (((Pm.out.trans (NU.mono z3)).trans (Mq.mono (aar z3 z4))).trans (BS.mono (aar (aar z3 z4) z5))) (by rw[←za.out];exact z3) (fun p hp=> ?_) (aC (aC HR4.out Mq) BS) ?_ rfl rfl rfl (own_below Jd.out BS)
      ·rcases List.mem_cons.1 hp with rfl|hp;·exact⟨⟨show sz≠rb by omega,(show 25≠3 by decide),(show 25≠56 by decide),(show 25≠4 by decide)⟩,aC (aC (aC (aC jc.out Ag.out) NU) Mq) BS⟩
       ·rcases List.mem_cons.1 hp with rfl|hp;·exact⟨⟨show sz+1≠rb by omega,(show 25≠3 by decide),(show 25≠56 by decide),(show 25≠4 by decide)⟩,aC (aC (aC (aC bY.out Ag.out) NU) Mq) BS⟩
        ·rw[List.mem_singleton.1 hp];exact⟨⟨show sz+1+1≠rb by omega,(show 60≠3 by decide),(show 60≠56 by decide),(show 60≠4 by decide)⟩,q2⟩
      ·have r3:=(aY.empty w w.heap.size).new (i:=0) Pm.out (aas _) FJ;have r5:=(r3.below NU).new (i:=4) (zs:=[0,0]) Mq (aar z3 z4) kK.out;exact r5.new (i:=1) BS (aar (aar z3 z4) z5) (by rw[aa7];exact Ir)
     have k20:(w5.alloc (.cells (zI (aat M 0)).toArray 3)).cell? ⟨w5.heap.size,n+1+1,none⟩=some (.int .i64 0) :=aQ Ir (by simp[zI,hM2]);have f20:=gI Ir (n+1+1);have IQ:=ah (adQ.out.setW (by rw[aa7]) (show n+1+1<M from hM2) 1);have Cs:=ah hM1;have ac6:Hid (lu A B (0,0)) :=by have e1:=jN.out;have e2:=fG.out;exact⟨⟨by decide,show(0:Int)<A.length by omega⟩,by decide,show(0:Int)<B.length by omega⟩
     have xP:Hid (pJ A B [(0,0)] ((aat M 0).set (n+1+1) 1)) :=by have h:=pJ.first (A:=A) (B:=B) ac6.out (k:=n+1+1) (by rw[fG.out];simp[mP]);rw[jN.out,fG.out,HM.out]at h;exact h
     clear hM Ir BS hM1 hM2 adQ Jd kK Qo Ak HR4 Ag FJ;generalize hW6:w5.alloc (.cells (zI (aat M 0)).toArray 3)=w6 at*;go_upto_region 21 with fail;clear k20 f20 hW6 hwr;generalize w5.heap.size=gs at*;generalize(aat M (0:Int)).set (n+1+1) 1=sn0 at*;obtain⟨R0,hR0⟩ : ∃R0,upd (upd (upd (upd (fun _=>none) 0 (some (.slice al ls.length cl,ls))) 4 (some (.slice (some ⟨w4.heap.size,0,none⟩) 2 2,[0,0]))) 1 (some (.slice (some ⟨gs,0,none⟩) M M,aat M 0))) 1 (some (.slice (some ⟨gs,0,none⟩) M M,sn0))=R0:=⟨_,rfl⟩;rw[hR0]at IQ;clear hR0;generalize w6.setCell ⟨gs,n+1+1,none⟩ (.int .i64 1)=w7 at*;generalize w4.heap.size=g40 at*;go_wp2_with fail;obtain⟨K,hK⟩ : ∃K,lV A B (wJ how) (ls++ [-9])=K:=⟨_,rfl⟩;have HK:=ah hK;clear hK;go_loopw [13,16](fun rv iv wx=>∃(i g c:Nat)(Z:List (Int×Int))(us:List aab)(aB:List (List Nat))(ns:List aab)(ak:List Bool)(vf vn:aab)(sn:List Int)(R:aU),iv= .int .i64 (i:Int)∧rv= .slice (some ⟨g,0,none⟩) Z.length c∧jL K (ls.length+1) (0,0) i Z aB ak∧(∀z∈Z,lu A B z)∧pJ A B Z sn∧dY (tX sz ad bd m n ca cb) w wx rb (.slice al ls.length cl) vf vn (.slice (some ⟨gs,0,none⟩) M M) rv sn ls (Z.map lU) us aB ns ak R)(fun _ iv _=>66049-(aau iv).toNat)
     case atStart=>exact⟨0,g40+1,1,[(0,0)],_,[],[],[],_,_,_,_,rfl,rfl,jL.zero _ _ _,fun z hz=>by rw[List.mem_singleton.1 hz];exact ac6.out,xP.out,IQ.out⟩
     case round=>
      clear IQ xP;obtain⟨i,g,c,Z,us,aB,ns,ak,vf,vn,sn,R,rfl,rfl,hG,hZ,hS,hF⟩ :=hrel;have HG:=ah hG;have HZ:=ah hZ;have HS:=ah hS;have HF:=ah hF;have zB:Z.length≤66049:=by have h:=xz hG.nodup hZ;rw[jN.out,fG.out,HM.out]at h;exact aar h Cs.out
      clear hG hZ hS hF;by_cases hiz:i<Z.length
      ·have YO:(i:Int)<(Z.length:Int) :=by omega
       obtain⟨x,hx⟩ : ∃x,Z.getD i (0,0)=x:=⟨_,rfl⟩;obtain⟨x1,x2⟩ :=x;have hzi:Z[i]?=some (x1,x2) :=by rw[←hx,aa8,aaU hiz];rfl
       have HX:Hid (lu A B (x1,x2)) :=HZ.out _ (List.mem_of_getElem? hzi);have Hx:=ah hx;have Hzi:=ah hzi;clear hx hzi;go_upto_region 25 with fail;have HN:Hid (dY (tX sz ad bd m n ca cb) w (wr.alloc (.cells #[] 3)) rb (.slice al ls.length cl) vf vn (.slice (some ⟨gs,0,none⟩) M M) (.slice (some ⟨g,0,none⟩) Z.length c) sn ls (Z.map lU) us aB ns ak (upd R 2 (some (.slice (some ⟨wr.heap.size,0,none⟩) 0 0,[])))) :=HF.out.FL ((aap _ _).alloc (aas _) _) (Or.inl rfl) (gF wr 3);have HR2:Hid (upd R 2 (some (.slice (some ⟨wr.heap.size,0,none⟩) 0 0,[])) 2=some (.slice (some ⟨wr.heap.size,0,none⟩) 0 0,[])) :=upd_same _ _ _;clear HF;generalize upd R 2 (some (.slice (some ⟨wr.heap.size,0,none⟩) 0 0,[]))=Rn at*;generalize wr.alloc (.cells #[] 3)=w8 at*;generalize wr.heap.size=gt0 at*;go_wp2_with fail;go_loopw [13,17,18](fun rv tv jv wx=>∃(j g c:Nat)(us:List aab)(sn:List Int)(R:aU),j≤ls.length+1∧jv= .int .i64 (j:Int)∧rv= .slice (some ⟨g,0,none⟩) (aS K Z (x1,x2) j).length c∧(∃g' c',tv= .slice (some ⟨g',0,none⟩) j c')∧R 2=some (tv,aH (toN K (aS K Z (x1,x2) j) (x1,x2) j))∧pJ A B (aS K Z (x1,x2) j) sn∧dY (tX sz ad bd m n ca cb) w wx rb (.slice al ls.length cl) vf vn (.slice (some ⟨gs,0,none⟩)
          M M) rv sn ls ((aS K Z (x1,x2) j).map lU) us aB ns ak R)(fun _ _ jv _=>ls.length+1-(aau jv).toNat);case atStart=>exact⟨0,g,c,us,sn,Rn,by omega,rfl,rfl,⟨gt0,0,rfl⟩,HR2.out,HS.out,HN.out⟩
       case round=>
        clear HN HR2 HS;obtain⟨j,g3,c3,D6,Ug,R3,hj,rfl,rfl,⟨g4,c4,rfl⟩,hR2,IC,Vd⟩ :=hrel;have HR2:=ah hR2;have fJ:=ah IC;have iR:=ah Vd;have Br:=ab4 jm.out nI.out (op:=wJ how) (sm:=ls++ [-9]) HG.out.nodup HZ.out (x1,x2) j;rw[HK.out]at Br;have Kc:=ah Br;have tQ:=ah (nN K Z (x1,x2) j);have AL:=ah (vX K Z (x1,x2) j);have rD:=ah (rY K (aS K Z (x1,x2) j) (x1,x2) j);have hMf:(aS K Z (x1,x2) j).length≤66049:=by have h:=xz Br.1 Br.2;rw[jN.out,fG.out,HM.out]at h;exact aar h Cs.out
        have qx:Hid ((aS K Z (x1,x2) j)[i]?=some (x1,x2)) :=by show _=_;obtain⟨r,hr⟩ :=wB K Z (x1,x2) j;rw[hr,List.getElem?_append_left hiz];exact Hzi.out
        clear hR2 IC Vd Br;have D8:wr.cell? ⟨rb,0,none⟩=some (.slice al ls.length cl) :=aj iR.out.bW 0;by_cases hjl:j≤ls.length
        ·have KF:(j:Int)≤(ls.length:Int) :=by omega
         go_upto_if 126 with fail;go_cut [19](fun lv wy=>lv= .int .i64 (fU ls j)∧wy=wr);case first=>
          by_cases hjk:j<ls.length
          ·have Mc:(j:Int)<(ls.length:Int) :=by omega
           obtain⟨gl,ol,rfl,hgl,hcl⟩ :=(iR.out.rows.hold iR.out.mE).cells hjk;have hle:fU ls j=ls.getD j 0:=by simp[fU,hjk]
           rw[←hle]at hcl;generalize fU ls j=lt at*;clear hle;go_wp2_with fail;go_meet;case rel=>exact⟨rfl,rfl⟩
          ·have Mc: ¬(j:Int)<(ls.length:Int) :=by omega
           have hle:fU ls j= -9:=by simp[fU,hjk]
           go_wp2_with fail;exact PS
         case rest=>
          obtain⟨rfl,hwc⟩ :=hcut;obtain rfl:=hwc.symm;clear hwc D8;have HYe:Hid (K.step (x1,x2) j=(bu A x1 (fU ls j),bu B x2 (fU ls j))) :=by show _=_;rw[←HK.out];show(bu A x1 ((ls++ [-9]).getD j 0),bu B x2 ((ls++ [-9]).getD j 0))=_;rw[Ub ls hjl]
          generalize fU ls j=lt at*;obtain⟨gu,cu,⟨csg,tg,kg,NP⟩,⟨csu,tu,ku,OQ,Pb⟩,TC⟩ :=iR.out.VC qx.out;have NZ:=ah kg;have G7:=ah NP;have Jw:=ah ku;have Rh:=ah OQ;have JW:=ah Pb;have HKA:=ah (iR.out.box (sz,#[.slice ad m ca],25) (aaw _)).2;have HKB:=ah (iR.out.box (sz+1,#[.slice bd n cb],25) (aaE _ (aaw _))).2;clear kg NP ku OQ Pb;have Qy:(i:Int)<((aS K Z (x1,x2) j).length:Int) :=by have:=(List.getElem?_eq_some_iff.1 qx.out).1;omega
          go_upto_region 31 with fail;refine aaY (S:=fun u=>u.cell? ⟨sz,0,none⟩=some (.slice ad m ca)∧u.cell? ⟨g3,i,none⟩=some (.slice (some ⟨gu,0,none⟩) 2 cu)∧u.cell? ⟨gu,0,none⟩=some (.int .i64 x1)) (by kernel_rfl) ?_;have hbd:aah wr.heap.size wr ({heap:=wr.heap,tape:=wr.tape,drawn:=wr.drawn+1,os:=wr.os,output:=wr.output} :aal) :=(aap _ _).drew;generalize({heap:=wr.heap,tape:=wr.tape,drawn:=wr.drawn+1,os:=wr.os,output:=wr.output} :aal)=Wd at*;have hS: ∀u,aah Wd.heap.size Wd u→(fun u=>u.cell? ⟨sz,0,none⟩=some (.slice ad m ca)∧u.cell? ⟨g3,i,none⟩=some (.slice (some ⟨gu,0,none⟩) 2 cu)∧u.cell? ⟨gu,0,none⟩=some (.int .i64 x1) :aal→Prop) u:=fun u hu=>⟨aj (aC (aC HKA.out hbd) hu) 0,(aj (aC (aC NZ.out hbd) hu) i).trans G7.out,(aj (aC (aC Jw.out hbd) hu) 0).trans Rh.out⟩;have hSd:=hS Wd (aap _ _);have hbw:aah w.heap.size w Wd:=iR.out.below.trans (hbd.mono iR.out.below.size)
          try refine tn ?_
          refine tx 0 ?_;refine tx 1 ?_;refine tx 2 ?_;refine tx 3 ?_;refine tx 4 ?_;refine tx 5 ?_;refine tx 6 ?_;refine tx 7 ?_;have hc:=BB ca ad A x1 lt Wd DJ.out (by rw[jN.out];omega) HX.out.1.1 HX.out.1.2 (MF.out.below hbw);have Vm:=su jm.out x1 lt;rw[jN.out]at hc Vm;obtain⟨y1,hy1⟩ : ∃y1,bu A x1 lt=y1:=⟨_,rfl⟩;rw[hy1]at hc Vm HYe;clear hy1;refine aF 8 (by kernel_rfl) ?_;refine bQ 48 #[.agg #[.slice ad m ca],.int .i64 x1,.int .i64 lt] rfl (by kernel_rfl) (qZ _ _ _ _ _ _ _ _ _ _ rfl _ _ _ (by kernel_rfl) (by kernel_rfl) (by kernel_rfl) (Tryd.call48 _ _)) ?_;refine hc.mono ?_;rintro e' w9⟨rfl,oJ⟩;refine⟨hS _ oJ,?_⟩;try refine tn ?_
          refine tx 9 ?_ (hS:=hS _ oJ);refine wpAnyH_done (by kernel_rfl) ?_ _;have Lc:=hbd.trans (oJ.mono hbd.size);have A8:=ah (iR.out.keep Lc);have agN:=ah (aC NZ.out Lc);have aeX:=ah (aC Jw.out Lc);have adF:=ah (aC HKB.out Lc);clear hS hSd hbw oJ hbd hc Lc iR NZ Jw HKA HKB;go_upto_region 32 with fail;refine aaY (S:=fun u=>u.cell? ⟨sz+1,0,none⟩=some (.slice bd n cb)∧u.cell? ⟨g3,i,none⟩=some (.slice (some ⟨gu,0,none⟩) 2 cu)∧u.cell? ⟨gu,1,none⟩=some (.int .i64 x2)) (by kernel_rfl) ?_;have hbd:aah w9.heap.size w9 ({heap:=w9.heap,tape:=w9.tape,drawn:=w9.drawn+1,os:=w9.os,output:=w9.output} :aal) :=(aap _ _).drew;generalize({heap:=w9.heap,tape:=w9.tape,drawn:=w9.drawn+1,os:=w9.os,output:=w9.output} :aal)=We at*;have hS: ∀u,aah We.heap.size We u→(fun u=>u.cell? ⟨sz+1,0,none⟩=some (.slice bd n cb)∧u.cell? ⟨g3,i,none⟩=some (.slice (some ⟨gu,0,none⟩) 2 cu)∧u.cell? ⟨gu,1,none⟩=some (.int .i64 x2) :aal→Prop) u:=fun u hu=>⟨aj (aC (aC adF.out hbd) hu) 0,(aj (aC (aC agN.out hbd) hu) i).trans G7.out,(aj (aC (aC aeX.out hbd) hu) 1).trans JW.out⟩
          have hSd:=hS We (aap _ _);have hbw:aah w.heap.size w We:=A8.out.below.trans (hbd.mono A8.out.below.size);try refine tn ?_
          refine tx 0 ?_;refine tx 1 ?_;refine tx 2 ?_;refine tx 3 ?_;refine tx 4 ?_;refine tx 5 ?_;refine tx 6 ?_;refine tx 7 ?_;have hc:=BB cb bd B x2 lt We IG.out (by rw[fG.out];omega) HX.out.2.1 HX.out.2.2 (rF.out.below hbw);have LX:=su nI.out x2 lt;have aop:Hid (lu A B (bu A x1 lt,bu B x2 lt)) :=⟨su jm.out x1 lt,su nI.out x2 lt⟩;rw[fG.out]at hc LX;obtain⟨y2,hy2⟩ : ∃y2,bu B x2 lt=y2:=⟨_,rfl⟩;rw[hy2]at hc LX HYe;clear hy2;refine aF 8 (by kernel_rfl) ?_;refine bQ 48 #[.agg #[.slice bd n cb],.int .i64 x2,.int .i64 lt] rfl (by kernel_rfl) (qZ _ _ _ _ _ _ _ _ _ _ rfl _ _ _ (by kernel_rfl) (by kernel_rfl) (by kernel_rfl) (Tryd.call48 _ _)) ?_;refine hc.mono ?_;rintro e' lS⟨rfl,oJ⟩;refine⟨hS _ oJ,?_⟩;try refine tn ?_
          refine tx 9 ?_ (hS:=hS _ oJ);refine wpAnyH_done (by kernel_rfl) ?_ _;have qI:=ah (A8.out.keep (hbd.trans (oJ.mono hbd.size)));clear hS hSd hbw oJ hbd hc A8 agN aeX adF Rh JW G7;have Uv:Hid (lu A B (y1,y2)) :=by have h:=aop.out;have e:=HYe.out;exact⟨by rw[jN.out];exact Vm,by rw[fG.out];exact LX⟩
          have hq1:mP n (y1,y2)<M:=by have h:=wu Uv.out;rw[jN.out,fG.out,HM.out]at h;exact h
          obtain⟨P,hP⟩ : ∃P,(y1+1).toNat*(n+1)=P:=⟨_,rfl⟩;obtain⟨q,hq⟩ : ∃q,mP n (y1,y2)=q:=⟨_,rfl⟩;have hqP:q=P+(y2+1).toNat:=by rw[←hq,←hP];rfl
          rw[hq]at hq1;have HQ:=ah hq;have hP9:P≤66049:=by have:=Cs.out;omega
          have hwp:=ajE hP Vm.1 hP9;clear hP hq;have hqz:(P:Int)+y2+1=(q:Int) :=by have:=LX.1;omega
          have hqM:(q:Int)<(M:Int) :=by omega
          clear hqP;have BJ:Hid (Ug.length=M) :=by show _=_;rw[fJ.out.len,jN.out,fG.out,HM.out]
          obtain⟨k34,-⟩ :=qI.out.seenAt BJ.out hq1;obtain⟨V,hV⟩ : ∃V,Ug.getD q 0=V:=⟨_,rfl⟩;rw[hV]at k34;have HV:=ah hV;clear hV;obtain⟨asb,arx⟩ :=Vm;obtain⟨arJ,arF⟩ :=LX;go_upto_if 161 with fail;clear hwp;obtain⟨Q,hQ⟩ : ∃Q,aS K Z (x1,x2) j=Q:=⟨_,rfl⟩;rw[HYe.out]at tQ AL;rw[hQ]at tQ AL Kc qx HR2 fJ qI rD hMf Qy;rw[hQ];clear hQ;go_cut [13](fun rv wy=>∃(g c:Nat)(us:List aab)(sn:List Int)(R:aU),rv= .slice (some ⟨g,0,none⟩) (meet Q (y1,y2)).length c∧R 2=some (.slice (some ⟨g4,0,none⟩) j c4,aH (toN K Q (x1,x2) j))∧pJ A B (meet Q (y1,y2)) sn∧dY (tX sz ad bd m n ca cb) w wy rb (.slice al ls.length cl) vf vn (.slice (some ⟨gs,0,none⟩) M M) rv sn ls ((meet Q (y1,y2)).map lU) us aB ns ak R);case first=>
           by_cases hmm:(y1,y2)∈Q
           ·have hme:meet Q (y1,y2)=Q:=by unfold meet;rw[if_pos hmm]
            have hv:=fJ.out.at_ _ Uv.out;rw[if_pos hmm,fG.out,HQ.out,HV.out]at hv;have hv0:(V==0)=false:=by rw[hv];simp;omega
            have kH:=ah hme;clear hmm hme hv k34;go_wp2_with fail;go_meet;case rel=>exact⟨g3,c3,D6,Ug,R3,by rw[kH.out],HR2.out,by rw[kH.out];exact fJ.out,by rw[kH.out];exact qI.out⟩
           ·have hme:meet Q (y1,y2)=Q++ [(y1,y2)] :=by unfold meet;rw[if_neg hmm]
            have hv:=fJ.out.at_ _ Uv.out;rw[if_neg hmm,fG.out,HQ.out,HV.out]at hv;have hv0:(V==0)=true:=by rw[hv];rfl
            have kH:=ah hme;have HNm:=ah hmm;clear hmm hme hv;have hbn:aah lS.heap.size lS (lS.alloc (.cells #[.int .i64 y1,.int .i64 y2] 3)) :=(aap _ _).alloc (aas _) _;have hr:(lS.alloc (.cells #[.int .i64 y1,.int .i64 y2] 3)).ownsRow lS.heap.size 3 1 (.slice (some ⟨lS.heap.size,0,none⟩) 2 2) 2 (zI (lU (y1,y2))) :=by have:=aaR (base:=lS.heap.size) (e:=3) (size:=1) lS #[.int .i64 y1,.int .i64 y2] 2 (aas _) (by unfold maxLen;omega) (by simp);simpa[zI,lU]using this
            have HFn:=ah (qI.out.FL hbn (i:=3) (Or.inr rfl) (zs:=lU (y1,y2)) hr);have HR3:Hid (upd R3 3 (some (.slice (some ⟨lS.heap.size,0,none⟩) 2 2,lU (y1,y2))) 3=some (.slice (some ⟨lS.heap.size,0,none⟩) 2 2,lU (y1,y2))) :=upd_same _ _ _;have ac8:Hid (upd R3 3 (some (.slice (some ⟨lS.heap.size,0,none⟩) 2 2,lU (y1,y2))) 2=some (.slice (some ⟨g4,0,none⟩) j c4,aH (toN K Q (x1,x2) j))) :=by show _=_;rw[aD _ _ (by omega)];exact HR2.out
            have HOr:=ah HFn.out.outer;have hbr:=HFn.out.below.size;have hln:((Q.map lU).length+1)*24≤140737488355328:=by rw[aaA];omega
            have YI:(lS.alloc (.cells #[.int .i64 y1,.int .i64 y2] 3)).heap.size=lS.heap.size+1:=by simp
            clear hbn hr;go_upto_region 35 with fail;go_upto_region 36 with(at_builtin;refine dm rfl _ _ 58 56 rfl is (.slice none 0 0) 24 Tryd.underlying58 his hs0 hs1 hs2 rfl w.heap.size _ _ _ rfl HOr.out _ rfl (by rw[YI];rfl) hln (by decide) hbr ?_);intro v11 w11 pq um xU zV;obtain⟨g11,c11,J3⟩ : ∃g c,v11= .slice (some ⟨g,0,none⟩) (Q.length+1) c:=by
             rcases bH pq with⟨h,h0⟩| ⟨g,c,h,_,_⟩;·exact absurd h zV
             ·exact⟨g,c,by simpa using h⟩
            have ED:=ah (HFn.out.Nt HR3.out um (by rw[aaA];simpa using pq) (fun b hb=>by rw[YI];exact xU b hb));subst J3;have aiR:Hid (upd (upd (upd R3 3 (some (.slice (some ⟨lS.heap.size,0,none⟩) 2 2,lU (y1,y2)))) (4+2*(Q.map lU).length) (some (.slice (some ⟨lS.heap.size,0,none⟩) 2 2,lU (y1,y2)))) 3 none 2=some (.slice (some ⟨g4,0,none⟩) j c4,aH (toN K Q (x1,x2) j))) :=by show _=_;rw[aD _ _ (by omega),aD _ _ (by omega)];exact ac8.out
            clear YI pq um xU zV HOr hbr hln HFn HR3 ac8 qI k34;generalize upd (upd (upd R3 3 (some (.slice (some ⟨lS.heap.size,0,none⟩) 2 2,lU (y1,y2)))) (4+2*(Q.map lU).length) (some (.slice (some ⟨lS.heap.size,0,none⟩) 2 2,lU (y1,y2)))) 3 none=R11 at*;generalize Value.slice (some ⟨lS.heap.size,0,none⟩) 2 2=u11 at*;obtain⟨k36,f36⟩ :=ED.out.seenAt BJ.out hq1;rw[HV.out]at k36;have qg:=ah (ED.out.setW BJ.out hq1 ((Q.length:Int)+1));have ag0:=ah (fJ.out.push Uv.out HNm.out);rw[fG.out,HQ.out]at ag0;have anj:Hid (upd R11 1 (some (.slice (some ⟨gs,0,none⟩) M M,Ug.set q ((Q.length:Int)+1))) 2=some (.slice (some ⟨g4,0,none⟩) j c4,aH (toN K Q (x1,x2) j))) :=by show _=_;rw[aD _ _ (by omega)];exact aiR.out
            clear ED aiR;go_wp2_with fail;go_meet;case rel=>exact⟨g11,c11,_,_,_,by rw[kH.out,aav];rfl,anj.out,by rw[kH.out];exact ag0.out,by rw[kH.out,aa5];exact qg.out⟩
          case rest=>
           clear qI fJ HR2 k34 HV qx;obtain⟨g9,c9,us9,sn9,R9,rfl,hR2,pR,hF9⟩ :=hcut;have Ch:=ah hR2;have HS9:=ah pR;have A8:=ah hF9;clear hR2 pR hF9;have hmy:(y1,y2)∈meet Q (y1,y2) :=jQ.2 (Or.inr rfl);have hv:=HS9.out.at_ _ Uv.out;rw[if_pos hmy,fG.out,HQ.out]at hv;have afW:sn9.length=M:=by rw[HS9.out.len,jN.out,fG.out,HM.out]
           obtain⟨k37,-⟩ :=A8.out.seenAt afW hq1;rw[hv]at k37;have htl:=lM hmy;have hml:=Xu Q (y1,y2);obtain⟨t,ht⟩ : ∃t,ix (meet Q (y1,y2)) (y1,y2)=t:=⟨_,rfl⟩;rw[ht]at k37 htl;have HT:=ah ht;have ht9:t≤66049:=by omega
           have xY:=ah (A8.out.rows.own 2 _ _ Ch.out);have hbt:=A8.out.below.size;have hln:((aH (toN K Q (x1,x2) j)).length+1)*8≤140737488355328:=by rw[aK,rD.out];omega
           clear hmy hv afW htl hml ht;go_upto_region 37 with fail;go_wp2_with(at_builtin;refine dm rfl _ _ 56 3 rfl i0 (.int .i64 0) 8 Tryd.underlying56 hi hz0 hz1 hz2 rfl w.heap.size _ _ _ rfl xY.out _ rfl rfl hln (by decide) hbt ?_);intro v12 O8 oZ tV wY zZ;have qg:=ah (A8.out.y9 (i:=2) (Or.inl rfl) Ch.out tV (ys:=aH (toN K Q (x1,x2) j++ [t])) (by rw[iL,nD,aav];exact oZ) wY);obtain⟨g12,c12,J6⟩ : ∃g c,v12= .slice (some ⟨g,0,none⟩) (j+1) c:=by
            rcases bH oZ with⟨h,h0⟩| ⟨g,c,h,_,_⟩;·exact absurd h zZ
            ·exact⟨g,c,by rw[aK,rD.out]at h;exact h⟩
           subst J6;clear oZ tV wY zZ xY hbt hln k37;go_wp2_with fail;go_roundw;case rel=>refine⟨j+1,g9,c9,us9,sn9,upd R9 2 (some (.slice (some ⟨g12,0,none⟩) (j+1) c12,aH (toN K Q (x1,x2) j++ [t]))),by omega,by go_num,by rw[tQ.out],⟨g12,c12,rfl⟩,?_,by rw[tQ.out];exact HS9.out,by rw[tQ.out];exact qg.out⟩;rw[AL.out,tQ.out,HT.out];exact upd_same _ _ _
           case measure=>simp[aau];omega
        ·have KF: ¬(j:Int)≤(ls.length:Int) :=by omega
         obtain rfl:j=ls.length+1:=by omega
         obtain⟨gu,cu,⟨csg,tg,kg,NP⟩,⟨csu,tu,ku,OQ,Pb⟩,TC⟩ :=iR.out.VC qx.out;have q0:wr.cell? ⟨sz,0,none⟩=some (.slice ad m ca) :=aj (iR.out.box (sz,#[.slice ad m ca],25) (aaw _)).2 0;have q1:wr.cell? ⟨sz+1,0,none⟩=some (.slice bd n cb) :=aj (iR.out.box (sz+1,#[.slice bd n cb],25) (aaE _ (aaw _))).2 0;have q2:wr.cell? ⟨g3,i,none⟩=some (.slice (some ⟨gu,0,none⟩) 2 cu) :=(aj kg i).trans NP;have q3:wr.cell? ⟨gu,0,none⟩=some (.int .i64 x1) :=(aj ku 0).trans OQ;have q4:wr.cell? ⟨gu,1,none⟩=some (.int .i64 x2) :=(aj ku 1).trans Pb;have Qy:(i:Int)<((aS K Z (x1,x2) (ls.length+1)).length:Int) :=by have:=(List.getElem?_eq_some_iff.1 qx.out).1;omega
         have NZ:=ah kg;have G7:=ah NP;have Jw:=ah ku;have Rh:=ah OQ;have JW:=ah Pb;clear kg NP ku OQ Pb;have YC:=HX.out.1;have Wj:=HX.out.2;rw[jN.out]at YC;rw[fG.out]at Wj;dsimp only at YC Wj;go_upto_region 38 with fail;clear D8;go_cut [23](fun v wy=>v= .bool (fK A x1)∧∃k,wy=wr.drewN k);case first=>
          by_cases hx0:x1<0
          ·have hf:fK A x1=false:=by unfold fK;rw[if_pos hx0]
           have hxz: ¬(0:Int)≤x1:=by omega
           have hxb:decide ((0:Int)≤x1)=false:=decide_eq_false hxz;exact aaI
          ·obtain⟨a1,rfl⟩ : ∃a1:Nat,x1=(a1:Int) :=⟨x1.toNat,by omega⟩;have AO:a1<m:=by omega
           have hal:a1<A.length:=by rw[jN.out];exact AO
           have am0:(a1:Int)<(m:Int) :=by omega
           have hxz:(0:Int)≤(a1:Int) :=by omega
           obtain⟨b,off,rfl,hbl,hc⟩ :=(MF.out.below iR.out.below).resolve_left (fun e=>by rw[e]at hal;simp at hal);obtain⟨s0,ai,ci,s1,hx,s2⟩ :=hc a1 hal;have hf:fK A (a1:Int)=(A.getD a1 ps0).1:=by exact ac3
           generalize(A.getD a1 ps0).1=fb at*;exact ae9
         case rest=>
          obtain⟨rfl,k0,rfl⟩ :=hcut;have hbk:aah wr.heap.size wr (wr.drewN k0) :=below_drewN (aap _ _) k0;have HF4:=ah (iR.out.keep hbk);have kg4:=aC NZ.out hbk;have ku4:=aC Jw.out hbk;have ahv:=ah kg4;have ae7:=ah ku4;clear q0 q1 q2 q3 q4 kg4 ku4 hbk iR NZ Jw;generalize wr.drewN k0=wk at*;have q1:wk.cell? ⟨sz+1,0,none⟩=some (.slice bd n cb) :=aj (HF4.out.box (sz+1,#[.slice bd n cb],25) (aaE _ (aaw _))).2 0;have q2:wk.cell? ⟨g3,i,none⟩=some (.slice (some ⟨gu,0,none⟩) 2 cu) :=(aj ahv.out i).trans G7.out;have q4:wk.cell? ⟨gu,1,none⟩=some (.int .i64 x2) :=(aj ae7.out 1).trans JW.out;go_upto_region 39 with fail;go_cut [24](fun v wy=>v= .bool (fK B x2)∧∃k,wy=wk.drewN k);case first=>
           by_cases hx0:x2<0
           ·have hf:fK B x2=false:=by unfold fK;rw[if_pos hx0]
            have hxz: ¬(0:Int)≤x2:=by omega
            have hxb:decide ((0:Int)≤x2)=false:=decide_eq_false hxz;exact aaI
           ·obtain⟨a1,rfl⟩ : ∃a1:Nat,x2=(a1:Int) :=⟨x2.toNat,by omega⟩;have AO:a1<n:=by omega
            have hal:a1<B.length:=by rw[fG.out];exact AO
            have am0:(a1:Int)<(n:Int) :=by omega
            have hxz:(0:Int)≤(a1:Int) :=by omega
            obtain⟨b,off,rfl,hbl,hc⟩ :=(rF.out.below HF4.out.below).resolve_left (fun e=>by rw[e]at hal;simp at hal);obtain⟨s0,ai,ci,s1,hx,s2⟩ :=hc a1 hal;have hf:fK B (a1:Int)=(B.getD a1 ps0).1:=by exact ac3
            generalize(B.getD a1 ps0).1=fb at*;exact ae9
          case rest=>
           obtain⟨rfl,k1,rfl⟩ :=hcut;have K5:=ah (HF4.out.keep (below_drewN (aap _ _) k1));clear q1 q2 q4 HF4 ahv ae7 G7 Rh JW YC Wj;generalize wk.drewN k1=wl at*;obtain⟨fx,hfx⟩ : ∃fx,fK A x1=fx:=⟨_,rfl⟩;obtain⟨fy,hfy⟩ : ∃fy,fK B x2=fy:=⟨_,rfl⟩;have JM:=ah (HG.out.step hiz);have wX:Hid (∀f,f=wJ how fx fy→jL K (ls.length+1) (0,0) (i+1) (aS K Z (x1,x2) (ls.length+1)) (aB++ [toN K (aS K Z (x1,x2) (ls.length+1)) (x1,x2) (ls.length+1)]) (ak++ [f])) :=by
            show∀_,_;intro f hf;have h1:=JM.out;rw[Hx.out]at h1;have h2:K.fin (x1,x2)=f:=by rw[hf,←HK.out,←hfx,←hfy];rfl
            rw[h2]at h1;exact h1
           rw[hfx,hfy];clear hfx hfy JM;have hni:aB.length≤66049:=by rw[HG.out.uE];omega
           have hfi:ak.length≤66049:=by rw[HG.out.mH];omega
           obtain⟨af,cf,tL⟩ : ∃a c,vf= .slice a ak.length c:=by
            rcases bH K5.out.fin with⟨h,h0⟩| ⟨g,c,h,_,_⟩;·exact⟨none,0,by rw[h,h0]⟩
            ·exact⟨_,c,h⟩
           obtain⟨an,cn,CS⟩ : ∃a c,vn= .slice a aB.length c:=by
            rcases bH K5.out.nx with⟨h,h0⟩| ⟨g,c,h,_,_⟩;·exact⟨none,0,by rw[h,h0]⟩
            ·exact⟨_,c,h⟩
           subst tL CS;have r2:wl.cell? ⟨rb,2,none⟩=some (.slice an aB.length cn) :=aj K5.out.bW 2;have kS:=ah K5.out.nx;have hbn:=K5.out.below.size;have hln:(aB.length+1)*24≤140737488355328:=by omega
           go_upto_region 40 with fail;go_upto_region 41 with(at_builtin;refine dm rfl _ _ 58 56 rfl is (.slice none 0 0) 24 Tryd.underlying58 his hs0 hs1 hs2 rfl w.heap.size _ _ _ rfl kS.out _ rfl rfl hln (by decide) hbn ?_);intro v12 O8 oZ tV wY zZ;obtain⟨Ma,EG⟩ :=K5.out.zy HR2.out tV oZ wY;obtain⟨g12,c12,J6⟩ : ∃g c,v12= .slice (some ⟨g,0,none⟩) (aB.length+1) c:=by exact aa2
           subst J6;have qg:=ah Ma;have q2:O8.cell? ⟨rb,2,none⟩=some (.slice an aB.length cn) :=aj EG 2;have qf:=bL EG 2;clear Ma EG oZ tV wY zZ kS hbn r2 K5 HR2 hln;generalize upd (upd R3 (5+2*aB.length) (some (.slice (some ⟨g4,0,none⟩) (ls.length+1) c4,aH (toN K (aS K Z (x1,x2) (ls.length+1)) (x1,x2) (ls.length+1))))) 2 none=Nw at*;go_upto_region 41 with fail;generalize hW2:O8.setCell ⟨rb,2,none⟩ (.slice (some ⟨g12,0,none⟩) (aB.length+1) c12)=W2 at*;clear hW2 q2 qf;have b1:W2.cell? ⟨rb,1,none⟩=some (.slice af ak.length cf) :=aj qg.out.bW 1;refine Nf (by kernel_rfl) YZ.out b1 qg.out.fin (by omega) qg.out.below.size (fun w' hb=> ?_) (fun v13 w13 ajo aeo ahg aiw ahI afJ aif u234 af8 u236 ah8 afK ahZ aiF acC afv aiS ahK ai2 yH yF QK=> ?_);·have QH:w'.heap[rb]?=_:=(hb.block rb (Array.getElem?_eq_some_iff.1 qg.out.bW).1 (fun e=>by obtain⟨_,c2,k2⟩ :=aA qg.out.fin e;exact bU qg.out.bW k2 (by decide) rfl)).trans qg.out.bW;exact⟨⟨_,aj QH 1⟩,bL QH 1⟩
           ·obtain⟨ahy,QH⟩ :=qg.out.sH yF yH;have an4:=ah ahy;clear ahy QH yH yF b1 qg;go_wp2_with fail;go_roundw;case rel=>exact⟨i+1,g3,c3,aS K Z (x1,x2) (ls.length+1),D6,_,_,_,_,_,Ug,Nw,by go_num,rfl,wX.out _ rfl,Kc.out.2,fJ.out,an4.out⟩
            case measure=>simp[aau];omega
      ·have YO: ¬(i:Int)<(Z.length:Int) :=by omega
       have hle:=HG.out.le;have hiZ:i=Z.length:=by omega
       have Ba:0<Z.length:=by have h:=HG.out.bf;obtain⟨r,hr⟩ :=rX (K.nexts (ls.length+1)) i 0 [(0,0)];rw[←h,hr];simp
       have HZ0:=ah Ba;have HGf:Hid (jL (lV A B (wJ how) (ls++ [-9])) (ls.length+1) (0,0) Z.length Z aB ak) :=by show jL _ _ _ _ _ _ _;rw[HK.out,←hiZ];exact HG.out
       obtain⟨af,cf,tL⟩ : ∃a c,vf= .slice a ak.length c:=by
        rcases bH HF.out.fin with⟨h,h0⟩| ⟨g,c,h,_,_⟩;·exact⟨none,0,by rw[h,h0]⟩
        ·exact⟨_,c,h⟩
       obtain⟨an,cn,CS⟩ : ∃a c,vn= .slice a aB.length c:=by
        rcases bH HF.out.nx with⟨h,h0⟩| ⟨g,c,h,_,_⟩;·exact⟨none,0,by rw[h,h0]⟩
        ·exact⟨_,c,h⟩
       subst tL CS;have HNd:=ah HG.out.nodup;have hbx:=(HF.out.box (sz+1+1,#[.slice none 0 0,.slice none 0 0,.slice none 0 0],60) (aaE _ (aaE _ (aaw _))));have qL:=ah hbx;have r0:wr.cell? ⟨rb,0,none⟩=some (.slice al ls.length cl) :=aj HF.out.bW 0;have r1:wr.cell? ⟨rb,1,none⟩=some (.slice af ak.length cf) :=aj HF.out.bW 1;have r2:wr.cell? ⟨rb,2,none⟩=some (.slice an aB.length cn) :=aj HF.out.bW 2;have s0:=aj hbx.2 0;have s1:=aj hbx.2 1;have s2:=aj hbx.2 2;have f0:=bL hbx.2 0;have f1:=bL hbx.2 1;have f2:=bL hbx.2 2;clear hbx Ba hle hiZ HG;go_wp2_with fail;have gU:But (fun b=>b=sz+1+1) wr (((wr.setCell ⟨sz+1+1,0,none⟩ (.slice al ls.length cl)).setCell ⟨sz+1+1,1,none⟩ (.slice af ak.length cf)).setCell ⟨sz+1+1,2,none⟩ (.slice an aB.length cn)) :=(((But.refl (fun b=>b=sz+1+1) wr).set (sz+1+1) 0 _ rfl).set (sz+1+1) 1 _ rfl).set (sz+1+1) 2 _ rfl
       have HFf:=ah (HF.out.other qL.out.2 (by decide) (by decide) (by decide) qL.out.1.1 (by have:=uq.out;omega) gU);have k:=aL (aL (aL qL.out.2 0 (.slice al ls.length cl)) 1 (.slice af ak.length cf)) 2 (.slice an aB.length cn);have k0:=aj k 0;have k1:=aj k 1;have k2:=aj k 2;simp at k0 k1 k2;refine bodyPost_ret (v:= .agg #[.slice al ls.length cl,.slice af ak.length cf,.slice an aB.length cn]) (by simp[results,Tryd.results31,go_sem,k0,k1,k2]) rfl ?_;exact⟨[],rb,_,_,_,_,_,sn,ls,Z,us,aB,ns,ak,R,rfl,HFf.out,qF.out,kH.out,wV.out,HGf.out,HNd.out,HZ.out,HZ0.out⟩
end Go.Proofs.YtkbjimkngmlfcaaDoor
