import Derived.Test.YtkbjimkngmlfcaaDoorSetsJ16
import Derived.Test.YtkbjimkngmlfcaaDoorSetsJ17
import Derived.Test.YtkbjimkngmlfcaaDoorSetsJ20
open Go renaming World→aal,Operand→aau,Value→aab,info_parts→aaE,heap_alloc_new→aaR,below_drewN→aaF,wp_region_held→aaA
open Go.RowKit renaming Below→aat,intOf→aar
open Go.RowKit.Below renaming refl→aah
open Go.World renaming ownsRow→aaK,ownsRow_nil→aaU
open List renaming length_take→aav,getD_eq_getElem?_getD→aap,getElem?_take_of_lt→aaQ,getElem?_eq_getElem→aaw,length_append→aax
open Nat renaming zero_add→aaV,le_refl→aas,le_trans→aaL
namespace Go.Proofs.YtkbjimkngmlfcaaDoor
open Go Go.RowKit
set_option linter.unusedVariables false
set_option linter.unusedSimpArgs false
set_option maxRecDepth 100000
set_option maxHeartbeats 4000000
theorem aad {P:Prop}(h:P:=by
 refine tx 13 ?_;refine bX 1 14 (by kernel_rfl) ?oA ?oB;case oA=>
  refine aP (.slice af ak.length cf) _ rfl (by kernel_rfl) (sZ _ _ _ _ rfl rb 1 _ (by kernel_rfl) b1) ?_;refine⟨S0,?_⟩;try refine tn ?_
  refine aF 14 (by kernel_rfl) ?_;refine aP (.slice (some ⟨W2.drew.heap.size,0,none⟩) 1 1) (W2.drew.alloc (.cells #[.bool false] 4)) rfl (by kernel_rfl) (uO _ _ _ _ rfl false (by kernel_rfl)) ?_;exact ZO
 case oB=>
  refine aP (.slice (some ⟨W2.drew.heap.size,0,none⟩) 1 1) (W2.drew.alloc (.cells #[.bool false] 4)) rfl (by kernel_rfl) (uO _ _ _ _ rfl false (by kernel_rfl)) ?_;refine⟨yY.out _,?_⟩;try refine tn ?_
  refine aF 1 (by kernel_rfl) ?_;refine aP (.slice af ak.length cf) _ rfl (by kernel_rfl) (sZ _ _ _ _ rfl rb 1 _ (by kernel_rfl) (lq.out _)) ?_;exact ZO) :P:=h
theorem ZO {P:Prop}(h:P:=by
 refine⟨yY.out _,?_⟩;try refine tn ?_
 refine aF 15 (by kernel_rfl) ?_;refine mo rfl (by kernel_rfl) (wp_append_lies _ (.tmp 172) (.tmp 185) 57 rfl w.heap.size 4 ib (.bool false) 1 1 Tryd.underlying57 hib hb0 hb1 hb2 rfl (by decide) (.slice af ak.length cf) ak.length (ak.map Value.bool) (by kernel_rfl) (pF.out.fin.alloc _) ⟨W2.drew.heap.size,0,none⟩ 1 1 [.bool false] (by kernel_rfl) rfl (one_cell (aj (heap_alloc_new W2.drew _) 0)) (by intro u' hu';simp at hu';subst hu';rfl) (by omega) (by unfold maxLen;omega) (by omega) (by have:=pF.out.below.size;simp at this⊢;omega) _ rfl ?_);intro g6 pG w6 hown6 fE mY EB;have iH:But (fun b=>(Value.slice af ak.length cf).ownBlock=some b) W2.drew w6:=⟨fE.os,fE.tape,fE.output,by have:=fE.size;simp at this⊢;omega,fun b hb hn=>by rw[fE.block b (by simp at hb⊢;omega) (fun e=>hn e.symm),Below.heap_alloc _ _ _ hb]⟩;obtain⟨K4,yL⟩ :=pF.out.sH (f:=false) iH hown6
 have s6:=aj yL 1;have f6:=bL yL 1;have S6:=qK.out _ (pF.out.rows.but iH (lI pF.out.fin (by decide)));have S7:=qK.out _ K4.rows;have HF6:=ah K4;clear K4 yL hown6 fE mY EB iH;refine⟨S6,?_⟩;try refine tn ?_
 refine tx 16 ?_;refine aF 17 (by kernel_rfl) ?_;refine bI (w6.setCell ⟨rb,1,none⟩ (.slice (some ⟨g6,0,none⟩) (ak.length+1) pG)) rfl (by kernel_rfl) (Cu _ _ _ _ _ rfl rb 1 (some ⟨g6,0,none⟩) (ak.length+1) pG _ (by kernel_rfl) (by kernel_rfl) s6 f6) ?_;refine⟨S7,?_⟩;try refine tn ?_
 refine wpAnyH_done (by kernel_rfl) ?_ _;clear s6 f6 S6 S7;go_wp2;go_roundw;case rel=>exact⟨i+1,g3,c3,(aS K Z x (ls.length+1)),D6,aB++ [toN K (aS K Z x (ls.length+1)) x (ls.length+1)],ns++ [.slice (some ⟨g4,0,none⟩) (ls.length+1) c4],ak++ [false],(.slice (some ⟨g6,0,none⟩) (ak.length+1) pG),.slice (some ⟨g12,0,none⟩) (aB.length+1) c12,Nw,by go_num,rfl,wX.out false ZQ.out,Kc.out.2,HF6.out⟩
 case measure=>simp[intOf];omega) :P:=h
theorem zc6 {P:Prop}(h:P:=by
 refine⟨yY.out _,?_⟩;try refine tn ?_
 refine aF 15 (by kernel_rfl) ?_;refine mo rfl (by kernel_rfl) (wp_append_lies _ (.tmp 172) (.tmp 185) 57 rfl w.heap.size 4 ib (.bool false) 1 1 Tryd.underlying57 hib hb0 hb1 hb2 rfl (by decide) (.slice af ak.length cf) ak.length (ak.map Value.bool) (by kernel_rfl) (pF.out.fin.alloc _) ⟨W2.drew.heap.size,0,none⟩ 1 1 [.bool true] (by kernel_rfl) rfl (one_cell (aj (heap_alloc_new W2.drew _) 0)) (by intro u' hu';simp at hu';subst hu';rfl) (by omega) (by unfold maxLen;omega) (by omega) (by have:=pF.out.below.size;simp at this⊢;omega) _ rfl ?_);intro g6 pG w6 hown6 fE mY EB;have iH:But (fun b=>(Value.slice af ak.length cf).ownBlock=some b) W2.drew w6:=⟨fE.os,fE.tape,fE.output,by have:=fE.size;simp at this⊢;omega,fun b hb hn=>by rw[fE.block b (by simp at hb⊢;omega) (fun e=>hn e.symm),Below.heap_alloc _ _ _ hb]⟩;obtain⟨K4,yL⟩ :=pF.out.sH (f:=true) iH hown6
 have s6:=aj yL 1;have f6:=bL yL 1;have S6:=qK.out _ (pF.out.rows.but iH (lI pF.out.fin (by decide)));have S7:=qK.out _ K4.rows;have HF6:=ah K4;clear K4 yL hown6 fE mY EB iH;refine⟨S6,?_⟩;try refine tn ?_
 refine tx 16 ?_;refine aF 17 (by kernel_rfl) ?_;refine bI (w6.setCell ⟨rb,1,none⟩ (.slice (some ⟨g6,0,none⟩) (ak.length+1) pG)) rfl (by kernel_rfl) (Cu _ _ _ _ _ rfl rb 1 (some ⟨g6,0,none⟩) (ak.length+1) pG _ (by kernel_rfl) (by kernel_rfl) s6 f6) ?_;refine⟨S7,?_⟩;try refine tn ?_
 refine wpAnyH_done (by kernel_rfl) ?_ _;clear s6 f6 S6 S7;go_wp2;go_roundw;case rel=>exact⟨i+1,g3,c3,(aS K Z x (ls.length+1)),D6,aB++ [toN K (aS K Z x (ls.length+1)) x (ls.length+1)],ns++ [.slice (some ⟨g4,0,none⟩) (ls.length+1) c4],ak++ [true],(.slice (some ⟨g6,0,none⟩) (ak.length+1) pG),.slice (some ⟨g12,0,none⟩) (aB.length+1) c12,Nw,by go_num,rfl,wX.out true ZQ.out,Kc.out.2,HF6.out⟩
 case measure=>simp[intOf];omega) :P:=h
theorem acN {P:Prop}(h:P:=by
 rcases bH pq with⟨h,h0⟩| ⟨g,c,h,_,_⟩;·exact absurd h zV
 ·exact⟨g,c,by rw[aK,rD.out]at h;exact h⟩) :P:=h
theorem Qr {P:Prop}(h:P:=by go_wp2;go_meet;case rel=>exact⟨by rw[P7],rfl⟩) :P:=h
def ahd(word:List Int)(k head:Int)(w:aal)(e:Ending)(w':aal) :Prop:=∃ls L,iG ls∧(∀y,y∈ls↔y∈word)∧bS.dx ls.length ls ((SB word ls k head).aW (ls.length+1) (qM word.length k)) L∧aat w.heap.size w w'∧((256<L.length∧e= .returned (.tuple #[.agg #[.slice none 0 0],.int .i64 11]))∨(L.length≤256∧∃v l,l.map Prod.snd=L∧e= .returned (.tuple #[.agg #[v],.int .i64 0])∧bq w' w.heap.size v l))
theorem Tc {W:aal} {base:Nat} {R:aU}(h:aY W base R) {a g n c:Nat} {x:List Int}(ha:R a=some (.slice (some ⟨g,0,none⟩) (n+1) c,x))(hx:x.length=n+1) :bD W (.slice (some ⟨g,0,none⟩) n c) (x.take n) :=by
 have ho:=h.own _ _ _ ha;rw[hx]at ho;refine⟨_,c,by rw[aav,hx];congr 1;omega,Or.inr ⟨g,0,rfl,?_,fun t ht=> ?_⟩⟩;·obtain⟨_,c2,h2⟩ :=aA ho (b:=g) rfl;exact GI
 ·rw[aav,hx]at ht;rw[aaV,ho.cellAt t (by omega)];have e:(x.take n).getD t 0=x.getD t 0:=by rw[aap,aap,aaQ (by omega)]
  rw[e];simp[zI,show t<x.length by omega]
theorem Lb {x:List Int} {n i:Nat}(h:i<n) :dQ (x.take n) i=dQ x i:=by unfold dQ;rw[aap,aap,aaQ h]
theorem DN {hit:Nat→Bool} {k:Int} {f g:Nat→Int} : ∀i,(∀j,j≤i→f j=g j)→jd hit k f i=jd hit k g i
 |0,h=>by simp only[jd];rw[h 0 (by omega)]
 |i+1,h=>by simp only[jd];rw[DN i (fun j hj=>h j (by omega)),h i (by omega),h (i+1) (by omega)]
theorem ab7 {len:Nat} {k head:Int} {hit:Nat→Bool} {x:List Int} :zI (uV len k head hit x)=zI (rG (len+1) (jd hit k (dQ (x.take (len+1)))))++ [.int .i64 (CY head (dQ x (len+1)) hit)] :=by unfold uV;rw[mh];congr 2;refine List.map_congr_left fun i hi=> ?_;have:=List.mem_range.1 hi;exact DN i (fun j hj=>(Lb (by omega)).symm)
theorem Tryd.infoBoL:(Tryd.prog.info? 4).map (fun i=>(i.zero,i.size,i.bytes))=some (some (.bool false),1,1) :=by kernel_rfl
theorem sZ(W:aal)(ρ:aau→aab)(o:Oper)(x:aau)(ho:o.op= .load 57 x)(b off:Nat)(v:aab)(hx:ρ x= .pointer (some ⟨b,off,none⟩))(h0:W.cell? ⟨b,off,none⟩=some v) :(execOp ρ o).run Tryd.prog W= .ok (.value v) W:=by exact vG
theorem uO(W:aal)(ρ:aau→aab)(o:Oper)(x:aau)(ho:o.op= .buildSlice 57 1 #[(0,x)])(f:Bool)(hx:ρ x= .bool f) :(execOp ρ o).run Tryd.prog W= .ok (.value (.slice (some ⟨W.heap.size,0,none⟩) 1 1)) (W.alloc (.cells #[.bool f] 4)) :=by exact uA
theorem Cu(W:aal)(ρ:aau→aab)(o:Oper)(x y:aau)(ho:o.op= .store 57 x y)(b off:Nat)(a:Option Addr)(n c:Nat)(u:aab)(hx:ρ x= .pointer (some ⟨b,off,none⟩))(hy:ρ y= .slice a n c)(h0:W.cell? ⟨b,off,none⟩=some u)(hf:W.frozen? ⟨b,off,none⟩=false) :(execOp ρ o).run Tryd.prog W= .ok .skip (W.setCell ⟨b,off,none⟩ (.slice a n c)) :=by exact BN
theorem Bo.rowAt {w0 W:aal} {tb rb:Nat} {vl vf vn vw:aab} {word ls:List Int} {Z:List (List Int)} {us:List aab} {aB:List (List Nat)} {ns:List aab} {ak:List Bool} {R:aU} {g c:Nat}(h:Bo w0 W tb rb vl vf vn vw (.slice (some ⟨g,0,none⟩) Z.length c) word ls Z us aB ns ak R) {t n:Nat}(ht:t<Z.length)(hn:(Z.getD t []).length=n+1) : ∃gq cq,W.cell? ⟨g,t,none⟩=some (.slice (some ⟨gq,0,none⟩) (n+1) cq)∧bD W (.slice (some ⟨gq,0,none⟩) (n+1) cq) (Z.getD t []) :=by
 have AY:us.length=Z.length:=by have:=h.outer.1;omega
 have hu:us[t]?=some (us[t]'(by omega)) :=aaw (by omega);have hz:Z[t]?=some (Z.getD t []) :=by rw[aap,aaw ht];rfl
 have hr:=h.row t _ _ hu hz;have ho:=h.rows.own _ _ _ hr;have hc:W.cell? ⟨g,t,none⟩=some (us[t]'(by omega)) :=by rw[h.outer.cellAt t (by omega)];exact hu
 rcases bH ho with⟨_,h0⟩| ⟨gq,cq,e,_,_⟩;·omega
 ·rw[e,hn]at hc;have hh:=h.rows.hold hr;rw[e,hn]at hh;exact⟨gq,cq,hc,hh⟩
theorem Rb(hC:iI)(s:ByteArray)(k head:Int)(w:aal)(hs:s.size≤1048576)(hD:dG s=0)(hl:(eO s).length≤30)(hk:0≤k∧k≤2)(hh:0≤head∧head≤(eO s).length) :Calls Tryd.prog 50 #[.string s,.int .i64 k,.int .i64 head] w (ahd (eO s) k head w) :=by
 obtain⟨i0,hi,hz0,hz1,hz2⟩ :=aaE Tryd.infoIntL;obtain⟨is,his,hs0,hs1,hs2⟩ :=aaE Tryd.infoSlI;have Sa:=ah hD;clear hD;go_enter Tryd.func50,Tryd.ntmps50;go_wp2_with fail;refine(zn s _ hs).mono ?_;rintro e w2⟨vw,rfl,hown,hb2⟩;rw[Sa.out];clear Sa;generalize eO s=word at*;have hbw:aat w.heap.size w w2:=((aah _ _).alloc (aas _) _).trans (hb2.mono (by simp));have pQ:=ah hbw;have hres:w2.heap[w.heap.size]?=some (.cells #[.slice none 0 0] 25) :=aC (aaR _ _) hb2;have Bz:=ah hres;have zl:Hid (w2.ownsRow w.heap.size 3 1 vw word.length (zI word)) :=hown.mono (by simp);have hsz2:=hbw.size;have hlt2:w.heap.size<w2.heap.size:=(Array.getElem?_eq_some_iff.1 hres).1;clear hown hb2 hbw hres;obtain⟨aw,cw,hvw⟩ : ∃a c,vw= .slice a word.length c:=by
  rcases bH zl.out with⟨h,h0⟩| ⟨g,c,h,_,_⟩;·exact⟨none,0,by rw[h,h0]⟩
  ·exact⟨_,c,h⟩
 subst hvw;have XX: ¬(30:Int)<(word.length:Int) :=by omega
 have aoc: ¬k<0:=by omega
 have an7: ¬(2:Int)<k:=by omega
 have amB: ¬head<0:=by omega
 have anV: ¬(word.length:Int)<head:=by omega
 go_wp2_with fail;refine(yo word _ _ (by omega) (bD.own zl.out)).mono ?_;rintro e w3⟨vl,ls,rfl,hrise,hmem,G6,sO,hb3⟩;have qF:=ah hrise;have kH:=ah hmem;obtain⟨al,cl,hvl⟩ : ∃a c,vl= .slice a ls.length c:=by exact agh
 subst hvl;clear hrise hmem;go_upto_region 7 with fail;have Ew:aat w3.heap.size w3 (w3.alloc (.cells #[.slice al ls.length cl,.slice none 0 0,.slice none 0 0] 60)) :=(aah _ _).alloc (aas _) _;have lH:Hid (aY (w3.alloc (.cells #[.slice al ls.length cl,.slice none 0 0,.slice none 0 0] 60)) w.heap.size (upd (upd (fun _=>none) 1 (some (.slice aw word.length cw,word))) 0 (some (.slice al ls.length cl,ls)))) :=((((aY.empty w w.heap.size).new pQ.out (aas _) zl.out).new hb3 hsz2 sO).below Ew);have YP:Hid ((w3.alloc (.cells #[.slice al ls.length cl,.slice none 0 0,.slice none 0 0] 60)).heap[w3.heap.size]?=some (.cells #[.slice al ls.length cl,.slice none 0 0,.slice none 0 0] 60)) :=aaR _ _;have Qj:=ah (aC (aC Bz.out hb3) Ew);have eF:=ah ((pQ.out.trans (hb3.mono hsz2)).trans (Ew.mono (aaL hsz2 hb3.size)))
 have hrb:w.heap.size≤w3.heap.size:=aaL hsz2 hb3.size;have XI:=eF.out.size;clear Bz pQ zl sO hb3 Ew hsz2 hlt2;generalize w3.alloc (.cells #[.slice al ls.length cl,.slice none 0 0,.slice none 0 0] 60)=w4 at*;generalize w3.heap.size=rb at*;clear XX aoc an7 amB anV;go_wp2;have Bh:=ah (gF w4 3);have eX:Hid (aat w4.heap.size w4 (w4.alloc (.cells #[] 3))) :=(aah _ _).alloc (aas _) _;generalize w4.alloc (.cells #[] 3)=w5 at*;obtain⟨fs,hfs⟩ : ∃fs:Nat→Int,fs=fun(i:Nat)=>min (i:Int) (k+1) :=⟨_,rfl⟩;have RH:=ah hfs;clear hfs;go_loopw [11,12](fun fv iv wx=>∃j:Nat,j≤word.length+1∧iv= .int .i64 (j:Int)∧wx.ownsRow w4.heap.size 3 1 fv j (zI (rG j fs))∧aat w4.heap.size w4 wx)(fun _ iv _=>word.length+1-(aar iv).toNat);case atStart=>exact⟨0,by omega,rfl,Bh.out,eX.out⟩
 case round=>
  clear Bh eX;obtain⟨j,hj,rfl,hown,hbel⟩ :=hrel;have HO:=ah hown;have fP:=ah hbel;have hzx:=hbel.size;clear hown hbel;by_cases hjl:j≤word.length
  ·have hjz:(j:Int)≤(word.length:Int) :=by omega
   obtain⟨k1,hk1⟩ : ∃k1,k+1=k1:=⟨_,rfl⟩;have hmn:=Nv (j:Int) k1 (fs j) (by rw[RH.out,←hk1]);have Hmi:Hid (min (j:Int) k1=fs j) :=by show _=_;rw[RH.out,←hk1]
   have Qm:=ah (EH j fs);have qX:0≤fs j∧fs j≤3:=by rw[RH.out];show 0≤min (j:Int) (k+1)∧min (j:Int) (k+1)≤3;omega
   generalize fs j=d at*;go_wp2_with(at_builtin;refine dm rfl _ _ 56 3 rfl i0 (.int .i64 0) 8 Tryd.underlying56 hi hz0 hz1 hz2 rfl w4.heap.size _ _ _ rfl HO.out _ rfl rfl (by omega) (by decide) hzx ?_);intro v' w' hown' xK hat' hne';have dO:Hid (w'.ownsRow w4.heap.size 3 1 v' (j+1) (zI (rG (j+1) fs))) :=by show aaK _ _ _ _ _ _ _;rw[Qm.out,mh];first|exact hown'| (rw[←Hmi.out];exact hown')
   have HB2:=ah (fP.out.trans (xK.below hzx (fun x hx e=>by have:=(aA HO.out e).1;omega)));clear hown' xK hat' hne' hmn;go_wp2;go_roundw;case rel=>exact⟨j+1,by omega,by go_num,dO.out,HB2.out⟩
   case measure=>simp[aar];omega
  ·have hjz: ¬(j:Int)≤(word.length:Int) :=by omega
   obtain rfl:j=word.length+1:=by omega
   go_upto_region 13 with(at_builtin;refine dm rfl _ _ 56 3 rfl i0 (.int .i64 0) 8 Tryd.underlying56 hi hz0 hz1 hz2 rfl w4.heap.size _ _ _ rfl HO.out _ rfl rfl (by omega) (by decide) hzx ?_);intro v' w' hown' xK hat' hne';have ES:=fP.out.trans (xK.below hzx (fun x hx e=>by have:=(aA HO.out e).1;omega));obtain⟨x0,hx0⟩ : ∃x0,qM word.length k=x0:=⟨_,rfl⟩;have hxl:x0.length=word.length+2:=by rw[←hx0];simp[qM,qh]
   have HOx:Hid (w'.ownsRow w4.heap.size 3 1 v' x0.length (zI x0)) :=by
    show aaK _ _ _ _ _ _ _;rw[hxl];have e:zI x0=zI (rG (word.length+1) fs)++ [.int .i64 0] :=by rw[←hx0,RH.out];simp[qM,qh,rG,zI]
    rw[e];exact hown'
   have Yt:=ah ES;have Hx0:=ah hx0;have Hxl:=ah hxl;clear hown' xK hat' HO fP ES hx0 hxl RH;obtain⟨gx,cx,hvx⟩ : ∃g c,v'= .slice (some ⟨g,0,none⟩) (word.length+2) c:=by
    rcases bH HOx.out with⟨h,h0⟩| ⟨g,c,h,_,_⟩;·exact absurd h hne'
    ·exact⟨g,c,by rw[←Hxl.out];exact h⟩
   subst hvx;clear hne';have Xq:aat w'.heap.size w' (w'.alloc (.cells #[.slice (some ⟨gx,0,none⟩) (word.length+2) cx] 56)) :=(aah _ _).alloc (aas _) _;have VS:=Yt.out.size;have Ke:=ah (Yt.out.trans (Xq.mono VS));obtain⟨R,hR⟩ : ∃R:aU,R=upd (upd (upd (fun _=>none) 1 (some (.slice aw word.length cw,word))) 0 (some (.slice al ls.length cl,ls))) 4 (some (.slice (some ⟨gx,0,none⟩) (word.length+2) cx,x0)) :=⟨_,rfl⟩;have IQ:Hid (Bo w (w'.alloc (.cells #[.slice (some ⟨gx,0,none⟩) (word.length+2) cx] 56)) w.heap.size rb (.slice al ls.length cl) (.slice none 0 0) (.slice none 0 0) (.slice aw word.length cw) (.slice (some ⟨w'.heap.size,0,none⟩) 1 1) word ls [x0] [.slice (some ⟨gx,0,none⟩) (word.length+2) cx] [] [] [] R) :=by
    refine⟨eF.out.trans (Ke.out.mono XI),hrb,fun p hp=>by rw[List.mem_singleton.1 hp];exact⟨⟨bU Qj.out YP.out (by decide),(show 25≠3 by decide),(show 25≠56 by decide),(show 25≠4 by decide)⟩,aC Qj.out Ke.out⟩,aC YP.out Ke.out,?_,?_,?_,?_,?_,aaU _ _ _ _,?_,?_,aaU _ _ _ _⟩;·rw[hR];refine lH.out.new Ke.out XI ?_;exact own_below HOx.out Xq
    ·rw[hR];rfl
    ·rw[hR];rfl
    ·have:=World.ownsRow_lit (base:=w.heap.size) (e:=56) (size:=1) w' #[.slice (some ⟨gx,0,none⟩) (word.length+2) cx] 1 (aaL XI VS) (by unfold maxLen;omega) (by simp);simpa using this
    ·intro j u z h1 h2;match j,h1,h2 with
     |0,h1,h2=>simp at h1 h2;subst h1 h2;rw[hR];rfl
     |j+1,h1,h2=>simp at h1
    ·intro j u z h1 h2;simp at h1
    ·intro b hb e;cases e
   clear eF Qj YP lH Yt HOx Ke Xq hR VS;go_wp2;generalize w'.alloc (.cells #[.slice (some ⟨gx,0,none⟩) (word.length+2) cx] 56)=w6 at*;generalize w'.heap.size=gr0 at*;obtain⟨K,hK⟩ : ∃K,SB word ls k head=K:=⟨_,rfl⟩;have HK:=ah hK;clear hK;have HX0:Hid (kN word.length k head x0) :=by show kN _ _ _ _;rw[←Hx0.out];exact SV hk.1 hh.1
   go_loopw [13,14](fun rv iv wx=>∃(i g c:Nat)(Z:List (List Int))(us:List aab)(aB:List (List Nat))(ns:List aab)(ak:List Bool)(vf vn:aab)(R:aU),iv= .int .i64 (i:Int)∧rv= .slice (some ⟨g,0,none⟩) Z.length c∧jL K (ls.length+1) x0 i Z aB ak∧(∀z∈Z,kN word.length k head z)∧Bo w wx w.heap.size rb (.slice al ls.length cl) vf vn (.slice aw word.length cw) rv word ls Z us aB ns ak R)(fun _ iv _=>1114112-(aar iv).toNat);case atStart=>exact⟨0,gr0,1,[x0],_,[],[],[],_,_,R,rfl,rfl,jL.zero _ _ _,fun z hz=>by rw[List.mem_singleton.1 hz];exact HX0.out,IQ.out⟩
   case round=>
    clear IQ;obtain⟨i,g,c,Z,us,aB,ns,ak,vf,vn,R,rfl,rfl,hG,hZ,hF⟩ :=hrel;have HG:=ah hG;have HZ:=ah hZ;have HF:=ah hF;have zB:=KJ hl hk.1 hk.2 (by omega) hG.nodup hZ;clear hG hZ hF;by_cases hiz:i<Z.length
    ·have YO:(i:Int)<(Z.length:Int) :=by omega
     obtain⟨x,hx⟩ : ∃x,Z.getD i x0=x:=⟨_,rfl⟩;have hzi:Z[i]?=some x:=by rw[←hx,aap,aaw hiz];rfl
     have HX:Hid (kN word.length k head x) :=HZ.out x (List.mem_of_getElem? hzi);have hxl:=HX.out.len;have ano:us.length=Z.length:=by have:=HF.out.outer.1;omega
     obtain⟨u,hu⟩ : ∃u,us[i]?=some u:=⟨_,aaw (by omega)⟩;have FU:=HF.out.row i u x hu hzi;have hou:=HF.out.rows.own _ _ _ FU;have c0:wr.cell? ⟨g,i,none⟩=some u:=by rw[HF.out.outer.cellAt i (by omega)];exact hu
     rcases hou.2 with⟨_,h0⟩| ⟨gu,cu,cur,rfl,hbu,hgu,TC⟩;·omega
     have hcap:word.length+2≤cu:=by have:=TC.1;omega
     have c1:wr.cell? ⟨gu,word.length+1,none⟩=some (.int .i64 (dQ x (word.length+1))) :=by rw[hou.cellAt (word.length+1) (by omega)];simp[zI,dQ,hxl]
     have lH:Hid (bD wr (.slice (some ⟨gu,0,none⟩) (word.length+1) cu) (x.take (word.length+1))) :=by
      refine⟨_,cu,by rw[aav,hxl];congr 1;omega,Or.inr ⟨gu,0,rfl,?_,fun t ht=> ?_⟩⟩;·obtain⟨_,c2,h2⟩ :=aA hou (b:=gu) rfl;exact GI
      ·rw[aav,hxl]at ht;rw[aaV,hou.cellAt t (by omega)];have e:(x.take (word.length+1)).getD t 0=x.getD t 0:=by rw[aap,aap,aaQ (by omega)]
       rw[e];simp[zI,show t<x.length by omega]
     have Hx:=ah hx;have yc:=ah FU;rw[hxl]at c0;have Kl:=ah hxl;have hcm:=HX.out.came;obtain⟨came,P9⟩ : ∃came,dQ x (word.length+1)=came:=⟨_,rfl⟩;rw[P9]at hcm c1;have Za:=ah P9;have hgl:word.length+1<word.length+2:=by omega
     have ar7:(word.length:Int)+1<((word.length+2:Nat) :Int) :=by omega
     have ag9:(word.length:Int)+1≤(cu:Int) :=by omega
     have hdrop:=TC;clear P9 hx hxl ano hu FU hzi hbu hgu TC hdrop hou;go_upto_region 19 with fail;have HN:Hid (Bo w (wr.alloc (.cells #[] 3)) w.heap.size rb (.slice al ls.length cl) vf vn (.slice aw word.length cw) (.slice (some ⟨g,0,none⟩) Z.length c) word ls Z us aB ns ak (upd R 2 (some (.slice (some ⟨wr.heap.size,0,none⟩) 0 0,[])))) :=HF.out.FL ((aah _ _).alloc (aas _) _) (Or.inl rfl) (gF wr 3);have aiK:Hid (upd R 2 (some (.slice (some ⟨wr.heap.size,0,none⟩) 0 0,[])) (4+2*i)=some (.slice (some ⟨gu,0,none⟩) (word.length+2) cu,x)) :=by show _=_;rw[aD _ _ (by omega),yc.out,Kl.out]
     clear lH;have FW:=HN.out.bW;clear FW;generalize wr.alloc (.cells #[] 3)=w7 at*;generalize wr.heap.size=gt0 at*;go_wp2;go_loopw [13,17,18](fun rv tv jv wx=>∃(j g c:Nat)(us:List aab)(R:aU),j≤ls.length+1∧jv= .int .i64 (j:Int)∧rv= .slice (some ⟨g,0,none⟩) (aS K Z x j).length c∧(∃g' c',tv= .slice (some ⟨g',0,none⟩) j c')∧R 2=some (tv,aH (toN K (aS K Z x j) x j))∧R (4+2*i)=some (.slice (some ⟨gu,0,none⟩) (word.length+2) cu,x)∧Bo w wx w.heap.size rb (.slice al ls.length cl) vf vn (.slice aw word.length cw) rv word ls (aS K Z x j) us aB ns ak R)(fun _ _ jv _=>ls.length+1-(aar jv).toNat);case atStart=>exact⟨0,g,c,us,_,by omega,rfl,rfl,⟨gt0,0,rfl⟩,upd_same _ _ _,aiK.out,HN.out⟩
     case round=>
      clear HN aiK c0 c1;obtain⟨j,g3,c3,D6,R3,hj,rfl,rfl,⟨g4,c4,rfl⟩,hR2,FU,Vd⟩ :=hrel;have HR2:=ah hR2;have yc:=ah FU;have iR:=ah Vd;have Br:=acw (word:=word) (ls:=ls) (Z:=Z) hk.1 hh.1 HG.out.nodup HZ.out HX.out j;rw[HK.out]at Br;have hMf:=KJ hl hk.1 hk.2 (by omega) Br.1 Br.2;have Kc:=ah Br;have tQ:=ah (nN K Z x j);have AL:=ah (vX K Z x j);have rD:=ah (rY K (aS K Z x j) x j);clear hR2 FU Vd Br;have D8:wr.cell? ⟨rb,0,none⟩=some (.slice al ls.length cl) :=aj iR.out.bW 0;by_cases hjl:j≤ls.length
      ·have KF:(j:Int)≤(ls.length:Int) :=by omega
       go_upto_if 110 with fail;go_cut [19](fun lv wy=>lv= .int .i64 (fU ls j)∧wy=wr);case first=>
        by_cases hjk:j<ls.length
        ·have Mc:(j:Int)<(ls.length:Int) :=by omega
         obtain⟨gl,ol,rfl,hgl,hcl⟩ :=(iR.out.rows.hold iR.out.mE).cells hjk;have hle:fU ls j=ls.getD j 0:=by simp[fU,hjk]
         rw[←hle]at hcl;generalize fU ls j=lt at*;clear hle;exact Mj
        ·have Mc: ¬(j:Int)<(ls.length:Int) :=by omega
         have hle:fU ls j= -9:=by simp[fU,hjk]
         go_wp2;exact PS
       case rest=>
        obtain⟨rfl,hwc⟩ :=hcut;obtain rfl:=hwc.symm;clear hwc;obtain⟨y,hy⟩ : ∃y,K.step x j=y:=⟨_,rfl⟩;have Hy:Hid (y=uV word.length k head (qQ word (fU ls j)) x) :=by show _=_;rw[←hy,←HK.out];rfl
        rw[hy]at tQ AL;clear hy;generalize fU ls j=lt at*;obtain⟨st,hst⟩ : ∃st,CY head came (qQ word lt)=st:=⟨_,rfl⟩;have fZ:=ah hst;go_upto_if 119 with fail;go_cut [20](fun sv wy=>sv= .int .i64 st∧wy=wr);case first=>
         by_cases hch:came<head
         ·obtain⟨cn,rfl⟩ : ∃cn:Nat,came=(cn:Int) :=⟨came.toNat,by omega⟩;have anE:cn<word.length:=by omega
          have arv:(cn:Int)<(word.length:Int) :=by omega
          obtain⟨gw,ow,rfl,hgw,hcw⟩ :=(iR.out.rows.hold iR.out.AQ).cells anE;have P7:st=if word.getD cn 0=lt then(cn:Int)+1 else head+1:=by rw[←hst];simp[CY,hch,qQ]
          generalize word.getD cn 0=wc0 at*;clear hst;by_cases hwl:wc0=lt
          ·have hwb:(wc0 !=lt)=false:=by simp[hwl]
           rw[if_pos hwl]at P7;clear hwl;exact Qr
          ·have hwb:(wc0 !=lt)=true:=by simpa using hwl
           rw[if_neg hwl]at P7;clear hwl;exact Qr
         ·have P7:st=came:=by rw[←hst];simp[CY,hch]
          clear hst;exact Qr
        case rest=>
         obtain⟨rfl,hwc⟩ :=hcut;obtain rfl:=hwc.symm;clear hwc;have lH:Hid (bD wr (.slice (some ⟨gu,0,none⟩) (word.length+1) cu) (x.take (word.length+1))) :=Tc iR.out.rows yc.out Kl.out;have HYz:Hid (zI y=zI (rG (word.length+1) (jd (qQ word lt) k (dQ (x.take (word.length+1)))))++ [.int .i64 st]) :=by show _=_;rw[Hy.out,ab7,Za.out,fZ.out]
         have hyl:y.length=word.length+2:=by rw[Hy.out];simp[uV,qh]
         clear hst;go_wp2_with fail;refine(acv word (x.take (word.length+1)) _ _ lt k _ (by omega) (by rw[aav,Kl.out];omega) (by omega) (fun i' hi'=> ?rb) (iR.out.rows.hold iR.out.AQ) lH.out).mono ?_;case rb=>rw[Lb (by omega)];obtain⟨_,UT⟩ :=HX.out.win;have:=UT i' hi';omega
         rintro e w8⟨vy,rfl,af5,jS⟩;have HOy:=ah af5;have VR:=jS.size;have Fx:=ah jS;clear af5 jS;go_upto_region 31 with(at_builtin;refine dm rfl _ _ 56 3 rfl i0 (.int .i64 0) 8 Tryd.underlying56 hi hz0 hz1 hz2 rfl wr.heap.size _ _ _ rfl HOy.out _ rfl rfl (by omega) (by decide) VR ?_);intro v9 w9 uR oh sw EE;have oJ:aat wr.heap.size wr w9:=Fx.out.trans (oh.below VR (fun x' hx' e=>by have:=(aA HOy.out e).1;omega));have HO9:Hid (w9.ownsRow wr.heap.size 3 1 v9 y.length (zI y)) :=by show aaK _ _ _ _ _ _ _;rw[hyl,HYz.out];exact uR
         obtain⟨gy,cy,hvy⟩ : ∃g c,v9= .slice (some ⟨g,0,none⟩) (word.length+2) c:=by
          rcases bH HO9.out with⟨h,h0⟩| ⟨g,c,h,_,_⟩;·exact absurd h EE
          ·exact⟨g,c,by rw[←hyl];exact h⟩
         subst hvy;have A8:=ah (iR.out.FL oJ (i:=3) (Or.inr rfl) HO9.out);have Ch:Hid (upd R3 3 (some (.slice (some ⟨gy,0,none⟩) (word.length+2) cy,y)) 3=some (.slice (some ⟨gy,0,none⟩) (word.length+2) cy,y)) :=upd_same _ _ _;have PY:Hid (upd R3 3 (some (.slice (some ⟨gy,0,none⟩) (word.length+2) cy,y)) 2=some (.slice (some ⟨g4,0,none⟩) j c4,aH (toN K (aS K Z x j) x j))) :=by show _=_;rw[aD _ _ (by omega)];exact HR2.out
         have aio:Hid (upd R3 3 (some (.slice (some ⟨gy,0,none⟩) (word.length+2) cy,y)) (4+2*i)=some (.slice (some ⟨gu,0,none⟩) (word.length+2) cu,x)) :=by show _=_;rw[aD _ _ (by omega)];exact yc.out
         have Hyl:=ah hyl;clear uR oh sw EE HOy Fx VR oJ HO9 lH iR HR2 yc HYz hyl D8;generalize upd R3 3 (some (.slice (some ⟨gy,0,none⟩) (word.length+2) cy,y))=R9 at*;obtain⟨M,hM⟩ : ∃M,aS K Z x j=M:=⟨_,rfl⟩;have HLi:Hid (i<M.length) :=by show _<_;obtain⟨r,hr⟩ :=wB K Z x j;rw[←hM,hr,aax];omega
         rw[hM]at A8 PY tQ AL Kc hMf rD;simp only[hM];clear hM;go_wp2;go_loopw [22](fun av wx=>∃t q:Nat,t≤M.length∧av= .int .i64 (t:Int)∧(∀p,p<t→M.getD p []≠y)∧wx=w9.drewN q)(fun av _=>M.length-(aar av).toNat);case atStart=>exact⟨0,0,by omega,rfl,fun p hp=>by omega,rfl⟩
         case round=>
          obtain⟨t,q,ht,rfl,hbef,hwq⟩ :=hrel;have DU:=ah hbef;have vK:=ah hwq;have Nz:Hid (Bo w wr w.heap.size rb (.slice al ls.length cl) vf vn (.slice aw word.length cw) (.slice (some ⟨g3,0,none⟩) M.length c3) word ls M D6 aB ns ak R9) :=by show Bo _ _ _ _ _ _ _ _ _ _ _ _ _ _ _ _ _;rw[hwq];exact A8.out.keep (aaF (aah _ _) q)
          clear hbef hwq;by_cases htl:t<M.length
          ·have amS:(t:Int)<(M.length:Int) :=by omega
           have anz:decide ((t:Int)<(M.length:Int))=true:=by simpa using htl
           have hml:(M.getD t []).length=word.length+1+1:=(Kc.out.2 _ (by rw[aap,aaw htl];exact List.getElem_mem htl)).len;obtain⟨gq,cq,hq1,hq2⟩ :=Nz.out.rowAt htl hml;have gZ:=ah hq2;have HHy:=ah (Nz.out.rows.hold Ch.out);clear hq2;go_wp2_with fail;refine(Lh (M.getD t []) y _ _ _ (by rw[hml];omega) (by rw[Hyl.out];omega) gZ.out HHy.out).mono ?_;rintro e lS⟨rfl,q2,Yb⟩;have qI:Hid (Bo w lS w.heap.size rb (.slice al ls.length cl) vf vn (.slice aw word.length cw) (.slice (some ⟨g3,0,none⟩) M.length c3) word ls M D6 aB ns ak R9) :=by show Bo _ _ _ _ _ _ _ _ _ _ _ _ _ _ _ _ _;rw[Yb];exact Nz.out.keep (aaF (aah _ _) q2)
           have am2:=ah Yb;clear Yb hml;by_cases heq:M.getD t []=y
           ·have hdb:decide (M.getD t []=y)=true:=by simpa using heq
            obtain⟨hm1,hm2⟩ :=QS htl DU.out heq;have kH:Hid (aS K Z x (j+1)=M) :=tQ.out.trans hm1;have HTe:Hid (toN K (aS K Z x (j+1)) x (j+1)=toN K M x j++ [t]) :=by show _=_;rw[AL.out,tQ.out,hm2]
            have hte:((t:Int)==(M.length:Int))=false:=by simp;omega
            rw[hdb];clear heq hm1 hm2;have xY:=ah (qI.out.rows.own 2 _ _ PY.out);have hbt:=qI.out.below.size;go_wp2_with(at_builtin;refine dm rfl _ _ 56 3 rfl i0 (.int .i64 0) 8 Tryd.underlying56 hi hz0 hz1 hz2 rfl w.heap.size _ _ _ rfl xY.out _ rfl rfl (by rw[aK,rD.out];omega) (by decide) hbt ?_);intro v11 w11 pq um xU zV;have ED:=ah (qI.out.y9 (i:=2) (Or.inl rfl) PY.out um (ys:=aH (toN K M x j++ [t])) (by rw[iL,nD,aax];exact pq) xU);obtain⟨g11,c11,J3⟩ : ∃g c,v11= .slice (some ⟨g,0,none⟩) (j+1) c:=by exact acN
            subst J3;clear pq um xU zV xY hbt;go_wp2;go_roundw;case rel=>refine⟨j+1,g3,c3,D6,upd R9 2 (some (.slice (some ⟨g11,0,none⟩) (j+1) c11,aH (toN K M x j++ [t]))),by omega,by go_num,by rw[kH.out],⟨g11,c11,rfl⟩,by rw[HTe.out];exact upd_same _ _ _,?_,by rw[kH.out];exact ED.out⟩;rw[aD _ _ (by omega)];exact aio.out
            case measure=>simp[aar];omega
           ·have hdb:decide (M.getD t []=y)=false:=by simpa using heq
            have anb:Hid (∀p,p<t+1→M.getD p []≠y) :=by
             show∀_,_;intro p hp;by_cases e:p=t;·rw[e];exact heq
             ·exact DU.out p (by omega)
            rw[hdb];clear heq;go_wp2;go_roundw;case rel=>exact⟨t+1,q+q2,by omega,by go_num,anb.out,by rw[am2.out,vK.out,World.drewN_drewN]⟩
            case measure=>simp[aar];omega
          ·have amS: ¬(t:Int)<(M.length:Int) :=by omega
           have anz:decide ((t:Int)<(M.length:Int))=false:=by simpa using htl
           obtain rfl:t=M.length:=by omega
           obtain⟨hm1,hm2⟩ :=Yz DU.out;have kH:Hid (aS K Z x (j+1)=M++ [y]) :=tQ.out.trans hm1;have HTe:Hid (toN K (aS K Z x (j+1)) x (j+1)=toN K M x j++ [M.length]) :=by show _=_;rw[AL.out,tQ.out,hm2]
           clear hm1 hm2;have aro:((M.length:Int)==(M.length:Int))=true:=by simp
           have HOr:=ah Nz.out.outer;have hbr:=Nz.out.below.size;go_upto_region 36 with(at_builtin;refine dm rfl _ _ 58 56 rfl is (.slice none 0 0) 24 Tryd.underlying58 his hs0 hs1 hs2 rfl w.heap.size _ _ _ rfl HOr.out _ rfl rfl (by omega) (by decide) hbr ?_);intro v10 lS L8 Tv xh Zw;have qI:=ah (Nz.out.Nt Ch.out Tv L8 xh);obtain⟨g10,c10,anW⟩ : ∃g c,v10= .slice (some ⟨g,0,none⟩) (M.length+1) c:=by
            rcases bH L8 with⟨h,h0⟩| ⟨g,c,h,_,_⟩;·exact absurd h Zw
            ·exact⟨g,c,h⟩
           subst anW;have HRt:Hid (upd (upd R9 (4+2*M.length) (some (.slice (some ⟨gy,0,none⟩) (word.length+2) cy,y))) 3 none 2=some (.slice (some ⟨g4,0,none⟩) j c4,aH (toN K M x j))) :=by show _=_;rw[aD _ _ (by omega),aD _ _ (by omega)];exact PY.out
           have HRx:Hid (upd (upd R9 (4+2*M.length) (some (.slice (some ⟨gy,0,none⟩) (word.length+2) cy,y))) 3 none (4+2*i)=some (.slice (some ⟨gu,0,none⟩) (word.length+2) cu,x)) :=by show _=_;have:=HLi.out;rw[aD _ _ (by omega),aD _ _ (by omega)];exact aio.out
           clear L8 Tv xh Zw HOr hbr;generalize upd (upd R9 (4+2*M.length) (some (.slice (some ⟨gy,0,none⟩) (word.length+2) cy,y))) 3 none=Rt at*;have xY:=ah (qI.out.rows.own 2 _ _ HRt.out);have hbt:=qI.out.below.size;go_wp2_with(at_builtin;refine dm rfl _ _ 56 3 rfl i0 (.int .i64 0) 8 Tryd.underlying56 hi hz0 hz1 hz2 rfl w.heap.size _ _ _ rfl xY.out _ rfl rfl (by rw[aK,rD.out];omega) (by decide) hbt ?_);intro v11 w11 pq um xU zV;have ED:=ah (qI.out.y9 (i:=2) (Or.inl rfl) HRt.out um (ys:=aH (toN K M x j++ [M.length])) (by rw[iL,nD,aax];exact pq) xU);obtain⟨g11,c11,J3⟩ : ∃g c,v11= .slice (some ⟨g,0,none⟩) (j+1) c:=by exact acN
           subst J3;clear pq um xU zV xY hbt;go_wp2;go_roundw;case rel=>refine⟨j+1,g10,c10,D6++ [.slice (some ⟨gy,0,none⟩) (word.length+2) cy],upd Rt 2 (some (.slice (some ⟨g11,0,none⟩) (j+1) c11,aH (toN K M x j++ [M.length]))),by omega,by go_num,by rw[kH.out,aax,List.length_singleton],⟨g11,c11,rfl⟩,by rw[HTe.out];exact upd_same _ _ _,?_,by rw[kH.out];exact ED.out⟩;rw[aD _ _ (by omega)];exact HRx.out
           case measure=>simp[aar];omega
      ·have KF: ¬(j:Int)≤(ls.length:Int) :=by omega
       obtain rfl:j=ls.length+1:=by omega
       have hni:aB.length≤1114112:=by rw[HG.out.uE];omega
       have hfi:ak.length≤1114112:=by rw[HG.out.mH];omega
       obtain⟨af,cf,tL⟩ : ∃a c,vf= .slice a ak.length c:=by
        rcases bH iR.out.fin with⟨h,h0⟩| ⟨g,c,h,_,_⟩;·exact⟨none,0,by rw[h,h0]⟩
        ·exact⟨_,c,h⟩
       obtain⟨an,cn,CS⟩ : ∃a c,vn= .slice a aB.length c:=by
        rcases bH iR.out.nx with⟨h,h0⟩| ⟨g,c,h,_,_⟩;·exact⟨none,0,by rw[h,h0]⟩
        ·exact⟨_,c,h⟩
       subst tL CS;have r2:wr.cell? ⟨rb,2,none⟩=some (.slice an aB.length cn) :=aj iR.out.bW 2;have kS:=ah iR.out.nx;have hbn:=iR.out.below.size;go_upto_region 38 with(at_builtin;refine dm rfl _ _ 58 56 rfl is (.slice none 0 0) 24 Tryd.underlying58 his hs0 hs1 hs2 rfl w.heap.size _ _ _ rfl kS.out _ rfl rfl (by omega) (by decide) hbn ?_);intro v12 O8 oZ tV wY zZ;obtain⟨Ma,EG⟩ :=iR.out.zy HR2.out tV oZ wY;obtain⟨g12,c12,J6⟩ : ∃g c,v12= .slice (some ⟨g,0,none⟩) (aB.length+1) c:=by exact aa2
       subst J6;have qg:=ah Ma;have HRx:Hid (upd (upd R3 (5+2*aB.length) (some (.slice (some ⟨g4,0,none⟩) (ls.length+1) c4,aH (toN K (aS K Z x (ls.length+1)) x (ls.length+1))))) 2 none (4+2*i)=some (.slice (some ⟨gu,0,none⟩) (word.length+2) cu,x)) :=by show _=_;rw[aD _ _ (by omega),aD _ _ (by omega)];exact yc.out
       have q2:O8.cell? ⟨rb,2,none⟩=some (.slice an aB.length cn) :=aj EG 2;have qf:=bL EG 2;have JM:=ah (HG.out.step hiz);clear Ma EG oZ tV wY zZ kS hbn r2 D8;generalize upd (upd R3 (5+2*aB.length) (some (.slice (some ⟨g4,0,none⟩) (ls.length+1) c4,aH (toN K (aS K Z x (ls.length+1)) x (ls.length+1))))) 2 none=Nw at*;go_upto_region 38 with fail;generalize hW2:O8.setCell ⟨rb,2,none⟩ (.slice (some ⟨g12,0,none⟩) (aB.length+1) c12)=W2 at*;clear hW2 q2 qf;obtain⟨ib,hib,hb0,hb1,hb2⟩ :=aaE Tryd.infoBoL;obtain⟨d,hd0⟩ : ∃d,dQ x word.length=d:=⟨_,rfl⟩;have HD:=ah hd0;have qK:Hid (∀W':aal,aY W' w.heap.size Nw→W'.cell? ⟨gu,word.length,none⟩=some (.int .i64 d)) :=by show∀_,_;intro W' hR';have ho:=hR'.own _ _ _ HRx.out;rw[Kl.out]at ho;have:=ho.cellAt word.length (by omega);rw[this,←hd0];have hx2:=Kl.out;simp[zI,dQ,hx2]
       have pF:Hid (Bo w W2.drew w.heap.size rb (.slice al ls.length cl) (.slice af ak.length cf) (.slice (some ⟨g12,0,none⟩) (aB.length+1) c12) (.slice aw word.length cw) (.slice (some ⟨g3,0,none⟩) (aS K Z x (ls.length+1)).length c3) word ls (aS K Z x (ls.length+1)) D6 (aB++ [toN K (aS K Z x (ls.length+1)) x (ls.length+1)]) (ns++ [.slice (some ⟨g4,0,none⟩) (ls.length+1) c4]) ak Nw) :=qg.out.keep (aaF (aah _ _) 1);have S0:=qK.out _ pF.out.rows;have yY:Hid (∀o:Obj,(W2.drew.alloc o).cell? ⟨gu,word.length,none⟩=some (.int .i64 d)) :=fun o=>qK.out _ (pF.out.rows.below ((aah _ _).alloc (aas _) _));have b1:W2.drew.cell? ⟨rb,1,none⟩=some (.slice af ak.length cf) :=aj pF.out.bW 1;have lq:Hid (∀o:Obj,(W2.drew.alloc o).cell? ⟨rb,1,none⟩=some (.slice af ak.length cf)) :=fun o=>aj (aC pF.out.bW ((aah _ _).alloc (aas _) _)) 1
       have wX:Hid (∀f,f=(decide (d≤k) &&decide (came=head))→jL K (ls.length+1) x0 (i+1) (aS K Z x (ls.length+1)) (aB++ [toN K (aS K Z x (ls.length+1)) x (ls.length+1)]) (ak++ [f])) :=by
        show∀_,_;intro f hf;have h1:=JM.out;rw[Hx.out]at h1;have h2:K.fin x=f:=by rw[hf,←HK.out,←hd0,←Za.out];rfl
        rw[h2]at h1;exact h1
       have hgw:(word.length:Int)<((word.length+1:Nat) :Int) :=by omega
       have ar5:word.length<word.length+1:=by omega
       clear hd0;by_cases hdk:d≤k
       ·have hdb:decide (d≤k)=true:=by simpa using hdk
        by_cases hch:came=head
        ·have hcb:(came==head)=true:=by simpa using hch
         have ZQ:Hid (true=(decide (d≤k) &&decide (came=head))) :=by show _=_;simp[hdk,hch]
         clear hch;go_upto_region 38 with fail;refine aaA (S:=fun W'=>W'.cell? ⟨gu,word.length,none⟩=some (.int .i64 d)) (by kernel_rfl) ?_;try refine tn ?_
         refine tx 0 ?_;refine tx 2 ?_;refine tx 3 ?_;refine tx 4 ?_;refine tx 5 ?_;refine tx 6 ?_;refine tx 7 ?_;refine tx 8 ?_;refine tx 9 ?_;refine tx 10 ?_;refine tx 11 ?_;refine tx 12 ?_;refine tx 13 ?_;refine bX 1 14 (by kernel_rfl) ?oA ?oB;case oA=>
          refine aP (.slice af ak.length cf) _ rfl (by kernel_rfl) (sZ _ _ _ _ rfl rb 1 _ (by kernel_rfl) b1) ?_;refine⟨S0,?_⟩;try refine tn ?_
          refine aF 14 (by kernel_rfl) ?_;refine aP (.slice (some ⟨W2.drew.heap.size,0,none⟩) 1 1) (W2.drew.alloc (.cells #[.bool true] 4)) rfl (by kernel_rfl) (uO _ _ _ _ rfl true (by kernel_rfl)) ?_;exact zc6
         case oB=>
          refine aP (.slice (some ⟨W2.drew.heap.size,0,none⟩) 1 1) (W2.drew.alloc (.cells #[.bool true] 4)) rfl (by kernel_rfl) (uO _ _ _ _ rfl true (by kernel_rfl)) ?_;refine⟨yY.out _,?_⟩;try refine tn ?_
          refine aF 1 (by kernel_rfl) ?_;refine aP (.slice af ak.length cf) _ rfl (by kernel_rfl) (sZ _ _ _ _ rfl rb 1 _ (by kernel_rfl) (lq.out _)) ?_;exact zc6
        ·have hcb:(came==head)=false:=by simpa using hch
         have ZQ:Hid (false=(decide (d≤k) &&decide (came=head))) :=by show _=_;simp[hch]
         clear hch;go_upto_region 38 with fail;refine aaA (S:=fun W'=>W'.cell? ⟨gu,word.length,none⟩=some (.int .i64 d)) (by kernel_rfl) ?_;try refine tn ?_
         refine tx 0 ?_;refine tx 2 ?_;refine tx 3 ?_;refine tx 4 ?_;refine tx 5 ?_;refine tx 6 ?_;refine tx 7 ?_;refine tx 8 ?_;refine tx 9 ?_;refine tx 10 ?_;refine tx 11 ?_;refine tx 12 ?_;exact aad
       ·have hdb:decide (d≤k)=false:=by simpa using hdk
        have ZQ:Hid (false=(decide (d≤k) &&decide (came=head))) :=by show _=_;simp[hdk]
        go_upto_region 38 with fail;refine aaA (S:=fun W'=>W'.cell? ⟨gu,word.length,none⟩=some (.int .i64 d)) (by kernel_rfl) ?_;try refine tn ?_
        refine tx 0 ?_;refine tx 2 ?_;refine tx 3 ?_;refine tx 4 ?_;refine tx 5 ?_;refine tx 6 ?_;refine tx 7 ?_;refine tx 8 ?_;refine tx 9 ?_;refine ty 10 ?_;refine ty 11 ?_;refine ty 12 ?_;exact aad
    ·have YO: ¬(i:Int)<(Z.length:Int) :=by omega
     obtain rfl:i=Z.length:=by have:=HG.out.le;omega
     have Tx:0<Z.length:=by
      rcases HF.out.outer.2 with⟨h,_⟩|_;·cases h
      ·exact aeH
     obtain⟨hbf,iw,hrows⟩ :=HG.out.done Tx;have hfl:ak.length=Z.length:=HG.out.mH;have hnl:aB.length=ak.length:=HG.out.uE.trans HG.out.mH.symm;obtain⟨uo,hraw⟩ :=HF.out.raw hnl (by omega) (by omega) (by omega) hrows;have qU:=ah iw;have HHl:=ah uo;have Gm:=ah hraw;obtain⟨af,cf,tL⟩ : ∃a c,vf= .slice a ak.length c:=by obtain⟨a,c,h,_⟩ :=hraw.fin;exact⟨a,c,h⟩
     obtain⟨an,cn,CS⟩ : ∃a c,vn= .slice a aB.length c:=by obtain⟨a,c,h,_⟩ :=hraw.nx;exact⟨a,c,h⟩
     subst tL CS;have r0:wr.cell? ⟨rb,0,none⟩=some (.slice al ls.length cl) :=aj HF.out.bW 0;have r1:wr.cell? ⟨rb,1,none⟩=some (.slice af ak.length cf) :=aj HF.out.bW 1;have r2:wr.cell? ⟨rb,2,none⟩=some (.slice an aB.length cn) :=aj HF.out.bW 2;clear hbf iw hrows hfl hnl uo hraw Tx;go_wp2_with fail;refine(zL hC _ _ _ ls ak aB _ HHl.out Gm.out).mono ?_;rintro e AR⟨L,hL,Ef,hcase⟩;have HL:Hid (bS.dx ls.length ls ((SB word ls k head).aW (ls.length+1) (qM word.length k)) L) :=by show Sys.dx _ _ _ _ _;rw[HK.out,Hx0.out,←qU.out];exact hL
     have hres:=aC (HF.out.box _ (List.mem_singleton.2 rfl)).2 Ef;have HRs:=ah hres;have Ki:=ah (HF.out.below.trans (Ef.mono HF.out.below.size));have t0:AR.cell? ⟨w.heap.size,0,none⟩=some (.slice none 0 0) :=aj hres 0;have f0:=bL hres 0;have hset: ∀v:aab,(AR.setCell ⟨w.heap.size,0,none⟩ v).cell? ⟨w.heap.size,0,none⟩=some v:=by intro v;have:=aL HRs.out 0 v;rw[aj this 0];simp
     have fB:=ah hset;have hbs: ∀v:aab,aat w.heap.size w (AR.setCell ⟨w.heap.size,0,none⟩ v) :=fun v=>Ki.out.trans (((But.refl (fun b=>b=w.heap.size) AR).set (w.heap.size) 0 _ rfl).below Ki.out.size (fun j hj e=>by omega));have jF:=ah hbs;have hwz:w.heap.size≤wr.heap.size:=HF.out.below.size;clear hL Ef hres hset hbs;rcases hcase with⟨hgt,rfl⟩| ⟨hle,v,l,hvl,rfl,Sw⟩;·go_wp2;refine bodyPost_ret (v:= .tuple #[.agg #[.slice none 0 0],.int .i64 11]) (by simp[results,Tryd.results50,go_sem,fB.out]) rfl ?_;exact⟨ls,L,qF.out,kH.out,HL.out,jF.out _,Or.inl ⟨hgt,rfl⟩⟩
     ·have Sd:Hid (∀u:aab,bq (AR.setCell ⟨w.heap.size,0,none⟩ u) w.heap.size v l) :=by exact aeW
      obtain⟨av,cv,hvv⟩ : ∃a c,v= .slice a l.length c:=by exact ain
      subst hvv;clear Sw;go_wp2;refine bodyPost_ret (v:= .tuple #[.agg #[.slice av l.length cv],.int .i64 0]) (by simp[results,Tryd.results50,go_sem,fB.out]) rfl ?_;exact⟨ls,L,qF.out,kH.out,HL.out,jF.out _,Or.inr ⟨hle,_,l,hvl,rfl,Sd.out _⟩⟩
end Go.Proofs.YtkbjimkngmlfcaaDoor
