import Derived.Test.YtkbjimkngmlfcaaDoorSetsJ09
import Derived.Test.YtkbjimkngmlfcaaDoorSetsJ01
import Derived.Test.YtkbjimkngmlfcaaDoorSetsJ12
import Derived.Test.YtkbjimkngmlfcaaDoorSetsJ13
import Derived.Test.YtkbjimkngmlfcaaDoorSetsJ04
import Derived.Test.YtkbjimkngmlfcaaDoorSetsJ11
import Derived.Shelf.Spec.SlicesGrow
import Derived.Ground.Names7Prog
import Derived.Test.YtkbjimkngmlfcaaDoorProg
import Derived.Maps.AppendAt
import Derived.Laws.AppendOwn
import Derived.Test.YtkbjimkngmlfcaaDoorSetsJ00
import Derived.Deep.AppendSrc
import Derived.Lib.AppendZeros
import Derived.Shelf.Spec.TrailingZeros
import Derived.Test.YtkbjimkngmlfcaaDoorSetsJ10
import Derived.Lib.TrailingZeros
open Array renaming size_append→adL
open Go renaming World→aaa,Value→aab,heap_alloc_new→aaQ,bodyPost_ret→abw,results→abt,Operand→aaw,execOp→aaV,TypeId→aaR,wp_region_held→adN,run_underlying→aaE,sizeOf→aa4,typeInfo→aa3,loadCells→ac1,loadCellsFrom→acT,storeCells→abp,maxLen→aa9,grownCap_le_maxLen→adV,size_zeroCells→acK,TypeInfo→aa',grownCap→aaU,asIntOf→abx,zeroValue→abl,growslice_fits→adU
open Go.Builtin renaming append_→aaA,lenOf→ae',firstCells→acI,zeroCells→aa1,nextslicecap→ae3
open Go.IntKind renaming wrap_i64→ady
open Go.Lib renaming ctz→aav,ctzFrom_spec→aeS,ctzFrom→acH
open Go.RowKit renaming Below→aah
open Go.RowKit.Below renaming refl→aat
open Int renaming natCast_mul→aeZ,eq_ofNat_of_zero_le→adB
open List renaming range→aey,getD_eq_getElem?_getD→aal,getElem?_eq_getElem→aaY,getElem_mem→ads,length→aeL,length_map→adr,length_append→aaK,getElem?_append_left→aaT,getElem?_append_right→aa7,getElem?_map→abk,getElem?_range→acE,getElem?_eq_none→adv,length_nil→aeJ,size_toArray→adl,replicate→aar,append_assoc→aeR,length_replicate→acD,take_left→aex,length_set→aeI,getElem_of_mem→aeN
open Nat renaming le_refl→aaF,le_trans→acA,lt_of_lt_of_le→abf,add_assoc→aeq,mul_le_mul→adf,mul_one→abE,testBit_eq_decide_div_mod_eq→abd,mul_div_cancel_left→ad5,two_pow_pos→aa5,mul_assoc→abI,pow_succ→ada,pow_add→ad2,lt_or_ge→ab',one_shiftLeft→ad3,lt_trichotomy→ad',mul_add→adj,div_div_eq_div_mul→aen,testBit_lt_two_pow→adZ,pow_le_pow_right→ad1,lt_of_le_of_lt→aeb
open Option renaming getD_some→abC
open Option.some renaming injEq→ac2
open Or renaming inl→aap,inr→aau
namespace Go.Proofs.YtkbjimkngmlfcaaDoor
open Go Go.RowKit
set_option linter.unusedVariables false
set_option linter.unusedSimpArgs false
theorem abG {P:Prop}(h:P:=by rw[e1,Nat.mul_add_div (Nat.two_pow_pos _),Nat.div_eq_of_lt (by rw[Nat.pow_succ];omega),Nat.add_zero]) :P:=h
theorem jL.Cq {X:Type} [DecidableEq X] {K:bN X} {S:Nat} {x0:X} {Z:List X} {aB:List (List Nat)} {ak:List Bool}(h:jL K S x0 Z.length Z aB ak) :fM (K.nexts S) x0 Z∧∀q,q<Z.length→(aM ak aB).aW S q=(K.Cq Z x0).aW S q:=by
 have hb:fM (K.nexts S) x0 Z:=⟨_,h.bf,aaF _⟩;have hto: ∀q a,q<Z.length→a<S→(aB.getD q []).getD a 0=ix Z (K.step (Z.getD q x0) a) :=by intro q a hq ha;rw[h.nx q hq];simp[toN,ha]
 refine⟨hb,fun q hq=> ?_⟩;refine(bK.Ai (n:=Z.length) (K.shut hb) (fun q hq=> ?_) (fun q a hq ha=> ?_) hq).symm;·exact(h.fin q hq).symm
 ·exact(hto q a hq ha).symm
section
variable {X:Type}
def oO(K:bN X)(sg:List Nat)(S:Nat) :bN X:=⟨fun x k=>K.step x (jU sg S k),K.fin⟩
theorem MI(K:bN X)(sg:List Nat)(S:Nat) : ∀(w:List Nat)(x:X),(oO K sg S).acc x w=K.acc x (w.map (jU sg S))
 | [],_=>rfl
 |a::w,x=>MI K sg S w _
theorem BO {K:bN X} {sg:List Nat} {S:Nat}(h:sG sg S) {x:X} {w:List Nat}(hw: ∀a∈w,a<sg.length+1) :(oO K sg S).aW (sg.length+1) x w=K.aW S x (w.map (jU sg S)) :=by unfold bN.aW;rw[MI];exact aiI
theorem G9 {w:List Nat} {S:Nat}(h: ¬∀a∈w,a<S) :w.all (fun a=>decide (a<S))=false:=by rw[Bool.eq_false_iff];intro hc;exact h fun a ha=>by simpa using List.all_eq_true.1 hc a ha
theorem Vh {K:bN X} {sg:List Nat} {S:Nat}(h:sG sg S) {x y:X}(e:(oO K sg S).aW (sg.length+1) x=(oO K sg S).aW (sg.length+1) y) :K.aW S x=K.aW S y:=by
 funext v;by_cases hv: ∀a∈v,a<S;·obtain⟨w,h1,rfl⟩ :=yQ h v hv;rw[←BO h h1,←BO h h1,e]
 ·unfold bN.aW;rw[G9 hv];rfl
theorem Yc {K:bN X} {sg:List Nat} {S:Nat}(h:sG sg S) {A:bK} {x:X}(e:A.aW S 0=K.aW S x) :(wL A sg S).aW (sg.length+1) 0=(oO K sg S).aW (sg.length+1) x:=by
 funext w;by_cases hw: ∀a∈w,a<sg.length+1;·rw[nR h hw,BO h hw,e]
 ·unfold bN.aW bK.aW;rw[G9 hw];rfl
theorem IV {K:bN X} {sg:List Nat} {S:Nat} : ∀(w:List Nat)(x:X),w.foldl (oO K sg S).step x=(w.map (jU sg S)).foldl K.step x
 | [],_=>rfl
 |a::w,x=>IV w _
theorem VE [DecidableEq X] {K:bN X} {sg:List Nat} {S:Nat}(h:sG sg S) {ls:List Int} {x0:X} {Z:List X} {D:List aT}(hb:fM (K.nexts S) x0 Z)(hD:bS.dx sg.length ls ((oO K sg S).aW (sg.length+1) x0) D) {κ:Nat→Nat}(hc:kY (K.Cq Z x0) S Z.length κ) {c:Nat}(ho: ∀y,y<c→∃q,q<Z.length∧κ q=y) :c≤D.length+1:=by
 have hx: ∃f:Nat→Nat,∀y,y<c→f y<Z.length∧κ (f y)=y:=by refine⟨fun y=>open Classical in if hh: ∃q,q<Z.length∧κ q=y then Classical.choose hh else 0,fun y hy=> ?_⟩;have hh:=ho y hy;simp only[dif_pos hh];exact Classical.choose_spec hh
 obtain⟨f,hf⟩ :=hx;have h1:=P8 hD ((aey c).map fun y=>(oO K sg S).aW (sg.length+1) (Z.getD (f y) x0)) (by rw[List.Nodup,List.pairwise_map];refine List.Pairwise.imp_of_mem ?_ (List.nodup_range (n:=c));intro a b ha hb' hab e;have ha':=hf a (List.mem_range.1 ha);have hb2:=hf b (List.mem_range.1 hb');refine hab ?_;rw[←ha'.2,←hb2.2];refine hc _ _ ha'.1 hb2.1 ?_;rw[K.Hg hb ha'.1,K.Hg hb hb2.1];exact Vh h e) (by
  intro L hL;obtain⟨y,hy,rfl⟩ :=List.mem_map.1 hL;have hy':=(hf y (List.mem_range.1 hy)).1;have hm:Z.getD (f y) x0∈Z:=by rw[aal,aaY hy',abC];exact ads hy'
  have hb':fM (K.nexts (S-1+1)) x0 Z:=by rw[Nat.sub_add_cancel h.pos];exact hb
  obtain⟨w,hw,he⟩ :=K.reached hb' _ hm;have hp:=h.pos;obtain⟨v,hv,rfl⟩ :=yQ h w fun a ha=>by have:=hw a ha;omega
  refine⟨v,fun a ha=>by have:=hv a ha;omega,?_⟩;rw[he,←IV,(oO K sg S).Aa v x0 fun a ha=>by have:=hv a ha;omega]);simpa using h1
end
end Go.Proofs.YtkbjimkngmlfcaaDoor
namespace Go.Proofs.YtkbjimkngmlfcaaDoor
open Go Go.RowKit
set_option linter.unusedVariables false
set_option linter.unusedSimpArgs false
set_option maxRecDepth 100000
theorem I8 {w:aaa} {base base' e n size:Nat} {v:aab} {xs:List aab}(h:w.ownsRow base e size v n xs)(hb:base'≤base) :w.ownsRow base' e size v n xs:=by
 refine⟨h.1,?_⟩;rcases h.2 with h1| ⟨g,cap,cur,h1,h2,h3⟩;·exact aap h1
 ·exact aau ⟨g,cap,cur,h1,acA hb h2,h3⟩
theorem bq.lower {W:aaa} {base base':Nat} {v:aab} {l:List dK}(h:bq W base v l)(hb:base'≤base) :bq W base' v l:=⟨I8 h.row hb,fun s hs=>I8 (h.aR s hs) hb,h.apart⟩
def aib(Lg:jA)(ls:List Int)(w:aaa)(e:Ending)(w':aaa) :Prop:=aah w.heap.size w w'∧((e= .returned (.tuple #[.agg #[.slice none 0 0],.int .i64 11])∧∀L,bS.dx ls.length ls Lg L→256<L.length)∨∃v l,bS.dx ls.length ls Lg (l.map Prod.snd)∧l.length≤256∧e= .returned (.tuple #[.agg #[v],.int .i64 0])∧bq w' w.heap.size v l)
theorem YT(w:aaa)(cw ca:Array aab) :
    let W:=((w.alloc (.cells cw 71)).alloc (.cells ca 74)).alloc (.cells #[.slice none 0 0] 25)
    W.heap[w.heap.size]?=some (.cells cw 71)∧W.heap[w.heap.size+1]?=some (.cells ca 74)∧W.heap[w.heap.size+1+1]?=some (.cells #[.slice none 0 0] 25)∧aah w.heap.size w W:=by
  have hz1:(w.alloc (.cells cw 71)).heap.size=w.heap.size+1:=by simp
  have hz2:((w.alloc (.cells cw 71)).alloc (.cells ca 74)).heap.size=w.heap.size+1+1:=by simp
  refine⟨?_,?_,?_,(((aat _ _).alloc (aaF _) _).alloc (by rw[hz1];omega) _).alloc (by rw[hz2];omega) _⟩
  ·exact ZK
  ·exact aaH
  ·rw[←hz2];exact aaQ _ _
set_option maxHeartbeats 8000000 in theorem MS(a0 a1 a2 a3:aab)(K:bN (Int×Int))(P:Int×Int→Prop)(x0:Int×Int)(S pa pb pc:Nat)(sg:List Nat)(sm ct ls:List Int)(w:aaa)(hll:ls.length≤1000)(pR:S≤1000)(hsg:sG sg S)(hsl:sg.length=ls.length)(hsm:sm.length=S)(hct:JL ct S)(hpr:Wu K P S)(hp0:P x0)(hfo:ad4 K P S sm pa pb w)(hfi:aee K P pc pa pb w)(h0:bD w a0 ls)(h1:bD w a1 (aH sg))(h2:bD w a2 sm)(h3:bD w a3 ct) :Calls Tryd.prog 39 #[.agg (BM x0 (uy pa pb) (ru pc pa pb)),.agg #[a0,a1,a2,a3]] w (aib ((oO K sg S).aW (ls.length+1) x0) ls w) :=by
 have hS:=YT w (BM x0 (uy pa pb) (ru pc pa pb)) #[a0,a1,a2,a3];dsimp only at hS;obtain⟨s1,s2,s3,s4⟩ :=hS;have H0:=ah h0;have H1:=ah h1;have H2:=ah h2;have H3:=ah h3;have yC:=hct.len;obtain⟨ad0,c0,rfl,-⟩ :=h0;obtain⟨kM,c1,rfl,-⟩ :=h1;obtain⟨kJ,c2,rfl,-⟩ :=h2;obtain⟨lg,c3,rfl,-⟩ :=h3;try simp only[aK,hsl,hsm,yC]at s1
 try simp only[aK,hsl,hsm,yC]at s2
 try simp only[aK,hsl,hsm,yC]at s3
 try simp only[aK,hsl,hsm,yC]at s4
 try simp only[aK,hsl,hsm,yC]at H0
 try simp only[aK,hsl,hsm,yC]at H1
 try simp only[aK,hsl,hsm,yC]at H2
 try simp only[aK,hsl,hsm,yC]at H3
 try simp only[aK,hsl,hsm,yC]at⊢
 have w0:=aj s1 0;have w1:=aj s1 1;have w2:=aj s1 2;have w3:=aj s1 3;have w4:=aj s1 4;have b0:=aj s2 0;have b1:=aj s2 1;have b2:=aj s2 2;have b3:=aj s2 3;have qw:=ah s4;have fJ:=ah s3;clear s1 s2 s3 s4 yC;go_enter Tryd.func39,Tryd.ntmps39;go_upto_region 1 with fail;generalize((w.alloc (.cells (BM x0 (uy pa pb) (ru pc pa pb)) 71)).alloc (.cells #[.slice ad0 ls.length c0,.slice kM ls.length c1,.slice kJ S c2,.slice lg S c3] 74)).alloc (.cells #[.slice none 0 0] 25)=W1 at*;have HTb:=ah (Nr (.slice ad0 ls.length c0) (.slice kM ls.length c1) (.slice kJ S c2) (.slice lg S c3) K P x0 S pa pb pc sm W1 hsg.pos pR hsm hpr hp0 (fun s j W hW=>hfo s j W (qw.out.trans (hW.mono qw.out.size))) (fun s W hW=>hfi s W (qw.out.trans (hW.mono qw.out.size))) (H2.out.below qw.out) ⟨_,_,_,rfl⟩ ⟨_,_,_,rfl⟩ ⟨_,_,_,rfl⟩);go_wp2_with fail;refine HTb.out.mono ?_
 rintro e W2⟨aV,bC,Z,aB,bs,l,rfl,hG,hL,hR,hF,hb2,hZ⟩;have Ba:0<Z.length:=by have:=hG.bf;obtain⟨r,hr⟩ :=rX (K.nexts S) Z.length 0 [x0];rw[←this,hr];simp
 have hln:l.length=Z.length:=by have:=congrArg aeL hL;rw[adr,adr,hG.uE]at this;exact this
 have hbn:bs.length=Z.length:=hG.mH;obtain⟨gX,FK,rfl⟩ :=iK hR.row;obtain⟨gM,nS,rfl⟩ :=iK hF;have HG:=ah hG;have HL:=ah hL;have HR:=ah hR;have HF:=ah hF;have HB2:=ah (qw.out.trans (hb2.mono qw.out.size));have HR2:=ah (aC fJ.out hb2);have HW1:=ah hb2.size;have hdn:=hG.done Ba;have N9:Hid (∀q,q<l.length→(aB.getD q []).length=S∧∀a,a<S→(aB.getD q []).getD a 0<l.length) :=fun q hq=>by have:=hdn.2.2 q (by omega);rw[hbn,←hln]at this;exact this
 have qU:=ah hdn.2.1;have hbl:bs.length=l.length:=by omega
 have mV:=ah hbl;have rH:=ah hln;have hl0:0<l.length:=by omega
 have hlZ:l.length≤1114112:=by omega
 have hnew:=aaQ W2 (.cells #[.slice ad0 ls.length c0,.slice kM ls.length c1,.slice kJ S c2,.slice lg S c3,.slice gX l.length FK,.slice gM bs.length nS,aJ,aJ] 93);have hb3:aah W2.heap.size W2 (W2.alloc (.cells #[.slice ad0 ls.length c0,.slice kM ls.length c1,.slice kJ S c2,.slice lg S c3,.slice gX l.length FK,.slice gM bs.length nS,aJ,aJ] 93)) :=(aat _ _).alloc (aaF _) _;have nO:=ah (YD W1.heap.size W2.heap.size 0 FK 0 nS gX gM (.slice ad0 ls.length c0) (.slice kM ls.length c1) (.slice kJ S c2) (.slice lg S c3) l bs aB S (W2.alloc (.cells #[.slice ad0 ls.length c0,.slice kM ls.length c1,.slice kJ S c2,.slice lg S c3,.slice gX l.length FK,.slice gM bs.length nS,aJ,aJ] 93)) hnew (hR.congr fun b cs t _ _ hh=>aC hh hb3) (aG hF (fun b hk=>hb3.block b (Array.getElem?_eq_some_iff.1 (aA hF hk).2.choose_spec).1)) hL hbl N9.out (by omega) hl0 hlZ (acA HW1.out hb3.size))
 have HB3:=ah (HB2.out.trans (hb3.mono HB2.out.size));have HR3:=ah (aC HR2.out hb3);have htb:w.heap.size+1+1<W2.heap.size:=(Array.getElem?_eq_some_iff.1 HR2.out).1;clear hG hL hR hF hb2 HTb w0 w1 w2 w3 w4 b0 b1 b2 b3 fJ hln hbn hbl hdn hnew hb3 HB2 HR2 HR HF;go_upto_region 4 with fail;generalize(W2.alloc (.cells #[.slice ad0 ls.length c0,.slice kM ls.length c1,.slice kJ S c2,.slice lg S c3,.slice gX l.length FK,.slice gM bs.length nS,aJ,aJ] 93))=W3 at*;obtain⟨tb,Ap⟩ : ∃tb,W2.heap.size=tb:=⟨_,rfl⟩;rw[Ap]at nO htb;simp only[Ap];clear Ap;go_wp2_with fail;refine nO.out.mono ?_;rintro e W4 hpt;rcases hpt with⟨rfl,bx,g3,c3',dw,cl,us,parts,hP,xI,hSt,hcl,hcz,hpl⟩| ⟨rfl,gU,κ,c,hco,hon,hc⟩
 ·have hb4:aah w.heap.size w W4:=HB3.out.trans (hP.but.below HB3.out.size (fun j hj e=>by omega));have hr4:W4.heap[w.heap.size+1+1]?=some (.cells #[.slice none 0 0] 25) :=by rw[hP.but.block _ (Array.getElem?_eq_some_iff.1 HR3.out).1 (by omega)];exact HR3.out
  obtain⟨gp,cp,gf,cf,hI⟩ :=abU W3 W4 W1.heap.size tb bx g3 c3' c2 kJ _ _ _ _ _ _ l bs cl us parts aB S ct hP xI hcl hcz hpl HL.out mV.out N9.out pR hl0 hlZ (H3.out.below hb4) hct;have xO:=ah (abW tb gp cp gf cf g3 c3' l.length _ _ _ _ _ bs cl parts aB sg S ls W4 hI xI hSt hsg hsl hcl mV.out (fun z hz=>(hcz z hz).1) hpl N9.out hll pR hl0 hlZ (H0.out.below hb4) (H1.out.below hb4));have eF:=ah hb4;have HR4:=ah hr4;clear hP xI hSt hcl hcz hpl hI hb4 hr4 nO HB3 HR3;go_wp2_with fail;refine xO.out.mono ?_;rintro e W5⟨v5,D,rfl,hM,hLs,hb5,hDl,wN,c5,rfl⟩;have hb6:aah W5.heap.size W5 (W5.alloc (.cells #[.slice wN D.length c5] 25)) :=(aat _ _).alloc (aaF _) _;have Vr:=aaQ W5 (.cells #[.slice wN D.length c5] 25);have afa:aah w.heap.size w (W5.alloc (.cells #[.slice wN D.length c5] 25)) :=(eF.out.trans (hb5.mono eF.out.size)).trans (hb6.mono (acA eF.out.size hb5.size))
  have yL:=aC (aC HR4.out hb5) hb6;have c6:(W5.alloc (.cells #[.slice wN D.length c5] 25)).cell? ⟨W5.heap.size,0,none⟩=some (.slice wN D.length c5) :=aj Vr 0;have rc:=aj yL 0;have fc:=bL yL 0;have hset:=fun u=>aL yL 0 u;have hsy:=Yc hsg qU.out;rw[hsl]at hsy;rw[hsy]at hLs;clear hsy;have rT:=ah hLs;have HM:Hid (bq (W5.alloc (.cells #[.slice wN D.length c5] 25)) w.heap.size (.slice wN D.length c5) D) :=(hM.lower eF.out.size).below hb6;have X8:=ah afa;have fB:=ah hset;have rP:=ah yL;clear hM hLs hb5 hb6 Vr afa yL hset eF HR4 xO;have wX:Hid (∀u,((W5.alloc (.cells #[.slice wN D.length c5] 25)).setCell ⟨w.heap.size+1+1,0,none⟩ u).cell? ⟨w.heap.size+1+1,0,none⟩=some u∧aah w.heap.size w ((W5.alloc (.cells #[.slice wN D.length c5] 25)).setCell ⟨w.heap.size+1+1,0,none⟩ u)∧bq ((W5.alloc (.cells #[.slice wN D.length c5] 25)).setCell ⟨w.heap.size+1+1,0,none⟩ u) w.heap.size (.slice wN D.length c5) D) :=fun u=>by
   refine⟨?_,X8.out.trans (((But.refl (fun b=>b=w.heap.size+1+1) _).set (w.heap.size+1+1) 0 _ rfl).below X8.out.size (fun j hj e=>by omega)),HM.out.congr fun b cs t ht _ hh=> ?_⟩;·rw[aj (fB.out u) 0];simp
   ·rw[ay _ (w.heap.size+1+1) 0 _ b (by
     rintro rfl;have hr:=rP.out;rw[hr]at hh;simp only[ac2,Obj.cells.injEq]at hh;rcases ht with rfl|rfl;·exact absurd hh.2.1 (by decide)
     ·exact absurd hh.2.1 (by decide))];exact hh
  clear HM X8 fB rP;generalize hDn:D.length=N at*;by_cases hN:256<N
  ·have Ob:(256:Int)<(N:Int) :=by omega
   have dz:decide ((256:Int)<(N:Int))=true:=decide_eq_true Ob;go_wp2_with fail;obtain⟨e1,e2,-⟩ :=wX.out (.slice none 0 0);refine abw (v:= .tuple #[.agg #[.slice none 0 0],.int .i64 11]) (by simp[abt,Tryd.results39,go_sem,e1]) rfl ?_;refine⟨e2,aap ⟨rfl,fun L hL=> ?_⟩⟩;have e9:=congrArg aeL (Sys.dx.uniq hL rT.out);rw[adr,hDn]at e9;omega
  ·have Ob: ¬(256:Int)<(N:Int) :=by omega
   have dz:decide ((256:Int)<(N:Int))=false:=decide_eq_false Ob;go_upto_region 10 with fail;refine wp_region_list ?_;refine yj rfl _ rfl W5.heap.size wN N c5 (by kernel_rfl) c6 ?_;refine vF rfl _ _ rfl (w.heap.size+1+1) wN N c5 (.slice none 0 0) (by kernel_rfl) (by kernel_rfl) rc fc ?_;go_wp2_with fail;obtain⟨e1,e2,e3⟩ :=wX.out (.slice wN N c5);refine abw (v:= .tuple #[.agg #[.slice wN N c5],.int .i64 0]) (by simp[abt,Tryd.results39,go_sem,e1]) rfl ?_;refine⟨e2,aau ⟨_,D,?_,by omega,rfl,e3⟩⟩;exact rT.out
 ·have hb4:aah w.heap.size w W4:=HB3.out.trans (gU.below HB3.out.size (fun j hj e=>by omega));have hr4:W4.heap[w.heap.size+1+1]?=some (.cells #[.slice none 0 0] 25) :=by rw[gU.block _ (Array.getElem?_eq_some_iff.1 HR3.out).1 (by omega)];exact HR3.out
  have rc:=aj hr4 0;have fc:=bL hr4 0;have ajA:Hid (∀L,bS.dx ls.length ls ((oO K sg S).aW (ls.length+1) x0) L→256<L.length) :=fun L hL=>by obtain⟨f1,f2⟩ :=HG.out.Cq;have hzl:=rH.out;have:=VE hsg f1 (by rw[hsl];exact hL) (κ:=κ) (c:=c) (fun q r hq hr e=>hco q r (by omega) (by omega) (by rw[f2 q hq,f2 r hr];exact e)) (fun y hy=>by obtain⟨q,hq,e⟩ :=hon y hy;exact⟨q,by omega,e⟩);omega
  have wX:Hid ((W4.setCell ⟨w.heap.size+1+1,0,none⟩ (.slice none 0 0)).cell? ⟨w.heap.size+1+1,0,none⟩=some (.slice none 0 0)∧aah w.heap.size w (W4.setCell ⟨w.heap.size+1+1,0,none⟩ (.slice none 0 0))) :=by refine⟨?_,hb4.trans (((But.refl (fun b=>b=w.heap.size+1+1) _).set (w.heap.size+1+1) 0 _ rfl).below hb4.size (fun j hj e=>by omega))⟩;rw[aj (aL hr4 0 _) 0];simp
  clear hb4 hr4 gU hco hon nO HB3 HR3;go_wp2_with fail;obtain⟨e1,e2⟩ :=wX.out;refine abw (v:= .tuple #[.agg #[.slice none 0 0],.int .i64 11]) (by simp[abt,Tryd.results39,go_sem,e1]) rfl ?_;refine⟨e2,aap ⟨rfl,fun L hL=> ?_⟩⟩;exact ajA.out L hL
end Go.Proofs.YtkbjimkngmlfcaaDoor
namespace Go.Proofs.YtkbjimkngmlfcaaDoor
open Go
set_option linter.unusedVariables false
set_option linter.unusedSimpArgs false
theorem Ri {A B:List aT} {r r':Int}(h:iV (A++B) (A++B).length r=iV (A++B) (A++B).length r') {z:Int}(hz: -1≤z∧z<A.length) :bu A z r=bu A z r':=by
 by_cases e:z<0;·unfold bu;rw[if_pos e,if_pos e]
 ·obtain⟨q,rfl⟩ : ∃q:Nat,z=(q:Int) :=⟨z.toNat,by omega⟩;have hq:q<A.length:=by omega
  have ht:=FX h q (by rw[aaK];omega);have hg:(A++B).getD q ps0=A.getD q ps0:=by rw[aal,aaT hq,←aal]
  rw[hg]at ht;rw[xN A q hq,xN A q hq,ht]
theorem M8 {A B:List aT} {r r':Int}(h:iV (A++B) (A++B).length r=iV (A++B) (A++B).length r') {z:Int}(hz: -1≤z∧z<B.length) :bu B z r=bu B z r':=by
 by_cases e:z<0;·unfold bu;rw[if_pos e,if_pos e]
 ·obtain⟨q,rfl⟩ : ∃q:Nat,z=(q:Int) :=⟨z.toNat,by omega⟩;have hq:q<B.length:=by omega
  have ht:=FX h (A.length+q) (by rw[aaK];omega);have hg:(A++B).getD (A.length+q) ps0=B.getD q ps0:=by rw[aal,aa7 (by omega),Nat.add_sub_cancel_left,←aal]
  rw[hg]at ht;rw[xN B q hq,xN B q hq,ht]
theorem Ul {A B:List aT}(hA:bP A)(hB:bP B)(op:Bool→Bool→Bool) {ls kd:List Int} {Ps:List (Int×Int×Int)} {M:List Int} {sg:List Nat} {sm ct:List Int}(hK:wO ls (iV (A++B) (A++B).length) Ps kd)(h:uH ls kd ls.length M sg sm ct) :(oO (lV A B op (sm++ [-1])) sg (M.length+1)).aW (ls.length+1) (0,0)=(lV A B op (ls++ [-1])).aW (ls.length+1) (0,0) :=by
 have hstep: ∀(x:Int×Int)(k:Nat),lu A B x→k<ls.length+1→(oO (lV A B op (sm++ [-1])) sg (M.length+1)).step x k=(lV A B op (ls++ [-1])).step x k:=by
  intro x k hx hk;show(lV A B op (sm++ [-1])).step x (jU sg (M.length+1) k)=_;by_cases e:k<ls.length
  ·have hsg:jU sg (M.length+1) k=sg.getD k 0:=by unfold jU;rw[if_pos (by rw[h.sl];exact e)]
   have hlt:sg.getD k 0<M.length:=(List.getElem?_eq_some_iff.1 (h.sym k e)).1;obtain⟨j,h1,h2,h3⟩ :=h.smp _ hlt;have hkd:kd.getD j 0=kd.getD k 0:=by have k1:=h.sym j h1;have k2:=h.sym k e;rw[h2]at k1;rw[k1]at k2;simpa using k2
   have hal:=hK.alike h1 e hkd;have e1:(sm++ [-1]).getD (jU sg (M.length+1) k) 0=ls.getD j 0:=by rw[hsg,aal,aaT (by rw[h.I5];exact hlt),←aal,h3]
   have e2:(ls++ [-1]).getD k 0=ls.getD k 0:=by rw[aal,aaT e,←aal]
   show(bu A x.1 ((sm++ [-1]).getD (jU sg (M.length+1) k) 0),bu B x.2 ((sm++ [-1]).getD (jU sg (M.length+1) k) 0))=(bu A x.1 ((ls++ [-1]).getD k 0),bu B x.2 ((ls++ [-1]).getD k 0));rw[e1,e2,Ri hal hx.1,M8 hal hx.2]
  ·have hk2:k=ls.length:=by omega
   subst hk2;have hsg:jU sg (M.length+1) ls.length=M.length:=by have:=En sg (M.length+1);rw[h.sl]at this;rw[this];omega
   have e1:(sm++ [-1]).getD (jU sg (M.length+1) ls.length) 0= -1:=by rw[hsg,←h.I5];simp
   have e2:(ls++ [-1]).getD ls.length 0=(-1:Int) :=by simp
   show(bu A x.1 ((sm++ [-1]).getD (jU sg (M.length+1) ls.length) 0),bu B x.2 ((sm++ [-1]).getD (jU sg (M.length+1) ls.length) 0))=(bu A x.1 ((ls++ [-1]).getD ls.length 0),bu B x.2 ((ls++ [-1]).getD ls.length 0));rw[e1,e2]
 have hacc: ∀(v:List Nat)(x:Int×Int),lu A B x→(∀a∈v,a<ls.length+1)→(oO (lV A B op (sm++ [-1])) sg (M.length+1)).acc x v=(lV A B op (ls++ [-1])).acc x v:=by
  intro v;induction v with
  |nil=>intro x _ _;rfl
  |cons a v ih=>intro x hx hv;show(oO (lV A B op (sm++ [-1])) sg (M.length+1)).acc ((oO (lV A B op (sm++ [-1])) sg (M.length+1)).step x a) v=(lV A B op (ls++ [-1])).acc ((lV A B op (ls++ [-1])).step x a) v;rw[hstep x a hx (hv a (by simp))];exact ih _ (L6 hA hB _ _ _ _) fun b hb=>hv b (by simp[hb])
 have hp:lu A B (0,0) :=⟨⟨by decide,by have:=hA.1;show(0:Int)<A.length;omega⟩,by decide,by have:=hB.1;show(0:Int)<B.length;omega⟩;funext v;unfold bN.aW;by_cases hv: ∀a∈v,a<ls.length+1;·rw[hacc v (0,0) hp hv]
 ·rw[G9 hv];rfl
theorem iU {D:List aT} {r:Int} :r∈bE D↔∃s∈D,∃a∈s.2.1,a.1=r:=by
 unfold bE;rw[List.mem_flatMap];constructor;·rintro⟨s,hs,h⟩;obtain⟨a,ha,rfl⟩ :=List.mem_map.1 h;exact⟨s,hs,a,ha,rfl⟩
 ·rintro⟨s,hs,a,ha,rfl⟩;exact⟨s,hs,List.mem_map.2 ⟨a,ha,rfl⟩⟩
def kD(A B:List aT)(ls:List Int) :Prop:=Lets ls∧∀r,r∈ls↔r∈bE A++bE B
theorem bP.pos {D:List aT}(h:bP D) : ∀s∈D,∀a∈s.2.1,0≤a.1:=fun s hs a ha=>by have:=((h.2.2 s hs).1.2.1 a ha).1;unfold ig at this;simp at this;omega
theorem kD.resp {A B:List aT} {ls:List Int}(h:kD A B ls)(hA:bP A)(hB:bP B)(op:Bool→Bool→Bool) :eZ ls (kr A B op) :=UF op (Lm hA.pos fun s hs a ha=>(h.2 _).2 (List.mem_append_left _ (iU.2 ⟨s,hs,a,ha,rfl⟩))) (Lm hB.pos fun s hs a ha=>(h.2 _).2 (List.mem_append_right _ (iU.2 ⟨s,hs,a,ha,rfl⟩)))
theorem kD.uniq {A B:List aT} {ls ms:List Int}(h:kD A B ls)(k:kD A B ms) :ls=ms:=Bv _ _ h.1.rise k.1.rise fun r=>(h.2 r).trans (k.2 r).symm
end Go.Proofs.YtkbjimkngmlfcaaDoor
namespace Go.Proofs.YtkbjimkngmlfcaaDoor
open Go Go.RowKit
set_option linter.unusedVariables false
set_option linter.unusedSimpArgs false
set_option maxRecDepth 100000
theorem Yj(W:aaa)(ρ:aaw→aab)(o:Oper)(x y:aaw)(ho:o.op= .store 66 x y)(b:Nat)(p q u v:Int)(hx:ρ x= .pointer (some ⟨b,0,none⟩))(hy:ρ y= .agg #[.int .i64 p,.int .i64 q])(h0:W.heap[b]?=some (.cells #[.int .i64 u,.int .i64 v] 66)) :(aaV ρ o).run Tryd.prog W= .ok .skip ((W.setCell ⟨b,0,none⟩ (.int .i64 p)).setCell ⟨b,1,none⟩ (.int .i64 q)) :=by have c0:W.cell? ⟨b,0,none⟩=some (.int .i64 u) :=aj h0 0;have c1:W.cell? ⟨b,1,none⟩=some (.int .i64 v) :=aj h0 1;have f0:W.frozen? ⟨b,0,none⟩=false:=bL h0 0;have f1:W.frozen? ⟨b,1,none⟩=false:=bL h0 1;exact yu
theorem Nc(W:aaa)(a:Act)(o:Oper)(f:FuncId)(x y z:aaw)(t u:aaR)(ho:o.op= .call {callee:= .value x,args:=#[y,z],argTypes:=#[t,u]})(p q:aab)(hx:a.eval x= .func (.func f) #[] #[])(hy:a.eval y=p)(hz:a.eval z=q)(hf:(callFunc f #[p,q]).run Tryd.prog W= .ok (.enter f #[p,q]) W) :(aaV a.eval o).run Tryd.prog W= .ok (.enter f #[p,q]) W:=by unfold aaV;simp[ho,resolve,invoke,Deferred.ofValue,hx,hy,hz,hf]
set_option maxHeartbeats 4000000 in theorem MR(A B:List aT)(ad bd:Option Addr)(ca cb pa pb:Nat)(z1 z2 r:Int)(W:aaa)(hA:bP A)(hB:bP B)(hz:lu A B (z1,z2))(ha:dP W ad A)(hb:dP W bd B)(h1:W.heap[pa]?=some (.cells #[.slice ad A.length ca] 25))(h2:W.heap[pb]?=some (.cells #[.slice bd B.length cb] 25)) :Calls Tryd.prog 35 #[.agg (kW z1 z2),.int .i64 r,.pointer (some ⟨pa,0,none⟩),.pointer (some ⟨pb,0,none⟩)] W fun e w'=>e= .returned (.agg (kW (bu A z1 r) (bu B z2 r)))∧aah W.heap.size W w':=by
 have hz1:(W.alloc (.cells #[.int .i64 z1,.int .i64 z2] 66)).heap.size=W.heap.size+1:=by simp
 have hb1:aah W.heap.size W ((W.alloc (.cells #[.int .i64 z1,.int .i64 z2] 66)).alloc (.cells #[.int .i64 0,.int .i64 0] 66)) :=((aat _ _).alloc (aaF _) _).alloc (by rw[hz1];omega) _;have hx1:((W.alloc (.cells #[.int .i64 z1,.int .i64 z2] 66)).alloc (.cells #[.int .i64 0,.int .i64 0] 66)).heap[W.heap.size]?=some (.cells #[.int .i64 z1,.int .i64 z2] 66) :=by rw[Below.heap_alloc _ _ _ (by rw[hz1];omega)];exact aaQ _ _
 have hx2:((W.alloc (.cells #[.int .i64 z1,.int .i64 z2] 66)).alloc (.cells #[.int .i64 0,.int .i64 0] 66)).heap[W.heap.size+1]?=some (.cells #[.int .i64 0,.int .i64 0] 66) :=by rw[←hz1];exact aaQ _ _
 have HB1:=ah hb1;have HA:=ah (ha.below hb1);have rR:=ah (hb.below hb1);have jT:=ah hx1;have kQ:=ah hx2;have bY:=ah (aC h1 hb1);have cZ:=ah (aC h2 hb1);have jm:=ah hA;have nI:=ah hB;have HZ:=ah hz;clear hb1 hx1 hx2 h1 h2 hz1 ha hb hA hB hz;go_enter Tryd.func35,Tryd.ntmps35;go_upto_region 1 with fail;generalize(W.alloc (.cells #[.int .i64 z1,.int .i64 z2] 66)).alloc (.cells #[.int .i64 0,.int .i64 0] 66)=W1 at*;refine adN (S:=fun u=>(u.cell? ⟨pa,0,none⟩=some (.slice ad A.length ca)∧u.cell? ⟨pb,0,none⟩=some (.slice bd B.length cb))∧u.cell? ⟨W.heap.size,0,none⟩=some (.int .i64 z1)∧u.cell? ⟨W.heap.size,1,none⟩=some (.int .i64 z2)) (by kernel_rfl) ?_;have hbd:aah W1.heap.size W1 ({heap:=W1.heap,tape:=W1.tape,drawn:=W1.drawn+1,os:=W1.os,output:=W1.output} :aaa) :=(aat _ _).drew;generalize({heap:=W1.heap,tape:=W1.tape,drawn:=W1.drawn+1,os:=W1.os,output:=W1.output} :aaa)=Wd at*
 have hS: ∀u,aah Wd.heap.size Wd u→(fun u=>(u.cell? ⟨pa,0,none⟩=some (.slice ad A.length ca)∧u.cell? ⟨pb,0,none⟩=some (.slice bd B.length cb))∧u.cell? ⟨W.heap.size,0,none⟩=some (.int .i64 z1)∧u.cell? ⟨W.heap.size,1,none⟩=some (.int .i64 z2) :aaa→Prop) u:=fun u hu=>⟨⟨aj (aC (aC bY.out hbd) hu) 0,aj (aC (aC cZ.out hbd) hu) 0⟩,aj (aC (aC jT.out hbd) hu) 0,aj (aC (aC jT.out hbd) hu) 1⟩;have hSd:=hS Wd (aat _ _);try refine tn ?_
 refine tx 0 ?_;refine tx 1 ?_;refine tx 3 ?_;refine tx 5 ?_;refine tx 6 ?_;refine tx 8 ?_;refine tx 2 ?_;refine tx 7 ?_;refine aF 4 (by kernel_rfl) ?_;refine bQ 36 #[.agg #[.slice ad A.length ca],.int .i64 z1,.int .i64 r] rfl (by kernel_rfl) (qZ _ _ _ _ _ _ _ _ _ _ rfl _ _ _ (by kernel_rfl) (by kernel_rfl) (by kernel_rfl) (Tryd.call36 _ _)) ?_;refine(BH ca ad A z1 r Wd jm.out HZ.out.1 (HA.out.below hbd)).mono ?_;rintro e' w2⟨rfl,hb2⟩;refine⟨hS _ hb2,?_⟩;try refine tn ?_
 refine aF 9 (by kernel_rfl) ?_;refine bQ 36 #[.agg #[.slice bd B.length cb],.int .i64 z2,.int .i64 r] rfl (by kernel_rfl) (qZ _ _ _ _ _ _ _ _ _ _ rfl _ _ _ (by kernel_rfl) (by kernel_rfl) (by kernel_rfl) (Tryd.call36 _ _)) ?_;refine(BH cb bd B z2 r w2 nI.out HZ.out.2 ((rR.out.below hbd).below hb2)).mono ?_;rintro e' w3⟨rfl,hb3⟩;have hb4:aah Wd.heap.size Wd w3:=hb2.trans (hb3.mono hb2.size);refine⟨hS _ hb4,?_⟩;try refine tn ?_
 generalize e1:bu A z1 r=y1 at*;generalize e2:bu B z2 r=y2 at*;have E1:=ah e1;have E2:=ah e2;clear e1 e2;have hr3:=aC (aC kQ.out hbd) hb4;have hk:=aL (aL hr3 0 (.int .i64 y1)) 1 (.int .i64 y2);have hbF:aah W.heap.size W ((w3.setCell ⟨W.heap.size+1,0,none⟩ (.int .i64 y1)).setCell ⟨W.heap.size+1,1,none⟩ (.int .i64 y2)) :=((HB1.out.trans ((hbd.trans (hb4.mono hbd.size)).mono HB1.out.size)).setCell (p:=⟨W.heap.size+1,0,none⟩) (by show _≤_;simp) _).setCell (p:=⟨W.heap.size+1,1,none⟩) (by show _≤_;simp) _;refine tx 10 ?_ (v:= .agg #[.int .i64 y1,.int .i64 y2]) (hS:=hS _ hb4);refine aF 11 (by kernel_rfl) ?_;refine bI _ rfl (by kernel_rfl) (Yj _ _ _ _ _ rfl (W.heap.size+1) y1 y2 0 0 (by kernel_rfl) (by kernel_rfl) hr3) ?_;have hS5:(fun u=>(u.cell? ⟨pa,0,none⟩=some (.slice ad A.length ca)∧u.cell? ⟨pb,0,none⟩=some (.slice bd B.length cb))∧u.cell? ⟨W.heap.size,0,none⟩=some (.int .i64 z1)∧u.cell? ⟨W.heap.size,1,none⟩=some (.int .i64 z2) :aaa→Prop) ((w3.setCell ⟨W.heap.size+1,0,none⟩ (.int .i64 y1)).setCell ⟨W.heap.size+1,1,none⟩ (.int .i64 y2)) :=by
  have ho: ∀b,b≠W.heap.size+1→((w3.setCell ⟨W.heap.size+1,0,none⟩ (.int .i64 y1)).setCell ⟨W.heap.size+1,1,none⟩ (.int .i64 y2)).heap[b]?=w3.heap[b]?:=fun b hb=>by rw[ay _ _ _ _ _ hb,ay _ _ _ _ _ hb]
  have p1:=aC (aC bY.out hbd) hb4;have p2:=aC (aC cZ.out hbd) hb4;have p3:=aC (aC jT.out hbd) hb4;refine⟨⟨aj ((ho _ (aN p1 hr3 (by decide))).trans p1) 0,aj ((ho _ (aN p2 hr3 (by decide))).trans p2) 0⟩,aj ((ho _ (by omega)).trans p3) 0,aj ((ho _ (by omega)).trans p3) 1⟩
 refine⟨hS5,?_⟩;try refine tn ?_
 refine wpAnyH_done (by kernel_rfl) ?_ _;have k0:=aj hk 0;have k1:=aj hk 1;simp at k0 k1;have HBF:=ah hbF;clear hS5 hS hSd hb2 hb3 hb4 hbd hk hr3 hbF HB1 HA rR jT kQ bY cZ;generalize(w3.setCell ⟨W.heap.size+1,0,none⟩ (.int .i64 y1)).setCell ⟨W.heap.size+1,1,none⟩ (.int .i64 y2)=wf at*;go_wp2_with fail;refine abw (v:= .agg #[.int .i64 y1,.int .i64 y2]) (by simp[abt,Tryd.results35,go_sem,k0,k1]) rfl ?_;exact⟨by rw[E1.out,E2.out],HBF.out⟩
def Ib(g:FuncId)(op:Bool→Bool→Bool) :Prop:=∀(x y:Bool)(W:aaa),(callFunc g #[.bool x,.bool y]).run Tryd.prog W= .ok (.enter g #[.bool x,.bool y]) W∧Calls Tryd.prog g #[.bool x,.bool y] W fun e w'=>e= .returned (.bool (op x y))∧aah W.heap.size W w'
set_option maxHeartbeats 4000000 in theorem M5(A B:List aT)(op:Bool→Bool→Bool)(g:FuncId)(ad bd:Option Addr)(ca cb pa pb pc:Nat)(z1 z2:Int)(W:aaa)(hz:lu A B (z1,z2))(hg:Ib g op)(ha:dP W ad A)(hb:dP W bd B)(h1:W.heap[pa]?=some (.cells #[.slice ad A.length ca] 25))(h2:W.heap[pb]?=some (.cells #[.slice bd B.length cb] 25))(h3:W.cell? ⟨pc,0,none⟩=some (.func (.func g) #[] #[]))(h3l:pc<W.heap.size) :Calls Tryd.prog 37 #[.agg (kW z1 z2),.pointer (some ⟨pc,0,none⟩),.pointer (some ⟨pa,0,none⟩),.pointer (some ⟨pb,0,none⟩)] W fun e w'=>e= .returned (.bool (op (fK A z1) (fK B z2)))∧aah W.heap.size W w':=by
 have hb1:aah W.heap.size W (W.alloc (.cells #[.int .i64 z1,.int .i64 z2] 66)) :=(aat _ _).alloc (aaF _) _;have hx1:=aaQ W (.cells #[.int .i64 z1,.int .i64 z2] 66);have HB1:=ah hb1;have HA:=ah (ha.below hb1);have rR:=ah (hb.below hb1);have jT:=ah hx1;have bY:=ah (aC h1 hb1);have cZ:=ah (aC h2 hb1);have nL:Hid ((W.alloc (.cells #[.int .i64 z1,.int .i64 z2] 66)).cell? ⟨pc,0,none⟩=some (.func (.func g) #[] #[])∧pc<(W.alloc (.cells #[.int .i64 z1,.int .i64 z2] 66)).heap.size) :=⟨(hb1.cell (p:=⟨pc,0,none⟩) h3l).trans h3,abf h3l hb1.size⟩;have HZ:=ah hz;have HG:=ah hg;clear hb1 hx1 h1 h2 h3 h3l ha hb hz hg;go_enter Tryd.func37,Tryd.ntmps37;go_upto_region 1 with fail;generalize W.alloc (.cells #[.int .i64 z1,.int .i64 z2] 66)=W1 at*;refine adN (S:=fun u=>(u.cell? ⟨pa,0,none⟩=some (.slice ad A.length ca)∧u.cell? ⟨pb,0,none⟩=some (.slice bd B.length cb)∧u.cell? ⟨pc,0,none⟩=some (.func (.func g) #[] #[]))∧u.cell? ⟨W.heap.size,0,none⟩=some (.int .i64 z1)∧u.cell? ⟨W.heap.size,1,none⟩=some (.int .i64 z2)) (by kernel_rfl) ?_
 have hbd:aah W1.heap.size W1 ({heap:=W1.heap,tape:=W1.tape,drawn:=W1.drawn+1,os:=W1.os,output:=W1.output} :aaa) :=(aat _ _).drew;generalize({heap:=W1.heap,tape:=W1.tape,drawn:=W1.drawn+1,os:=W1.os,output:=W1.output} :aaa)=Wd at*;have hS: ∀u,aah Wd.heap.size Wd u→(fun u=>(u.cell? ⟨pa,0,none⟩=some (.slice ad A.length ca)∧u.cell? ⟨pb,0,none⟩=some (.slice bd B.length cb)∧u.cell? ⟨pc,0,none⟩=some (.func (.func g) #[] #[]))∧u.cell? ⟨W.heap.size,0,none⟩=some (.int .i64 z1)∧u.cell? ⟨W.heap.size,1,none⟩=some (.int .i64 z2) :aaa→Prop) u:=fun u hu=>by have hu2:aah W1.heap.size W1 u:=hbd.trans (hu.mono hbd.size);exact⟨⟨aj (aC bY.out hu2) 0,aj (aC cZ.out hu2) 0,(hu2.cell (p:=⟨pc,0,none⟩) nL.out.2).trans nL.out.1⟩,aj (aC jT.out hu2) 0,aj (aC jT.out hu2) 1⟩
 have hSd:=hS Wd (aat _ _);try refine tn ?_
 refine tx 0 ?_ (v:= .func (.func g) #[] #[]);refine tx 1 ?_;refine tx 2 ?_;refine tx 3 ?_;refine tx 5 ?_;refine tx 6 ?_;refine tx 7 ?_;refine aF 4 (by kernel_rfl) ?_;refine bQ 38 #[.agg #[.slice ad A.length ca],.int .i64 z1] rfl (by kernel_rfl) (eT _ _ _ _ _ _ _ _ rfl _ _ (by kernel_rfl) (by kernel_rfl) (Tryd.call38 _ _)) ?_;refine(Af ca ad A z1 Wd HZ.out.1 (HA.out.below hbd)).mono ?_;rintro e' w2⟨rfl,hb2⟩;refine⟨hS _ hb2,?_⟩;try refine tn ?_
 refine aF 8 (by kernel_rfl) ?_;refine bQ 38 #[.agg #[.slice bd B.length cb],.int .i64 z2] rfl (by kernel_rfl) (eT _ _ _ _ _ _ _ _ rfl _ _ (by kernel_rfl) (by kernel_rfl) (Tryd.call38 _ _)) ?_;refine(Af cb bd B z2 w2 HZ.out.2 ((rR.out.below hbd).below hb2)).mono ?_;rintro e' w3⟨rfl,hb3⟩;have hb4:aah Wd.heap.size Wd w3:=hb2.trans (hb3.mono hb2.size);refine⟨hS _ hb4,?_⟩;try refine tn ?_
 generalize e1:fK A z1=y1 at*;generalize e2:fK B z2=y2 at*;have E1:=ah e1;have E2:=ah e2;clear e1 e2;obtain⟨q1,q2⟩ :=HG.out y1 y2 w3;refine aF 9 (by kernel_rfl) ?_;refine bQ g #[.bool y1,.bool y2] rfl (by kernel_rfl) (Nc _ _ _ _ _ _ _ _ _ rfl _ _ (by kernel_rfl) (by kernel_rfl) (by kernel_rfl) q1) ?_;refine q2.mono ?_;rintro e' w4⟨rfl,hb5⟩;have hb6:aah Wd.heap.size Wd w4:=hb4.trans (hb5.mono hb4.size);refine⟨hS _ hb6,?_⟩;try refine tn ?_
 have HBF:Hid (aah W.heap.size W w4) :=HB1.out.trans ((hbd.trans (hb6.mono hbd.size)).mono HB1.out.size);refine tx 10 ?_ (hS:=hS _ hb6);refine wpAnyH_done (by kernel_rfl) ?_ _;clear hS hSd hb2 hb3 hb4 hbd hb5 hb6 q1 q2 HB1 HA rR jT bY cZ nL;go_wp2_with fail;go_ret;exact⟨by rw[E1.out,E2.out];rfl,HBF.out⟩
theorem Ua:Ib 17 (fun x y=>x&&y) :=fun x y W=>⟨Tryd.call17 _ _,by go_enter Tryd.func17,Tryd.ntmps17;cases x<;>cases y<;>(go_wp2_with fail;go_ret;exact⟨rfl,aat _ _⟩)⟩
theorem Nk:Ib 18 (fun x y=>x ||y) :=fun x y W=>⟨Tryd.call18 _ _,by go_enter Tryd.func18,Tryd.ntmps18;cases x<;>cases y<;>(go_wp2_with fail;go_ret;exact⟨rfl,aat _ _⟩)⟩
theorem MB:Ib 29 (fun x _=> !x) :=fun x y W=>⟨Tryd.call29 _ _,by go_enter Tryd.func29,Tryd.ntmps29;cases x<;>cases y<;>(go_wp2_with fail;go_ret;exact⟨rfl,aat _ _⟩)⟩
end Go.Proofs.YtkbjimkngmlfcaaDoor
namespace Go.Proofs
open Go.Shelf
def Tryd.laysGrow_ren:Go.Shelf.Ren:=⟨fun|4=>61|n=>n,fun|22=>23|25=>42|3=>3|4=>4|9=>9|20=>20|0=>0|n=>n,fun|n=>n⟩
theorem Tryd.laysGrow:Go.Proofs.Lays8.n4 Tryd.prog Tryd.laysGrow_ren:={
  mixed:=by kernel_rfl
  f4:=⟨Tryd.f61.name,by decide,Tryd.func61.trans (congrArg some (by kernel_rfl))⟩
  t0:=Tryd.underlying0
  a0:=Tryd.isAgg0
  z0:=Tryd.sizeOf0
  v0:=Tryd.zeroValue0
  t3:=Tryd.underlying3
  a3:=Tryd.isAgg3
  z3:=Tryd.sizeOf3
  v3:=Tryd.zeroValue3
  t4:=Tryd.underlying4
  a4:=Tryd.isAgg4
  z4:=Tryd.sizeOf4
  v4:=Tryd.zeroValue4
  t9:=Tryd.underlying9
  a9:=Tryd.isAgg9
  z9:=Tryd.sizeOf9
  v9:=Tryd.zeroValue9
  t20:=Tryd.underlying20
  a20:=Tryd.isAgg20
  z20:=Tryd.sizeOf20
  v20:=Tryd.zeroValue20
  t22:=Tryd.underlying23
  a22:=Tryd.isAgg23
  z22:=Tryd.sizeOf23
  v22:=Tryd.zeroValue23}
end Go.Proofs
namespace Go.Proofs.YtkbjimkngmlfcaaDoor
open Go Go.RowKit Go.Shelf
set_option linter.unusedVariables false
set_option maxRecDepth 100000
set_option linter.unusedSimpArgs false
theorem Tryd.infoSt:(Tryd.prog.info? 42).map (fun i=>(i.zero,i.size,i.bytes))=some (some (.agg #[.bool false,.slice none 0 0,.int .i64 0]),3,40) :=by kernel_rfl
def yg(w0:aaa)(xs:List aab)(S:List aT) :Prop:=∀t,t<S.length→xs[t*3]?=some (.bool (S.getD t ps0).1)∧∃ai ci,xs[t*3+1]?=some (.slice ai (S.getD t ps0).2.1.length ci)∧Ii w0 ai (S.getD t ps0).2.1∧xs[t*3+2]?=some (.int .i64 (S.getD t ps0).2.2)
theorem yg.append {w0:aaa} {xs ys:List aab} {A B:List aT}(h:yg w0 xs A)(hl:xs.length=A.length*3)(k:yg w0 ys B) :yg w0 (xs++ys) (A++B) :=by
 intro i hi;rw[aaK]at hi;by_cases e:i<A.length
 ·obtain⟨h0,ai,ci,h1,h2,h3⟩ :=h i e;have g:(A++B).getD i ps0=A.getD i ps0:=by simp[aal,aaT e]
  rw[g];exact⟨by rw[aaT (by omega)];exact h0,ai,ci,by rw[aaT (by omega)];exact h1,h2,by rw[aaT (by omega)];exact h3⟩
 ·obtain⟨h0,ai,ci,h1,h2,h3⟩ :=k (i-A.length) (by omega);have g:(A++B).getD i ps0=B.getD (i-A.length) ps0:=by simp[aal,aa7 (by omega:A.length≤i)]
  rw[g];refine⟨?_,ai,ci,?_,h2,?_⟩;·rw[aa7 (by omega),show i*3-xs.length=(i-A.length)*3 by omega];exact h0
  ·rw[aa7 (by omega),show i*3+1-xs.length=(i-A.length)*3+1 by omega];exact h1
  ·rw[aa7 (by omega),show i*3+2-xs.length=(i-A.length)*3+2 by omega];exact h3
theorem dP.news {w W:aaa} {a:Option Addr} {S:List aT}(h:dP w a S)(hbW:aah w.heap.size w W)(hne:S≠ []) : ∃b off ys,a=some ⟨b,off,none⟩∧ys.length=S.length*3∧(∀j u,ys[j]?=some u→W.cell? ((⟨b,off,none⟩ :Addr).add j)=some u)∧(∀u∈ys,u.oneCell'=true)∧yg w ys S:=by
 rcases h with h| ⟨b,off,ha,hbl,h⟩;·exact absurd h hne
 ·have hc: ∀j,j<S.length*3→∃u,w.cell? ⟨b,off+j,none⟩=some u∧u.oneCell'=true:=fun j hj=>by
   obtain⟨h0,ai,ci,h1,_,h2⟩ :=h (j/3) (by omega);rcases(show j %3=0∨j %3=1∨j %3=2 by omega)with e|e|e;·exact⟨_,by rw[show off+j=off+j/3*3 by omega];exact h0,rfl⟩
   ·exact⟨_,by rw[show off+j=off+j/3*3+1 by omega];exact h1,rfl⟩
   ·exact⟨_,by rw[show off+j=off+j/3*3+2 by omega];exact h2,rfl⟩
  refine⟨b,off,(aey (S.length*3)).map fun j=>(w.cell? ⟨b,off+j,none⟩).getD undef,ha,by simp,fun j u hj=> ?_,fun u hu=> ?_,fun i hi=> ?_⟩
  ·rw[abk]at hj;by_cases hj2:j<S.length*3;·rw[acE hj2]at hj;obtain⟨v,hv,_⟩ :=hc j hj2;simp only[Option.map_some,ac2,hv,abC]at hj;rw[Go.WideShapes.add_plain,hbW.cell (p:=⟨b,off+j,none⟩) hbl,hv,hj]
   ·rw[adv (by simp;omega)]at hj;cases hj
  ·obtain⟨j,hj,rfl⟩ :=List.mem_map.1 hu;obtain⟨v,hv,h1⟩ :=hc j (List.mem_range.1 hj);rw[hv];exact h1
  ·obtain⟨h0,ai,ci,h1,hx,h2⟩ :=h i hi;refine⟨?_,ai,ci,?_,hx,?_⟩;·rw[abk,acE (by omega)];simp[h0]
   ·rw[abk,acE (by omega)];simp[←aeq,h1]
   ·rw[abk,acE (by omega)];simp[←aeq,h2]
def adK(w:aaa)(a:Option Addr)(L:List (List aT)) :Prop:=∃b off,a=some ⟨b,off,none⟩∧b<w.heap.size∧∀i,i<L.length→∃ra rc,w.cell? ⟨b,off+i,none⟩=some (.slice ra (L.getD i []).length rc)∧dP w ra (L.getD i [])
theorem ab2 {w0 W:aaa} {base n:Nat} {v:aab} {xs:List aab} {S:List aT}(ho:W.ownsRow base 42 3 v n xs)(hn:n=S.length)(hc:yg w0 xs S)(hb:aah w0.heap.size w0 W) : ∃ad c,v= .slice ad S.length c∧dP W ad S:=by
 subst hn;rcases ho.2 with⟨h1,h2⟩| ⟨g,cap,cur,rfl,h2,h3,h4,h5,h6,h7⟩;·exact⟨none,0,by rw[h1,h2],.inl (List.length_eq_zero_iff.1 h2)⟩
 ·have hcl: ∀j,j<S.length*3→W.cell? ⟨g,0+j,none⟩=xs[j]?:=fun j hj=>by rw[Nat.zero_add];obtain⟨u,hu⟩ : ∃u,xs[j]?=some u:=⟨_,aaY (by rw[ho.1];exact hj)⟩;rw[aQ ho hu,hu]
  refine⟨_,_,rfl,.inr ⟨g,0,rfl,(Array.getElem?_eq_some_iff.1 h3).1,fun t ht=> ?_⟩⟩;obtain⟨k0,ai,ci,k1,k2,k3⟩ :=hc t ht;exact⟨(hcl _ (by omega)).trans k0,ai,ci,(hcl (t*3+1) (by omega)).trans k1,k2.below hb,(hcl (t*3+2) (by omega)).trans k3⟩
theorem EL {w:aaa} {ops:Array Oper} {rest:List Oper} {o:Oper} {a:Act} {Q:Exit→Act→aaa→Prop}(hgd:o.guard=none)(s x:aaw)(ho:o.op= .call {callee:= .builtin .append,args:=#[s,x],argTypes:=#[23,23]})(base:Nat)(v:aab)(n:Nat)(xs:List aab)(hs:a.eval s=v)(hown:w.ownsRow base 42 3 v n xs)(ra:Option Addr)(rc:Nat)(L:List aT)(hx:a.eval x= .slice ra L.length rc)(w0:aaa)(hb0:aah w0.heap.size w0 w)(hL:dP w0 ra L)(h63:n+L.length≤2000000)(hbase:base≤w.heap.size)(h: ∀v' w' ys,w'.ownsRow base 42 3 v' (n+L.length) (xs++ys)→yg w0 ys L→w.grownBy w' v.ownBlock→wpList Tryd.prog ops Q rest (a.put o.dst v') w') :wpList Tryd.prog ops Q (o::rest) a w:=by
 obtain⟨i0,hi0,hz0,hz1,hz2⟩ :=info_parts Tryd.infoSt;by_cases hne:L= []
 ·subst hne;have hr: ∀ty,(aaA #[23,23] ty #[v,.slice ra 0 rc]).run Tryd.prog w= .ok v w:=by
   intro ty;rcases hown.2 with⟨rfl,h0⟩| ⟨g,cap,cur,rfl,_,_,hc,_⟩;·cases ra<;>simp[aaA,aaE Tryd.underlying23,aa4,aa3,hi0,ae',acI,ac1,acT,abp]
   ·cases ra<;>simp[aaA,aaE Tryd.underlying23,aa4,aa3,hi0,ae',acI,ac1,acT,abp,hc]
  refine wpList_plain hgd fun K hK=> ?_;unfold Oper.wp aaV;simp only[aeJ]at hx;simp only[ho,resolve,invoke,builtin,Sem.run_bind,Sem.run_pure,Result.andThen_ok,List.map_toArray,List.map_cons,List.map_nil,hs,hx,hr];exact hK _ _ (h v w [] (by simpa using hown) (fun i hi=>absurd hi (by simp)) (Ff _ _))
 ·obtain⟨b,off,ys,rfl,h1,h2,h3,h4⟩ :=hL.news hb0 hne;exact wpList_append_own w hgd s x 23 ho base 42 i0 _ 3 40 Tryd.underlying23 hi0 hz0 hz1 hz2 rfl (by decide) v n xs hs hown ⟨b,off,none⟩ L.length rc ys hx h1 h2 h3 (by unfold aa9;omega) (by omega) hbase fun v' w' k1 k2 _=>h v' w' ys k1 h4 k2
theorem CF(L:List (List aT))(i:Nat)(hi:i<L.length) :(L.take (i+1)).flatten=(L.take i).flatten++L.getD i [] :=by rw[List.take_succ_eq_append_getElem hi,List.flatten_append];simp[hi]
theorem OD {L:List (List aT)}(h16:L.length≤16)(hln: ∀i,i<L.length→(L.getD i []).length≤4096) : ∀i,i≤L.length→(L.take i).flatten.length≤i*4096
 |0,_=>by simp
 |i+1,h=>by have:=OD h16 hln i (by omega);rw[CF L i (by omega),aaK];have:=hln i (by omega);omega
def mD(L:List (List aT))(i:Nat) :Nat:=(L.take i).flatten.length
theorem PU(w:aaa)(S:Nat)(hS:S≤100000) :Calls Tryd.prog 61 #[.slice none 0 0,.int .i64 (S:Int)] w fun e w'=>∃v,e= .returned v∧w'.ownsRow w.heap.size 42 3 v 0 []∧aah w.heap.size w w':=by
 obtain⟨i0,hi0,hz0,hz1,hz2⟩ :=info_parts Tryd.infoSt;by_cases h:S=0;·subst h;refine(Any8.slices_Grow_room Tryd.laysGrow none 0 0 0 w (by omega) (by omega) (by omega) (by omega)).mono ?_;rintro e w'⟨rfl,rfl⟩;exact⟨_,rfl,World.ownsRow_nil _ _ _ _,aat _ _⟩
 ·refine(Any8.slices_Grow_grow Tryd.laysGrow i0 _ hi0 hz0 (by omega) none 0 0 S [] w (by omega) (by omega) (by rw[hz2];omega) (by omega) (by simp) (fun _=>rfl) (fun a ha=>by cases ha)).mono ?_;rintro e w'⟨rfl,rfl⟩;refine⟨_,rfl,⟨rfl,aau ⟨w.heap.size,_,_,rfl,aaF _,aaQ w.drew _,Nat.zero_le _,adV _ _ _ _ (by unfold aa9;omega),?_,by simp⟩⟩,(aat _ _).drew.alloc (aaF _) _⟩;have hge:=grownCap_ge w (0+S) 0 (Tryd.laysGrow_ren.t 25);rw[adL,adL,acK,acK];simp only[adl,aeJ];have e3:(Value.agg #[.bool false,.slice none 0 0,.int .i64 0]).cells.size=3:=rfl;rw[e3];omega
def afH(L:List (List aT))(w:aaa)(e:Ending)(w':aaa) :Prop:=∃v xs,e= .returned v∧w'.ownsRow w.heap.size 42 3 v L.flatten.length xs∧yg w xs L.flatten∧aah w.heap.size w w'
set_option maxHeartbeats 8000000 in theorem P5(w:aaa)(la:Option Addr)(lc:Nat)(L:List (List aT))(hL:adK w la L)(h16:L.length≤16)(hln: ∀i,i<L.length→(L.getD i []).length≤4096) :Calls Tryd.prog 41 #[.slice la L.length lc] w (afH L w) :=by
 have HL:=ah hL;have TQ:=ah (OD h16 hln);obtain⟨N,hN⟩ : ∃N,L.length=N:=⟨_,rfl⟩;have HN:=ah hN;rw[hN]at h16⊢;clear hL hln hN;go_enter Tryd.func41,Tryd.ntmps41;go_wp2_with fail;go_loopw [3,11](fun sv iv wx=>∃i:Nat,i≤N∧iv= .int .i64 (i:Int)∧sv= .int .i64 (mD L i:Int)∧wx=w)(fun _ iv _=>N-(intOf iv).toNat);case atStart=>exact⟨0,by omega,rfl,by simp[mD],rfl⟩
 case round=>
  obtain⟨i,hi,rfl,rfl,Oz⟩ :=hrel;obtain rfl:=Oz.symm;by_cases hin:i<N
  ·have hiz:(i:Int)<(N:Int) :=by omega
   obtain⟨b,off,rfl,hbl,ra,rc,hcell,xJ⟩ : ∃b off,la=some ⟨b,off,none⟩∧b<w.heap.size∧∃ra rc,w.cell? ⟨b,off+i,none⟩=some (.slice ra (L.getD i []).length rc)∧dP w ra (L.getD i []) :=by obtain⟨b,off,ha,hbl,h⟩ :=HL.out;exact⟨b,off,ha,hbl,h i (by rw[HN.out];exact hin)⟩
   have hle:mD L (i+1)≤(i+1)*4096:=TQ.out (i+1) (by rw[HN.out];omega);have hft:=CF L i (by rw[HN.out];exact hin);have hsum:mD L (i+1)=mD L i+(L.getD i []).length:=by unfold mD;rw[hft,aaK]
   have Rc:=ah hsum;rw[hsum]at hle;clear hft hsum xJ;generalize mD L i=S at*;generalize(L.getD i []).length=n at*;have hneg: ¬((S:Int)+(n:Int)<0) :=by omega
   go_wp2_with fail;go_roundw;case rel=>exact⟨i+1,by omega,by go_num,by rw[Rc.out];simp,by first|trivial|rfl⟩
   case measure=>simp[intOf];omega
  ·have hiz: ¬(i:Int)<(N:Int) :=by omega
   have hiN:i=N:=by omega
   have HT:Hid (mD L i≤100000) :=by have:=TQ.out i (by rw[HN.out];omega);show(L.take i).flatten.length≤100000;omega
   clear hiN;generalize mD L i=S at*;go_wp2_with fail;refine(PU _ S HT.out).mono ?_;rintro e w1⟨v1,rfl,hown1,hb1⟩;have jl:=ah hown1;have HB1:=ah hb1;clear hown1 hb1;obtain⟨a1,c1,rfl⟩ : ∃a c,v1= .slice a 0 c:=by
    rcases jl.out.2 with⟨h1,h2⟩| ⟨g,cap,cur,h1,_⟩;·exact⟨none,0,h1⟩
    ·exact⟨_,_,h1⟩
   go_wp2_with fail;go_loopw [6,27](fun vv iv wx=>∃(i:Nat)(xs:List aab),i≤N∧iv= .int .i64 (i:Int)∧wx.ownsRow w.heap.size 42 3 vv (mD L i) xs∧yg w xs (L.take i).flatten∧aah w.heap.size w wx)(fun _ iv _=>N-(intOf iv).toNat);case atStart=>exact⟨0,[],by omega,rfl,jl.out,(fun i hi=>absurd hi (by simp)),HB1.out⟩
   case round=>
    obtain⟨j,xs,hj,rfl,hown,aet,hbx⟩ :=hrel;have HO:=ah hown;have adG:=ah aet;have HB:=ah hbx;clear aet hbx jl HB1;by_cases hjn:j<N
    ·have hjz:(j:Int)<(N:Int) :=by omega
     obtain⟨b,off,rfl,hbl,ra,rc,hcell,xJ⟩ : ∃b off,la=some ⟨b,off,none⟩∧b<wr.heap.size∧∃ra rc,wr.cell? ⟨b,off+j,none⟩=some (.slice ra (L.getD j []).length rc)∧dP w ra (L.getD j []) :=by obtain⟨b,off,ha,hbl,h⟩ :=HL.out;obtain⟨ra,rc,h1,h2⟩ :=h j (by rw[HN.out];exact hjn);exact⟨b,off,ha,abf hbl HB.out.size,ra,rc,(HB.out.cell (p:=⟨b,off+j,none⟩) hbl).trans h1,h2⟩
     have hft:=CF L j (by rw[HN.out];exact hjn);have HFt:=ah hft;have Rc:Hid (mD L (j+1)=mD L j+(L.getD j []).length) :=by show _=_;unfold mD;rw[hft,aaK]
     have hle:mD L (j+1)≤(j+1)*4096:=TQ.out (j+1) (by rw[HN.out];omega);have HXl:Hid (xs.length=mD L j*3) :=HO.out.1;have hle2:mD L j+(L.getD j []).length≤2000000:=by have:=Rc.out;omega
     have pF:=ah xJ;have SH:=ah hle2;have uq:Hid (w.heap.size≤wr.heap.size) :=HB.out.size;obtain⟨n,hn⟩ : ∃n,(L.getD j []).length=n:=⟨_,rfl⟩;have fG:=ah hn;rw[hn]at hcell;clear hft hle hle2 xJ hn;obtain⟨av,nv,cv,rfl⟩ : ∃a n c,u6= .slice a n c:=by
      rcases HO.out.2 with⟨h1,h2⟩| ⟨g,cap,cur,h1,_⟩;·exact⟨none,0,0,h1⟩
      ·exact⟨_,_,_,h1⟩
     clear hown;go_wp2_with(at_builtin;refine EL rfl _ _ rfl w.heap.size _ _ _ rfl HO.out ra rc (L.getD j []) (by rw[fG.out];rfl) w HB.out pF.out SH.out uq.out ?_);intro v' w' ys k1 k2 k3;have HK1:Hid (w'.ownsRow w.heap.size 42 3 v' (mD L (j+1)) (xs++ys)) :=by rw[Rc.out];exact k1
     have HK2:Hid (yg w (xs++ys) (L.take (j+1)).flatten) :=by rw[HFt.out];exact adG.out.append HXl.out k2
     have HK3:Hid (aah w.heap.size w w') :=HB.out.grown k3 uq.out (fun q hq=>(HO.out.lt q hq).1);clear k1 k2 k3;go_wp2_with fail;go_roundw;case rel=>exact⟨j+1,xs++ys,by omega,by go_num,HK1.out,HK2.out,HK3.out⟩
     case measure=>simp[intOf];omega
    ·have hjz: ¬(j:Int)<(N:Int) :=by omega
     have HF:Hid ((L.take j).flatten=L.flatten) :=by show _=_;rw[List.take_of_length_le (by rw[HN.out];omega)]
     clear hown;go_wp2_with fail;go_ret;exact⟨_,xs,rfl,by have h:=HO.out;unfold mD at h;rw[HF.out]at h;exact h,by have h:=adG.out;rw[HF.out]at h;exact h,HB.out⟩
end Go.Proofs.YtkbjimkngmlfcaaDoor
namespace Go.Proofs.YtkbjimkngmlfcaaDoor
open Go Go.RowKit
set_option linter.unusedVariables false
set_option linter.unusedSimpArgs false
set_option maxRecDepth 100000
section
variable {P:Program}(w:aaa)
theorem II {z:aab}(hz:z.cells= #[z])(k:Nat) :aa1 z.cells k=(aar k z).toArray:=by
 unfold aa1;rw[hz];apply Array.ext;·simp
 ·intro i h1 h2;simp[Nat.mod_one]
theorem yU(t tn ty e:aaR)(i:aa')(z:aab)(ht:P.underlying t=some (.slice e))(htn:P.underlying tn=some (.int .i64))(hi:P.info? e=some i)(hz:i.zero=some z)(hsize:i.size=1)(hzc:z.cells= #[z])(base:Option Addr)(sLen sCap k:Nat)(hk:0<k)(tT:k≤1000)(hby:i.bytes≤64)(olds:List aab)(hold:(acI i.size sLen (.slice base sLen sCap)).run P w.drew= .ok olds.toArray w.drew)(hg:sCap<sLen+k)(h63:((sLen+k:Nat) :Int)≤9223372036854775807)(hfit:ae3 (sLen+k) sCap*i.bytes≤281474976710656) :(aaA #[t,tn] ty #[.slice base sLen sCap,.int .i64 (k:Int)]).run P w= .ok (.slice (some ⟨w.heap.size,0,none⟩) (sLen+k) (aaU w (sLen+k) sCap e)) (w.drew.alloc (.cells ((olds++aar k z).toArray++aa1 z.cells (aaU w (sLen+k) sCap e-(sLen+k))) e)) :=by
 have hn: ¬(sLen+k≤sCap) :=by omega
 have h63': ¬(9223372036854775807<((sLen:Int)+(k:Int))) :=by omega
 have h48': ¬(281474976710656<ae3 (sLen+k) sCap*i.bytes) :=by omega
 have hw:IntKind.i64.wrap (k:Int)=(k:Int) :=by rw[ady];omega
 have hneg: ¬((k:Int)<0) :=by omega
 have h48: ¬(281474976710656<(k:Int)*(i.bytes:Int)) :=by rw[←aeZ];have:=adf tT hby;omega
 have hk0:k≠0:=by omega
 have hzz:=II hzc k;rw[hsize]at hold;simp[aaA,aaE ht,aaE htn,aa4,aa3,asInt,abx,abl,hi,hz,hsize,hw,hneg,h48,hk0,hn,h63',h48',Question.forced,hold,hzz,newRow,aaU];congr 2;apply Array.ext';simp[aeR]
end
end Go.Proofs.YtkbjimkngmlfcaaDoor
namespace Go.Proofs.YtkbjimkngmlfcaaDoor
open Go Go.RowKit
set_option linter.unusedVariables false
set_option linter.unusedSimpArgs false
set_option maxRecDepth 100000
section
variable {P:Program}(w:aaa)
theorem JE(t tn ty e:aaR)(i:aa')(z:aab)(ht:P.underlying t=some (.slice e))(htn:P.underlying tn=some (.int .i64))(hi:P.info? e=some i)(hz:i.zero=some z)(hsize:i.size=1)(hzc:z.cells= #[z])(h1:z.oneCell'=true)(g sLen sCap k:Nat)(hk:0<k)(tT:k≤1000)(hby:i.bytes≤64)(cur:Array aab)(hg:w.heap[g]?=some (.cells cur e (0,0)))(hroom:sLen+k≤sCap)(hfit:sLen+k≤cur.size) :(aaA #[t,tn] ty #[.slice (some ⟨g,0,none⟩) sLen sCap,.int .i64 (k:Int)]).run P w= .ok (.slice (some ⟨g,0,none⟩) (sLen+k) sCap) (w.setRow g (cur.toList.take sLen++aar k z++cur.toList.drop (sLen+k)).toArray) :=by
 have hst:=run_storeCells_at P g sLen e (aar k z) 0 cur w hg (by simpa using hfit) (fun u hu=>by rw[(List.mem_replicate.1 hu).2];exact h1);simp only[Nat.add_zero,acD]at hst;have hw:IntKind.i64.wrap (k:Int)=(k:Int) :=by rw[ady];omega
 have hneg: ¬((k:Int)<0) :=by omega
 have h48: ¬(281474976710656<(k:Int)*(i.bytes:Int)) :=by rw[←aeZ];have:=adf tT hby;omega
 have hk0:k≠0:=by omega
 have hzz:=II hzc k;simp only[aeR]at hst;simp[aaA,aaE ht,aaE htn,aa4,aa3,asInt,abx,abl,hi,hz,hsize,hw,hneg,h48,hk0,hroom,hzz,Addr.add_lit,hst]
theorem Hr(base:Nat)(t tn ty e:aaR)(i:aa')(z:aab)(ht:P.underlying t=some (.slice e))(htn:P.underlying tn=some (.int .i64))(hi:P.info? e=some i)(hz:i.zero=some z)(hsize:i.size=1)(v:aab)(n:Nat)(xs:List aab)(hown:w.ownsRow base e 1 v n xs) :(aaA #[t,tn] ty #[v,.int .i64 ((0:Nat) :Int)]).run P w= .ok v w:=by
 have hw:IntKind.i64.wrap (0:Int)=0:=by rw[ady];omega
 rcases hown.2 with⟨rfl,rfl⟩| ⟨g,cap,cur,rfl,hbg,hg,hnc,hcm,hcs,htake⟩;·simp[aaA,aaE ht,aaE htn,aa4,aa3,asInt,abx,abl,hi,hz,hsize,hw,aa1,abp]
 ·simp[aaA,aaE ht,aaE htn,aa4,aa3,asInt,abx,abl,hi,hz,hsize,hw,hnc,aa1,abp]
theorem JI(base:Nat)(t tn ty e:aaR)(i:aa')(z:aab)(ht:P.underlying t=some (.slice e))(htn:P.underlying tn=some (.int .i64))(hi:P.info? e=some i)(hz:i.zero=some z)(hsize:i.size=1)(hzc:z.cells= #[z])(h1:z.oneCell'=true)(hby:i.bytes≤64)(v:aab)(n:Nat)(xs:List aab)(hown:w.ownsRow base e 1 v n xs)(k:Nat)(tT:k≤1000)(Fb:n≤1000)(hbase:base≤w.heap.size) : ∃v' w',(aaA #[t,tn] ty #[v,.int .i64 (k:Int)]).run P w= .ok v' w'∧w'.ownsRow base e 1 v' (n+k) (xs++aar k z)∧w.grownBy w' v.ownBlock∧(v'.ownBlock=v.ownBlock∨v'.ownBlock=some w.heap.size) :=by
 by_cases hk:0<k;case neg=>
  obtain rfl:k=0:=by omega
  refine⟨v,w,Hr w base t tn ty e i z ht htn hi hz hsize v n xs hown,by simpa using hown,⟨rfl,rfl,rfl,aaF _,fun _ _ _=>rfl⟩,aap rfl⟩
 have hlen:(xs++aar k z).length=(n+k)*1:=by rw[aaK,hown.1,acD];omega
 have agX:(n+k)*i.bytes≤140737488355328:=by have:=adf (show n+k≤2000 by omega) hby;omega
 have h63:n+k≤aa9:=by simp only[aa9];omega
 have grown: ∀(old:Nat),old<n+k→∀(row:Option Nat),(w.drew.alloc (.cells ((xs++aar k z).toArray++aa1 z.cells (aaU w (n+k) old e-(n+k))) e)).ownsRow base e 1 (.slice (some ⟨w.heap.size,0,none⟩) (n+k) (aaU w (n+k) old e)) (n+k) (xs++aar k z)∧w.grownBy (w.drew.alloc (.cells ((xs++aar k z).toArray++aa1 z.cells (aaU w (n+k) old e-(n+k))) e)) row:=by
  intro old ho row;have hge:=grownCap_ge w (n+k) old e;have hcm:aaU w (n+k) old e≤aa9:=adV w (n+k) old e h63;refine⟨⟨hlen,.inr ⟨w.heap.size,_,_,rfl,hbase,aaQ w.drew _,hge,hcm,?_,?_⟩⟩,⟨rfl,rfl,rfl,by simp,fun j hj _=>heap_alloc_old w.drew _ hj⟩⟩;·simp only[adL,adl,acK,hzc,hlen];simp;omega
  ·simp only[Array.toList_append];rw[←hlen];exact aex
 rcases hown.2 with⟨rfl,rfl⟩| ⟨g,cap,cur,rfl,hbg,hg,hnc,hcm,hcs,htake⟩;·have hx:xs= [] :=List.eq_nil_of_length_eq_zero (by simpa using hown.1);subst hx;have hr:=yU (P:=P) w t tn ty e i z ht htn hi hz hsize hzc none 0 0 k hk tT hby [] (by simp[acI,run_firstCells_none,ac1,acT]) (by omega) (by omega) (adU (by omega) agX);have hgr:=grown 0 (by omega) (Value.ownBlock (.slice none 0 0));exact⟨_,_,hr,hgr.1,hgr.2,aau rfl⟩
 ·by_cases hroom:n+k≤cap
  ·have hfit:n+k≤cur.size:=by rw[hcs];omega
   have hr:=JE (P:=P) w t tn ty e i z ht htn hi hz hsize hzc h1 g n cap k hk tT hby cur hg hroom hfit;refine⟨_,_,hr,⟨hlen,.inr ⟨g,cap,_,rfl,hbg,setRow_heap w g cur _ e _ hg,hroom,hcm,?_,?_⟩⟩,⟨rfl,rfl,rfl,by simp,fun k _ hk=>setRow_other w g k _ (fun e=>hk (by simp[Value.ownBlock,e]))⟩,aap rfl⟩;·simp only[adl,aaK,List.length_take,List.length_drop,Array.length_toList,acD];omega
   ·rw[abE]at htake;rw[htake,←hlen];exact aex
  ·have holds: ∀j u,xs[j]?=some u→w.cell? ((⟨g,0,none⟩ :Addr).add j)=some u:=hown.cells (g:=g) rfl;have hr:=yU (P:=P) w t tn ty e i z ht htn hi hz hsize hzc (some ⟨g,0,none⟩) n cap k hk tT hby xs (by rw[hsize];exact run_firstCells_some w.drew 1 n ⟨g,0,none⟩ n cap xs hown.1 (by simpa using holds)) (by omega) (by omega) (adU (by omega) agX);have hgr:=grown cap (by omega) (Value.ownBlock (.slice (some ⟨g,0,none⟩) n cap));exact⟨_,_,hr,hgr.1,hgr.2,aau rfl⟩
theorem Em {ops:Array Oper} {rest:List Oper} {o:Oper} {a:Act} {Q:Exit→Act→aaa→Prop}(hgd:o.guard=none)(s x:aaw)(t tn:aaR)(ho:o.op= .call {callee:= .builtin .append,args:=#[s,x],argTypes:=#[t,tn]})(base:Nat)(e:aaR)(i:aa')(z:aab)(ht:P.underlying t=some (.slice e))(htn:P.underlying tn=some (.int .i64))(hi:P.info? e=some i)(hz:i.zero=some z)(hsize:i.size=1)(hzc:z.cells= #[z])(h1:z.oneCell'=true)(hby:i.bytes≤64)(v:aab)(n:Nat)(xs:List aab)(hs:a.eval s=v)(hown:w.ownsRow base e 1 v n xs)(k:Nat)(hx:a.eval x= .int .i64 (k:Int))(tT:k≤1000)(Fb:n≤1000)(hbase:base≤w.heap.size)(h: ∀v' w',w'.ownsRow base e 1 v' (n+k) (xs++aar k z)→w.grownBy w' v.ownBlock→(v'.ownBlock=v.ownBlock∨v'.ownBlock=some w.heap.size)→wpList P ops Q rest (a.put o.dst v') w') :wpList P ops Q (o::rest) a w:=by obtain⟨v',w',hr,h2,h3,h4⟩ :=JI (P:=P) w base t tn o.type e i z ht htn hi hz hsize hzc h1 hby v n xs hown k tT Fb hbase;exact Lib.wpList_append_run w hgd s x t tn ho v _ hs hx v' w' hr (h v' w' h2 h3 h4)
end
end Go.Proofs.YtkbjimkngmlfcaaDoor
namespace Go.Proofs
open Go.Shelf
def Tryd.laysTz_ren:Go.Shelf.Ren:=⟨fun|29=>83|n=>n,fun|22=>146|3=>3|4=>4|25=>113|54=>159|0=>0|5=>5|n=>n,fun|1=>2|n=>n⟩
theorem Tryd.laysTz:Go.Proofs.Lays7.n29 Tryd.prog Tryd.laysTz_ren:={
  mixed:=by kernel_rfl
  f29:=Tryd.func83.trans (congrArg some (by kernel_rfl))
  t0:=Tryd.underlying0
  a0:=Tryd.isAgg0
  z0:=Tryd.sizeOf0
  v0:=Tryd.zeroValue0
  i0:=by kernel_rfl
  t3:=Tryd.underlying3
  a3:=Tryd.isAgg3
  z3:=Tryd.sizeOf3
  v3:=Tryd.zeroValue3
  i3:=by kernel_rfl
  t4:=Tryd.underlying4
  a4:=Tryd.isAgg4
  z4:=Tryd.sizeOf4
  v4:=Tryd.zeroValue4
  i4:=by kernel_rfl
  t5:=Tryd.underlying5
  a5:=Tryd.isAgg5
  z5:=Tryd.sizeOf5
  v5:=Tryd.zeroValue5
  i5:=by kernel_rfl
  t22:=Tryd.underlying146
  a22:=Tryd.isAgg146
  z22:=Tryd.sizeOf146
  v22:=Tryd.zeroValue146
  i22:=by kernel_rfl
  t25:=Tryd.underlying113
  a25:=Tryd.isAgg113
  z25:=Tryd.sizeOf113
  v25:=Tryd.zeroValue113
  i25:=by kernel_rfl
  t54:=Tryd.underlying159
  a54:=Tryd.isAgg159
  z54:=Tryd.sizeOf159
  g1:=by kernel_rfl}
end Go.Proofs
namespace Go.Proofs.YtkbjimkngmlfcaaDoor
open Go Go.RowKit
set_option linter.unusedVariables false
set_option linter.unusedSimpArgs false
set_option maxRecDepth 100000
theorem EN {x:Nat}(h0:x≠0)(hx:x<2^64) :x.testBit (aav 64 x)=true∧∀i,i<aav 64 x→x.testBit i=false:=by
 obtain⟨m,hm,hk⟩ :=aeS 64 x (by omega) hx;have e:aav 64 x=acH 64 x:=by unfold aav;rw[if_neg h0]
 rw[e];generalize acH 64 x=k at*;subst hm;constructor;·rw[abd,ad5 _ (aa5 k)];simp
 ·intro i hi;rw[abd];have e2:2^k*(2*m+1)=2^i*(2*(2^(k-i-1)*(2*m+1))) :=by rw[←abI (2^i),←ada,←abI,←ad2];congr 2;omega
  rw[e2,ad5 _ (aa5 i),Nat.mul_mod_right];rfl
def oU(ws:List Nat)(r:Nat) :Bool:=(ws.getD (r/64) 0).testBit (r %64)
theorem YY(r:Nat) :oU [] r=false:=by simp[oU]
theorem Qz(ws:List Nat)(k r:Nat) :oU (ws++aar k 0) r=oU ws r:=by
 unfold oU;rw[aal,aal];rcases ab' (r/64) ws.length with h|h;·rw[aaT h]
 ·rw[aa7 h,adv h,List.getElem?_replicate];split<;>rfl
theorem M3(r b:Nat) :(1<<<r).testBit b=decide (b=r) :=by rw[ad3,Nat.testBit_two_pow];simp[eq_comm]
theorem WO(ws:List Nat)(r s:Nat)(h:r/64<ws.length) :oU (ws.set (r/64) (ws.getD (r/64) 0 |||1<<< (r %64))) s=(oU ws s ||decide (s=r)) :=by
 unfold oU;rw[aal,List.getElem?_set];by_cases e:r/64=s/64;·rw[if_pos e,if_pos h,abC,Nat.testBit_or,M3,e];congr 1;rw[Bool.eq_iff_iff];simp only[decide_eq_true_eq];omega
 ·rw[if_neg e,←aal];have: ¬s=r:=by rintro rfl;exact e rfl
  simp[this]
theorem Ls {ws:List Nat} {r:Nat}(h:oU ws r=true) :r<64*ws.length:=by
 rcases ab' (r/64) ws.length with h1|h1;·omega
 ·unfold oU at h;rw[aal,adv h1]at h;simp at h
theorem Lx {x:Nat}(h0:x≠0)(hx:x<2^64)(i:Nat) :(x&&&(x-1)).testBit i=(x.testBit i&&decide (i≠aav 64 x)) :=by
 obtain⟨m,hm,hk⟩ :=aeS 64 x (by omega) hx;have e:aav 64 x=acH 64 x:=by unfold aav;rw[if_neg h0]
 have hb:=EN h0 hx;rw[e]at hb⊢;generalize acH 64 x=k at*;rw[Nat.testBit_and];rcases ad' i k with h|h|h;·rw[hb.2 i h];rfl
 ·subst h;have:(x-1).testBit i=false:=by
   have e1:x-1=2^i*(2*m)+(2^i-1) :=by have:=aa5 i;rw[hm,adj,abE];omega
   rw[abd,e1,Nat.mul_add_div (aa5 i),Nat.div_eq_of_lt (by have:=aa5 i;omega)];simp
  rw[this];simp
 ·have e2:(x-1) /2^i=x/2^i:=by
   have hp:=aa5 k;have q1:(x-1) /2^(k+1)=m:=by
    have e1:x-1=2^(k+1)*m+(2^k-1) :=by rw[hm,adj,abE,ada,abI];omega
    exact abG
   have q2:x/2^(k+1)=m:=by
    have e1:x=2^(k+1)*m+2^k:=by rw[hm,adj,abE,ada,abI]
    exact abG
   have e3:2^i=2^(k+1)*2^(i-(k+1)) :=by rw[←ad2];congr 1;omega
   rw[e3,←aen,←aen,q1,q2]
  have e4:(x-1).testBit i=x.testBit i:=by rw[abd,abd,e2]
  rw[e4,Bool.and_self];have:i≠k:=by omega
  simp[this]
def BV(ws:List Nat)(i:Nat)(rs:List Int) :Prop:=iG rs∧(∀r∈rs,0≤r)∧∀r:Nat,(r:Int)∈rs↔oU ws r=true∧r<64*i
structure D9(ws:List Nat)(i v:Nat)(rs:List Int) :Prop where
 rise:iG rs
 pos: ∀r∈rs,0≤r
 mem: ∀r:Nat,(r:Int)∈rs↔oU ws r=true∧(r<64*i∨(r/64=i∧v.testBit (r %64)=false))
 sub: ∀b,v.testBit b=true→(ws.getD i 0).testBit b=true
 low: ∀b,v.testBit b=true→∀r∈rs,r<64*(i:Int)+b
 lt:v<2^64
theorem BV.zero(ws:List Nat) :BV ws 0 [] :=⟨List.Pairwise.nil,fun r h=>by simp at h,fun r=>by simp⟩
theorem BV.start {ws:List Nat} {i:Nat} {rs:List Int}(h:BV ws i rs)(hlt:ws.getD i 0<2^64) :D9 ws i (ws.getD i 0) rs:=by
 refine⟨h.1,h.2.1,fun r=> ?_,fun b hb=>hb,fun b hb r hr=> ?_,hlt⟩
 ·rw[h.2.2 r];constructor;·rintro⟨h1,h2⟩;exact⟨h1,aap h2⟩
  ·rintro⟨h1,h2| ⟨h2,h3⟩⟩;·exact⟨h1,h2⟩
   ·subst h2;unfold oU at h1;rw[h1]at h3;cases h3
 ·have h0:=h.2.1 r hr;obtain⟨m,rfl⟩ :=adB h0;have:=((h.2.2 m).1 hr).2;omega
theorem D9.done {ws:List Nat} {i:Nat} {rs:List Int}(h:D9 ws i 0 rs) :BV ws (i+1) rs:=by
 refine⟨h.rise,h.pos,fun r=> ?_⟩;rw[h.mem r];simp only[Nat.zero_testBit,and_true];constructor;·rintro⟨h1,h2⟩;exact⟨h1,by omega⟩
 ·rintro⟨h1,h2⟩;exact⟨h1,by omega⟩
theorem D9.step {ws:List Nat} {i v:Nat} {rs:List Int}(h:D9 ws i v rs)(h0:v≠0) :D9 ws i (v&&&(v-1)) (rs++ [64*(i:Int)+(aav 64 v:Int)]) :=by
 have hb:=EN h0 h.lt;have hp:=Lx h0 h.lt;have hk:aav 64 v<64:=by
  rcases ab' (aav 64 v) 64 with g|g;·exact g
  ·have:=hb.1;rw[adZ (abf h.lt (ad1 (by decide) g))]at this;cases this
 generalize aav 64 v=k at*;refine⟨?_,?_,fun r=> ?_,fun b hb'=> ?_,fun b hb' r hr=> ?_,aeb Nat.and_le_left h.lt⟩;·refine List.pairwise_append.2 ⟨h.rise,List.pairwise_singleton _ _,fun a ha b hb'=> ?_⟩;rw[List.mem_singleton.1 hb'];exact h.low k hb.1 a ha
 ·intro r hr;rcases List.mem_append.1 hr with h1|h1;·exact h.pos r h1
  ·rw[List.mem_singleton.1 h1];omega
 ·rw[List.mem_append,List.mem_singleton,h.mem r,hp];constructor
  ·rintro(⟨h1,h2| ⟨h2,h3⟩⟩|h1);·exact⟨h1,aap h2⟩
   ·exact⟨h1,aau ⟨h2,by rw[h3];rfl⟩⟩
   ·have e1:r/64=i:=by omega
    have e2:r %64=k:=by omega
    refine⟨?_,aau ⟨e1,by rw[e2];simp⟩⟩;unfold oU;rw[e1,e2];exact h.sub k hb.1
  ·rintro⟨h1,h2| ⟨h2,h3⟩⟩;·exact aap ⟨h1,aap h2⟩
   ·by_cases e:r %64=k;·right;omega
    ·left;refine⟨h1,aau ⟨h2,?_⟩⟩;simpa[e]using h3
 ·rw[hp,Bool.and_eq_true]at hb';exact h.sub b hb'.1
 ·rw[hp,Bool.and_eq_true,decide_eq_true_eq]at hb';rcases List.mem_append.1 hr with h1|h1;·exact h.low b hb'.1 r h1
  ·rw[List.mem_singleton.1 h1];have:k<b:=by
    rcases ad' b k with g|g|g;·have:=hb.2 b g;rw[hb'.1]at this;cases this
    ·exact absurd g hb'.2
    ·exact g
   omega
theorem afs {v:Nat}(h0:v≠0)(hv:v<2^64) :aav 64 v<64:=by
 have hb:=EN h0 hv;rcases ab' (aav 64 v) 64 with g|g;·exact g
 ·have:=hb.1;rw[adZ (abf hv (ad1 (by decide) g))]at this;cases this
theorem Na {v:Nat}(h0:v≠0) :v&&&(v-1)<v:=aeb Nat.and_le_right (by omega)
theorem aeC {ws:List Nat}(h: ∀x∈ws,x<2^64)(r:Nat) : ∀x∈ws.set (r/64) (ws.getD (r/64) 0 |||1<<< (r %64)),x<2^64:=by
 intro x hx;rcases List.mem_or_eq_of_mem_set hx with h1|rfl;·exact h x h1
 ·refine Nat.or_lt_two_pow ?_ ?_
  ·rw[aal];cases e:ws[r/64]? with
   |none=>simp
   |some y=>exact h y (List.mem_of_getElem? e)
  ·rw[ad3];exact Nat.pow_lt_pow_right (by decide) (by omega)
end Go.Proofs.YtkbjimkngmlfcaaDoor
namespace Go.Proofs.YtkbjimkngmlfcaaDoor
open Go Go.RowKit
set_option linter.unusedVariables false
set_option linter.unusedSimpArgs false
set_option maxRecDepth 100000
def zU(ws:List Nat) :List aab:=ws.map fun(x:Nat)=>Value.int .u64 (x:Int)
theorem VQ(ws:List Nat)(k:Nat) :zU ws++aar k (.int .u64 0)=zU (ws++aar k 0) :=by simp[zU]
theorem Vz {ws:List Nat} {q:Nat}(h:q<ws.length) :(zU ws)[q]?=some (.int .u64 ((ws.getD q 0:Nat) :Int)) :=by unfold zU;rw[abk,aal,aaY h];rfl
theorem Ya {W:aaa} {base g n cap:Nat} {zs:List Nat}(h:W.ownsRow base 146 1 (.slice (some ⟨g,0,none⟩) n cap) n (zU zs)) {k:Nat}(hk:k<n)(x:Nat) :(W.setCell ⟨g,k,none⟩ (.int .u64 (x:Int))).ownsRow base 146 1 (.slice (some ⟨g,0,none⟩) n cap) n (zU (zs.set k x)) :=by
 have hl:(zU zs).length=n*1:=h.1;refine⟨by simp[zU]at hl⊢;exact hl,?_⟩;rcases h.2 with⟨h',_⟩| ⟨g',c',cur,h1,h2,h3,h4,h5,h6,h7⟩;·simp at h'
 ·simp only[Value.slice.injEq,ac2,Addr.mk.injEq,and_true,true_and]at h1;obtain⟨rfl,rfl⟩ :=h1;refine aau ⟨g,cap,cur.setIfInBounds k (.int .u64 (x:Int)),rfl,h2,aL h3 k _,h4,h5,by simpa using h6,?_⟩;rw[Array.toList_setIfInBounds,List.take_set,h7];simp[zU,List.map_set]
theorem Bu {w0 w w':aaa} {base:Nat} {v:aab} {n:Nat} {xs:List aab} {e:aaR}(hb:aah w0.heap.size w0 w)(ho:w.ownsRow base e 1 v n xs)(hbase:w0.heap.size≤base)(hg:w.grownBy w' v.ownBlock) :aah w0.heap.size w0 w':=⟨hg.os.trans hb.os,hg.tape.trans hb.tape,hg.output.trans hb.output,acA hb.size hg.size,fun b hb'=>(hg.block b (abf hb' hb.size) (fun e=>by have:=(aA ho e.symm).1;omega)).trans (hb.block b hb')⟩
structure Rn(w W:aaa)(vn:aab)(ws:List Nat) :Prop where
 bel:aah w.heap.size w W
 own:W.ownsRow w.heap.size 146 1 vn ws.length (zU ws)
section
variable {w W W1:aaa} {vn:aab} {ws:List Nat}
theorem Rn.below(h:Rn w W vn ws)(hb:aah W.heap.size W W1) :Rn w W1 vn ws:=⟨h.bel.trans (hb.mono h.bel.size),own_below h.own hb⟩
theorem Rn.start(w:aaa) :Rn w w (.slice none 0 0) [] :=⟨aat _ _,World.ownsRow_nil _ _ _ _⟩
theorem Rn.put {g cap:Nat}(h:Rn w W (.slice (some ⟨g,0,none⟩) ws.length cap) ws) {q:Nat}(hq:q<ws.length)(x:Nat) :Rn w (W.setCell ⟨g,q,none⟩ (.int .u64 (x:Int))) (.slice (some ⟨g,0,none⟩) ws.length cap) (ws.set q x) :=by obtain⟨hge,cur,hg⟩ :=aA h.own (b:=g) rfl;exact⟨h.bel.setCell (p:=⟨g,q,none⟩) hge _,by rw[aeI];exact Ya h.own hq x⟩
theorem Rn.grow {k:Nat} {v':aab}(h:Rn w W vn ws)(ho:W1.ownsRow w.heap.size 146 1 v' (ws.length+k) (zU ws++aar k (.int .u64 0)))(hg:W.grownBy W1 vn.ownBlock) :Rn w W1 v' (ws++aar k 0) :=by refine⟨Bu h.bel h.own (aaF _) hg,?_⟩;rw[aaK,acD,←VQ];exact ho
theorem Rn.row(h:Rn w W vn ws)(h0:0<ws.length) : ∃g cap,vn= .slice (some ⟨g,0,none⟩) ws.length cap∧w.heap.size≤g∧g<W.heap.size:=by
 rcases h.own.2 with⟨_,e⟩| ⟨g,cap,cur,e,h1,h2,_⟩;·omega
 ·exact⟨g,cap,e,h1,(Array.getElem?_eq_some_iff.1 h2).1⟩
end
def ZB(D:List aT)(i k:Nat)(r:Int) :Prop:=(∃j,j<i∧∃a∈(D.getD j ps0).2.1,a.1=r)∨∃j,j<k∧j<(D.getD i ps0).2.1.length∧((D.getD i ps0).2.1.getD j (0,0)).1=r
def kE(ws:List Nat)(D:List aT)(i k:Nat) :Prop:=ws.length≤2∧(∀x∈ws,x<2^64)∧∀r:Nat,oU ws r=true↔ZB D i k (r:Int)
theorem kE.zero(D:List aT) :kE [] D 0 0:=⟨by simp,fun x h=>by simp at h,fun r=>by rw[YY];simp[ZB]⟩
theorem kE.zeros {ws:List Nat} {D:List aT} {i k n:Nat}(h:kE ws D i k)(hn:ws.length+n≤2) :kE (ws++aar n 0) D i k:=by
 refine⟨by simpa using hn,fun x hx=> ?_,fun r=>by rw[Qz];exact h.2.2 r⟩;rcases List.mem_append.1 hx with h1|h1;·exact h.2.1 x h1
 ·rw[(List.mem_replicate.1 h1).2];decide
theorem kE.next {ws:List Nat} {D:List aT} {i k:Nat}(h:kE ws D i k)(hk:k<(D.getD i ps0).2.1.length) {q:Nat}(hq:((D.getD i ps0).2.1.getD k (0,0)).1=(q:Int))(hl:q/64<ws.length) :kE (ws.set (q/64) (ws.getD (q/64) 0 |||1<<< (q %64))) D i (k+1) :=by
 refine⟨by rw[aeI];exact h.1,aeC h.2.1 q,fun r=> ?_⟩;rw[WO _ _ _ hl,Bool.or_eq_true,decide_eq_true_eq,h.2.2 r];constructor
 ·rintro((h1| ⟨j,h1,h2,h3⟩)|rfl);·exact aap h1
  ·exact aau ⟨j,by omega,h2,h3⟩
  ·exact aau ⟨k,by omega,hk,hq⟩
 ·rintro(h1| ⟨j,h1,h2,h3⟩);·exact aap (aap h1)
  ·by_cases e:j=k;·subst e;right;rw[hq]at h3;omega
   ·exact aap (aau ⟨j,by omega,h2,h3⟩)
theorem CU {l:List (Int×Int)} {j:Nat}(h:j<l.length) :l.getD j (0,0)∈l:=by rw[aal,aaY h];exact ads h
theorem kE.state {ws:List Nat} {D:List aT} {i k:Nat}(h:kE ws D i k)(hk:k=(D.getD i ps0).2.1.length) :kE ws D (i+1) 0:=by
 refine⟨h.1,h.2.1,fun r=> ?_⟩;rw[h.2.2 r];constructor
 ·rintro(⟨j,h1,h2⟩| ⟨j,h1,h2,h3⟩);·exact aap ⟨j,by omega,h2⟩
  ·exact aap ⟨i,by omega,_,CU h2,h3⟩
 ·rintro(⟨j,h1,a,h2,h3⟩| ⟨j,h1,_⟩)
  ·by_cases e:j=i;·subst e;obtain⟨t,ht,e⟩ :=aeN h2;exact aau ⟨t,by omega,ht,by rw[aal,aaY ht,abC,e];exact h3⟩
   ·exact aap ⟨j,by omega,a,h2,h3⟩
  ·omega
theorem kE.all {ws:List Nat} {D:List aT} {rs:List Int}(h:kE ws D D.length 0)(hD: ∀s∈D,∀a∈s.2.1,(0:Int)≤a.1)(hr:BV ws ws.length rs) : ∀r,r∈rs↔∃s∈D,∃a∈s.2.1,a.1=r:=by
 have key: ∀r:Nat,(r:Int)∈rs↔∃s∈D,∃a∈s.2.1,a.1=(r:Int) :=fun r=>by
  rw[hr.2.2 r];constructor
  ·rintro⟨h1,_⟩;rcases(h.2.2 r).1 h1 with⟨j,h2,a,h3,h4⟩| ⟨j,h2,_⟩;·refine⟨D.getD j ps0,?_,a,h3,h4⟩;rw[aal,aaY h2];exact ads h2
   ·omega
  ·rintro⟨s,hs,a,ha,e⟩;obtain⟨j,hj,rfl⟩ :=aeN hs;have:oU ws r=true:=(h.2.2 r).2 (aap ⟨j,hj,a,by rw[aal,aaY hj];exact ha,e⟩);exact⟨this,Ls this⟩
 intro r;constructor;·intro hm;obtain⟨n,rfl⟩ :=adB (hr.2.1 r hm);exact(key n).1 hm
 ·rintro⟨s,hs,a,ha,rfl⟩;obtain⟨n,hn⟩ :=adB (hD s hs a ha);rw[hn];exact(key n).2 ⟨s,hs,a,ha,hn⟩
theorem Jk(W:aaa)(ρ:aaw→aab)(o:Oper)(x y:aaw)(ho:o.op= .indexAddr 145 x y)(g X len c:Nat)(hx:ρ x= .slice (some ⟨g,0,none⟩) len c)(hy:ρ y= .int .i64 (X:Int))(h:X<len) :(aaV ρ o).run Tryd.prog W= .ok (.value (.pointer (some ⟨g,X,none⟩))) W:=by exact xV
theorem Yn(W:aaa)(ρ:aaw→aab)(o:Oper)(x y:aaw)(ho:o.op= .store 146 x y)(b off:Nat)(t:Nat)(u:aab)(hx:ρ x= .pointer (some ⟨b,off,none⟩))(hy:ρ y= .int .u64 (t:Int))(hc:W.cell? ⟨b,off,none⟩=some u)(hf:W.frozen? ⟨b,off,none⟩=false) :(aaV ρ o).run Tryd.prog W= .ok .skip (W.setCell ⟨b,off,none⟩ (.int .u64 (t:Int))) :=by exact yu
theorem Xf(W:aaa)(ρ:aaw→aab)(o:Oper)(x y:aaw)(ho:o.op= .binOp .or 146 x y 146)(a b:Nat)(ha:a<18446744073709551616)(hb:b<18446744073709551616)(hx:ρ x= .int .u64 (a:Int))(hy:ρ y= .int .u64 (b:Int)) :(aaV ρ o).run Tryd.prog W= .ok (.value (.int .u64 ((a |||b:Nat) :Int))) W:=by have h:=u64_or_nat a b ha hb;exact BN
end Go.Proofs.YtkbjimkngmlfcaaDoor
