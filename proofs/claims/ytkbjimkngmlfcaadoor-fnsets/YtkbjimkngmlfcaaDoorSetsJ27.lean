import Derived.Test.YtkbjimkngmlfcaaDoorSetsJ26
open Go renaming World→aal,Calls→aas,heap_alloc_new→aar
open Go.IntKind renaming wrap_i64→aav,wrap_u8→aaK
open Go.RowKit renaming Below→aaa
open Go.RowKit.Below renaming refl→aab
open Nat renaming le_refl→aah,zero_le→aaw,eq_zero_or_pos→aaF,le_of_lt→aaE,zero_add→aax,mul_le_mul→aaA
namespace Go.Proofs.YtkbjimkngmlfcaaDoor
open Go Go.RowKit
set_option linter.unusedVariables false
set_option linter.unusedSimpArgs false
set_option maxRecDepth 100000
set_option maxHeartbeats 8000000
theorem Xr {P:Prop}(h:P:=by rintro e w6⟨p,t,rfl,ht,hb6⟩;have vZ:=ah (eX.out.trans (hb6.mono eX.out.size));clear hb6 rO eX;go_wp2_with fail;go_meet;case rel=>exact⟨t,rfl,ht,vZ.out⟩) :P:=h
theorem ac5 {P:Prop}(h:P:=by
 go_wp2_with fail;go_roundw;case rel=>exact⟨i+1,by omega,by go_num,iq.out⟩
 case measure=>simp[intOf];omega) :P:=h
theorem ZJ {P:Prop}(h:P:=by clear hc hc2 hT;go_enter Tryd.func3,Tryd.ntmps3;go_wp2_with fail;go_ret;exact⟨rfl,Below.refl _ _⟩) :P:=h
theorem sU(c d:Nat)(a b:Option Addr)(D:List aT)(w:aal)(hs: ∀s∈D,s.2.1.length≤4096)(hl3:D.length≤1048576)(ha:dP w a D)(hb:dP w b D) :aas Tryd.prog 9 #[.agg #[.slice a D.length c],.agg #[.slice b D.length d]] w fun e w'=>e= .returned (.bool true)∧aaa w.heap.size w w':=by
 obtain⟨n,hn⟩ : ∃n,D.length=n:=⟨_,rfl⟩;have hsz1:(w.alloc (.cells #[.slice a n c] 25)).heap.size=w.heap.size+1:=by simp
 have hb1:aaa w.heap.size w (w.alloc (.cells #[.slice a n c] 25)) :=(aab _ _).alloc (aah _) _;have hb2:aaa (w.heap.size+1) (w.alloc (.cells #[.slice a n c] 25)) ((w.alloc (.cells #[.slice a n c] 25)).alloc (.cells #[.slice b n d] 25)) :=(aab _ _).alloc (by simp) _;have HB0:=ah (hb1.trans (hb2.mono (by omega)));have qH:=ah (aC (aar w (.cells #[.slice a n c] 25)) (by rw[hsz1];exact hb2));have HN1:Hid (((w.alloc (.cells #[.slice a n c] 25)).alloc (.cells #[.slice b n d] 25)).heap[w.heap.size+1]?=some (.cells #[.slice b n d] 25)) :=by show _=_;rw[←hsz1];exact aar _ _
 have HA:=ah (ha.below HB0.out);have rR:=ah (hb.below HB0.out);have HS:=ah hs;have fG:=ah hn;rw[hn]at hl3⊢;clear hs ha hb hn hb1 hb2;go_enter Tryd.func9,Tryd.ntmps9;go_upto_region 1 with fail;clear hsz1;generalize(w.alloc (.cells #[.slice a n c] 25)).alloc (.cells #[.slice b n d] 25)=W1 at*;have x0:W1.cell? ⟨w.heap.size,0,none⟩=some (.slice a n c) :=aj qH.out 0;have x1:W1.cell? ⟨w.heap.size+1,0,none⟩=some (.slice b n d) :=aj HN1.out 0;go_wp2_with fail;clear x0 x1;go_loopw [5](fun iv wr=>∃(i:Nat),i≤n∧iv= .int .i64 (i:Int)∧aaa W1.heap.size W1 wr)(fun iv _=>n-(intOf iv).toNat);case atStart=>exact⟨0,aaw _,rfl,aab _ _⟩
 case round=>
  obtain⟨i,hi,rfl,hb⟩ :=hrel;have HB:=ah hb;have x0:wr.cell? ⟨w.heap.size,0,none⟩=some (.slice a n c) :=aj (aC qH.out hb) 0;clear hb;by_cases hlt:i<n
  ·have hltz:(i:Int)<(n:Int) :=by omega
   obtain⟨p,off,rfl,hp,hc⟩ :=(HA.out.below HB.out).resolve_left (fun e=>by rw[←fG.out,e]at hlt;simp at hlt);obtain⟨p2,off2,rfl,hp2,hc2⟩ :=(rR.out.below HB.out).resolve_left (fun e=>by rw[←fG.out,e]at hlt;simp at hlt);have jY:i<D.length:=by rw[fG.out];exact hlt
   obtain⟨s0,ai,ci,s1,hx,s2⟩ :=hc i jY;obtain⟨u0,bi,di,u1,hy,u2⟩ :=hc2 i jY;have hgd:D.getD i ps0=D[i] :=by rw[List.getD_eq_getElem?_getD,List.getElem?_eq_getElem jY];rfl
   have hsl:=HS.out _ (List.getElem_mem jY);rw[hgd]at s0 s1 hx s2 u0 u1 hy u2;clear hc hc2 hgd;generalize D[i]=s at*;clear jY;obtain⟨f,rs,z⟩ :=s;dsimp only at s0 s1 hx s2 hsl u0 u1 hy u2;obtain⟨m,hm⟩ : ∃m,rs.length=m:=⟨_,rfl⟩;have HM:=ah hm;rw[hm]at s1 u1 hsl;clear hm;have yI:aaa wr.heap.size wr (wr.alloc (.cells #[.bool f,.slice ai m ci,.int .i64 z] 42)) :=(aab _ _).alloc (aah _) _;have TK:=ah (aar wr (.cells #[.bool f,.slice ai m ci,.int .i64 z] 42));have DY:=ah ((yI.cell (p:=⟨p2,off2+i*3,none⟩) hp2).trans u0);have Cw:=ah ((yI.cell (p:=⟨p2,off2+i*3+1,none⟩) hp2).trans u1);have OM:=ah ((yI.cell (p:=⟨p2,off2+i*3+2,none⟩) hp2).trans u2);have DF:=ah (HB.out.trans (yI.mono HB.out.size));have HXa:=ah (hx.below yI);have HXb:=ah (hy.below yI);clear yI u0 u1 u2 hx hy;go_upto_region 7 with fail;generalize wr.alloc (.cells #[.bool f,.slice ai m ci,.int .i64 z] 42)=Wm at*
   generalize wr.heap.size=p6 at*;clear x0 s0 s1 s2;have x1:Wm.cell? ⟨w.heap.size+1,0,none⟩=some (.slice (some ⟨p2,off2,none⟩) n d) :=aj (aC HN1.out DF.out) 0;have u0:=DY.out;have u1:=Cw.out;have u2:=OM.out;have yI:aaa Wm.heap.size Wm (Wm.alloc (.cells #[.bool f,.slice bi m di,.int .i64 z] 42)) :=(aab _ _).alloc (aah _) _;have Bd:=ah (aar Wm (.cells #[.bool f,.slice bi m di,.int .i64 z] 42));have Qi:=ah (aC TK.out yI);have HB2:=ah (DF.out.trans (yI.mono DF.out.size));have HYa:=ah (HXa.out.below yI);have HYb:=ah (HXb.out.below yI);clear yI TK DY Cw OM HXa HXb DF HB;go_upto_region 8 with fail;generalize Wm.alloc (.cells #[.bool f,.slice bi m di,.int .i64 z] 42)=W2 at*;generalize Wm.heap.size=p7 at*;clear x1 u0 u1 u2;have y0:=aj Qi.out 0;have y1:=aj Qi.out 1;have y2:=aj Qi.out 2;have z0:=aj Bd.out 0;have z1:=aj Bd.out 1
   have z2:=aj Bd.out 2;go_wp2_with fail;clear y0 y1 y2 z0 z1 z2;go_loopw [8](fun kv wx=>∃(k:Nat),k≤m∧kv= .int .i64 (k:Int)∧aaa W2.heap.size W2 wx)(fun kv _=>m-(intOf kv).toNat);case atStart=>exact⟨0,aaw _,rfl,aab _ _⟩
   case round=>
    obtain⟨k,hk,rfl,hb⟩ :=hrel;have uM:=ah hb;have y1:wr.cell? ⟨p6,1,none⟩=some (.slice ai m ci) :=aj (aC Qi.out hb) 1;have z1:wr.cell? ⟨p7,1,none⟩=some (.slice bi m di) :=aj (aC Bd.out hb) 1;clear hb;by_cases hkm:k<m
    ·have hkz:(k:Int)<(m:Int) :=by omega
     obtain⟨g,o2,rfl,hgl,hac⟩ :=((HYa.out.below uM.out)).resolve_left (fun e=>by rw[←HM.out,e]at hkm;simp at hkm);obtain⟨g2,o3,rfl,Mo,Kk⟩ :=((HYb.out.below uM.out)).resolve_left (fun e=>by rw[←HM.out,e]at hkm;simp at hkm);have hkl:k<rs.length:=by rw[HM.out];exact hkm
     obtain⟨e0,e1⟩ :=hac k hkl;obtain⟨f0,f1⟩ :=Kk k hkl;generalize rs.getD k (0,0)=r at*;obtain⟨r1,r2⟩ :=r;dsimp only at e0 e1 f0 f1;clear hac Kk hkl;go_upto_region 13 with fail;go_region;all_goals
      go_wp2_with fail;go_roundw;case rel=>exact⟨k+1,by omega,by go_num,(uM.out.mono (aah _)).trans ((aab _ _).drew.mono uM.out.size)⟩
      case measure=>simp[intOf];omega
    ·have hkz: ¬(k:Int)<(m:Int) :=by omega
     go_wp2_with fail;go_roundw;case rel=>exact⟨i+1,by omega,by go_num,HB2.out.trans (uM.out.mono HB2.out.size)⟩
     case measure=>simp[intOf];omega
  ·have hltz: ¬(i:Int)<(n:Int) :=by omega
   go_wp2_with fail;go_ret;exact⟨rfl,HB0.out.trans (HB.out.mono HB0.out.size)⟩
theorem Tryd.infoU8L:(Tryd.prog.info? 5).map (fun i=>(i.zero,i.size,i.bytes))=some (some (.int .u8 0),1,1) :=by kernel_rfl
theorem nH {w:aal} {ops:Array Oper} {rest:List Oper} {o:Oper} {a:Act} {Q:Exit→Act→aal→Prop}(hgd:o.guard=none)(s x:Operand)(ho:o.op= .call {callee:= .builtin .append,args:=#[s,x],argTypes:=#[22,22]})(g:Nat)(c0:Int)(hc0:0≤c0∧c0≤255)(hs:a.eval s= .slice (some ⟨g,0,none⟩) 1 1)(hg:w.heap[g]?=some (.cells #[.int .u8 c0] 5))(ao:Option Addr)(k cap:Nat)(hx:a.eval x= .slice ao k cap)(hc:CodeIn w ao k)(hk:k≤50)(hnil:ao=none→cap=0)(h: ∀g' cap' w',CodeIn w' (some ⟨g',0,none⟩) (1+k)→aaa g w w'→wpList Tryd.prog ops Q rest (a.put o.dst (.slice (some ⟨g',0,none⟩) (1+k) cap')) w') :wpList Tryd.prog ops Q (o::rest) a w:=by
 obtain⟨i0,hi0,hz0,hz1,hz2⟩ :=info_parts Tryd.infoU8L;have hgl:g<w.heap.size:=(Array.getElem?_eq_some_iff.1 hg).1;have hown:w.ownsRow g 5 1 (.slice (some ⟨g,0,none⟩) 1 1) 1 [.int .u8 c0] :=⟨rfl,Or.inr ⟨g,1,#[.int .u8 c0],rfl,aah _,hg,aah _,by unfold maxLen;omega,rfl,rfl⟩⟩;cases ao with
 |none=>
  have hk0:k=0:=by
   rcases aaF k with h0|h0;·exact h0
   ·obtain⟨_,_,_,h1,_⟩ :=hc 0 h0;cases h1
  subst hk0;have hcap:=hnil rfl;subst hcap;refine wpList_plain hgd fun K hK=> ?_;have hr:(Builtin.append_ #[22,22] o.type #[.slice (some ⟨g,0,none⟩) 1 1,.slice none 0 0]).run Tryd.prog w= .ok (.slice (some ⟨g,0,none⟩) 1 1) w:=by simp[Builtin.append_,run_underlying Tryd.underlying22,sizeOf,typeInfo,hi0,Builtin.lenOf,Builtin.firstCells,loadCells,loadCellsFrom,storeCells]
  unfold Oper.wp execOp;simp only[ho,resolve,invoke,builtin,Sem.run_bind,Sem.run_pure,Result.andThen_ok,List.map_toArray,List.map_cons,List.map_nil,hs,hx,hr];exact hK _ _ (h g 1 w (fun j hj=>⟨g,0,c0,rfl,hgl,hc0.1,hc0.2,by
   have:j=0:=by omega
   subst this;exact aj hg 0⟩) (aab _ _))
 |some ad=>
  have hex: ∀j,∃z:Int,j<k→w.cell? (ad.add j)=some (.int .u8 z)∧0≤z∧z≤255:=fun j=>by
   by_cases hj:j<k;·obtain⟨blk,off,z,h1,h2,h3,h4,h5⟩ :=hc j hj;injection h1 with h1;subst h1;exact⟨z,fun _=>⟨by rw[Go.WideShapes.add_plain];exact h5,h3,h4⟩⟩
   ·exact⟨0,fun h=>absurd h hj⟩
  obtain⟨f,hf⟩ :=Classical.axiomOfChoice hex;refine wpList_append_own_at w hgd s x 22 ho g 5 i0 (.int .u8 0) 1 1 Tryd.underlying22 hi0 hz0 hz1 hz2 rfl (by decide) _ 1 _ hs hown ad k cap ((List.range k).map fun j=> .int .u8 (f j)) hx (by simp) (fun j u hj=> ?_) (fun u hu=> ?_) (by unfold maxLen;omega) (by omega) (aaE hgl) ?_
  ·simp only[List.getElem?_map,Option.map_eq_some_iff]at hj;obtain⟨q,hq,rfl⟩ :=hj;obtain⟨hq1,rfl⟩ :q<k∧q=j:=by rw[List.getElem?_eq_some_iff]at hq;obtain⟨h1,h2⟩ :=hq;simp at h1 h2;omega
   exact(hf q hq1).1
  ·obtain⟨q,_,rfl⟩ :=List.mem_map.1 hu;rfl
  ·intro v' w' h2 h3 h4 h5;rcases h2.2 with⟨h',_⟩| ⟨g',cap',cur',h',hb',hg',_⟩;·exact absurd (h4.1 h').1 (by simp)
   ·subst h';refine h g' cap' w' (fun j hj=> ?_) ((aab _ _).grown h3 (aaE hgl) (fun q hq=>by have hq':some g=some q:=hq;injection hq' with hq';omega));have hcell:=h2.cellAt j (by omega);by_cases hj0:j=0;·subst hj0;exact⟨g',0,c0,rfl,(Array.getElem?_eq_some_iff.1 hg').1,hc0.1,hc0.2,hcell⟩
    ·refine⟨g',0,f (j-1),rfl,(Array.getElem?_eq_some_iff.1 hg').1,(hf (j-1) (by omega)).2.1,(hf (j-1) (by omega)).2.2,?_⟩;rw[aax,hcell,List.getElem?_append_right (by simp;omega)];simp only[List.length_cons,List.length_nil,aax,List.getElem?_map];rw[List.getElem?_range (by omega)];rfl
def wK(w:aal) :Prop:=Tabs w∧TabAt (Tryd.laysTz_ren.g 1) Lib.deBruijn64tab w
theorem wK.below {w w':aal}(h:wK w)(hb:aaa w.heap.size w w') :wK w':=⟨h.1.below hb,nY h.2 hb⟩
def Bx(W:aal)(p:Nat)(a:Option Addr)(c:Nat)(D:List aT) :Prop:=W.heap[p]?=some (.cells #[.slice a D.length c] 25)∧dP W a D
theorem Bx.below {W W':aal} {p c:Nat} {a:Option Addr} {D:List aT}(h:Bx W p a c D)(hb:aaa W.heap.size W W') :Bx W' p a c D:=⟨aC h.1 hb,h.2.below hb⟩
theorem Bx.new {W:aal} {a:Option Addr} {c:Nat} {D:List aT}(h:dP W a D) :Bx (W.alloc (.cells #[.slice a D.length c] 25)) W.heap.size a c D:=⟨aar _ _,h.below ((aab _ _).alloc (aah _) _)⟩
theorem Bx.cell {W:aal} {p c:Nat} {a:Option Addr} {D:List aT}(h:Bx W p a c D) :W.cell? ⟨p,0,none⟩=some (.slice a D.length c) :=aj h.1 0
theorem mW.of {A B:List aT} {a b:Option Addr} {w:aal}(hA:dI A)(hB:dI B)(ha:dP w a A)(hb:dP w b B)(hT:wK w) :mW A B a b w:=⟨hA.aR,hB.aR,hA.len,hB.len,fun vA vB s hs=>by
 rcases List.mem_append.1 hs with h|h;·exact hA.EM vA s h
 ·exact hB.EM vB s h,ha,hb,hT.2⟩
def OO(A B:List aT)(op:Bool→Bool→Bool)(w:aal)(e:Ending)(w':aal) :Prop:=∃a c C D,e= .returned (.tuple #[.agg #[.slice a (List.length D) c],.int .i64 C])∧uw A B op C D∧dP w' a D∧aaa w.heap.size w w'
section
variable {A B:List aT} {a b:Option Addr} {w:aal}
theorem NM(hC:iI)(ca cb:Nat)(hA:dI A)(hB:dI B)(ha:dP w a A)(hb:dP w b B)(hT:wK w) :aas Tryd.prog 5 #[.agg #[.slice a A.length ca],.agg #[.slice b B.length cb]] w (OO A B (fun x y=>x&&y) w) :=(KT hC A B a b ca cb w (mW.of hA hB ha hb hT)).mono fun e w' h=>h.res
theorem N8(ca cb:Nat)(hA:dI A)(hB:dI B)(ha:dP w a A)(hb:dP w b B)(hT:wK w) :aas Tryd.prog 6 #[.agg #[.slice a A.length ca],.agg #[.slice b B.length cb]] w (OO A B (fun x y=>x&&y) w) :=(LG A B a b ca cb w (mW.of hA hB ha hb hT)).mono fun e w' h=>h.res
theorem abR(hC:iI)(ca cb:Nat)(hA:dI A)(hB:dI B)(ha:dP w a A)(hb:dP w b B)(hT:wK w) :aas Tryd.prog 8 #[.agg #[.slice a A.length ca],.agg #[.slice b B.length cb]] w (OO A B (fun x y=>x ||y) w) :=(Hw hC A B a b ca cb w (mW.of hA hB ha hb hT)).mono fun e w' h=>h.res
theorem OP(ca cb:Nat)(hA:dI A)(hB:dI B)(ha:dP w a A)(hb:dP w b B)(hT:wK w) :aas Tryd.prog 7 #[.agg #[.slice a A.length ca],.agg #[.slice b B.length cb]] w (OO A B (fun x y=>x ||y) w) :=(Hf A B a b ca cb w (mW.of hA hB ha hb hT)).mono fun e w' h=>h.res
theorem Db(ca:Nat)(hA:dI A)(ha:dP w a A)(hT:wK w) :aas Tryd.prog 12 #[.agg #[.slice a A.length ca]] w (OO A mq (fun x _=> !x) w) :=(GJ A a ca w hA.aR hA.len hA.EM ha hT.2).mono fun e w' h=>h.res
theorem acm(hC:iI)(ca:Nat)(hA:dI A)(ha:dP w a A) :aas Tryd.prog 13 #[.agg #[.slice a A.length ca]] w (OO A mq (fun x _=> !x) w) :=(FQ hC A a ca w hA.aR hA.len hA.EM ha).mono fun e w' h=>h.res
end
theorem JX(hC:iI)(ao:Option Addr)(n cap:Nat)(EX:Option Addr)(n2 cap2:Nat)(w:aal)(hn:n≤maxLen)(hc:CodeIn w ao n)(hn2:n2≤maxLen)(hc2:CodeIn w EX n2)(hcap2:n2≤cap2)(Pn:EX=none→cap2=0)(hT:wK w) :aas Tryd.prog 3 #[.slice ao n cap,.slice EX n2 cap2] w fun e w'=>e= .returned (.bool true)∧aaa w.heap.size w w':=by
 by_cases h1:1048576<n
 ·have h1z:(n:Int)>1048576:=by omega
  exact ZJ
 by_cases h2:1048576<n2
 ·have h1z: ¬(n:Int)>1048576:=by omega
  have h2z:(n2:Int)>1048576:=by omega
  exact ZJ
 have h1z: ¬(n:Int)>1048576:=by omega
 have h2z: ¬(n2:Int)>1048576:=by omega
 have GK:=ah hc2;have HT:=ah hT;have yN:=ah hc;clear hc hc2 hT;go_enter Tryd.func3,Tryd.ntmps3;go_upto_region 3 with fail;clear h1z h2z;go_wp2_with fail;refine(Ko hC ao n cap w (by omega) yN.out).mono ?_;rintro e W1⟨A,B,a,ca,b,cb,rfl,hdA,hdB,UZ,hb1⟩;obtain⟨hA,hB⟩ :=UZ W1 (But.refl _ _);have mM:=ah (dI.drawn hdA);have xZ:=ah (dI.drawn hdB);clear hdA hdB UZ yN;have q1:aaa W1.heap.size W1 (W1.alloc (.cells #[.slice a A.length ca] 25)) :=(aab _ _).alloc (aah _) _;have hsz1:(W1.alloc (.cells #[.slice a A.length ca] 25)).heap.size=W1.heap.size+1:=by simp
 have q2:aaa (W1.alloc (.cells #[.slice a A.length ca] 25)).heap.size (W1.alloc (.cells #[.slice a A.length ca] 25)) ((W1.alloc (.cells #[.slice a A.length ca] 25)).alloc (.cells #[.slice b B.length cb] 25)) :=(aab _ _).alloc (aah _) _;have dU:=ah ((Bx.new (c:=ca) hA).below q2);have hXB:=Bx.new (c:=cb) (hB.below q1);rw[hsz1]at hXB;have HXB:=ah hXB;have HB:=ah (hb1.trans ((q1.trans (q2.mono q1.size)).mono hb1.size));clear hA hB hXB q1 q2 hb1;go_upto_region 4 with fail;clear hsz1;generalize(W1.alloc (.cells #[.slice a A.length ca] 25)).alloc (.cells #[.slice b B.length cb] 25)=W2 at*;generalize W1.heap.size=pA at*;have t0:=dU.out.cell;have t1:=HXB.out.cell;go_wp2_with fail;refine(NM hC ca cb mM.out xZ.out dU.out.2 HXB.out.2 (HT.out.below HB.out)).mono ?_;rintro e V2⟨a1,c1,C1,M,rfl,hj,hh,hb⟩;have HJM:=ah hj;have HLM:=ah (hj.low mM.out xZ.out)
 have hbx:aaa V2.heap.size V2 (V2.alloc (.cells #[.slice a1 M.length c1] 25)) :=(aab _ _).alloc (aah _) _;have hb2:=hb.trans (hbx.mono hb.size);replace dU:=ah (dU.out.below hb2);replace HXB:=ah (HXB.out.below hb2);have fO:=ah (Bx.new (c:=c1) hh);replace HB:=ah (HB.out.trans (hb2.mono HB.out.size));clear hj hh hb hbx hb2 t0 t1;go_upto_region 5 with fail;generalize V2.alloc (.cells #[.slice a1 M.length c1] 25)=W3 at*;generalize V2.heap.size=pS1 at*;have t0:=dU.out.cell;have t1:=HXB.out.cell;go_wp2_with fail;refine(N8 ca cb mM.out xZ.out dU.out.2 HXB.out.2 (HT.out.below HB.out)).mono ?_;rintro e V3⟨a2,c2,Cx,Mx,rfl,hj,hh,hb⟩;obtain⟨rfl,rfl⟩ :=HJM.out.uniq hj;have hbx:aaa V3.heap.size V3 (V3.alloc (.cells #[.slice a2 M.length c2] 25)) :=(aab _ _).alloc (aah _) _;have hb2:=hb.trans (hbx.mono hb.size);replace dU:=ah (dU.out.below hb2)
 replace HXB:=ah (HXB.out.below hb2);replace fO:=ah (fO.out.below hb2);have eY:=ah (Bx.new (c:=c2) hh);replace HB:=ah (HB.out.trans (hb2.mono HB.out.size));clear hj hh hb hbx hb2 t0 t1;go_upto_region 6 with fail;generalize V3.alloc (.cells #[.slice a2 M.length c2] 25)=W4 at*;generalize V3.heap.size=pI1 at*;have t0:=dU.out.cell;have t1:=HXB.out.cell;go_wp2_with fail;refine(OP ca cb mM.out xZ.out dU.out.2 HXB.out.2 (HT.out.below HB.out)).mono ?_;rintro e V4⟨a3,c3,C3,E,rfl,hj,hh,hb⟩;have HJE:=ah hj;have HLE:=ah (hj.low mM.out xZ.out);have hbx:aaa V4.heap.size V4 (V4.alloc (.cells #[.slice a3 E.length c3] 25)) :=(aab _ _).alloc (aah _) _;have hb2:=hb.trans (hbx.mono hb.size);replace dU:=ah (dU.out.below hb2);replace HXB:=ah (HXB.out.below hb2);replace fO:=ah (fO.out.below hb2);replace eY:=ah (eY.out.below hb2);have gK:=ah (Bx.new (c:=c3) hh)
 replace HB:=ah (HB.out.trans (hb2.mono HB.out.size));clear hj hh hb hbx hb2 t0 t1;go_upto_region 7 with fail;generalize V4.alloc (.cells #[.slice a3 E.length c3] 25)=W5 at*;generalize V4.heap.size=pI2 at*;have t0:=dU.out.cell;have t1:=HXB.out.cell;go_wp2_with fail;refine(abR hC ca cb mM.out xZ.out dU.out.2 HXB.out.2 (HT.out.below HB.out)).mono ?_;rintro e V5⟨a4,c4,Cx,Mx,rfl,hj,hh,hb⟩;obtain⟨rfl,rfl⟩ :=HJE.out.uniq hj;have hbx:aaa V5.heap.size V5 (V5.alloc (.cells #[.slice a4 E.length c4] 25)) :=(aab _ _).alloc (aah _) _;have hb2:=hb.trans (hbx.mono hb.size);replace dU:=ah (dU.out.below hb2);replace HXB:=ah (HXB.out.below hb2);replace fO:=ah (fO.out.below hb2);replace eY:=ah (eY.out.below hb2);replace gK:=ah (gK.out.below hb2);have iE:=ah (Bx.new (c:=c4) hh);replace HB:=ah (HB.out.trans (hb2.mono HB.out.size));clear hj hh hb hbx hb2 t0 t1
 go_upto_region 8 with fail;generalize V5.alloc (.cells #[.slice a4 E.length c4] 25)=W6 at*;generalize V5.heap.size=pS2 at*;have t0:=eY.out.cell;have t1:=fO.out.cell;go_wp2_with fail;refine(sU c2 c1 a2 a1 M _ HLM.out.aR HLM.out.len eY.out.2 fO.out.2).mono ?_;rintro e W7⟨rfl,hb⟩;replace dU:=ah (dU.out.below hb);replace HXB:=ah (HXB.out.below hb);replace fO:=ah (fO.out.below hb);replace eY:=ah (eY.out.below hb);replace gK:=ah (gK.out.below hb);replace iE:=ah (iE.out.below hb);replace HB:=ah (HB.out.trans (hb.mono HB.out.size));clear hb t0 t1;have t0:=gK.out.cell;have t1:=iE.out.cell;go_wp2_with fail;refine(sU c3 c4 a3 a4 E _ HLE.out.aR HLE.out.len gK.out.2 iE.out.2).mono ?_;rintro e W8⟨rfl,hb⟩;replace dU:=ah (dU.out.below hb);replace HXB:=ah (HXB.out.below hb);replace fO:=ah (fO.out.below hb);replace eY:=ah (eY.out.below hb);replace gK:=ah (gK.out.below hb)
 replace iE:=ah (iE.out.below hb);replace HB:=ah (HB.out.trans (hb.mono HB.out.size));clear hb t0 t1;go_upto_region 10 with fail;by_cases y1:C1=0;case neg=>
  have z1:(C1==0)=false:=by simpa using y1
  have z2:(C1 !=0)=true:=by simpa using y1
  have z3: ¬C1=0:=y1;have t0:=dU.out.cell;exact wC
 subst y1;by_cases y2:C3=0;case neg=>
  have z1:(C3==0)=false:=by simpa using y2
  have z2:(C3 !=0)=true:=by simpa using y2
  have z3: ¬C3=0:=y2;have t0:=dU.out.cell;exact wC
 subst y2;obtain⟨vA,vB,vM,rM,_⟩ :=HJM.out.good mM.out xZ.out;obtain⟨_,_,vE,rE,_⟩ :=HJE.out.good mM.out xZ.out;have jm:=ah vA;have nI:=ah vB;have HVM:=ah vM;have HVE:=ah vE;have HRM:=ah rM;have HRE:=ah rE;have Qs:A.length≤256:=vA.2.1;clear vA vB vM rM vE rE;have t0:=dU.out.cell;obtain⟨P,hP⟩ : ∃P,A.length*A.length=P:=⟨_,rfl⟩;have hPb:P≤65536:=by rw[←hP];exact aaA Qs Qs
 have HPe:=ah hP;have CB:(A.length:Int)*(A.length:Int)=(P:Int) :=by rw[←hP];exact(Int.natCast_mul _ _).symm
 have hPw:IntKind.i64.wrap ((A.length:Int)*(A.length:Int))=(P:Int) :=by rw[CB,aav];omega
 clear hP CB Qs;by_cases y3:1024<P;case pos=>
  have y3z:(P:Int)>1024:=by omega
  exact wC
 have y3z: ¬(P:Int)>1024:=by omega
 go_wp2_with fail;clear t0 y3z hPw;go_loopw [15](fun iv wr=>∃i:Nat,i≤4∧iv= .int .i64 (i:Int)∧aaa W8.heap.size W8 wr)(fun iv _=>4-(intOf iv).toNat);case atStart=>exact⟨0,by omega,rfl,aab _ _⟩
 case round=>
  obtain⟨i,hi,rfl,hb⟩ :=hrel;have oL:=ah hb;clear hb;by_cases hi4:i<4
  ·have ae6:(i:Int)<4:=by omega
   have hi5:IntKind.i64.wrap (50*(i:Int))=50*(i:Int) :=by rw[aav];omega
   obtain⟨c0,hc0,h0,XV⟩ : ∃c0:Int,IntKind.u8.wrap (50*(i:Int))=c0∧0≤c0∧c0≤255:=⟨_,rfl,by rw[aaK];omega,by rw[aaK];omega⟩;go_upto_region 15 with fail;go_cut [17](fun tv wy=>∃t:ByteArray,tv= .string t∧t.size≤100000∧aaa W8.heap.size W8 wy);case first=>
    cases EX with
    |none=>
     have hn0:n2=0:=by
      rcases aaF n2 with h|h;·exact h
      ·obtain⟨_,_,_,h1,_⟩ :=GK.out 0 h;cases h1
     subst hn0;have hcz:=Pn rfl;subst hcz;have hba:aaa wr.heap.size wr (wr.alloc (.cells #[.int .u8 c0] 5)) :=(aab _ _).alloc (aah _) _;have Jh:=ah (aar wr (.cells #[.int .u8 c0] 5));have yY:=ah (GK.out.below (HB.out.trans ((oL.out.trans (hba.mono oL.out.size)).mono HB.out.size)));have lq:=ah hba;clear hba;go_wp2_with(at_builtin;refine nH rfl _ _ rfl wr.heap.size c0 ⟨h0,XV⟩ rfl Jh.out none 0 _ rfl (fun j hj=>yY.out j (by omega)) (by omega) (by simp) ?_);intro g' cap' w5 Jn hb5;have rO:=ah Jn;have eX:=ah (oL.out.trans ((lq.out.trans hb5).mono oL.out.size));clear Jn hb5 Jh yY lq;go_wp2_with fail;refine(wz (some ⟨g',0,none⟩) (1+0) cap' w5 (by omega) rO.out).mono ?_;exact Xr
    |some ad=>
     by_cases ar6:(n2:Int)≤20
     ·have hcapz:(n2:Int)≤(cap2:Int) :=by omega
      have hmin:min (n2:Int) 20=(n2:Int) :=by omega
      have hba:aaa wr.heap.size wr (wr.alloc (.cells #[.int .u8 c0] 5)) :=(aab _ _).alloc (aah _) _;have Jh:=ah (aar wr (.cells #[.int .u8 c0] 5));have yY:=ah (GK.out.below (HB.out.trans ((oL.out.trans (hba.mono oL.out.size)).mono HB.out.size)));have lq:=ah hba;clear hba;go_wp2_with(at_builtin;refine nH rfl _ _ rfl wr.heap.size c0 ⟨h0,XV⟩ rfl Jh.out (some ad) n2 _ rfl (fun j hj=>yY.out j (by omega)) (by omega) (by simp) ?_);intro g' cap' w5 Jn hb5;have rO:=ah Jn;have eX:=ah (oL.out.trans ((lq.out.trans hb5).mono oL.out.size));clear Jn hb5 Jh yY lq;go_wp2_with fail;refine(wz (some ⟨g',0,none⟩) (1+n2) cap' w5 (by omega) rO.out).mono ?_;exact Xr
     ·have hcapz:(20:Int)≤(cap2:Int) :=by omega
      have hmin:min (n2:Int) 20=20:=by omega
      have hba:aaa wr.heap.size wr (wr.alloc (.cells #[.int .u8 c0] 5)) :=(aab _ _).alloc (aah _) _;have Jh:=ah (aar wr (.cells #[.int .u8 c0] 5));have yY:=ah (GK.out.below (HB.out.trans ((oL.out.trans (hba.mono oL.out.size)).mono HB.out.size)));have lq:=ah hba;clear hba;go_wp2_with(at_builtin;refine nH rfl _ _ rfl wr.heap.size c0 ⟨h0,XV⟩ rfl Jh.out (some ad) 20 _ rfl (fun j hj=>yY.out j (by omega)) (by omega) (by simp) ?_);intro g' cap' w5 Jn hb5;have rO:=ah Jn;have eX:=ah (oL.out.trans ((lq.out.trans hb5).mono oL.out.size));clear Jn hb5 Jh yY lq;go_wp2_with fail;refine(wz (some ⟨g',0,none⟩) (1+20) cap' w5 (by omega) rO.out).mono ?_;exact Xr
   case rest=>
    obtain⟨t,rfl,ht,hb⟩ :=hcut;have iq:=ah hb;clear hb hc0 hi5;have t0:=(dU.out.below iq.out).cell;go_wp2_with fail;refine(oo ca a A t _ (by omega) jm.out (dU.out.below iq.out).2 ((HT.out.below HB.out).below iq.out).1).mono ?_;rintro e U0⟨f0,rfl,hf0,hb⟩;have HF0:=ah hf0;replace iq:=ah (iq.out.trans (hb.mono iq.out.size));clear hb t0 hf0;have t0:=(HXB.out.below iq.out).cell;go_wp2_with fail;refine(oo cb b B t _ (by omega) nI.out (HXB.out.below iq.out).2 ((HT.out.below HB.out).below iq.out).1).mono ?_;rintro e U1⟨f1,rfl,hf1,hb⟩;have A7:=ah hf1;replace iq:=ah (iq.out.trans (hb.mono iq.out.size));clear hb t0 hf1;have t0:=(eY.out.below iq.out).cell;go_wp2_with fail;refine(oo c2 a2 M t _ (by omega) HVM.out (eY.out.below iq.out).2 ((HT.out.below HB.out).below iq.out).1).mono ?_;rintro e U2⟨f2,rfl,hf2,hb⟩;have HF2:=ah hf2;replace iq:=ah (iq.out.trans (hb.mono iq.out.size))
    clear hb t0 hf2;have t0:=(gK.out.below iq.out).cell;go_wp2_with fail;refine(oo c3 a3 E t _ (by omega) HVE.out (gK.out.below iq.out).2 ((HT.out.below HB.out).below iq.out).1).mono ?_;rintro e U3⟨f3,rfl,hf3,hb⟩;have iR:=ah hf3;replace iq:=ah (iq.out.trans (hb.mono iq.out.size));clear hb t0 hf3;by_cases hk:dG t=0;case neg=>
     have z1:(dG t==0)=false:=by simpa using hk
     have z2:(dG t !=0)=true:=by simpa using hk
     exact ac5
    have e0:=HF0.out hk;have e1:=A7.out hk;have e2:f2=(f0&&f1) :=by rw[HF2.out hk,e0,e1];exact congrFun HRM.out (runes t)
    have e3:f3=(f0 ||f1) :=by rw[iR.out hk,e0,e1];exact congrFun HRE.out (runes t)
    clear e0 e1 HF0 A7 HF2 iR;rw[hk,e2,e3];clear e2 e3;cases f0<;>cases f1;all_goals exact ac5
  ·have ae6: ¬(i:Int)<4:=by omega
   go_upto_region 22 with fail;skip;replace dU:=ah (dU.out.below oL.out);replace HXB:=ah (HXB.out.below oL.out);replace fO:=ah (fO.out.below oL.out);replace eY:=ah (eY.out.below oL.out);replace gK:=ah (gK.out.below oL.out);replace iE:=ah (iE.out.below oL.out);replace HB:=ah (HB.out.trans (oL.out.mono HB.out.size));clear oL ae6 hi4 HPe HVE HRE HRM;have t0:=dU.out.cell;go_wp2_with fail;refine(N8 ca ca mM.out mM.out dU.out.2 dU.out.2 (HT.out.below HB.out)).mono ?_;rintro e V8⟨a5,c5,C5,S,rfl,hj,hh,hb⟩;have HJS:=ah hj;have TM:=ah (hj.low mM.out mM.out);have hbx:aaa V8.heap.size V8 (V8.alloc (.cells #[.slice a5 S.length c5] 25)) :=(aab _ _).alloc (aah _) _;have hb2:=hb.trans (hbx.mono hb.size);replace dU:=ah (dU.out.below hb2);replace HXB:=ah (HXB.out.below hb2);replace fO:=ah (fO.out.below hb2);replace eY:=ah (eY.out.below hb2)
   replace gK:=ah (gK.out.below hb2);replace iE:=ah (iE.out.below hb2);have kU:=ah (Bx.new (c:=c5) hh);replace HB:=ah (HB.out.trans (hb2.mono HB.out.size));clear hj hh hb hbx hb2 t0;go_upto_region 23 with fail;generalize V8.alloc (.cells #[.slice a5 S.length c5] 25)=W9 at*;generalize V8.heap.size=pS3 at*;have t0:=dU.out.cell;go_wp2_with fail;refine(Db ca mM.out dU.out.2 (HT.out.below HB.out)).mono ?_;rintro e V9⟨a6,c6,C6,Cm,rfl,hj,hh,hb⟩;have Qc:=ah hj;have Pv:=ah (hj.low mM.out dI.all);have hbx:aaa V9.heap.size V9 (V9.alloc (.cells #[.slice a6 Cm.length c6] 25)) :=(aab _ _).alloc (aah _) _;have hb2:=hb.trans (hbx.mono hb.size);replace dU:=ah (dU.out.below hb2);replace HXB:=ah (HXB.out.below hb2);replace fO:=ah (fO.out.below hb2);replace eY:=ah (eY.out.below hb2);replace gK:=ah (gK.out.below hb2);replace iE:=ah (iE.out.below hb2)
   replace kU:=ah (kU.out.below hb2);have pM:=ah (Bx.new (c:=c6) hh);replace HB:=ah (HB.out.trans (hb2.mono HB.out.size));clear hj hh hb hbx hb2 t0;go_upto_region 24 with fail;generalize V9.alloc (.cells #[.slice a6 Cm.length c6] 25)=W10 at*;generalize V9.heap.size=pC at*;have t0:=pM.out.cell;go_wp2_with fail;refine(Db c6 Pv.out pM.out.2 (HT.out.below HB.out)).mono ?_;rintro e Ta⟨a7,c7,C7,Bk,rfl,hj,hh,hb⟩;have ant:=ah hj;have arl:=ah (hj.low Pv.out dI.all);have hbx:aaa Ta.heap.size Ta (Ta.alloc (.cells #[.slice a7 Bk.length c7] 25)) :=(aab _ _).alloc (aah _) _;have hb2:=hb.trans (hbx.mono hb.size);replace dU:=ah (dU.out.below hb2);replace HXB:=ah (HXB.out.below hb2);replace fO:=ah (fO.out.below hb2);replace eY:=ah (eY.out.below hb2);replace gK:=ah (gK.out.below hb2);replace iE:=ah (iE.out.below hb2);replace kU:=ah (kU.out.below hb2)
   replace pM:=ah (pM.out.below hb2);have uJ:=ah (Bx.new (c:=c7) hh);replace HB:=ah (HB.out.trans (hb2.mono HB.out.size));clear hj hh hb hbx hb2 t0;go_upto_region 25 with fail;generalize Ta.alloc (.cells #[.slice a7 Bk.length c7] 25)=W11 at*;generalize Ta.heap.size=pK at*;have t0:=dU.out.cell;go_wp2_with fail;refine(NM hC ca ca mM.out mM.out dU.out.2 dU.out.2 (HT.out.below HB.out)).mono ?_;rintro e T9⟨a8,c8,Cx,Mx,rfl,hj,hh,hb⟩;obtain⟨rfl,rfl⟩ :=HJS.out.uniq hj;have hbx:aaa T9.heap.size T9 (T9.alloc (.cells #[.slice a8 S.length c8] 25)) :=(aab _ _).alloc (aah _) _;have hb2:=hb.trans (hbx.mono hb.size);replace dU:=ah (dU.out.below hb2);replace HXB:=ah (HXB.out.below hb2);replace fO:=ah (fO.out.below hb2);replace eY:=ah (eY.out.below hb2);replace gK:=ah (gK.out.below hb2);replace iE:=ah (iE.out.below hb2);replace kU:=ah (kU.out.below hb2)
   replace pM:=ah (pM.out.below hb2);replace uJ:=ah (uJ.out.below hb2);have uB:=ah (Bx.new (c:=c8) hh);replace HB:=ah (HB.out.trans (hb2.mono HB.out.size));clear hj hh hb hbx hb2 t0;go_upto_region 26 with fail;generalize T9.alloc (.cells #[.slice a8 S.length c8] 25)=W12 at*;generalize T9.heap.size=pS4 at*;have t0:=dU.out.cell;go_wp2_with fail;refine(acm hC ca mM.out dU.out.2).mono ?_;rintro e Vo⟨a9,c9,Cx,Mx,rfl,hj,hh,hb⟩;obtain⟨rfl,rfl⟩ :=Qc.out.uniq hj;have hbx:aaa Vo.heap.size Vo (Vo.alloc (.cells #[.slice a9 Cm.length c9] 25)) :=(aab _ _).alloc (aah _) _;have hb2:=hb.trans (hbx.mono hb.size);replace dU:=ah (dU.out.below hb2);replace HXB:=ah (HXB.out.below hb2);replace fO:=ah (fO.out.below hb2);replace eY:=ah (eY.out.below hb2);replace gK:=ah (gK.out.below hb2);replace iE:=ah (iE.out.below hb2);replace kU:=ah (kU.out.below hb2)
   replace pM:=ah (pM.out.below hb2);replace uJ:=ah (uJ.out.below hb2);replace uB:=ah (uB.out.below hb2);have yh:=ah (Bx.new (c:=c9) hh);replace HB:=ah (HB.out.trans (hb2.mono HB.out.size));clear hj hh hb hbx hb2 t0;go_upto_region 27 with fail;generalize Vo.alloc (.cells #[.slice a9 Cm.length c9] 25)=W13 at*;generalize Vo.heap.size=pC2 at*;go_upto_region 29 with fail;by_cases y4:C5=0;case neg=>
    have z1:(C5==0)=false:=by simpa using y4
    have z2:(C5 !=0)=true:=by simpa using y4
    have z3: ¬C5=0:=y4;exact wC
   subst y4;by_cases y4:C6=0;case neg=>
    have z1:(C6==0)=false:=by simpa using y4
    have z2:(C6 !=0)=true:=by simpa using y4
    have z3: ¬C6=0:=y4;exact wC
   subst y4;by_cases y4:C7=0;case neg=>
    have z1:(C7==0)=false:=by simpa using y4
    have z2:(C7 !=0)=true:=by simpa using y4
    have z3: ¬C7=0:=y4;exact wC
   subst y4;obtain rfl:=RZ mM.out HJS.out Qc.out ant.out;have t0:=kU.out.cell;have t1:=uJ.out.cell;go_wp2_with fail;refine(sU c5 c7 a5 a7 S _ TM.out.aR TM.out.len kU.out.2 uJ.out.2).mono ?_;rintro e W14⟨rfl,hb⟩;replace dU:=ah (dU.out.below hb);replace HXB:=ah (HXB.out.below hb);replace fO:=ah (fO.out.below hb);replace eY:=ah (eY.out.below hb);replace gK:=ah (gK.out.below hb);replace iE:=ah (iE.out.below hb);replace kU:=ah (kU.out.below hb);replace pM:=ah (pM.out.below hb);replace uJ:=ah (uJ.out.below hb);replace uB:=ah (uB.out.below hb);replace yh:=ah (yh.out.below hb);replace HB:=ah (HB.out.trans (hb.mono HB.out.size));clear hb t0 t1;go_upto_region 33 with fail;have t0:=HXB.out.cell;go_wp2_with fail;refine(Db cb xZ.out HXB.out.2 (HT.out.below HB.out)).mono ?_;rintro e SK⟨a10,c10,C8,Ot,rfl,hj,hh,hb⟩;have adI:=ah hj;have aez:=ah (hj.low xZ.out dI.all)
   have hbx:aaa SK.heap.size SK (SK.alloc (.cells #[.slice a10 Ot.length c10] 25)) :=(aab _ _).alloc (aah _) _;have hb2:=hb.trans (hbx.mono hb.size);replace dU:=ah (dU.out.below hb2);replace HXB:=ah (HXB.out.below hb2);replace fO:=ah (fO.out.below hb2);replace eY:=ah (eY.out.below hb2);replace gK:=ah (gK.out.below hb2);replace iE:=ah (iE.out.below hb2);replace kU:=ah (kU.out.below hb2);replace pM:=ah (pM.out.below hb2);replace uJ:=ah (uJ.out.below hb2);replace uB:=ah (uB.out.below hb2);replace yh:=ah (yh.out.below hb2);have FN:=ah (Bx.new (c:=c10) hh);replace HB:=ah (HB.out.trans (hb2.mono HB.out.size));clear hj hh hb hbx hb2 t0;go_upto_region 34 with fail;generalize SK.alloc (.cells #[.slice a10 Ot.length c10] 25)=W15 at*;generalize SK.heap.size=pO at*;have t0:=eY.out.cell;go_wp2_with fail;refine(Db c2 HLM.out eY.out.2 (HT.out.below HB.out)).mono ?_
   rintro e UW⟨a11,c11,C9,One,rfl,hj,hh,hb⟩;have ajJ:=ah hj;have aaC:=ah (hj.low HLM.out dI.all);have hbx:aaa UW.heap.size UW (UW.alloc (.cells #[.slice a11 One.length c11] 25)) :=(aab _ _).alloc (aah _) _;have hb2:=hb.trans (hbx.mono hb.size);replace dU:=ah (dU.out.below hb2);replace HXB:=ah (HXB.out.below hb2);replace fO:=ah (fO.out.below hb2);replace eY:=ah (eY.out.below hb2);replace gK:=ah (gK.out.below hb2);replace iE:=ah (iE.out.below hb2);replace kU:=ah (kU.out.below hb2);replace pM:=ah (pM.out.below hb2);replace uJ:=ah (uJ.out.below hb2);replace uB:=ah (uB.out.below hb2);replace yh:=ah (yh.out.below hb2);replace FN:=ah (FN.out.below hb2);have Ny:=ah (Bx.new (c:=c11) hh);replace HB:=ah (HB.out.trans (hb2.mono HB.out.size));clear hj hh hb hbx hb2 t0;go_upto_region 35 with fail;generalize UW.alloc (.cells #[.slice a11 One.length c11] 25)=W16 at*
   generalize UW.heap.size=pN at*;by_cases y4:C8=0;case neg=>
    have z1:(C8==0)=false:=by simpa using y4
    have z2:(C8 !=0)=true:=by simpa using y4
    have z3: ¬C8=0:=y4;exact wC
   subst y4;by_cases y4:C9=0;case neg=>
    have z1:(C9==0)=false:=by simpa using y4
    have z2:(C9 !=0)=true:=by simpa using y4
    have z3: ¬C9=0:=y4;exact wC
   subst y4;have hl1:Cm.length≤256:=(Qc.out.good mM.out dI.all).2.2.1.2.1;have hl2:Ot.length≤256:=(adI.out.good xZ.out dI.all).2.2.1.2.1;obtain⟨P2,hP⟩ : ∃P2,Cm.length*Ot.length=P2:=⟨_,rfl⟩;have ar4:P2≤65536:=by rw[←hP];exact aaA hl1 hl2
   have HPe:=ah hP;have CB:(Cm.length:Int)*(Ot.length:Int)=(P2:Int) :=by rw[←hP];exact(Int.natCast_mul _ _).symm
   have hPw:IntKind.i64.wrap ((Cm.length:Int)*(Ot.length:Int))=(P2:Int) :=by rw[CB,aav];omega
   clear hP CB hl1 hl2;have t0:=pM.out.cell;have t1:=FN.out.cell;by_cases y5:1024<P2;case pos=>
    have y5z:(P2:Int)>1024:=by omega
    exact wC
   have y5z: ¬(P2:Int)>1024:=by omega
   go_upto_region 37 with fail;clear t0 t1 y5z hPw;have t0:=pM.out.cell;have t1:=FN.out.cell;go_wp2_with fail;refine(OP c6 c10 Pv.out aez.out pM.out.2 FN.out.2 (HT.out.below HB.out)).mono ?_;rintro e Vl⟨a12,c12,C10,Two,rfl,hj,hh,hb⟩;have ajN:=ah hj;have aq8:=ah (hj.low Pv.out aez.out);have hbx:aaa Vl.heap.size Vl (Vl.alloc (.cells #[.slice a12 Two.length c12] 25)) :=(aab _ _).alloc (aah _) _;have hb2:=hb.trans (hbx.mono hb.size);replace dU:=ah (dU.out.below hb2);replace HXB:=ah (HXB.out.below hb2);replace fO:=ah (fO.out.below hb2);replace eY:=ah (eY.out.below hb2);replace gK:=ah (gK.out.below hb2);replace iE:=ah (iE.out.below hb2);replace kU:=ah (kU.out.below hb2);replace pM:=ah (pM.out.below hb2);replace uJ:=ah (uJ.out.below hb2);replace uB:=ah (uB.out.below hb2);replace yh:=ah (yh.out.below hb2);replace FN:=ah (FN.out.below hb2)
   replace Ny:=ah (Ny.out.below hb2);have HXT:=ah (Bx.new (c:=c12) hh);replace HB:=ah (HB.out.trans (hb2.mono HB.out.size));clear hj hh hb hbx hb2 t0 t1;go_upto_region 38 with fail;generalize Vl.alloc (.cells #[.slice a12 Two.length c12] 25)=W17 at*;generalize Vl.heap.size=pT at*;obtain⟨rfl,rfl⟩ :=acu mM.out xZ.out HJM.out ajJ.out Qc.out adI.out (by rw[HPe.out];omega) ajN.out;have t0:=Ny.out.cell;have t1:=HXT.out.cell;go_wp2_with fail;refine(sU c11 c12 a11 a12 One _ aaC.out.aR aaC.out.len Ny.out.2 HXT.out.2).mono ?_;rintro e W18⟨rfl,hb⟩;replace dU:=ah (dU.out.below hb);replace HXB:=ah (HXB.out.below hb);replace fO:=ah (fO.out.below hb);replace eY:=ah (eY.out.below hb);replace gK:=ah (gK.out.below hb);replace iE:=ah (iE.out.below hb);replace kU:=ah (kU.out.below hb);replace pM:=ah (pM.out.below hb);replace uJ:=ah (uJ.out.below hb)
   replace uB:=ah (uB.out.below hb);replace yh:=ah (yh.out.below hb);replace FN:=ah (FN.out.below hb);replace Ny:=ah (Ny.out.below hb);replace HXT:=ah (HXT.out.below hb);replace HB:=ah (HB.out.trans (hb.mono HB.out.size));clear hb t0 t1;exact wC
end Go.Proofs.YtkbjimkngmlfcaaDoor
