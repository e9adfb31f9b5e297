import Derived.Test.YtcjiphknpagenaaGreatDoorDocsJ19
namespace Go.Proofs.YtcjiphknpagenaaGreatDoor
open Go Go.RowKit
set_option linter.unusedVariables false
set_option linter.unusedSimpArgs false
set_option maxRecDepth 100000
set_option maxHeartbeats 20000000
theorem Jr(y:List UInt8) :bQ true y=if(mZ y== [])=true then y else mZ y:=by rw[bQ];cases h:(mZ y== [])<;>simp
theorem yM(tx t':ByteArray)(p0 p1 p2:Int)(w:World) :Calls Tryz.prog 104 #[.agg #[.string tx,.int .i64 p0,.int .i64 p1,.int .i64 p2],.string t'] w fun e w'=>e= .returned (.agg #[.string t',.int .i64 p0,.int .i64 p1,.int .i64 p2])∧Below w.heap.size w w':=by have ax:Hid (Below w.heap.size w (w.alloc (.cells #[.string t',.int .i64 p0,.int .i64 p1,.int .i64 p2] 46))) :=(Below.refl _ _).alloc (Nat.le_refl _) _;go_enter Tryz.func104,Tryz.ntmps104;go_wp2_with fail;go_returns;exact⟨rfl,ax.out.alloc (by simp) _⟩
theorem I1(y:List UInt8)(w:World)(hs:y.length≤1048576)(hT:Tabs w) :Calls Tryz.prog 123 #[.string (bs y)] w fun e w'=>e= .returned (.string (bs (bQ true y)))∧Below w.heap.size w w':=by
 have HP:=aa (Jr y);go_enter Tryz.func123,Tryz.ntmps123;go_wp2_with fail;refine(Jl (bs y) _ (by rw[aK];exact hs) hT).mono ?_;rintro e w1⟨rfl,hb1⟩;rw[show jc (di (bs y))=mZ y from rfl];generalize mZ y=p at*;cases hp:(p== [])
 ·have he:(bs p).toList.isEmpty=false:=by rw[GI];exact hp
  have qN:Hid (bQ true y=p) :=by show _=_;rw[HP.out,hp];rfl
  go_wp2_with fail;go_ret;rw[qN.out];exact⟨rfl,hb1⟩
 ·have he:(bs p).toList.isEmpty=true:=by rw[GI];exact hp
  have qN:Hid (bQ true y=y) :=by show _=_;rw[HP.out,hp];rfl
  go_wp2_with fail;go_ret;rw[qN.out];exact⟨rfl,hb1⟩
theorem vK.step {wc W w':World} {X:Nat→Prop} {v:Value} {l:List Tk}(ho:vK wc X W v l)(hb:But X wc W)(hw:But (fun b=>v.ownBlock=some b) W w') :But X wc w':=hb.trans hw (fun _ _ h=>h) fun i hi h=>by
 rcases ho.2 i h with h'|h';·exact h'
 ·omega
def ES(N:Nat)(l:List Tk) :Prop:=l.length≤N∧∀k,k<l.length→(l.getD k bS).1.length≤1048576
theorem DW {wc:World} {X:Nat→Prop} {B:Nat}(h:FuncId)(T:List UInt8→List UInt8)(Q:List UInt8→Prop)(hB:wc.heap[B]?=some (.cells #[.func (.func h) #[] #[]] 120))(hX: ¬X B)(eg: ∀args w,(callFunc h args).run Tryz.prog w= .ok (.enter h args) w)(hC: ∀(W:World)(t:List UInt8),But X wc W→Q t→Calls Tryz.prog h #[.string (bs t)] W fun e w'=>e= .returned (.string (bs (T t)))∧Below W.heap.size W w') :vv 135 #[] #[.pointer (some ⟨B,0,none⟩)] wc X (fun l=>l.length≤1048576∧∀k,k<l.length→Q (l.getD k bS).1) (fun l=>(fK T l,0)) :=by
 intro W v l hb ho hP;have hBl:B<wc.heap.size:=(Array.getElem?_eq_some_iff.1 hB).1;refine(Js h T Q 0 B v l W ho.1 hP.1 hP.2 ((hb.block B hBl hX).trans hB) (fun e=> ?_) eg fun W' t hW hq=>hC W' t (ho.step hb hW) hq).mono ?_
 ·rcases ho.2 B e with h'|h';·exact hX h'
  ·omega
 ·rintro e w'⟨rfl,h1,h2⟩;exact⟨v,rfl,⟨h1,ho.2⟩,ho.step hb h2⟩
theorem WO {wc:World} {X:Nat→Prop} :vv 125 #[] #[] wc X (ES 1048576) (fun l=>(l.filter fun x=> !decide (64<x.1.length),0)) :=by intro W v l hb ho hP;have HD:=aa (yh 144 #[] (fun x=>decide (64<x.1.length)) 0 v l W ho.1 hP.1 hP.2 Tryz.call144 (fun W' x _ hx=>QK x W' hx));have HS:Hid (∀w',But (fun b=>v.ownBlock=some b) W w'→But X wc w') :=fun w' h=>ho.step hb h;have HO:=aa ho.2;clear ho hb hP;show Calls Tryz.prog 125 #[v] W _;go_enter Tryz.func125,Tryz.ntmps125;go_wp2_with fail;refine HD.out.mono ?_;rintro e w1⟨v1,rfl,h1,h2,h3⟩;go_wp2_with fail;go_ret2;exact⟨_,rfl,⟨h1,fun b e=>HO.out b (h2▸e)⟩,HS.out _ h3⟩
theorem VP {wc:World} {X:Nat→Prop}(fo st ph:Bool)(aS:Option Addr)(cS:Nat)(vY:Value)(lo hi:Int)(stops:List (List UInt8))(hn:stops.length≤1048576)(hS:bE wc aS stops)(hX:stops= []∨∀b off,aS=some ⟨b,off,none⟩→¬X b) :vv 120 #[.agg #[.bool fo,.bool st,.bool ph,.slice aS stops.length cS,vY,.int .i64 lo,.int .i64 hi]] #[] wc X (ES 1048576) (fun l=>(l.filter fun x=> !iR stops x.1,0)) :=by
 intro W v l hb ho hP;have hbx:=heap_alloc_new W (.cells #[.bool fo,.bool st,.bool ph,.slice aS stops.length cS,vY,.int .i64 lo,.int .i64 hi] 73);have hb1:Below W.heap.size W (W.alloc (.cells #[.bool fo,.bool st,.bool ph,.slice aS stops.length cS,vY,.int .i64 lo,.int .i64 hi] 73)) :=(Below.refl _ _).alloc (Nat.le_refl _) _;have hvl: ∀b,v.ownBlock=some b→b<W.heap.size:=fun b e=>by
  rcases jd ho.1 with⟨rfl,_⟩| ⟨g,c,rfl,_,h⟩;·cases e
  ·cases e;exact h
 have hold: ∀W',But (fun b=>v.ownBlock=some b) (W.alloc (.cells #[.bool fo,.bool st,.bool ph,.slice aS stops.length cS,vY,.int .i64 lo,.int .i64 hi] 73)) W'→bE W' aS stops:=fun W' hW=>by
  rcases hX with h0|hX;·exact Or.inl h0
  rcases hS with h0| ⟨b',off',h1,h2,h3⟩;·exact Or.inl h0
  ·exact bE.but (bE.but (Or.inr ⟨b',off',h1,h2,h3⟩) hb hX) ((But.of_below hb1).trans hW (Z:=fun b=>v.ownBlock=some b) (fun _ _ h=>h) (fun _ _ h=>h)) fun b off e hv=>by
    rcases ho.2 b hv with h'|h';·exact hX b off e h'
    ·rw[e]at h1;cases h1;omega
 have HD:=aa (yh 137 #[.pointer (some ⟨W.heap.size,0,none⟩)] (fun x=>iR stops x.1) 0 v l _ (bJ ho.1 hb1) hP.1 hP.2 Tryz.call137 (fun W' x hW hx=>PT fo st ph aS cS vY lo hi stops W.heap.size x W' hn (hold W' hW) ((hW.block _ (by simp) fun e=>by have:=hvl _ e;omega).trans hbx)));have HS:Hid (∀w',But (fun b=>v.ownBlock=some b) (W.alloc (.cells #[.bool fo,.bool st,.bool ph,.slice aS stops.length cS,vY,.int .i64 lo,.int .i64 hi] 73)) w'→But X wc w') :=fun w' h=>ho.step hb ((But.of_below hb1).trans h (fun _ _ h=>h) (fun _ _ h=>h));have HO:=aa ho.2;clear ho hb hP hbx hb1 hold;show Calls Tryz.prog 120 #[.agg #[.bool fo,.bool st,.bool ph,.slice aS stops.length cS,vY,.int .i64 lo,.int .i64 hi],v] W _;go_enter Tryz.func120,Tryz.ntmps120;go_wp2_with fail;refine HD.out.mono ?_;rintro e w1⟨v1,rfl,h1,h2,h3⟩;go_wp2_with fail;go_ret2;exact⟨_,rfl,⟨h1,fun b e=>HO.out b (h2▸e)⟩,HS.out _ h3⟩
theorem lJ(stops:List (List UInt8))(af:List (List UInt8×List UInt8))(lo hi:Int)(h:64<stops.length∨64<af.length∨qf stops=false∨qg af=false) :mq stops af lo hi=false:=by
 unfold mq;rcases h with h|h|h|h;·rw[decide_eq_false (p:=stops.length≤64) (by omega)];simp
 ·rw[decide_eq_false (p:=af.length≤64) (by omega)];simp
 ·rw[h];simp
 ·rw[h];simp
theorem Kz(stops:List (List UInt8))(af:List (List UInt8×List UInt8))(lo hi:Int)(h1:stops.length≤64)(h2:af.length≤64)(h3:qf stops=true)(h4:qg af=true) :mq stops af lo hi=uC lo hi:=by unfold mq;rw[decide_eq_true h1,decide_eq_true h2,h3,h4];simp
theorem Ii(a b:List UInt8) :((bs a).toList==(bs b).toList)=(a==b) :=by rw[Lib.toList_data,Lib.toList_data,show(bs a).data.toList=a from bH a,show(bs b).data.toList=b from bH b]
theorem mW {w:World} {b:Nat} {cs:Array Value} {t:TypeId}(h:w.heap[b]?=some (.cells cs t))(k:Nat) :w.cell? ⟨b,k,none⟩=cs[k]?:=by simp[World.cell?,h]
theorem vU(bf bA bp:Bool)(aS aY:Option Addr)(cS cY:Nat)(stops:List (List UInt8))(af:List (List UInt8×List UInt8))(lo hi:Int)(w:World)(hT:Tabs w)(hS:bE w aS stops)(hY:dB w aY af)(zS:Mv stops)(zY:Kc af)(FK:stops.length≤1048576)(Al:af.length≤1048576) :Calls Tryz.prog 70 #[.agg #[.bool bf,.bool bA,.bool bp,.slice aS stops.length cS,.slice aY af.length cY,.int .i64 lo,.int .i64 hi]] w fun e w'=>e= .returned (.bool (mq stops af lo hi))∧Below w.heap.size w w':=by
 have HT:=aa hT;have HS:=aa hS;have HY:=aa hY;have ZS:=aa zS;have ZY:=aa zY;clear hT hS hY zS zY;by_cases hbS:64<stops.length
 ·have hz:(64:Int)<(stops.length:Int) :=by omega
  have HR:=aa (lJ stops af lo hi (Or.inl hbS));go_enter Tryz.func70,Tryz.ntmps70;go_wp2_with fail;go_ret;rw[HR.out];exact⟨rfl,(Below.refl _ _).alloc (Nat.le_refl _) _⟩
 have afD:decide ((64:Int)<(stops.length:Int))=false:=decide_eq_false (by omega);by_cases hbY:64<af.length
 ·have hz:(64:Int)<(af.length:Int) :=by omega
  have HR:=aa (lJ stops af lo hi (Or.inr (Or.inl hbY)));go_enter Tryz.func70,Tryz.ntmps70;go_wp2_with fail;go_ret;rw[HR.out];exact⟨rfl,(Below.refl _ _).alloc (Nat.le_refl _) _⟩
 have afp:decide ((64:Int)<(af.length:Int))=false:=decide_eq_false (by omega);go_enter Tryz.func70,Tryz.ntmps70;go_wp2_with fail;have ax:Hid (Below w.heap.size w (w.alloc (.cells #[.bool bf,.bool bA,.bool bp,.slice aS stops.length cS,.slice aY af.length cY,.int .i64 lo,.int .i64 hi] 73))) :=(Below.refl _ _).alloc (Nat.le_refl _) _;have hblk:(w.alloc (.cells #[.bool bf,.bool bA,.bool bp,.slice aS stops.length cS,.slice aY af.length cY,.int .i64 lo,.int .i64 hi] 73)).heap[w.heap.size]?=some (.cells #[.bool bf,.bool bA,.bool bp,.slice aS stops.length cS,.slice aY af.length cY,.int .i64 lo,.int .i64 hi] 73) :=heap_alloc_new _ _;have hBlt:w.heap.size<(w.alloc (.cells #[.bool bf,.bool bA,.bool bp,.slice aS stops.length cS,.slice aY af.length cY,.int .i64 lo,.int .i64 hi] 73)).heap.size:=by simp
 have yw:=aa (HS.out.below ax.out);have uB:=aa (HY.out.below ax.out);have zW:=aa (HT.out.below ax.out);generalize w.alloc (.cells #[.bool bf,.bool bA,.bool bp,.slice aS stops.length cS,.slice aY af.length cY,.int .i64 lo,.int .i64 hi] 73)=wa at*;generalize hB:w.heap.size=B at*;have fe:=aa hblk;clear hblk HS HY HT;go_loopw [20](fun i wr=>∃k:Nat,k≤stops.length∧i= .int .i64 k∧qf (stops.take k)=true∧Below wa.heap.size wa wr)(fun i _=>stops.length-(intOf i).toNat);case atStart=>exact⟨0,by omega,rfl,rfl,Below.refl _ _⟩
 case round=>
  obtain⟨k,hk,rfl,hall,hbr⟩ :=hrel;have HK:=aa hall;have bg:=aa hbr;clear hall hbr;by_cases hlt:k<stops.length
  ·have hform: ∃b off,aS=some ⟨b,off,none⟩∧b<wa.heap.size∧∀t,t<stops.length→wa.cell? ⟨b,off+t,none⟩=some (.string (bs (stops.getD t []))) :=yw.out.resolve_left (fun h=>by rw[h]at hlt;simp at hlt);obtain⟨b,off,rfl,hb,hc⟩ :=hform;have g1:=(bg.out.cell (p:=⟨b,off+k,none⟩) hb).trans (hc k hlt);have hsz:=ZS.out k hlt;have AY:=aa (GV stops k hlt);have tO:Hid (lu (stops.getD k [])=false→qf stops=false) :=NH hlt;clear hc;generalize stops.getD k []=t at*;go_wp2_with fail;refine(pQ t _ hsz (zW.out.below bg.out)).mono ?_;rintro e w2⟨rfl,hb2⟩;have HB2:=aa (bg.out.trans (hb2.mono bg.out.size));clear hb2 g1;cases ht:lu t;·have HR:=aa (lJ stops af lo hi (Or.inr (Or.inr (Or.inl (tO.out ht)))));clear ht;go_wp2_with fail;go_ret;rw[HR.out,hB];exact⟨rfl,ax.out.trans (HB2.out.mono (by omega))⟩
   ·have Bn:Hid (qf (stops.take (k+1))=true) :=by show _=_;rw[AY.out,HK.out,ht];rfl
    clear ht;go_wp2_with fail;go_roundw;case rel=>exact⟨k+1,by omega,by go_num,Bn.out,HB2.out⟩
    case measure=>simp[intOf];omega
  ·have HKf:Hid (qf stops=true) :=by have h:=HK.out;rw[yK stops k hlt]at h;exact h
   have qz:Hid (wr.heap[B]?=_) :=(bg.out.block B hBlt).trans fe.out;have q4:wr.cell? ⟨B,4,none⟩=some (.slice aY af.length cY) :=mW qz.out 4;go_wp2_with fail;clear HK q4;go_loopw [31](fun i wx=>∃k:Nat,k≤af.length∧i= .int .i64 k∧qg (af.take k)=true∧Below wa.heap.size wa wx)(fun i _=>af.length-(intOf i).toNat);case atStart=>exact⟨0,by omega,rfl,rfl,bg.out⟩
   case round=>
    clear bg qz;obtain⟨k2,hk2,rfl,hall,hbr⟩ :=hrel;have HK:=aa hall;have bg:=aa hbr;clear hall hbr;by_cases hlt2:k2<af.length
    ·have hform: ∃b off,aY=some ⟨b,off,none⟩∧b<wa.heap.size∧∀t,t<af.length→wa.cell? ⟨b,off+t*2,none⟩=some (.string (bs (af.getD t ([],[])).1))∧wa.cell? ⟨b,off+t*2+1,none⟩=some (.string (bs (af.getD t ([],[])).2)) :=uB.out.resolve_left (fun h=>by rw[h]at hlt2;simp at hlt2);obtain⟨b,off,rfl,hb,hc⟩ :=hform;have g1:=(bg.out.cell (p:=⟨b,off+k2*2,none⟩) hb).trans (hc k2 hlt2).1;have g2:=(bg.out.cell (p:=⟨b,off+k2*2+1,none⟩) hb).trans (hc k2 hlt2).2;have hsz:=ZY.out k2 hlt2;have AY:=aa (Iu af k2 hlt2);have tO:Hid (CX (af.getD k2 ([],[]))=false→qg af=false) :=Oa hlt2;clear hc;have Ev:Hid (CX (af.getD k2 ([],[]))=(lu (af.getD k2 ([],[])).1&&lu (af.getD k2 ([],[])).2&& !((af.getD k2 ([],[])).1==(af.getD k2 ([],[])).2))) :=rfl;generalize CX (af.getD k2 ([],[]))=Y at*;generalize(af.getD k2 ([],[])).1=F at*;generalize(af.getD k2 ([],[])).2=T at*
     have Fx:=aa (Ii F T);obtain⟨hs1,hs2⟩ :=hsz;go_wp2_with fail;have HB3:Hid (Below wa.heap.size wa (wr.alloc (.cells #[.string (bs F),.string (bs T)] 114))) :=bg.out.alloc bg.out.size _;have Hbk:Hid ((wr.alloc (.cells #[.string (bs F),.string (bs T)] 114)).heap[wr.heap.size]?=some (.cells #[.string (bs F),.string (bs T)] 114)) :=heap_alloc_new _ _;have hl3:wr.heap.size<(wr.alloc (.cells #[.string (bs F),.string (bs T)] 114)).heap.size:=by simp
     generalize wr.alloc (.cells #[.string (bs F),.string (bs T)] 114)=w3 at*;generalize wr.heap.size=X at*;clear g1 g2 bg;refine(pQ F _ hs1 (zW.out.below HB3.out)).mono ?_;rintro e w4⟨rfl,hb4⟩;have bU:=aa (HB3.out.trans (hb4.mono HB3.out.size));have QS:Hid (w4.heap[X]?=_) :=(hb4.block X hl3).trans Hbk.out;have hl4:X<w4.heap.size:=Nat.lt_of_lt_of_le hl3 hb4.size;have q0:w4.cell? ⟨X,0,none⟩=some (.string (bs F)) :=mW QS.out 0;have q1:w4.cell? ⟨X,1,none⟩=some (.string (bs T)) :=mW QS.out 1;clear hb4 HB3 Hbk hl3;cases h1:lu F;·have HR:=aa (lJ stops af lo hi (Or.inr (Or.inr (Or.inr (tO.out (by rw[Ev.out,h1];rfl))))));clear h1;go_wp2_with fail;go_ret;rw[HR.out,hB];exact⟨rfl,ax.out.trans (bU.out.mono (by omega))⟩
     ·go_wp2_with fail;refine(pQ T _ hs2 (zW.out.below bU.out)).mono ?_;rintro e w5⟨rfl,hb5⟩;have eG:=aa (bU.out.trans (hb5.mono bU.out.size));have abp:Hid (w5.heap[X]?=_) :=(hb5.block X hl4).trans QS.out;have r0:w5.cell? ⟨X,0,none⟩=some (.string (bs F)) :=mW abp.out 0;have r1:w5.cell? ⟨X,1,none⟩=some (.string (bs T)) :=mW abp.out 1;clear hb5 q0 q1 bU QS hl4;cases h2:lu T;·have HR:=aa (lJ stops af lo hi (Or.inr (Or.inr (Or.inr (tO.out (by rw[Ev.out,h1,h2];rfl))))));clear h1 h2;go_wp2_with fail;go_ret;rw[HR.out,hB];exact⟨rfl,ax.out.trans (eG.out.mono (by omega))⟩
      ·cases h3:(F==T)
       ·have Bn:Hid (qg (af.take (k2+1))=true) :=by show _=_;rw[AY.out,HK.out,Ev.out,h1,h2,h3];rfl
        have heq:((bs F).toList==(bs T).toList)=false:=by rw[Fx.out];exact h3
        clear h1 h2 h3 Fx;go_wp2_with fail;go_roundw;case rel=>exact⟨k2+1,by omega,by go_num,Bn.out,eG.out⟩
        case measure=>simp[intOf];omega
       ·have HR:=aa (lJ stops af lo hi (Or.inr (Or.inr (Or.inr (tO.out (by rw[Ev.out,h1,h2,h3];rfl))))));have heq:((bs F).toList==(bs T).toList)=true:=by rw[Fx.out];exact h3
        clear h1 h2 h3 Fx;go_wp2_with fail;go_ret;rw[HR.out,hB];exact⟨rfl,ax.out.trans (eG.out.mono (by omega))⟩
    ·have HYf:Hid (qg af=true) :=by have h:=HK.out;rw[yK af k2 hlt2]at h;exact h
     have HA:=aa (Kz stops af lo hi (by omega) (by omega) HKf.out HYf.out);have qz:Hid (wr.heap[B]?=_) :=(bg.out.block B hBlt).trans fe.out;have q5:wr.cell? ⟨B,5,none⟩=some (.int .i64 lo) :=mW qz.out 5;have q6:wr.cell? ⟨B,6,none⟩=some (.int .i64 hi) :=mW qz.out 6;by_cases h0:lo=0
     ·subst h0;by_cases h1:hi=0
      ·subst h1;have HR:Hid (uC 0 0=true) :=by show _=_;decide
       go_wp2_with fail;go_ret;rw[HA.out,HR.out,hB];exact⟨rfl,ax.out.trans (bg.out.mono (by omega))⟩
      ·have h1b:(hi==0)=false:=beq_eq_false_iff_ne.2 h1;have HR:Hid (uC 0 hi=rF 0 hi) :=by show _=_;rw[uC,decide_eq_false h1];simp
       go_wp2_with fail;refine(qE _ _ _).mono ?_;rintro e w'⟨rfl,hw⟩;obtain rfl:=hw.symm;clear hw;go_wp2_with fail;go_ret;rw[HA.out,HR.out,hB];exact⟨rfl,ax.out.trans (bg.out.mono (by omega))⟩
     ·have h0b:(lo==0)=false:=beq_eq_false_iff_ne.2 h0;have HR:Hid (uC lo hi=rF lo hi) :=by show _=_;rw[uC,decide_eq_false h0];simp
      go_wp2_with fail;refine(qE _ _ _).mono ?_;rintro e w'⟨rfl,hw⟩;obtain rfl:=hw.symm;clear hw;go_wp2_with fail;go_ret;rw[HA.out,HR.out,hB];exact⟨rfl,ax.out.trans (bg.out.mono (by omega))⟩
theorem Cw(bf bA bp:Bool)(aS aY:Option Addr)(cS cY:Nat)(stops:List (List UInt8))(af:List (List UInt8×List UInt8))(lo hi:Int)(w:World)(hS:bE w aS stops)(hY:dB w aY af)(zS:Mv stops)(zY:Kc af)(FK:stops.length≤1048576)(Al:af.length≤1048576) :Calls Tryz.prog 52 #[.agg #[.bool bf,.bool bA,.bool bp,.slice aS stops.length cS,.slice aY af.length cY,.int .i64 lo,.int .i64 hi]] w fun e w'=>e= .returned (.bool (mq stops af lo hi))∧Below w.heap.size w w':=by
 have HS:=aa hS;have HY:=aa hY;have ZS:=aa zS;have ZY:=aa zY;clear hS hY zS zY;by_cases hbS:64<stops.length
 ·have hz:(64:Int)<(stops.length:Int) :=by omega
  have HR:=aa (lJ stops af lo hi (Or.inl hbS));go_enter Tryz.func52,Tryz.ntmps52;go_wp2_with fail;go_ret;rw[HR.out];exact⟨rfl,(Below.refl _ _).alloc (Nat.le_refl _) _⟩
 have afD:decide ((64:Int)<(stops.length:Int))=false:=decide_eq_false (by omega);by_cases hbY:64<af.length
 ·have hz:(64:Int)<(af.length:Int) :=by omega
  have HR:=aa (lJ stops af lo hi (Or.inr (Or.inl hbY)));go_enter Tryz.func52,Tryz.ntmps52;go_wp2_with fail;go_ret;rw[HR.out];exact⟨rfl,(Below.refl _ _).alloc (Nat.le_refl _) _⟩
 have afp:decide ((64:Int)<(af.length:Int))=false:=decide_eq_false (by omega);go_enter Tryz.func52,Tryz.ntmps52;go_wp2_with fail;have ax:Hid (Below w.heap.size w (w.alloc (.cells #[.bool bf,.bool bA,.bool bp,.slice aS stops.length cS,.slice aY af.length cY,.int .i64 lo,.int .i64 hi] 73))) :=(Below.refl _ _).alloc (Nat.le_refl _) _;have hblk:(w.alloc (.cells #[.bool bf,.bool bA,.bool bp,.slice aS stops.length cS,.slice aY af.length cY,.int .i64 lo,.int .i64 hi] 73)).heap[w.heap.size]?=some (.cells #[.bool bf,.bool bA,.bool bp,.slice aS stops.length cS,.slice aY af.length cY,.int .i64 lo,.int .i64 hi] 73) :=heap_alloc_new _ _;have hBlt:w.heap.size<(w.alloc (.cells #[.bool bf,.bool bA,.bool bp,.slice aS stops.length cS,.slice aY af.length cY,.int .i64 lo,.int .i64 hi] 73)).heap.size:=by simp
 have yw:=aa (HS.out.below ax.out);have uB:=aa (HY.out.below ax.out);generalize w.alloc (.cells #[.bool bf,.bool bA,.bool bp,.slice aS stops.length cS,.slice aY af.length cY,.int .i64 lo,.int .i64 hi] 73)=wa at*;generalize hB:w.heap.size=B at*;have fe:=aa hblk;clear hblk HS HY;go_loopw [3](fun i wr=>∃k:Nat,k≤stops.length∧i= .int .i64 k∧qf (stops.take k)=true∧Below wa.heap.size wa wr)(fun i _=>stops.length-(intOf i).toNat);case atStart=>exact⟨0,by omega,rfl,rfl,Below.refl _ _⟩
 case round=>
  obtain⟨k,hk,rfl,hall,hbr⟩ :=hrel;have HK:=aa hall;have bg:=aa hbr;have qz:Hid (wr.heap[B]?=_) :=(hbr.block B hBlt).trans fe.out;have q3:wr.cell? ⟨B,3,none⟩=some (.slice aS stops.length cS) :=mW qz.out 3;clear hall hbr;by_cases hlt:k<stops.length
  ·have hform: ∃b off,aS=some ⟨b,off,none⟩∧b<wa.heap.size∧∀t,t<stops.length→wa.cell? ⟨b,off+t,none⟩=some (.string (bs (stops.getD t []))) :=yw.out.resolve_left (fun h=>by rw[h]at hlt;simp at hlt);obtain⟨b,off,rfl,hb,hc⟩ :=hform;have g1:=(bg.out.cell (p:=⟨b,off+k,none⟩) hb).trans (hc k hlt);have hsz:=ZS.out k hlt;have AY:=aa (GV stops k hlt);have tO:Hid (lu (stops.getD k [])=false→qf stops=false) :=NH hlt;clear hc;generalize stops.getD k []=t at*;go_wp2_with fail;refine(mV t _ hsz).mono ?_;rintro e w2⟨rfl,hb2⟩;have HB2:=aa (bg.out.trans (hb2.mono bg.out.size));clear hb2 g1;cases ht:lu t;·have HR:=aa (lJ stops af lo hi (Or.inr (Or.inr (Or.inl (tO.out ht)))));clear ht;go_wp2_with fail;go_ret;rw[HR.out,hB];exact⟨rfl,ax.out.trans (HB2.out.mono (by omega))⟩
   ·have Bn:Hid (qf (stops.take (k+1))=true) :=by show _=_;rw[AY.out,HK.out,ht];rfl
    clear ht;go_wp2_with fail;go_roundw;case rel=>exact⟨k+1,by omega,by go_num,Bn.out,HB2.out⟩
    case measure=>simp[intOf];omega
  ·have HKf:Hid (qf stops=true) :=by have h:=HK.out;rw[yK stops k hlt]at h;exact h
   go_wp2_with fail;clear HK q3;go_loopw [4](fun i wx=>∃k:Nat,k≤af.length∧i= .int .i64 k∧qg (af.take k)=true∧Below wa.heap.size wa wx)(fun i _=>af.length-(intOf i).toNat);case atStart=>exact⟨0,by omega,rfl,rfl,bg.out⟩
   case round=>
    clear bg qz;obtain⟨k2,hk2,rfl,hall,hbr⟩ :=hrel;have HK:=aa hall;have bg:=aa hbr;have qz:Hid (wr.heap[B]?=_) :=(hbr.block B hBlt).trans fe.out;have q4:wr.cell? ⟨B,4,none⟩=some (.slice aY af.length cY) :=mW qz.out 4;have hBr:B<wr.heap.size:=Nat.lt_of_lt_of_le hBlt hbr.size;have sG:wa.heap.size≤wr.heap.size:=hbr.size;clear hall hbr;by_cases hlt2:k2<af.length
    ·have hform: ∃b off,aY=some ⟨b,off,none⟩∧b<wa.heap.size∧∀t,t<af.length→wa.cell? ⟨b,off+t*2,none⟩=some (.string (bs (af.getD t ([],[])).1))∧wa.cell? ⟨b,off+t*2+1,none⟩=some (.string (bs (af.getD t ([],[])).2)) :=uB.out.resolve_left (fun h=>by rw[h]at hlt2;simp at hlt2);obtain⟨b,off,rfl,hb,hc⟩ :=hform;have g1:=(bg.out.cell (p:=⟨b,off+k2*2,none⟩) hb).trans (hc k2 hlt2).1;have g2:=(bg.out.cell (p:=⟨b,off+k2*2+1,none⟩) hb).trans (hc k2 hlt2).2;have hsz:=ZY.out k2 hlt2;have AY:=aa (Iu af k2 hlt2);have tO:Hid (CX (af.getD k2 ([],[]))=false→qg af=false) :=Oa hlt2;clear hc;have Ev:Hid (CX (af.getD k2 ([],[]))=(lu (af.getD k2 ([],[])).1&&lu (af.getD k2 ([],[])).2&& !((af.getD k2 ([],[])).1==(af.getD k2 ([],[])).2))) :=rfl;generalize CX (af.getD k2 ([],[]))=Y at*;generalize(af.getD k2 ([],[])).1=F at*;generalize(af.getD k2 ([],[])).2=T at*
     have Fx:=aa (Ii F T);obtain⟨hs1,hs2⟩ :=hsz;have mQ:b<wr.heap.size:=Nat.lt_of_lt_of_le hb sG;cases h1:lu F
     ·have HR:=aa (lJ stops af lo hi (Or.inr (Or.inr (Or.inr (tO.out (by rw[Ev.out,h1];rfl))))));have hc1:Hid (∀wx:World,Calls Tryz.prog 77 #[.string (bs F)] wx fun e w'=>e= .returned (.bool false)∧Below wx.heap.size wx w') :=fun wx=>by have:=mV F wx hs1;rwa [h1]at this
      clear h1;go_wp2_with fail;refine wp_region_held_drew (S:=(fun w'=>w'.cell? ⟨B,4,none⟩=some (.slice (some ⟨b,off,none⟩) af.length cY)∧w'.cell? ⟨b,off+k2*2,none⟩=some (.string (bs F))∧w'.cell? ⟨b,off+k2*2+1,none⟩=some (.string (bs T)))) (by kernel_rfl) ?_ (fun hHeld=> ?_);·exact⟨q4,g1,g2⟩
      refine tx 0 ?_;refine tx 1 ?_;refine tx 2 ?_;refine tx 3 ?_;refine tx 4 ?_;refine tx 5 ?_;refine wpAnyH_ready (rs:=[6]) (by kernel_rfl) (by simp) ?_;refine AllReadyH.cons rfl (fun K hK=> ?_) AllReadyH.nil;go_simp;refine(hc1.out _).mono ?_;rintro e' w9⟨rfl,dm⟩;go_wp2_with fail;refine hK.out _ _ ?_ (fun ig=> ?_);·exact⟨(dm.cell (p:=⟨B,4,none⟩) hBr).trans q4,(dm.cell (p:=⟨b,off+k2*2,none⟩) mQ).trans g1,(dm.cell (p:=⟨b,off+k2*2+1,none⟩) mQ).trans g2⟩
      clear hK K;try refine tn ?_
      refine tx 7 ?_;refine tx 8 ?_;refine ty 9 ?_;refine ty 10 ?_;refine ty 11 ?_;refine ty 12 ?_;refine ty 13 ?_;refine ty 14 ?_;refine ty 15 ?_;refine ty 16 ?_;refine tx 17 ?_;refine tx 18 ?_;refine ty 19 ?_;refine ty 20 ?_;refine ty 21 ?_;refine ty 22 ?_;refine ty 23 ?_;refine ty 24 ?_;refine ty 25 ?_;refine ty 26 ?_;refine ty 27 ?_;refine ty 28 ?_;refine ty 29 ?_;refine ty 30 ?_;refine ty 31 ?_;refine tx 32 ?_;refine wpAnyH_done (by kernel_rfl) ?_ _;clear hHeld ig;have gY:Hid (Below wa.heap.size wa w9) :=bg.out.drew.trans (dm.mono sG);go_wp2_with fail;go_ret;rw[HR.out,hB];exact⟨rfl,ax.out.trans (gY.out.mono (by omega))⟩
     ·have hc1:Hid (∀wx:World,Calls Tryz.prog 77 #[.string (bs F)] wx fun e w'=>e= .returned (.bool true)∧Below wx.heap.size wx w') :=fun wx=>by have:=mV F wx hs1;rwa [h1]at this
      cases h2:lu T
      ·have HR:=aa (lJ stops af lo hi (Or.inr (Or.inr (Or.inr (tO.out (by rw[Ev.out,h1,h2];rfl))))));have hc2:Hid (∀wx:World,Calls Tryz.prog 77 #[.string (bs T)] wx fun e w'=>e= .returned (.bool false)∧Below wx.heap.size wx w') :=fun wx=>by have:=mV T wx hs2;rwa [h2]at this
       clear h1 h2;go_wp2_with fail;refine wp_region_held_drew (S:=(fun w'=>w'.cell? ⟨B,4,none⟩=some (.slice (some ⟨b,off,none⟩) af.length cY)∧w'.cell? ⟨b,off+k2*2,none⟩=some (.string (bs F))∧w'.cell? ⟨b,off+k2*2+1,none⟩=some (.string (bs T)))) (by kernel_rfl) ?_ (fun hHeld=> ?_);·exact⟨q4,g1,g2⟩
       refine tx 0 ?_;refine tx 1 ?_;refine tx 2 ?_;refine tx 3 ?_;refine tx 4 ?_;refine tx 5 ?_;refine wpAnyH_ready (rs:=[6]) (by kernel_rfl) (by simp) ?_;refine AllReadyH.cons rfl (fun K hK=> ?_) AllReadyH.nil;go_simp;refine(hc1.out _).mono ?_;rintro e' w9⟨rfl,dm⟩;go_wp2_with fail;refine hK.out _ _ ?_ (fun ig=> ?_);·exact⟨(dm.cell (p:=⟨B,4,none⟩) hBr).trans q4,(dm.cell (p:=⟨b,off+k2*2,none⟩) mQ).trans g1,(dm.cell (p:=⟨b,off+k2*2+1,none⟩) mQ).trans g2⟩
       clear hK K;try refine tn ?_
       refine tx 7 ?_;refine tx 8 ?_;refine tx 9 ?_;refine tx 10 ?_;refine tx 11 ?_;refine tx 12 ?_;refine tx 13 ?_;refine tx 14 ?_;refine wpAnyH_ready (rs:=[15]) (by kernel_rfl) (by simp) ?_;refine AllReadyH.cons rfl (fun K hK=> ?_) AllReadyH.nil;go_simp;refine(hc2.out _).mono ?_;rintro e' w8⟨rfl,dY⟩;go_wp2_with fail;refine hK.out _ _ ?_ (fun rE=> ?_);·exact⟨(dY.cell (p:=⟨B,4,none⟩) (Nat.lt_of_lt_of_le hBr dm.size)).trans ((dm.cell (p:=⟨B,4,none⟩) hBr).trans q4),(dY.cell (p:=⟨b,off+k2*2,none⟩) (Nat.lt_of_lt_of_le mQ dm.size)).trans ((dm.cell (p:=⟨b,off+k2*2,none⟩) mQ).trans g1),(dY.cell (p:=⟨b,off+k2*2+1,none⟩) (Nat.lt_of_lt_of_le mQ dm.size)).trans ((dm.cell (p:=⟨b,off+k2*2+1,none⟩) mQ).trans g2)⟩
       clear hK K;try refine tn ?_
       refine tx 16 ?_;refine tx 17 ?_;refine tx 18 ?_;refine ty 19 ?_;refine ty 20 ?_;refine ty 21 ?_;refine ty 22 ?_;refine ty 23 ?_;refine ty 24 ?_;refine ty 25 ?_;refine ty 26 ?_;refine ty 27 ?_;refine ty 28 ?_;refine ty 29 ?_;refine ty 30 ?_;refine ty 31 ?_;refine tx 32 ?_;refine wpAnyH_done (by kernel_rfl) ?_ _;clear hHeld ig rE;have gY:Hid (Below wa.heap.size wa w8) :=(bg.out.drew.trans (dm.mono sG)).trans (dY.mono (Nat.le_trans sG dm.size));go_wp2_with fail;go_ret;rw[HR.out,hB];exact⟨rfl,ax.out.trans (gY.out.mono (by omega))⟩
      ·have hc2:Hid (∀wx:World,Calls Tryz.prog 77 #[.string (bs T)] wx fun e w'=>e= .returned (.bool true)∧Below wx.heap.size wx w') :=fun wx=>by have:=mV T wx hs2;rwa [h2]at this
       cases h3:(F==T)
       ·have Bn:Hid (qg (af.take (k2+1))=true) :=by show _=_;rw[AY.out,HK.out,Ev.out,h1,h2,h3];rfl
        have heq:((bs F).toList==(bs T).toList)=false:=by rw[Fx.out];exact h3
        clear h1 h2 h3 Fx;go_wp2_with fail;refine wp_region_held_drew (S:=(fun w'=>w'.cell? ⟨B,4,none⟩=some (.slice (some ⟨b,off,none⟩) af.length cY)∧w'.cell? ⟨b,off+k2*2,none⟩=some (.string (bs F))∧w'.cell? ⟨b,off+k2*2+1,none⟩=some (.string (bs T)))) (by kernel_rfl) ?_ (fun hHeld=> ?_);·exact⟨q4,g1,g2⟩
        refine tx 0 ?_;refine tx 1 ?_;refine tx 2 ?_;refine tx 3 ?_;refine tx 4 ?_;refine tx 5 ?_;refine wpAnyH_ready (rs:=[6]) (by kernel_rfl) (by simp) ?_;refine AllReadyH.cons rfl (fun K hK=> ?_) AllReadyH.nil;go_simp;refine(hc1.out _).mono ?_;rintro e' w9⟨rfl,dm⟩;go_wp2_with fail;refine hK.out _ _ ?_ (fun ig=> ?_);·exact⟨(dm.cell (p:=⟨B,4,none⟩) hBr).trans q4,(dm.cell (p:=⟨b,off+k2*2,none⟩) mQ).trans g1,(dm.cell (p:=⟨b,off+k2*2+1,none⟩) mQ).trans g2⟩
        clear hK K;try refine tn ?_
        refine tx 7 ?_;refine tx 8 ?_;refine tx 9 ?_;refine tx 10 ?_;refine tx 11 ?_;refine tx 12 ?_;refine tx 13 ?_;refine tx 14 ?_;refine wpAnyH_ready (rs:=[15]) (by kernel_rfl) (by simp) ?_;refine AllReadyH.cons rfl (fun K hK=> ?_) AllReadyH.nil;go_simp;refine(hc2.out _).mono ?_;rintro e' w8⟨rfl,dY⟩;go_wp2_with fail;refine hK.out _ _ ?_ (fun rE=> ?_);·exact⟨(dY.cell (p:=⟨B,4,none⟩) (Nat.lt_of_lt_of_le hBr dm.size)).trans ((dm.cell (p:=⟨B,4,none⟩) hBr).trans q4),(dY.cell (p:=⟨b,off+k2*2,none⟩) (Nat.lt_of_lt_of_le mQ dm.size)).trans ((dm.cell (p:=⟨b,off+k2*2,none⟩) mQ).trans g1),(dY.cell (p:=⟨b,off+k2*2+1,none⟩) (Nat.lt_of_lt_of_le mQ dm.size)).trans ((dm.cell (p:=⟨b,off+k2*2+1,none⟩) mQ).trans g2)⟩
        clear hK K;try refine tn ?_
        refine tx 16 ?_;refine tx 17 ?_;refine tx 18 ?_;refine tx 19 ?_;refine tx 20 ?_;refine tx 21 ?_;refine tx 22 ?_;refine tx 23 ?_;refine tx 24 ?_;refine tx 25 ?_;refine tx 26 ?_;refine tx 27 ?_;refine tx 28 ?_;refine tx 29 ?_;refine tx 30 ?_;refine tx 31 ?_;refine tx 32 ?_;refine wpAnyH_done (by kernel_rfl) ?_ _;clear hHeld ig rE;have gY:Hid (Below wa.heap.size wa w8) :=(bg.out.drew.trans (dm.mono sG)).trans (dY.mono (Nat.le_trans sG dm.size));go_wp2_with fail;go_roundw;case rel=>exact⟨k2+1,by omega,by go_num,Bn.out,gY.out⟩
        case measure=>simp[intOf];omega
       ·have HR:=aa (lJ stops af lo hi (Or.inr (Or.inr (Or.inr (tO.out (by rw[Ev.out,h1,h2,h3];rfl))))));have heq:((bs F).toList==(bs T).toList)=true:=by rw[Fx.out];exact h3
        clear h1 h2 h3 Fx;go_wp2_with fail;refine wp_region_held_drew (S:=(fun w'=>w'.cell? ⟨B,4,none⟩=some (.slice (some ⟨b,off,none⟩) af.length cY)∧w'.cell? ⟨b,off+k2*2,none⟩=some (.string (bs F))∧w'.cell? ⟨b,off+k2*2+1,none⟩=some (.string (bs T)))) (by kernel_rfl) ?_ (fun hHeld=> ?_);·exact⟨q4,g1,g2⟩
        refine tx 0 ?_;refine tx 1 ?_;refine tx 2 ?_;refine tx 3 ?_;refine tx 4 ?_;refine tx 5 ?_;refine wpAnyH_ready (rs:=[6]) (by kernel_rfl) (by simp) ?_;refine AllReadyH.cons rfl (fun K hK=> ?_) AllReadyH.nil;go_simp;refine(hc1.out _).mono ?_;rintro e' w9⟨rfl,dm⟩;go_wp2_with fail;refine hK.out _ _ ?_ (fun ig=> ?_);·exact⟨(dm.cell (p:=⟨B,4,none⟩) hBr).trans q4,(dm.cell (p:=⟨b,off+k2*2,none⟩) mQ).trans g1,(dm.cell (p:=⟨b,off+k2*2+1,none⟩) mQ).trans g2⟩
        clear hK K;try refine tn ?_
        refine tx 7 ?_;refine tx 8 ?_;refine tx 9 ?_;refine tx 10 ?_;refine tx 11 ?_;refine tx 12 ?_;refine tx 13 ?_;refine tx 14 ?_;refine wpAnyH_ready (rs:=[15]) (by kernel_rfl) (by simp) ?_;refine AllReadyH.cons rfl (fun K hK=> ?_) AllReadyH.nil;go_simp;refine(hc2.out _).mono ?_;rintro e' w8⟨rfl,dY⟩;go_wp2_with fail;refine hK.out _ _ ?_ (fun rE=> ?_);·exact⟨(dY.cell (p:=⟨B,4,none⟩) (Nat.lt_of_lt_of_le hBr dm.size)).trans ((dm.cell (p:=⟨B,4,none⟩) hBr).trans q4),(dY.cell (p:=⟨b,off+k2*2,none⟩) (Nat.lt_of_lt_of_le mQ dm.size)).trans ((dm.cell (p:=⟨b,off+k2*2,none⟩) mQ).trans g1),(dY.cell (p:=⟨b,off+k2*2+1,none⟩) (Nat.lt_of_lt_of_le mQ dm.size)).trans ((dm.cell (p:=⟨b,off+k2*2+1,none⟩) mQ).trans g2)⟩
        clear hK K;try refine tn ?_
        refine tx 16 ?_;refine tx 17 ?_;refine tx 18 ?_;refine tx 19 ?_;refine tx 20 ?_;refine tx 21 ?_;refine tx 22 ?_;refine tx 23 ?_;refine tx 24 ?_;refine tx 25 ?_;refine tx 26 ?_;refine tx 27 ?_;refine tx 28 ?_;refine tx 29 ?_;refine tx 30 ?_;refine tx 31 ?_;refine tx 32 ?_;refine wpAnyH_done (by kernel_rfl) ?_ _;clear hHeld ig rE;have gY:Hid (Below wa.heap.size wa w8) :=(bg.out.drew.trans (dm.mono sG)).trans (dY.mono (Nat.le_trans sG dm.size));go_wp2_with fail;go_ret;rw[HR.out,hB];exact⟨rfl,ax.out.trans (gY.out.mono (by omega))⟩
    ·have HYf:Hid (qg af=true) :=by have h:=HK.out;rw[yK af k2 hlt2]at h;exact h
     have HA:=aa (Kz stops af lo hi (by omega) (by omega) HKf.out HYf.out);have q5:wr.cell? ⟨B,5,none⟩=some (.int .i64 lo) :=mW qz.out 5;have q6:wr.cell? ⟨B,6,none⟩=some (.int .i64 hi) :=mW qz.out 6;by_cases h0:lo=0
     ·subst h0;by_cases h1:hi=0
      ·subst h1;have HR:Hid (uC 0 0=true) :=by show _=_;decide
       go_wp2_with fail;go_ret;rw[HA.out,HR.out];first|exact⟨rfl,ax.out.trans (bg.out.mono (by omega))⟩| (rw[hB];exact⟨rfl,ax.out.trans (bg.out.mono (by omega))⟩)
      ·have h1b:(hi==0)=false:=beq_eq_false_iff_ne.2 h1;have HR:Hid (uC 0 hi=false) :=by show _=_;rw[uC,decide_eq_false h1];simp[rF]
       go_wp2_with fail;go_ret;rw[HA.out,HR.out];first|exact⟨rfl,ax.out.trans (bg.out.mono (by omega))⟩| (rw[hB];exact⟨rfl,ax.out.trans (bg.out.mono (by omega))⟩)
     ·have h0b:(lo==0)=false:=beq_eq_false_iff_ne.2 h0;have FI:Hid (uC lo hi=rF lo hi) :=by show _=_;rw[uC,decide_eq_false h0];simp
      by_cases h1:1≤lo
      ·by_cases h2:lo≤hi
       ·have HR:Hid (uC lo hi=decide (hi≤8)) :=by show _=_;rw[FI.out,rF,Bool.eq_iff_iff];simp[h1,h2]
        go_wp2_with fail;go_ret;rw[HA.out,HR.out];first|exact⟨rfl,ax.out.trans (bg.out.mono (by omega))⟩| (rw[hB];exact⟨rfl,ax.out.trans (bg.out.mono (by omega))⟩)
       ·have AQ:decide (lo≤hi)=false:=decide_eq_false h2;have HR:Hid (uC lo hi=false) :=by show _=_;rw[FI.out,rF,decide_eq_false (by omega)]
        go_wp2_with fail;go_ret;rw[HA.out,HR.out];first|exact⟨rfl,ax.out.trans (bg.out.mono (by omega))⟩| (rw[hB];exact⟨rfl,ax.out.trans (bg.out.mono (by omega))⟩)
      ·have h1b:decide (1≤lo)=false:=decide_eq_false h1;have HR:Hid (uC lo hi=false) :=by show _=_;rw[FI.out,rF,decide_eq_false (by omega)]
       go_wp2_with fail;go_ret;rw[HA.out,HR.out];first|exact⟨rfl,ax.out.trans (bg.out.mono (by omega))⟩| (rw[hB];exact⟨rfl,ax.out.trans (bg.out.mono (by omega))⟩)
theorem iB(a:Int)(w:World) :Calls Tryz.prog 88 #[.int .i64 a] w fun e w'=>e= .returned (.int .i64 (dZ a))∧w'=w:=by
 rcases(by omega:a≤38∨a=39∨(40≤a∧a≤47)∨(48≤a∧a≤57)∨(58≤a∧a≤64)∨(65≤a∧a≤90)∨(91≤a∧a≤94)∨a=95∨a=96∨(97≤a∧a≤122)∨(123≤a∧a≤191)∨(192≤a∧a≤214)∨a=215∨(216≤a∧a≤246)∨a=247∨(248≤a∧a≤591)∨(592≤a∧a≤879)∨(880≤a∧a≤1279)∨(1280≤a∧a≤12351)∨(12352≤a∧a≤12543)∨(12544≤a∧a≤19967)∨(19968≤a∧a≤40959)∨40960≤a)with h|h|h|h|h|h|h|h|h|h|h|h|h|h|h|h|h|h|h|h|h|h|h;all_goals
  first| (subst h;go_enter Tryz.func88,Tryz.ntmps88;go_wp2;go_ret;exact⟨rfl,rfl⟩)|
   (
    have HH:=aa h;try(have l:=h.1;have u:=h.2)
    have e39:(a==39)=false:=beq_eq_false_iff_ne.2 (by omega);have e95:(a==95)=false:=beq_eq_false_iff_ne.2 (by omega);have e215:(a==215)=false:=beq_eq_false_iff_ne.2 (by omega);have e247:(a==247)=false:=beq_eq_false_iff_ne.2 (by omega);have n215:(a !=215)=true:=by rw[bne_iff_ne];omega
    have n247:(a !=247)=true:=by rw[bne_iff_ne];omega
    go_enter Tryz.func88,Tryz.ntmps88;go_wp2;go_ret;have h:=HH.out;refine⟨?_,rfl⟩;unfold dZ;(repeat(first|rw[if_pos (by omega)]|rw[if_neg (by omega)]));rfl)
theorem nE(r:Int)(w:World) :Calls Tryz.prog 89 #[.int .i64 r] w fun e w'=>e= .returned (.bool (fF r))∧w'=w:=by
 have Hi:Hid (fF r=(dZ r==1 ||dZ r==2)) :=rfl;have hch:=aa (iB r);generalize dZ r=c at*;by_cases h1:(c==1)=true
 ·have HV:Hid (fF r=true) :=by show _=_;rw[Hi.out,h1];rfl
  clear Hi;go_enter Tryz.func89,Tryz.ntmps89;go_wp2_with fail;refine(hch.out _).mono ?_;rintro e w1⟨rfl,rfl⟩;go_wp2;go_ret;rw[HV.out];exact⟨rfl,rfl⟩
 ·have h1':(c==1)=false:=by simpa using h1
  have HV:Hid (fF r=(c==2)) :=by show _=_;rw[Hi.out,h1'];rfl
  clear Hi h1;go_enter Tryz.func89,Tryz.ntmps89;go_wp2_with fail;refine(hch.out _).mono ?_;rintro e w1⟨rfl,rfl⟩;go_wp2;go_ret;rw[HV.out];exact⟨rfl,rfl⟩
def DF(L:List Int)(i a:Nat)(acc all:List Tk) :Prop:=∃f,(L.drop i).length≤f∧acc++toks f (L.drop i) a acc.length=all
theorem Qd(L:List Int) :DF L 0 0 [] (toks L.length L 0 0) :=⟨L.length,Nat.le_refl _,rfl⟩
theorem Kl(L:List Int)(i a:Nat)(acc all:List Tk)(hi: ¬i<L.length)(h:DF L i a acc all) :all=acc:=by obtain⟨f,_,h⟩ :=h;rw[List.drop_of_length_le (by omega),zD,List.append_nil]at h;exact h.symm
theorem drop_cons(L:List Int)(i:Nat)(h:i<L.length) :L.drop i=L[i] ::L.drop (i+1) :=by rw[List.drop_eq_getElem_cons h]
theorem Sg(L:List Int)(i a:Nat)(acc all:List Tk)(hi:i<L.length)(hk:fV (L.drop i)=0)(h:DF L i a acc all) :DF L (i+1) (a+(Lib.runeCells L[i]).length) acc all:=by
 obtain⟨f,hf,h⟩ :=h;rw[drop_cons L i hi]at h hf hk;obtain⟨g,rfl⟩ : ∃g,f=g+1:=⟨f-1,by simp at hf;omega⟩;rw[Ct g _ _ _ _ hk]at h;have eb:aM [L[i]]=(Lib.runeCells L[i]).length:=by rw[jT,jg,Lib.runeCells_length];rfl
 rw[eb]at h;exact⟨g,by simp at hf⊢;omega,h⟩
theorem uh(L:List Int)(i a k:Nat)(acc all:List Tk)(hi:i<L.length)(hk:fV (L.drop i)=k)(hk0: ¬k=0)(h:DF L i a acc all) :(acc++ [(encs ((L.drop i).take k),acc.length,a,a+aM ((L.drop i).take k))]).length≤all.length∧DF L (i+k) (a+aM ((L.drop i).take k)) (acc++ [(encs ((L.drop i).take k),acc.length,a,a+aM ((L.drop i).take k))]) all:=by
 obtain⟨f,hf,h⟩ :=h;have hx:=h;rw[drop_cons L i hi]at hx hf hk;obtain⟨g,rfl⟩ : ∃g,f=g+1:=⟨f-1,by simp at hf;omega⟩;rw[BH g _ _ _ _ (by rw[hk];exact hk0),hk,←drop_cons L i hi,List.drop_drop]at hx;have hx2:(acc++ [(encs ((L.drop i).take k),acc.length,a,a+aM ((L.drop i).take k))])++toks g (L.drop (i+k)) (a+aM ((L.drop i).take k)) (acc++ [(encs ((L.drop i).take k),acc.length,a,a+aM ((L.drop i).take k))]).length=all:=by rw[←hx,List.length_append];simp
 refine⟨by have:=congrArg List.length hx2;rw[List.length_append]at this;omega,g,?_,hx2⟩;simp at hf⊢;omega
def yZ(L:List Int)(i k:Nat) :Prop:=i+runK (L.drop i)=k+runK (L.drop k)∧(k=i∨(i<k∧(fF (L.getD (k-1) 0)=true∨oD (L.drop k)=true)))
theorem Vz(L:List Int)(i k:Nat)(hk:k<L.length)(hi:i≤k)(h:yZ L i k)(hin:fF L[k]=true) :yZ L i (k+1) :=by
 obtain⟨h1,h2⟩ :=h;refine⟨?_,Or.inr ⟨by omega,Or.inl ?_⟩⟩;·rw[h1,drop_cons L k hk,DK _ _ hin];omega
 ·have e:L.getD (k+1-1) 0=L[k] :=by simp[hk]
  rw[e];exact hin
theorem Ru(L:List Int)(i k:Nat)(hk:k<L.length)(hi:i≤k)(h:yZ L i k)(hin:fF L[k]=false)(hm:(dZ L[k]==3)=true)(hn:oD (L.drop (k+1))=true) :yZ L i (k+1) :=by obtain⟨h1,h2⟩ :=h;refine⟨?_,Or.inr ⟨by omega,Or.inr hn⟩⟩;rw[h1,drop_cons L k hk,GX _ _ hin hm hn];omega
theorem AV(L:List Int)(i k:Nat)(hk:k<L.length)(h:yZ L i k)(hin:fF L[k]=false)(hm:(dZ L[k]==3)=false∨oD (L.drop (k+1))=false) :runK (L.drop i)=k-i:=by obtain⟨h1,h2⟩ :=h;rw[drop_cons L k hk,Bh _ _ hin hm]at h1;omega
theorem Xr(L:List Int)(i k:Nat)(hk: ¬k<L.length)(h:yZ L i k) :runK (L.drop i)=k-i:=by obtain⟨h1,h2⟩ :=h;rw[List.drop_of_length_le (by omega:L.length≤k)]at h1;simp[runK]at h1;omega
theorem Ro(L:List Int)(i k:Nat)(hk:k<L.length)(hi:i<k)(h:yZ L i k)(hin:fF L[k]=false) :fF (L.getD (k-1) 0)=true:=by
 rcases h.2 with rfl| ⟨_,h|h⟩;·omega
 ·exact h
 ·rw[drop_cons L k hk]at h;exact absurd h (by show¬fF L[k]=true;rw[hin];simp)
theorem OW(L:List Int)(k:Nat)(hk:k<L.length) :oD (L.drop k)=fF L[k] :=by rw[drop_cons L k hk];rfl
theorem Rx(L:List Int)(k:Nat)(hk: ¬k<L.length) :oD (L.drop k)=false:=by rw[List.drop_of_length_le (by omega)];rfl
theorem NI {w:World} {base e g n cap:Nat} {xs:List Value}(h:w.ownsRow base e 1 (.slice (some ⟨g,0,none⟩) n cap) n xs) :n≤cap:=by
 rcases h.2 with⟨h',_⟩| ⟨g',cap',cur,h',_,_,hc,_⟩;·simp at h'
 ·simp only[Value.slice.injEq,Option.some.injEq,Addr.mk.injEq,and_true,true_and]at h';obtain⟨_,rfl⟩ :=h';exact hc
end Go.Proofs.YtcjiphknpagenaaGreatDoor
