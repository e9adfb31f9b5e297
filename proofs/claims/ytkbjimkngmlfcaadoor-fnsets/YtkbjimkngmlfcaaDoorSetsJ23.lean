import Derived.Test.YtkbjimkngmlfcaaDoorSetsJ22
import Derived.Test.YtkbjimkngmlfcaaDoorSetsJ20
open Go renaming wpList_append_own→aal,maxLen→aap
open Go.RowKit renaming intOf→aab,Below→aah
open Nat renaming lt_of_lt_of_le→aat,le_refl→aar,zero_le→aas
namespace Go.Proofs.YtkbjimkngmlfcaaDoor
open Go Go.RowKit
set_option linter.unusedVariables false
set_option linter.unusedSimpArgs false
set_option maxRecDepth 100000
set_option maxHeartbeats 4000000
theorem EO {P:Prop}(h:P:=by go_wp2_with fail;refine HB1.out.mono ?_;rintro e w2⟨rfl,rfl⟩;go_wp2_with fail;exact⟨⟨k+1,by omega,by go_num,by rw[HE.out]⟩,by simp[intOf];omega⟩) :P:=h
theorem Li {P:Prop}(h:P:=by refine⟨?_,(HB.out.alloc hzw _).grown hgrow (by simp;omega) (fF HO.out)⟩;rw[mh,List.length_append];exact hown') :P:=h
theorem tq {k n:Nat}(hk:k≤n)(hn:n≤31) :2^k≤2147483648:=by have:=Nat.pow_le_pow_right (show 0<2 by omega) (show k≤31 by omega);simpa using this
theorem Aw(v:Value)(P:List Int)(x:Nat)(w:World)(hl:P.length≤30)(hx:x<2^(P.length+1))(h:bD w v P) :Calls Tryd.prog 69 #[v,.int .i64 (x:Int)] w fun e w'=>e= .returned (.int .i64 (iX P x P.length:Nat))∧w'=w:=by
 obtain⟨ad,cap,rfl,hc⟩ :=h;have HC:=ah hc;have HX:Hid (∀k,k≤P.length→iX P x k<2147483648) :=fun k hk=>aat (Hl hx hk) (tq (aar _) (by omega));clear hc hx;go_enter Tryd.func69,Tryd.ntmps69;go_wp2;go_loop [1,5](fun sv i=>∃k:Nat,k≤P.length∧i= .int .i64 (k:Int)∧sv= .int .i64 ((iX P x k:Nat) :Int))(fun _ i=>P.length-(aab i).toNat);case atStart=>exact⟨0,aas _,rfl,rfl⟩
 case round=>
  obtain⟨k,hk,rfl,rfl⟩ :=hrel;by_cases hlt:k<P.length
  ·have hkz:(k:Int)<(P.length:Int) :=by omega
   obtain⟨g,off,rfl,hg,hcells⟩ :=HC.out.resolve_left (fun e=>by rw[e]at hlt;simp at hlt);have c1:=hcells k hlt;have HN:Hid (iX P x (k+1)=if(iX P x k).testBit k=true∧P.getD k 0= -2 then iX P x k |||2^(k+1)else iX P x k) :=rfl;have hs:=HX.out k hk;clear hcells;generalize iX P x k=s at*;generalize P.getD k 0=z at*;have HB1:=ah (pz s k w (by omega) (by omega));have HB2:=ah (pz s (k+1) w (by omega) (by omega));rw[show((k+1:Nat) :Int)=(k:Int)+1 by omega]at HB2;cases hb1:s.testBit k with
   |false=>
    have HE:Hid (iX P x (k+1)=s) :=by show _=_;rw[HN.out,if_neg (by simp[hb1])]
    rw[hb1]at HB1;exact EO
   |true=>
    rw[hb1]at HB1;by_cases hz:z= -2
    ·have hzb:(z== -2)=true:=by simp[hz]
     have hP:=tq (show k+1≤k+1 by omega) (by omega);cases hb2:s.testBit (k+1)with
     |true=>
      have HE:Hid (iX P x (k+1)=s) :=by show _=_;rw[HN.out,if_pos ⟨hb1,hz⟩];refine Nat.eq_of_testBit_eq fun i=> ?_;rw[Bool.eq_iff_iff,or_bit];exact⟨fun h=>h.elim id (fun e=>e▸hb2),Or.inl⟩
      rw[hb2]at HB2;clear hz;go_wp2_with fail;refine HB1.out.mono ?_;rintro e w2⟨rfl,rfl⟩;go_wp2_with fail;refine HB2.out.mono ?_;rintro e w2⟨rfl,rfl⟩;go_wp2_with fail;exact ahA
     |false=>
      have HE:Hid (iX P x (k+1)=s+2^(k+1)) :=by show _=_;rw[HN.out,if_pos ⟨hb1,hz⟩,afe hb2]
      rw[hb2]at HB2;have Ct:((2^(k+1) :Nat) :Int)=(2:Int) ^(k+1) :=by norm_cast
      obtain⟨Q,hQ⟩ : ∃Q:Nat,2^(k+1)=Q:=⟨_,rfl⟩;rw[hQ]at HE hP Ct;have afo:=Ct.symm;have hkt:((k:Int)+1).toNat=k+1:=by omega
      clear hz hQ Ct;go_wp2_with fail;refine HB1.out.mono ?_;rintro e w2⟨rfl,rfl⟩;go_wp2_with fail;refine HB2.out.mono ?_;rintro e w2⟨rfl,rfl⟩;go_wp2_with fail;exact Y9
    ·have hzb:(z== -2)=false:=by simp[hz]
     have HE:Hid (iX P x (k+1)=s) :=by show _=_;rw[HN.out,if_neg (by simp[hz])]
     clear hz;exact EO
  ·have hkz: ¬(k:Int)<(P.length:Int) :=by omega
   have HK:Hid (k=P.length) :=by show _=_;omega
   go_wp2;go_ret;rw[HK.out];exact⟨rfl,rfl⟩
theorem LJ(v:Value)(P:List Int)(x:Nat)(r:Int)(w:World)(hl:P.length≤30)(hx:x<2^(P.length+1))(h:bD w v P) :Calls Tryd.prog 70 #[v,.int .i64 (x:Int),.int .i64 r] w fun e w'=>e= .returned (.int .i64 (iX P (ko P x r P.length) P.length:Nat))∧w'=w:=by
 have vJ:=ah (Aw v P (ko P x r P.length) w hl (KQ (aar _)) h);obtain⟨ad,cap,rfl,hc⟩ :=h;have HC:=ah hc;have HM:Hid (∀k,k≤P.length→ko P x r k<2147483648) :=fun k hk=>aat (KQ hk) (tq (aar _) (by omega));have hx2:x<2147483648:=aat hx (tq (aar _) (by omega));clear hc hx;go_enter Tryd.func70,Tryd.ntmps70;go_wp2;go_loop [7,8](fun sv i=>∃k:Nat,k≤P.length∧i= .int .i64 (k:Int)∧sv= .int .i64 ((ko P x r k:Nat) :Int))(fun _ i=>P.length-(aab i).toNat);case atStart=>exact⟨0,aas _,rfl,rfl⟩
 case round=>
  obtain⟨k,hk,rfl,rfl⟩ :=hrel;by_cases hlt:k<P.length
  ·have hkz:(k:Int)<(P.length:Int) :=by omega
   obtain⟨g,off,rfl,hg,hcells⟩ :=HC.out.resolve_left (fun e=>by rw[e]at hlt;simp at hlt);have c1:=hcells k hlt;have HN:Hid (ko P x r (k+1)=if x.testBit k=true then(if P.getD k 0= -2 then ko P x r k |||2^k else if one (P.getD k 0) r=true then ko P x r k |||2^(k+1)else ko P x r k)else ko P x r k) :=rfl;have hs:=HM.out k hk;clear hcells;generalize ko P x r k=s at*;generalize P.getD k 0=z at*;have HB1:=ah (pz x k w (by omega) (by omega));cases hb1:x.testBit k with
   |false=>
    have HE:Hid (ko P x r (k+1)=s) :=by show _=_;rw[HN.out,if_neg (by simp[hb1])]
    rw[hb1]at HB1;exact EO
   |true=>
    rw[hb1]at HB1;have wE:Hid (ko P x r (k+1)=if z= -2 then s |||2^k else if one z r=true then s |||2^(k+1)else s) :=by show _=_;rw[HN.out,if_pos hb1]
    clear HN;by_cases hz:z= -2
    ·have hzb:(z== -2)=true:=by simp[hz]
     have hP:=tq (show k≤k by omega) (by omega);have HE:Hid (ko P x r (k+1)=s |||2^k) :=by show _=_;rw[wE.out,if_pos hz]
     have Ct:((2^k:Nat) :Int)=(2:Int) ^k:=by norm_cast
     obtain⟨Q,hQ⟩ : ∃Q:Nat,2^k=Q:=⟨_,rfl⟩;rw[hQ]at HE hP Ct;have afo:=Ct.symm;have hor:=Gi s Q (by omega) (by omega);clear hz hQ Ct wE;exact EO
    ·have hzb:(z== -2)=false:=by simp[hz]
     have hP:=tq (show k+1≤k+1 by omega) (by omega);have Ct:((2^(k+1) :Nat) :Int)=(2:Int) ^(k+1) :=by norm_cast
     have AB:Hid (ko P x r (k+1)=if one z r=true then s |||2^(k+1)else s) :=by show _=_;rw[wE.out,if_neg hz]
     obtain⟨Q,hQ⟩ : ∃Q:Nat,2^(k+1)=Q:=⟨_,rfl⟩;rw[hQ]at AB hP Ct;have afo:=Ct.symm;have hkt:((k:Int)+1).toNat=k+1:=by omega
     have hor:=Gi s Q (by omega) (by omega);clear hz hQ Ct wE;by_cases hz1:z= -1
     ·have amv:(z== -1)=true:=by simp[hz1]
      have HE:Hid (ko P x r (k+1)=s |||Q) :=by show _=_;rw[AB.out,if_pos (by simp[one,hz1])]
      clear hz1 AB;exact EO
     ·have amv:(z== -1)=false:=by simp[hz1]
      by_cases hz2:z=r
      ·have an1:(z==r)=true:=by simp[hz2]
       have HE:Hid (ko P x r (k+1)=s |||Q) :=by show _=_;rw[AB.out,if_pos (by simp[one,hz2])]
       clear hz1 AB hz2;exact EO
      ·have an1:(z==r)=false:=by simp[hz2]
       have HE:Hid (ko P x r (k+1)=s) :=by show _=_;rw[AB.out,if_neg (by simp[one,hz1,hz2])]
       clear hz1 AB hz2;exact EO
  ·have hkz: ¬(k:Int)<(P.length:Int) :=by omega
   obtain rfl:k=P.length:=by omega
   go_wp2_with fail;refine vJ.out.mono ?_;rintro e w2⟨rfl,rfl⟩;go_wp2_with fail;go_ret;exact⟨rfl,rfl⟩
def ne1(x y:Int) :Nat:=if x=y then 0 else 1
def ed:List Int→List Int→Nat
 | [],b=>b.length
 |a,[]=>a.length
 |x::a,y::b=>min (ed a b+ne1 x y) (min (ed a (y::b)+1) (ed (x::a) b+1))termination_by a b=>a.length+b.length
theorem Lf(zs:List Int)(i:Nat)(h:i<zs.length) :zs.drop i=zs.getD i 0::zs.drop (i+1) :=by rw[List.drop_eq_getElem_cons h];simp[h]
theorem KI(zs:List Int)(v:Value)(w:World)(hl:zs.length≤65536)(hv:bD w v zs) :Calls Tryd.prog 68 #[v] w fun e w'=>∃v',e= .returned v'∧w'.ownsRow w.heap.size 3 1 v' (dn zs).length (zI (dn zs))∧aah w.heap.size w w':=by
 obtain⟨i0,hi,hz0,hz1,hz2⟩ :=info_parts Tryd.infoInt;obtain⟨ad,cv,rfl,had⟩ :=hv;have HA:=ah had;clear had;go_enter Tryd.func68,Tryd.ntmps68;go_wp2;go_loopw [3,4](fun ov iv wr=>∃(i:Nat)(acc:List Int),i≤zs.length∧iv= .int .i64 (i:Int)∧wr.ownsRow w.heap.size 3 1 ov acc.length (zI acc)∧aah w.heap.size w wr∧acc++dn (zs.drop i)=dn zs∧acc.length≤i)(fun _ iv _=>zs.length-(aab iv).toNat);case atStart=>exact⟨0,[],aas _,rfl,gF w 3,(Below.refl _ _).alloc (aar _) _,by simp,by simp⟩
 case round=>
  obtain⟨i,acc,hin,rfl,hown,hbel,hacc,hal⟩ :=hrel;have HO:=ah hown;have HB:=ah hbel;have BA:=ah hacc;have hzw:=hbel.size;clear hown hbel hacc;by_cases hlt:i<zs.length
  ·have hltz:(i:Int)<(zs.length:Int) :=by omega
   obtain⟨g,off,rfl,hg,hc⟩ :=HA.out.resolve_left (fun h=>by rw[h]at hlt;simp at hlt);have c1:=(HB.out.cell (p:=⟨g,off+i,none⟩) hg).trans (hc i hlt);have Bl:=ah (Lf zs i hlt);have Hc:=ah hc;clear hc;obtain⟨x,hx⟩ : ∃x,zs.getD i 0=x:=⟨_,rfl⟩;rw[hx]at c1 Bl;clear hx;by_cases Va:x=42
   ·have Hn:Hid (acc++ [-2]++dn (zs.drop (i+1))=dn zs) :=by show _=_;rw[←BA.out,Bl.out,pX (Or.inl (by omega)),wM,if_pos Va];simp
    subst Va;clear Bl;go_wp2_with(at_builtin;refine aal _ rfl _ _ 56 rfl w.heap.size 3 i0 (.int .i64 0) 1 8 Tryd.underlying56 hi hz0 hz1 hz2 rfl (by decide) _ _ _ rfl (HO.out.alloc _) ⟨wr.heap.size,0,none⟩ 1 1 [.int .i64 (-2)] rfl rfl ?c1a ?c2a ?c3a ?c4a ?c5a ?_);try
     case c1a=>
      intro j u hj;match j,hj with
      |0,hj=>simp at hj;subst hj;simp[Addr.add]
    case c2a=>first|rfl| (intro u hu;simp at hu;subst hu;rfl)
    case c3a=>unfold aap;omega
    case c4a=>omega
    case c5a=>first|omega| (simp;omega)
    intro v' w2 hown' hgrow hne;have R:Hid (w2.ownsRow w.heap.size 3 1 v' (acc++ [-2]).length (zI (acc++ [-2]))∧aah w.heap.size w w2) :=by exact Li
    clear hown' hgrow HO HB;go_wp2;go_roundw;case rel=>exact⟨i+1,acc++ [-2],by omega,by go_num,R.out.1,R.out.2,Hn.out,by simp;omega⟩
    case measure=>simp[aab];omega
   have b42:(x==42)=false:=beq_false_of_ne Va;by_cases h63:x=63
   ·have Hn:Hid (acc++ [-1]++dn (zs.drop (i+1))=dn zs) :=by show _=_;rw[←BA.out,Bl.out,pX (Or.inl (by omega)),wM,if_neg Va,if_pos h63];simp
    subst h63;clear Bl b42;go_wp2_with(at_builtin;refine aal _ rfl _ _ 56 rfl w.heap.size 3 i0 (.int .i64 0) 1 8 Tryd.underlying56 hi hz0 hz1 hz2 rfl (by decide) _ _ _ rfl (HO.out.alloc _) ⟨wr.heap.size,0,none⟩ 1 1 [.int .i64 (-1)] rfl rfl ?c1b ?c2b ?c3b ?c4b ?c5b ?_);try
     case c1b=>
      intro j u hj;match j,hj with
      |0,hj=>simp at hj;subst hj;simp[Addr.add]
    case c2b=>first|rfl| (intro u hu;simp at hu;subst hu;rfl)
    case c3b=>unfold aap;omega
    case c4b=>omega
    case c5b=>first|omega| (simp;omega)
    intro v' w2 hown' hgrow hne;have R:Hid (w2.ownsRow w.heap.size 3 1 v' (acc++ [-1]).length (zI (acc++ [-1]))∧aah w.heap.size w w2) :=by exact Li
    clear hown' hgrow HO HB;go_wp2;go_roundw;case rel=>exact⟨i+1,acc++ [-1],by omega,by go_num,R.out.1,R.out.2,Hn.out,by simp;omega⟩
    case measure=>simp[aab];omega
   have b63:(x==63)=false:=beq_false_of_ne h63;by_cases NW:x=92∧i+1<zs.length
   ·obtain⟨NW,hl2⟩ :=NW;have arZ:(i:Int)+1<(zs.length:Int) :=by omega
    have c2:=(HB.out.cell (p:=⟨g,off+(i+1),none⟩) hg).trans (Hc.out (i+1) hl2);have Hd2:=ah (Lf zs (i+1) hl2);obtain⟨y,hy⟩ : ∃y,zs.getD (i+1) 0=y:=⟨_,rfl⟩;rw[hy]at c2 Hd2;clear hy;have Hn:Hid (acc++ [y]++dn (zs.drop (i+2))=dn zs) :=by show _=_;rw[←BA.out,Bl.out,NW,Hd2.out,FY];simp
    subst NW;clear Bl Hd2 b42 b63;go_wp2_with(at_builtin;refine aal _ rfl _ _ 56 rfl w.heap.size 3 i0 (.int .i64 0) 1 8 Tryd.underlying56 hi hz0 hz1 hz2 rfl (by decide) _ _ _ rfl (HO.out.alloc _) ⟨wr.heap.size,0,none⟩ 1 1 [.int .i64 (y)] rfl rfl ?c1c ?c2c ?c3c ?c4c ?c5c ?_);try
     case c1c=>
      intro j u hj;match j,hj with
      |0,hj=>simp at hj;subst hj;simp[Addr.add]
    case c2c=>first|rfl| (intro u hu;simp at hu;subst hu;rfl)
    case c3c=>unfold aap;omega
    case c4c=>omega
    case c5c=>first|omega| (simp;omega)
    intro v' w2 hown' hgrow hne;have R:Hid (w2.ownsRow w.heap.size 3 1 v' (acc++ [y]).length (zI (acc++ [y]))∧aah w.heap.size w w2) :=by exact Li
    clear hown' hgrow HO HB;go_wp2;go_roundw;case rel=>exact⟨i+2,acc++ [y],by omega,by go_num,R.out.1,R.out.2,Hn.out,by simp;omega⟩
    case measure=>simp[aab];omega
   have hmp:wM x=x:=by rw[wM,if_neg Va,if_neg h63]
   by_cases h9:x=92
   ·have hl2: ¬(i:Int)+1<(zs.length:Int) :=by omega
    have hdn:zs.drop (i+1)= [] :=List.drop_eq_nil_iff.2 (by omega);have Hn:Hid (acc++ [92]++dn (zs.drop (i+1))=dn zs) :=by show _=_;rw[←BA.out,Bl.out,h9,pX (Or.inr hdn),(show wM 92=92 from by decide)];simp
    subst h9;clear Bl hdn hmp NW b42 b63;go_wp2_with(at_builtin;refine aal _ rfl _ _ 56 rfl w.heap.size 3 i0 (.int .i64 0) 1 8 Tryd.underlying56 hi hz0 hz1 hz2 rfl (by decide) _ _ _ rfl (HO.out.alloc _) ⟨wr.heap.size,0,none⟩ 1 1 [.int .i64 (92)] rfl rfl ?c1d ?c2d ?c3d ?c4d ?c5d ?_);try
     case c1d=>
      intro j u hj;match j,hj with
      |0,hj=>simp at hj;subst hj;simp[Addr.add]
    case c2d=>first|rfl| (intro u hu;simp at hu;subst hu;rfl)
    case c3d=>unfold aap;omega
    case c4d=>omega
    case c5d=>first|omega| (simp;omega)
    intro v' w2 hown' hgrow hne;have R:Hid (w2.ownsRow w.heap.size 3 1 v' (acc++ [92]).length (zI (acc++ [92]))∧aah w.heap.size w w2) :=by exact Li
    clear hown' hgrow HO HB;go_wp2;go_roundw;case rel=>exact⟨i+1,acc++ [92],by omega,by go_num,R.out.1,R.out.2,Hn.out,by simp;omega⟩
    case measure=>simp[aab];omega
   have b92:(x==92)=false:=beq_false_of_ne h9;have Hn:Hid (acc++ [x]++dn (zs.drop (i+1))=dn zs) :=by show _=_;rw[←BA.out,Bl.out,pX (Or.inl h9),hmp];simp
   clear Bl hmp NW;go_wp2_with(at_builtin;refine aal _ rfl _ _ 56 rfl w.heap.size 3 i0 (.int .i64 0) 1 8 Tryd.underlying56 hi hz0 hz1 hz2 rfl (by decide) _ _ _ rfl (HO.out.alloc _) ⟨wr.heap.size,0,none⟩ 1 1 [.int .i64 (x)] rfl rfl ?c1e ?c2e ?c3e ?c4e ?c5e ?_);try
    case c1e=>
     intro j u hj;match j,hj with
     |0,hj=>simp at hj;subst hj;simp[Addr.add]
   case c2e=>first|rfl| (intro u hu;simp at hu;subst hu;rfl)
   case c3e=>unfold aap;omega
   case c4e=>omega
   case c5e=>first|omega| (simp;omega)
   intro v' w2 hown' hgrow hne;have R:Hid (w2.ownsRow w.heap.size 3 1 v' (acc++ [x]).length (zI (acc++ [x]))∧aah w.heap.size w w2) :=by exact Li
   clear hown' hgrow HO HB;go_wp2;go_roundw;case rel=>exact⟨i+1,acc++ [x],by omega,by go_num,R.out.1,R.out.2,Hn.out,by simp;omega⟩
   case measure=>simp[aab];omega
  ·have hltz: ¬(i:Int)<(zs.length:Int) :=by omega
   have HE:Hid (dn zs=acc) :=by show _=_;rw[←BA.out,List.drop_eq_nil_iff.2 (by omega),zH,List.append_nil]
   go_wp2;go_ret;rw[HE.out];exact⟨_,rfl,HO.out,HB.out⟩
end Go.Proofs.YtkbjimkngmlfcaaDoor
