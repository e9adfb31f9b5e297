import Derived.Test.YtcjiphknpagenaaGreatDoorDocsJ16
import Derived.Laws.EntriesVeiled
namespace Go.Proofs.YtcjiphknpagenaaGreatDoor
open Go Go.RowKit
set_option linter.unusedVariables false
set_option linter.unusedSimpArgs false
set_option maxRecDepth 100000
set_option maxHeartbeats 4000000
theorem yC(l:List UInt8)(k:Nat)(h:k<l.length) :(l.take (k+1)).all small=((l.take k).all small&&small (l.getD k 0)) :=by rw[List.take_succ_eq_append_getElem h,List.all_append,List.getD_eq_getElem?_getD,List.getElem?_eq_getElem h];simp only[List.all_cons,List.all_nil,Bool.and_true,Option.getD_some]
def eD(l:List UInt8) :Bool:=l.all small
theorem Zi {l:List UInt8}(h:eD l=true)(k:Nat)(hk:k<l.length) :small (l.getD k 0)=true:=by rw[eD,List.all_eq_true]at h;apply h;rw[List.getD_eq_getElem?_getD,List.getElem?_eq_getElem hk,Option.getD_some];exact List.getElem_mem _
theorem KO(l m:List UInt8) :bs l++bs m=bs (l++m) :=by apply ByteArray.ext;simp[bs]
theorem ZK(l m:List UInt8) :ai (bs l++bs m)=l++m:=by rw[KO,bH]
theorem Vu(l m:List UInt8) :(bs l++bs m).size=l.length+m.length:=by rw[KO,aK,List.length_append]
def isStep(f:List UInt8→List UInt8)(s t:ByteArray) :Prop:=ai t=f (ai s)∧t.size≤64
theorem Np(s:ByteArray)(w:World)(h3:3≤s.size)(h64:s.size≤64)(HA:Hid (eD (ai s)=true)) :Calls Tryz.prog 111 #[.string s] w fun e w'=>e= .returned (.string (bs (kF (jq (gy (dz (ai s)))))))∧∃m,w'=w.drewN m:=by
 have b0:decide ((s.size:Int)<3)=false:=decide_eq_false (by omega);have b1:decide ((64:Int)<(s.size:Int))=false:=decide_eq_false (by omega);have b2: ¬(65536:Int)<(s.size:Int) :=by omega
 go_enter Tryz.func111,Tryz.ntmps111;go_wp2;go_loop [3](fun i=>∃k:Nat,k≤s.size∧i= .int .i64 k)(fun i=>s.size-(intOf i).toNat);case atStart=>exact⟨0,Nat.zero_le _,rfl⟩
 case round=>
  obtain⟨k,hk,rfl⟩ :=hrel;by_cases hlt:k<s.size
  ·have hsm:=Zi HA.out k (by rw[ay];exact hlt);rw[←l9 s k hlt,small,decide_eq_true_eq]at hsm;obtain⟨g1,g2⟩ :=hsm;have ZZ: ¬((s[k]'hlt).toNat:Int)<97:=by omega
   have g2z: ¬(122:Int)<((s[k]'hlt).toNat:Int) :=by omega
   have g1b:decide (((s[k]'hlt).toNat:Int)<97)=false:=decide_eq_false ZZ;have g2b:decide ((122:Int)<((s[k]'hlt).toNat:Int))=false:=decide_eq_false g2z;go_wp2;go_round;case rel=>exact⟨k+1,by omega,by go_num⟩
   case measure=>simp[intOf];omega
  ·have HS:Hid (ai s=ai s) :=rfl;go_upto_block 2 with fail;go_cut [4](fun c wx=>∃t,c= .string t∧isStep dz s t∧wx=w);case first=>
    go_wp2_with fail;refine(gT s _ _ (by omega) (by decide)).mono ?_;rintro e w1⟨rfl,hw⟩;obtain rfl:=hw.symm;rw[show ai ⟨#[115,115,101,115]⟩= [115,115,101,115]from rfl];by_cases e1:ends (ai s) [115,115,101,115]=true
    ·rw[e1];have nJ:=aa e1;clear e1;have HM:Hid (dz (ai s)=bZ (ai s) 2) :=by show _=_;rw[dz,if_pos nJ.out]
     have hz:=vN nJ.out;rw[ay]at hz;simp only[List.length_cons,List.length_nil]at hz;go_wp2_with fail;refine(nZ s 2 _ (by omega) (by omega)).mono ?_;rintro e w1⟨rfl,hw⟩;obtain rfl:=hw.symm;go_wp2_with fail;go_meet;case rel=>exact⟨_,rfl,⟨by rw[bH,HM.out],by rw[aK,dF,ay];omega⟩,rfl⟩
    ·have rJ:ends (ai s) [115,115,101,115]=false:=by simpa using e1
     rw[rJ];have nJ:=aa rJ;clear e1 rJ;go_wp2_with fail;refine(gT s _ _ (by omega) (by decide)).mono ?_;rintro e w1⟨rfl,hw⟩;obtain rfl:=hw.symm;rw[show ai ⟨#[105,101,115]⟩= [105,101,115]from rfl];by_cases e2:ends (ai s) [105,101,115]=true
     ·rw[e2];have wG:=aa e2;clear e2;by_cases h5:5≤s.size
      ·have h5z:(5:Int)≤(s.size:Int) :=by omega
       have HM:Hid (dz (ai s)=bZ (ai s) 3++ [121]) :=by show _=_;rw[dz,nJ.out,wG.out,ay,if_pos h5];rfl
       have hcz:(bs (bZ (ai s) 3)).size≤64:=by rw[aK,dF,ay];omega
       go_wp2_with fail;refine(nZ s 3 _ (by omega) (by omega)).mono ?_;rintro e w1⟨rfl,hw⟩;obtain rfl:=hw.symm;go_wp2_with fail;go_meet;case rel=>exact⟨_,rfl,⟨by rw[HM.out];exact ZK _ _,by rw[show(⟨#[121]⟩ :ByteArray)=bs [121]from rfl,Vu,dF,ay];simp;omega⟩,rfl⟩
      ·have h5z: ¬(5:Int)≤(s.size:Int) :=by omega
       have HM:Hid (dz (ai s)=ai s) :=by show _=_;rw[dz,nJ.out,wG.out,ay,if_neg h5];rfl
       go_wp2_with fail;go_meet;case rel=>exact⟨_,rfl,⟨HM.out.symm,by omega⟩,rfl⟩
     ·have e2':ends (ai s) [105,101,115]=false:=by simpa using e2
      rw[e2'];have wG:=aa e2';clear e2 e2';go_wp2_with fail;refine(gT s _ _ (by omega) (by decide)).mono ?_;rintro e w1⟨rfl,hw⟩;obtain rfl:=hw.symm;rw[show ai ⟨#[115]⟩= [115]from rfl];by_cases e3:ends (ai s) [115]=true
      ·rw[e3];have JN:=aa e3;clear e3;go_wp2_with fail;refine(gT s _ _ (by omega) (by decide)).mono ?_;rintro e w1⟨rfl,hw⟩;obtain rfl:=hw.symm;rw[show ai ⟨#[115,115]⟩= [115,115]from rfl];by_cases e4:ends (ai s) [115,115]=true
       ·rw[e4];have Oi:=aa e4;clear e4;have HM:Hid (dz (ai s)=ai s) :=by show _=_;rw[dz,nJ.out,wG.out,JN.out,Oi.out];simp
        go_wp2_with fail;go_meet;case rel=>exact⟨_,rfl,⟨HM.out.symm,by omega⟩,rfl⟩
       ·have e4':ends (ai s) [115,115]=false:=by simpa using e4
        rw[e4'];have Oi:=aa e4';clear e4 e4';go_wp2_with fail;refine(gT s _ _ (by omega) (by decide)).mono ?_;rintro e w1⟨rfl,hw⟩;obtain rfl:=hw.symm;rw[show ai ⟨#[117,115]⟩= [117,115]from rfl];by_cases e5:ends (ai s) [117,115]=true
        ·rw[e5];have SH:=aa e5;clear e5;have HM:Hid (dz (ai s)=ai s) :=by show _=_;rw[dz,nJ.out,wG.out,JN.out,Oi.out,SH.out];simp
         go_wp2_with fail;go_meet;case rel=>exact⟨_,rfl,⟨HM.out.symm,by omega⟩,rfl⟩
        ·have e5':ends (ai s) [117,115]=false:=by simpa using e5
         rw[e5'];have SH:=aa e5';clear e5 e5';go_wp2_with fail;refine(gT s _ _ (by omega) (by decide)).mono ?_;rintro e w1⟨rfl,hw⟩;obtain rfl:=hw.symm;rw[show ai ⟨#[105,115]⟩= [105,115]from rfl];by_cases e6:ends (ai s) [105,115]=true
         ·rw[e6];have YX:=aa e6;clear e6;have HM:Hid (dz (ai s)=ai s) :=by show _=_;rw[dz,nJ.out,wG.out,JN.out,Oi.out,SH.out,YX.out];simp
          go_wp2_with fail;go_meet;case rel=>exact⟨_,rfl,⟨HM.out.symm,by omega⟩,rfl⟩
         ·have e6':ends (ai s) [105,115]=false:=by simpa using e6
          rw[e6'];have YX:=aa e6';clear e6 e6';by_cases h4:4≤s.size
          ·have h4z:(4:Int)≤(s.size:Int) :=by omega
           have HM:Hid (dz (ai s)=bZ (ai s) 1) :=by show _=_;rw[dz,nJ.out,wG.out,JN.out,Oi.out,SH.out,YX.out,ay,decide_eq_true h4];rfl
           go_wp2_with fail;refine(nZ s 1 _ (by omega) (by omega)).mono ?_;rintro e w1⟨rfl,hw⟩;obtain rfl:=hw.symm;go_wp2_with fail;go_meet;case rel=>exact⟨_,rfl,⟨by rw[bH,HM.out],by rw[aK,dF,ay];omega⟩,rfl⟩
          ·have h4z: ¬(4:Int)≤(s.size:Int) :=by omega
           have NA:decide ((4:Int)≤(s.size:Int))=false:=decide_eq_false h4z;have HM:Hid (dz (ai s)=ai s) :=by show _=_;rw[dz,nJ.out,wG.out,JN.out,Oi.out,SH.out,YX.out,ay,decide_eq_false h4];rfl
           go_wp2_with fail;go_meet;case rel=>exact⟨_,rfl,⟨HM.out.symm,by omega⟩,rfl⟩
      ·have e3':ends (ai s) [115]=false:=by simpa using e3
       rw[e3'];have JN:=aa e3';clear e3 e3';have HM:Hid (dz (ai s)=ai s) :=by show _=_;rw[dz,nJ.out,wG.out,JN.out];simp
       go_wp2_with fail;go_meet;case rel=>exact⟨_,rfl,⟨HM.out.symm,by omega⟩,rfl⟩
   case rest=>
    obtain⟨t1,rfl,XK,hw1⟩ :=hcut;obtain rfl:=hw1.symm;have acH:Hid (ai t1=dz (ai s)) :=XK.1;have hz1:=XK.2;clear XK HS;go_upto_block 3 with fail;go_cut [4](fun c wx=>∃t,c= .string t∧isStep gy t1 t∧∃m,wx=w.drewN m);case first=>
     go_upto_region 18 with fail;go_cut [74](fun c wx=>c= .bool (ends (ai t1) [105,110,103] &&decide (6≤(ai t1).length) &&jR (bZ (ai t1) 3))∧wx=w);case first=>
      go_wp2_with fail;refine(gT t1 _ _ (by omega) (by decide)).mono ?_;rintro e w1⟨rfl,hw⟩;obtain rfl:=hw.symm;rw[show ai ⟨#[105,110,103]⟩= [105,110,103]from rfl];by_cases e1:ends (ai t1) [105,110,103]=true
      ·rw[e1];have nJ:=aa e1;clear e1;by_cases h6:6≤t1.size
       ·have Bv:(6:Int)≤(t1.size:Int) :=by omega
        go_wp2_with fail;refine(nZ t1 3 _ (by omega) (by omega)).mono ?_;rintro e w1⟨rfl,hw⟩;obtain rfl:=hw.symm;go_wp2_with fail;refine(BQ _ _ (by rw[aK,dF,ay];omega)).mono ?_;rintro e w1⟨rfl,hw⟩;obtain rfl:=hw.symm;rw[bH];go_wp2_with fail;go_meet;case rel=>exact⟨by rw[nJ.out,ay,decide_eq_true h6];rfl,rfl⟩
       ·have Bv: ¬(6:Int)≤(t1.size:Int) :=by omega
        have YS:decide ((6:Int)≤(t1.size:Int))=false:=decide_eq_false Bv;go_wp2_with fail;go_meet;case rel=>exact⟨by rw[nJ.out,ay,decide_eq_false h6];rfl,rfl⟩
      ·have rJ:ends (ai t1) [105,110,103]=false:=by simpa using e1
       rw[rJ];have nJ:=aa rJ;clear e1 rJ;go_wp2_with fail;go_meet;case rel=>exact⟨by rw[nJ.out];rfl,rfl⟩
     case rest=>
      obtain⟨rfl,hw1⟩ :=hcut;obtain rfl:=hw1.symm;by_cases hc:(ends (ai t1) [105,110,103] &&decide (6≤(ai t1).length) &&jR (bZ (ai t1) 3))=true
      ·rw[hc];have HM:Hid (gy (ai t1)=mend (bZ (ai t1) 3)) :=by show _=_;rw[gy,if_pos hc]
       have h6:6≤t1.size:=by rw[Bool.and_eq_true,Bool.and_eq_true,decide_eq_true_eq,ay]at hc;exact hc.1.2
       clear hc;have hz2:=za (ai t1);rw[HM.out,ay]at hz2;have Hz2:=aa hz2;clear hz2;go_wp2_with fail;refine(nZ t1 3 _ (by omega) (by omega)).mono ?_;rintro e w1⟨rfl,hw⟩;obtain rfl:=hw.symm;go_wp2_with fail;refine(KQ _ _ (by rw[aK,dF,ay];omega)).mono ?_;rintro e w1⟨rfl,m,rfl⟩;rw[bH];go_wp2_with fail;go_meet;case rel=>exact⟨_,rfl,⟨by rw[bH,HM.out],by rw[aK];have:=Hz2.out;omega⟩,_,rfl⟩
      ·have hc':(ends (ai t1) [105,110,103] &&decide (6≤(ai t1).length) &&jR (bZ (ai t1) 3))=false:=by simpa only[Bool.not_eq_true]using hc
       rw[hc'];have L9:Hid (gy (ai t1)=if ends (ai t1) [101,100] &&decide (5≤(ai t1).length) &&jR (bZ (ai t1) 2)then mend (bZ (ai t1) 2)else ai t1) :=by show _=_;rw[gy,if_neg hc]
       clear hc hc';go_wp2_with fail;refine(gT t1 _ _ (by omega) (by decide)).mono ?_;rintro e w1⟨rfl,hw⟩;obtain rfl:=hw.symm;rw[show ai ⟨#[101,100]⟩= [101,100]from rfl];by_cases e2:ends (ai t1) [101,100]=true
       ·rw[e2];have wG:=aa e2;clear e2;by_cases h6:5≤t1.size
        ·have Bv:(5:Int)≤(t1.size:Int) :=by omega
         go_wp2_with fail;refine(nZ t1 2 _ (by omega) (by omega)).mono ?_;rintro e w1⟨rfl,hw⟩;obtain rfl:=hw.symm;go_wp2_with fail;refine(BQ _ _ (by rw[aK,dF,ay];omega)).mono ?_;rintro e w1⟨rfl,hw⟩;obtain rfl:=hw.symm;rw[bH];by_cases hv:jR (bZ (ai t1) 2)=true
         ·have HM:Hid (gy (ai t1)=mend (bZ (ai t1) 2)) :=by show _=_;rw[L9.out,wG.out,ay,decide_eq_true h6,hv];rfl
          rw[hv];clear hv;have hz2:=za (ai t1);rw[HM.out,ay]at hz2;have Hz2:=aa hz2;clear hz2;go_wp2_with fail;refine(nZ t1 2 _ (by omega) (by omega)).mono ?_;rintro e w1⟨rfl,hw⟩;obtain rfl:=hw.symm;go_wp2_with fail;refine(KQ _ _ (by rw[aK,dF,ay];omega)).mono ?_;rintro e w1⟨rfl,m,rfl⟩;rw[bH];go_wp2_with fail;go_meet;case rel=>exact⟨_,rfl,⟨by rw[bH,HM.out],by rw[aK];have:=Hz2.out;omega⟩,_,rfl⟩
         ·have hv':jR (bZ (ai t1) 2)=false:=by simpa using hv
          have HM:Hid (gy (ai t1)=ai t1) :=by show _=_;rw[L9.out,wG.out,ay,decide_eq_true h6,hv'];rfl
          rw[hv'];clear hv hv';go_wp2_with fail;go_meet;case rel=>exact⟨_,rfl,⟨HM.out.symm,by omega⟩,0,rfl⟩
        ·have Bv: ¬(5:Int)≤(t1.size:Int) :=by omega
         have YS:decide ((5:Int)≤(t1.size:Int))=false:=decide_eq_false Bv;have HM:Hid (gy (ai t1)=ai t1) :=by show _=_;rw[L9.out,wG.out,ay,decide_eq_false h6];rfl
         go_wp2_with fail;go_meet;case rel=>exact⟨_,rfl,⟨HM.out.symm,by omega⟩,0,rfl⟩
       ·have e2':ends (ai t1) [101,100]=false:=by simpa using e2
        rw[e2'];have wG:=aa e2';clear e2 e2';have HM:Hid (gy (ai t1)=ai t1) :=by show _=_;rw[L9.out,wG.out];rfl
        go_wp2_with fail;go_meet;case rel=>exact⟨_,rfl,⟨HM.out.symm,by omega⟩,0,rfl⟩
    case rest=>
     obtain⟨t2,rfl,XQ,m,hw1⟩ :=hcut;obtain rfl:=hw1.symm;have qG:Hid (ai t2=gy (ai t1)) :=XQ.1;have hz2:=XQ.2;clear XQ;go_upto_region 22 with fail;go_cut [112](fun c wx=>c= .bool (ends (ai t2) [108,121] &&decide (5≤(ai t2).length))∧wx=w.drewN m);case first=>
      go_wp2_with fail;refine(gT t2 _ _ (by omega) (by decide)).mono ?_;rintro e w1⟨rfl,hw⟩;obtain rfl:=hw.symm;rw[show ai ⟨#[108,121]⟩= [108,121]from rfl];by_cases e1:ends (ai t2) [108,121]=true
      ·rw[e1];have nJ:=aa e1;clear e1;by_cases h6:5≤t2.size
       ·have Bv:(5:Int)≤(t2.size:Int) :=by omega
        go_wp2_with fail;go_meet;case rel=>exact⟨by rw[nJ.out,ay,decide_eq_true h6];rfl,rfl⟩
       ·have Bv: ¬(5:Int)≤(t2.size:Int) :=by omega
        have YS:decide ((5:Int)≤(t2.size:Int))=false:=decide_eq_false Bv;go_wp2_with fail;go_meet;case rel=>exact⟨by rw[nJ.out,ay,decide_eq_false h6];rfl,rfl⟩
      ·have rJ:ends (ai t2) [108,121]=false:=by simpa using e1
       rw[rJ];have nJ:=aa rJ;clear e1 rJ;go_wp2_with fail;go_meet;case rel=>exact⟨by rw[nJ.out];rfl,rfl⟩
     case rest=>
      obtain⟨rfl,hw1⟩ :=hcut;obtain rfl:=hw1.symm;go_upto_if 112 with fail;go_cut [4](fun c wx=>∃t,c= .string t∧isStep jq t2 t∧wx=w.drewN m);case first=>
       by_cases hc:(ends (ai t2) [108,121] &&decide (5≤(ai t2).length))=true
       ·rw[hc];have HM:Hid (jq (ai t2)=bZ (ai t2) 2) :=by show _=_;rw[jq,if_pos hc]
        have h6:5≤t2.size:=by rw[Bool.and_eq_true,decide_eq_true_eq,ay]at hc;exact hc.2
        clear hc;go_wp2_with fail;refine(nZ t2 2 _ (by omega) (by omega)).mono ?_;rintro e w1⟨rfl,hw⟩;obtain rfl:=hw.symm;go_wp2_with fail;go_meet;case rel=>exact⟨_,rfl,⟨by rw[bH,HM.out],by rw[aK,dF,ay];omega⟩,rfl⟩
       ·have hc':(ends (ai t2) [108,121] &&decide (5≤(ai t2).length))=false:=by simpa only[Bool.not_eq_true]using hc
        rw[hc'];have HM:Hid (jq (ai t2)=ai t2) :=by show _=_;rw[jq,if_neg hc]
        clear hc hc';go_wp2_with fail;go_meet;case rel=>exact⟨_,rfl,⟨HM.out.symm,by omega⟩,rfl⟩
      case rest=>
       obtain⟨t3,rfl,V6,hw1⟩ :=hcut;obtain rfl:=hw1.symm;have ab0:Hid (ai t3=jq (ai t2)) :=V6.1;have hz3:=V6.2;clear V6;have HE:Hid (kF (jq (gy (dz (ai s))))=kF (ai t3)) :=by show _=_;rw[ab0.out,qG.out,acH.out]
       clear acH qG ab0;go_upto_region 24 with fail;go_cut [130](fun c wx=>c= .bool (ends (ai t3) [121] &&decide (3≤(ai t3).length) && !mM (lastB (ai t3) 2))∧wx=w.drewN m);case first=>
        go_wp2_with fail;refine(gT t3 _ _ (by omega) (by decide)).mono ?_;rintro e w1⟨rfl,hw⟩;obtain rfl:=hw.symm;rw[show ai ⟨#[121]⟩= [121]from rfl];by_cases e1:ends (ai t3) [121]=true
        ·rw[e1];have nJ:=aa e1;clear e1;by_cases h6:3≤t3.size
         ·have Bv:(3:Int)≤(t3.size:Int) :=by omega
          have hk2:t3.size-2<t3.size:=by omega
          generalize hkk:t3.size-2=k2 at hk2;have xX:=aa hkk;clear hkk;have ew:IntKind.i64.wrap ((t3.size:Int)-2)=(k2:Int) :=by rw[IntWalk.i64_in _ (by omega)];have:=xX.out;omega
          have HG:=aa (l9 t3 k2 hk2);have HV:Hid (vz ((t3[k2]'hk2).toNat:Int)=mM (lastB (ai t3) 2)) :=by show _=_;rw[EP,HG.out,lastB,ay,xX.out]
          go_wp2_with fail;refine(pG _ _).mono ?_;rintro e w1⟨rfl,hw⟩;obtain rfl:=hw.symm;rw[HV.out];go_wp2_with fail;go_meet;case rel=>exact⟨by rw[nJ.out,ay,decide_eq_true h6];rfl,rfl⟩
         ·have Bv: ¬(3:Int)≤(t3.size:Int) :=by omega
          have YS:decide ((3:Int)≤(t3.size:Int))=false:=decide_eq_false Bv;go_wp2_with fail;go_meet;case rel=>exact⟨by rw[nJ.out,ay,decide_eq_false h6];rfl,rfl⟩
        ·have rJ:ends (ai t3) [121]=false:=by simpa using e1
         rw[rJ];have nJ:=aa rJ;clear e1 rJ;go_wp2_with fail;go_meet;case rel=>exact⟨by rw[nJ.out];rfl,rfl⟩
       case rest=>
        obtain⟨rfl,hw1⟩ :=hcut;obtain rfl:=hw1.symm;by_cases hc:(ends (ai t3) [121] &&decide (3≤(ai t3).length) && !mM (lastB (ai t3) 2))=true
        ·rw[hc];have HM:Hid (kF (ai t3)=bZ (ai t3) 1++ [105]) :=by show _=_;rw[kF,if_pos hc]
         have h6:3≤t3.size:=by rw[Bool.and_eq_true,Bool.and_eq_true,decide_eq_true_eq,ay]at hc;exact hc.1.2
         clear hc;have hcz:(bs (bZ (ai t3) 1)).size≤64:=by rw[aK,dF,ay];omega
         go_wp2_with fail;refine(nZ t3 1 _ (by omega) (by omega)).mono ?_;rintro e w1⟨rfl,hw⟩;obtain rfl:=hw.symm;go_wp2_with fail;go_ret;rw[HE.out,HM.out];exact⟨congrArg (fun x=>Ending.returned (Value.string x)) (KO _ [105]),_,rfl⟩
        ·have hc':(ends (ai t3) [121] &&decide (3≤(ai t3).length) && !mM (lastB (ai t3) 2))=false:=by simpa only[Bool.not_eq_true]using hc
         rw[hc'];have HM:Hid (kF (ai t3)=ai t3) :=by show _=_;rw[kF,if_neg hc]
         clear hc hc';go_wp2_with fail;go_ret;rw[HE.out,HM.out,iL];exact⟨rfl,_,rfl⟩
theorem ZA(c:UInt8) :(decide ((97:Int)≤(c.toNat:Int)) &&decide ((c.toNat:Int)≤122))=small c:=by unfold small;rw[Bool.eq_iff_iff];simp only[Bool.and_eq_true,decide_eq_true_eq];omega
theorem AB(s:ByteArray)(w:World)(hs:s.size≤1048576) :Calls Tryz.prog 92 #[.string s] w fun e w'=>e= .returned (.bool (eD (ai s)))∧w'=w:=by
 go_enter Tryz.func92,Tryz.ntmps92;go_wp2;go_loop [6](fun i=>∃k:Nat,k≤s.size∧i= .int .i64 k∧eD ((ai s).take k)=true)(fun i=>s.size-(intOf i).toNat);case atStart=>exact⟨0,Nat.zero_le _,rfl,rfl⟩
 case round=>
  obtain⟨k,hk,rfl,hall⟩ :=hrel;have HA:=aa hall;clear hall;by_cases hlt:k<s.size
  ·have hkl:k<(ai s).length:=by rw[ay];exact hlt
   have HG:=aa (l9 s k hlt);have dY:((s[k]'hlt).toNat:Int)≤255:=by have:=UInt8.toNat_lt (s[k]'hlt);omega
   have HW:Hid ((decide ((97:Int)≤((s[k]'hlt).toNat:Int)) &&decide (((s[k]'hlt).toNat:Int)≤122))=small ((ai s).getD k 0)) :=by show _=_;rw[ZA,HG.out]
   by_cases hv:small ((ai s).getD k 0)=true
   ·have HN:Hid (eD ((ai s).take (k+1))=true) :=by show _=_;rw[eD,yC _ _ hkl,←eD,HA.out,hv];rfl
    go_wp2_with fail;refine(dA _ _ _ _).mono ?_;rintro e w'⟨rfl,hw⟩;obtain rfl:=hw.symm;rw[HW.out,hv];clear hv;go_wp2;go_round;case rel=>exact⟨k+1,by omega,by go_num,HN.out⟩
    case measure=>simp[intOf];omega
   ·have hv':small ((ai s).getD k 0)=false:=by simpa using hv
    have HR:Hid (eD (ai s)=false) :=by show _=_;rw[eD,List.all_eq_false];refine⟨(ai s).getD k 0,?_,hv⟩;rw[List.getD_eq_getElem?_getD,List.getElem?_eq_getElem hkl,Option.getD_some];exact List.getElem_mem _
    go_wp2_with fail;refine(dA _ _ _ _).mono ?_;rintro e w'⟨rfl,hw⟩;obtain rfl:=hw.symm;rw[HW.out,hv'];clear hv hv';go_wp2;go_ret;rw[HR.out];exact⟨rfl,rfl⟩
  ·have HR:Hid (eD (ai s)=true) :=by have:=HA.out;rw[List.take_of_length_le (by rw[ay];omega)]at this;exact this
   go_wp2;go_ret;rw[HR.out];exact⟨rfl,rfl⟩
theorem qC(s:ByteArray)(w:World)(hs:s.size≤1048576)(h1:1≤s.size) :Calls Tryz.prog 165 #[.string s] w fun e w'=>e= .returned (.bool (mM (lastB (ai s) 1)))∧w'=w:=by
 have hk:s.size-1<s.size:=by omega
 generalize hkk:s.size-1=k at hk;have HK:=aa hkk;clear hkk;have ew:IntKind.i64.wrap ((s.size:Int)-1)=(k:Int) :=by rw[IntWalk.i64_in _ (by omega)];have:=HK.out;omega
 have HG:=aa (l9 s k hk);have HC:Hid (((s[k]'hk).toNat:Int).toNat.toUInt8=s[k]'hk) :=by show _=_;simp
 go_enter Tryz.func165,Tryz.ntmps165;go_wp2_with fail;refine(Tryz.strings_IndexByte _ _ _).mono ?_;rintro e w'⟨rfl,hw⟩;obtain rfl:=hw.symm;rw[HC.out];have HI:Hid (decide (0≤Lib.indexByte yE (s[k]'hk))=mM (lastB (ai s) 1)) :=by show _=_;rw[Jz,lastB,ay,HK.out,HG.out]
 have HV:Hid (({data:=#[97,101,105,111,117,121]} :ByteArray).data.toList=yE) :=rfl;rw[HV.out];generalize Lib.indexByte yE (s[k]'hk)=z at HI⊢;go_wp2;all_goals(go_ret;rw[←HI.out];exact⟨by simp[*],rfl⟩)
theorem mP(s:ByteArray)(l:List UInt8) :s++(⟨l.toArray⟩ :ByteArray)=bs (ai s++l) :=by apply ByteArray.ext;simp[bs,ai]
theorem Tt(s:ByteArray)(w:World)(hs:s.size≤64) :Calls Tryz.prog 151 #[.string s,.string ⟨#[115,115,101,115]⟩] w fun e w'=>e= .returned (.string (bs (eP (ai s) [115,115,101,115])))∧w'=w:=by
 have HM:Hid (eP (ai s) [115,115,101,115]=ai s++ [115,115]) :=by show _=_;rw[eP];rfl
 go_enter Tryz.func151,Tryz.ntmps151;go_wp2;go_ret;rw[HM.out];exact⟨congrArg (fun x=>Ending.returned (Value.string x)) (mP s _),rfl⟩
theorem PM(s:ByteArray)(w:World)(hs:s.size≤64)(h:2≤s.size) :Calls Tryz.prog 151 #[.string s,.string ⟨#[105,101,115]⟩] w fun e w'=>e= .returned (.string (bs (eP (ai s) [105,101,115])))∧w'=w:=by
 have hz:(2:Int)≤(s.size:Int) :=by omega
 have HM:Hid (eP (ai s) [105,101,115]=ai s++ [121]) :=by show _=_;rw[eP,if_pos rfl,ay,if_pos h]
 go_enter Tryz.func151,Tryz.ntmps151;go_wp2;go_ret;rw[HM.out];exact⟨congrArg (fun x=>Ending.returned (Value.string x)) (mP s _),rfl⟩
theorem Pe(s:ByteArray)(w:World)(hs:s.size≤64)(h: ¬2≤s.size) :Calls Tryz.prog 151 #[.string s,.string ⟨#[105,101,115]⟩] w fun e w'=>e= .returned (.string (bs (eP (ai s) [105,101,115])))∧w'=w:=by
 have hz: ¬(2:Int)≤(s.size:Int) :=by omega
 have HM:Hid (eP (ai s) [105,101,115]=ai s++ [105,101,115]) :=by show _=_;rw[eP,if_pos rfl,ay,if_neg h]
 go_enter Tryz.func151,Tryz.ntmps151;go_wp2;go_ret;rw[HM.out];exact⟨congrArg (fun x=>Ending.returned (Value.string x)) (mP s _),rfl⟩
theorem ZF(s:ByteArray)(w:World)(hs:s.size≤64) :Calls Tryz.prog 151 #[.string s,.string ⟨#[115,115]⟩] w fun e w'=>e= .returned (.string (bs (eP (ai s) [115,115])))∧w'=w:=by
 have HM:Hid (eP (ai s) [115,115]=ai s++ [115,115]) :=by show _=_;rw[eP];rfl
 go_enter Tryz.func151,Tryz.ntmps151;go_wp2;go_ret;rw[HM.out];exact⟨congrArg (fun x=>Ending.returned (Value.string x)) (mP s _),rfl⟩
theorem Zx(s:ByteArray)(w:World)(hs:s.size≤64) :Calls Tryz.prog 151 #[.string s,.string ⟨#[117,115]⟩] w fun e w'=>e= .returned (.string (bs (eP (ai s) [117,115])))∧w'=w:=by
 have HM:Hid (eP (ai s) [117,115]=ai s++ [117,115]) :=by show _=_;rw[eP];rfl
 go_enter Tryz.func151,Tryz.ntmps151;go_wp2;go_ret;rw[HM.out];exact⟨congrArg (fun x=>Ending.returned (Value.string x)) (mP s _),rfl⟩
theorem Zn(s:ByteArray)(w:World)(hs:s.size≤64) :Calls Tryz.prog 151 #[.string s,.string ⟨#[105,115]⟩] w fun e w'=>e= .returned (.string (bs (eP (ai s) [105,115])))∧w'=w:=by
 have HM:Hid (eP (ai s) [105,115]=ai s++ [105,115]) :=by show _=_;rw[eP];rfl
 go_enter Tryz.func151,Tryz.ntmps151;go_wp2;go_ret;rw[HM.out];exact⟨congrArg (fun x=>Ending.returned (Value.string x)) (mP s _),rfl⟩
theorem X0(s:ByteArray)(w:World)(hs:s.size≤64)(h:s.size<3) :Calls Tryz.prog 151 #[.string s,.string ⟨#[115]⟩] w fun e w'=>e= .returned (.string (bs (eP (ai s) [115])))∧w'=w:=by
 have hz:(s.size:Int)<3:=by omega
 have HM:Hid (eP (ai s) [115]=ai s++ [115]) :=by show _=_;rw[eP,if_neg (by decide),if_pos rfl,ay,if_pos h]
 go_enter Tryz.func151,Tryz.ntmps151;go_wp2;go_ret;rw[HM.out];exact⟨congrArg (fun x=>Ending.returned (Value.string x)) (mP s _),rfl⟩
theorem Wu(s:ByteArray)(w:World)(hs:s.size≤64)(h: ¬s.size<3) :Calls Tryz.prog 151 #[.string s,.string ⟨#[115]⟩] w fun e w'=>e= .returned (.string (bs (eP (ai s) [115])))∧w'=w:=by
 have hz: ¬(s.size:Int)<3:=by omega
 have HM:Hid (eP (ai s) [115]=ai s) :=by show _=_;rw[eP,if_neg (by decide),if_pos rfl,ay,if_neg h]
 go_enter Tryz.func151,Tryz.ntmps151;go_wp2;go_ret;rw[HM.out];exact⟨congrArg (fun x=>Ending.returned (Value.string x)) (iL s).symm,rfl⟩
def tC:List (List UInt8) :=[[115,115,101,115],[105,101,115],[115,115],[117,115],[105,115],[115]]
theorem Xc(e:List UInt8)(he:e∈tC)(s:ByteArray)(w:World)(hs:s.size≤64) :Calls Tryz.prog 151 #[.string s,.string (bs e)] w fun e' w'=>e'= .returned (.string (bs (eP (ai s) e)))∧Below w.heap.size w w':=by
 have key:Calls Tryz.prog 151 #[.string s,.string (bs e)] w fun e' w'=>e'= .returned (.string (bs (eP (ai s) e)))∧w'=w:=by
  simp only[tC,List.mem_cons,List.not_mem_nil,or_false]at he;rcases he with rfl|rfl|rfl|rfl|rfl|rfl;·exact Tt s w hs
  ·by_cases h:2≤s.size;·exact PM s w hs h
   ·exact Pe s w hs h
  ·exact ZF s w hs
  ·exact Zx s w hs
  ·exact Zn s w hs
  ·by_cases h:s.size<3;·exact X0 s w hs h
   ·exact Wu s w hs h
 exact key.mono fun _ _⟨h1,h2⟩=>⟨h1,h2▸Below.refl _ _⟩
theorem XW(s p:ByteArray)(w:World)(hs:s.size≤64)(hp:p.size≤64) :Calls Tryz.prog 153 #[.string s,.string p] w fun e w'=>e= .returned (.string (bs (sD (ai s) (ai p))))∧Below w.heap.size w w':=by
 by_cases h:s.size<3
 ·have hz:(s.size:Int)<3:=by omega
  have HM:Hid (sD (ai s) (ai p)=ai s++ai p) :=by show _=_;rw[sD,ay,if_pos h]
  go_enter Tryz.func153,Tryz.ntmps153;go_wp2;go_ret;rw[HM.out];exact⟨congrArg (fun x=>Ending.returned (Value.string x)) (mP s (ai p)),Below.refl _ _⟩
 ·have hz: ¬(s.size:Int)<3:=by omega
  have HM:Hid (sD (ai s) (ai p)=ai s) :=by show _=_;rw[sD,ay,if_neg h]
  go_enter Tryz.func153,Tryz.ntmps153;go_wp2;go_ret;rw[HM.out];exact⟨congrArg (fun x=>Ending.returned (Value.string x)) (iL s).symm,Below.refl _ _⟩
theorem UM(s p:ByteArray)(w:World)(hs:s.size≤64)(hp:p.size≤64) :Calls Tryz.prog 154 #[.string s,.string p] w fun e w'=>e= .returned (.string (bs (mO (ai s) (ai p))))∧Below w.heap.size w w':=by
 by_cases h:s.size<2
 ·have hz:(s.size:Int)<2:=by omega
  have HM:Hid (mO (ai s) (ai p)=ai s++ai p) :=by show _=_;rw[mO,ay,decide_eq_true h];rfl
  go_enter Tryz.func154,Tryz.ntmps154;go_wp2_with fail;go_ret;rw[HM.out];exact⟨congrArg (fun x=>Ending.returned (Value.string x)) (mP s (ai p)),Below.refl _ _⟩
 ·have hz: ¬(s.size:Int)<2:=by omega
  have hb:decide ((s.size:Int)<2)=false:=decide_eq_false hz;cases hv:mM (lastB (ai s) 1)
  ·have HM:Hid (mO (ai s) (ai p)=ai s++ [105]) :=by show _=_;rw[mO,ay,decide_eq_false h,hv];rfl
   have HV:=aa hv;clear hv;go_enter Tryz.func154,Tryz.ntmps154;go_wp2_with fail;refine(qC s _ (by omega) (by omega)).mono ?_;rintro e w'⟨rfl,hw⟩;obtain rfl:=hw.symm;rw[HV.out];go_wp2_with fail;go_ret;rw[HM.out];exact⟨congrArg (fun x=>Ending.returned (Value.string x)) (mP s _),Below.refl _ _⟩
  ·have HM:Hid (mO (ai s) (ai p)=ai s++ai p) :=by show _=_;rw[mO,ay,decide_eq_false h,hv];rfl
   have HV:=aa hv;clear hv;go_enter Tryz.func154,Tryz.ntmps154;go_wp2_with fail;refine(qC s _ (by omega) (by omega)).mono ?_;rintro e w'⟨rfl,hw⟩;obtain rfl:=hw.symm;rw[HV.out];go_wp2_with fail;go_ret;rw[HM.out];exact⟨congrArg (fun x=>Ending.returned (Value.string x)) (mP s (ai p)),Below.refl _ _⟩
theorem Nf {l:List UInt8}(h:eD l=true) : ∀(j:Nat)b,l[j]?=some b→b.toNat<128:=by intro j b hb;rw[eD,List.all_eq_true]at h;have:=h b (List.mem_of_getElem? hb);rw[small,decide_eq_true_eq]at this;omega
theorem U7: ∀(j:Nat)b,yE[j]?=some b→b.toNat<128:=by intro j b hb;have hm:b∈yE:=List.mem_of_getElem? hb;simp only[yE,List.mem_cons,List.not_mem_nil,or_false]at hm;rcases hm with rfl|rfl|rfl|rfl|rfl|rfl<;>decide
theorem wR(s:ByteArray)(w:World)(hs:s.size≤64)(ha:eD (ai s)=true) :Calls Tryz.prog 164 #[.string s,.string ⟨#[97,101,105,111,117,121]⟩] w fun e w'=>e= .returned (.bool (jR (ai s)))∧Below w.heap.size w w':=by refine(Tryz.strings_ContainsAny_laid s ⟨#[97,101,105,111,117,121]⟩ w (by omega) (by decide) (Nf ha) U7).mono ?_;rintro e w'⟨rfl,hb⟩;rw[←Eg];exact⟨rfl,hb⟩
theorem EE(s p:ByteArray)(w:World)(hs:s.size≤64)(hp:p.size≤64)(HA:Hid (eD (ai s)=true))(h:s.size<3∨jR (ai s)=false) :Calls Tryz.prog 152 #[.string s,.string p] w fun e w'=>e= .returned (.string (bs (l8 (ai s) (ai p))))∧Below w.heap.size w w':=by
 by_cases h3:s.size<3
 ·have hz:(s.size:Int)<3:=by omega
  have HM:Hid (l8 (ai s) (ai p)=ai s++ai p) :=by show _=_;rw[l8,ay,decide_eq_true h3];rfl
  go_enter Tryz.func152,Tryz.ntmps152;go_wp2_with fail;go_ret;rw[HM.out];exact⟨congrArg (fun x=>Ending.returned (Value.string x)) (mP s (ai p)),Below.refl _ _⟩
 ·have hz: ¬(s.size:Int)<3:=by omega
  have hb:decide ((s.size:Int)<3)=false:=decide_eq_false hz;have HV:Hid (jR (ai s)=false) :=h.resolve_left h3;have HM:Hid (l8 (ai s) (ai p)=ai s++ai p) :=by show _=_;rw[l8,HV.out,Bool.not_false,Bool.or_true,if_pos rfl]
  clear h;go_enter Tryz.func152,Tryz.ntmps152;go_wp2_with fail;refine(wR s _ hs HA.out).mono ?_;rintro e w'⟨rfl,hbw⟩;rw[HV.out];go_wp2_with fail;go_ret;rw[HM.out];exact⟨congrArg (fun x=>Ending.returned (Value.string x)) (mP s (ai p)),hbw⟩
theorem l6(pre:List UInt8)(x y:UInt8) :mend (pre++ [x,y])=if x==y&& !mM y&&y !=108&&y !=115&&y !=122 then bZ (pre++ [x,y]) 1 else if ends [x,y] [97,116]||ends [x,y] [98,108]||ends [x,y] [105,122]then pre++ [x,y]++ [101]else pre++ [x,y] :=by
 have l1:lastB (pre++ [x,y]) 1=y:=by simp[lastB]
 have l2:lastB (pre++ [x,y]) 2=x:=by simp[lastB]
 have ha:alike (pre++ [x,y])=(x==y&& !mM y&&y !=108&&y !=115&&y !=122) :=by rw[alike,l1,l2,decide_eq_true (by simp),Bool.true_and];congr 4;rw[Bool.eq_iff_iff,beq_iff_eq,beq_iff_eq];exact eq_comm
 rw[mend,ha,rA _ _ _ (by simp),rA _ _ _ (by simp),rA _ _ _ (by simp)]
theorem lI {t:ByteArray} {x y a b:UInt8}(h:ai t= [x,y]) :(t.toList== [a,b])=(x==a&&y==b) :=by rw[Lib.toList_data,show t.data.toList= [x,y]from h];simp
theorem j6(x y a b:UInt8) :ends [x,y] [a,b]=(x==a&&y==b) :=by
 rw[Bool.eq_iff_iff,mD];simp only[Bool.and_eq_true,beq_iff_eq];constructor;·rintro⟨u,hu⟩;have hl:=congrArg List.length hu;simp at hl;subst hl;simpa using hu
 ·rintro⟨rfl,rfl⟩;exact⟨[],rfl⟩
theorem O0(s p t:ByteArray)(x y:UInt8)(pre:List UInt8)(w:World)(hs:s.size≤64)(hp:p.size≤64)(h3:3≤s.size)(HA:Hid (eD (ai s)=true))(HV:Hid (jR (ai s)=true))(HT:Hid (s.extract (s.size-1-1) s.size=t))(HL:Hid (ai t= [x,y]))(HS:Hid (ai s=pre++ [x,y]))(hts:t.size=2)(p0:0<t.size)(p1:1<t.size)(H0:Hid ((t[0]'p0)=x))(H1:Hid ((t[1]'p1)=y)) :Calls Tryz.prog 152 #[.string s,.string p] w fun e w'=>e= .returned (.string (bs (mend (ai s))))∧Below w.heap.size w w':=by
 have hz: ¬(s.size:Int)<3:=by omega
 have hb:decide ((s.size:Int)<3)=false:=decide_eq_false hz;go_enter Tryz.func152,Tryz.ntmps152;go_wp2_with fail;refine(wR s _ hs HA.out).mono ?_;rintro e w'⟨rfl,hbw⟩;rw[HV.out];clear HV HA;go_upto_region 4 with fail;go_cut [6](fun c wx=>c= .string t∧wx=w');case first=>go_wp2_with fail;go_meet;case rel=>exact⟨by rw[HT.out],rfl⟩
 case rest=>
  obtain⟨rfl,hw⟩ :=hcut;obtain rfl:=hw.symm;clear HT;by_cases c1:(t.toList== [97,116])=true
  ·have hxy:=c1;rw[lI HL.out,Bool.and_eq_true,beq_iff_eq,beq_iff_eq]at hxy;have HM:Hid (mend (ai s)=ai s++ [101]) :=by show _=_;rw[HS.out,l6,hxy.1,hxy.2];simp[j6]
   clear hxy H0 H1;go_wp2_with fail;go_ret;rw[HM.out];exact⟨congrArg (fun z=>Ending.returned (Value.string z)) (mP s _),hbw⟩
  have c1':(t.toList== [97,116])=false:=by simpa only[Bool.not_eq_true]using c1
  have d1:Hid ((x==97&&y==116)=false) :=by show _=_;rw[←lI HL.out];exact c1'
  clear c1;by_cases c2:(t.toList== [98,108])=true
  ·have hxy:=c2;rw[lI HL.out,Bool.and_eq_true,beq_iff_eq,beq_iff_eq]at hxy;have HM:Hid (mend (ai s)=ai s++ [101]) :=by show _=_;rw[HS.out,l6,hxy.1,hxy.2];simp[j6]
   clear hxy H0 H1;go_wp2_with fail;go_ret;rw[HM.out];exact⟨congrArg (fun z=>Ending.returned (Value.string z)) (mP s _),hbw⟩
  have c2':(t.toList== [98,108])=false:=by simpa only[Bool.not_eq_true]using c2
  have d2:Hid ((x==98&&y==108)=false) :=by show _=_;rw[←lI HL.out];exact c2'
  clear c2;by_cases c3:(t.toList== [105,122])=true
  ·have hxy:=c3;rw[lI HL.out,Bool.and_eq_true,beq_iff_eq,beq_iff_eq]at hxy;have HM:Hid (mend (ai s)=ai s++ [101]) :=by show _=_;rw[HS.out,l6,hxy.1,hxy.2];simp[j6]
   clear hxy H0 H1;go_wp2_with fail;go_ret;rw[HM.out];exact⟨congrArg (fun z=>Ending.returned (Value.string z)) (mP s _),hbw⟩
  have c3':(t.toList== [105,122])=false:=by simpa only[Bool.not_eq_true]using c3
  have d3:Hid ((x==105&&y==122)=false) :=by show _=_;rw[←lI HL.out];exact c3'
  clear c3;by_cases c4:(t.toList== [108,108])=true
  ·have hxy:=c4;rw[lI HL.out,Bool.and_eq_true,beq_iff_eq,beq_iff_eq]at hxy;have HM:Hid (mend (ai s)=ai s) :=by show _=_;rw[HS.out,l6,hxy.1,hxy.2];simp[j6]
   clear hxy H0 H1;go_wp2_with fail;go_ret;rw[HM.out];exact⟨congrArg (fun z=>Ending.returned (Value.string z)) (iL s).symm,hbw⟩
  have c4':(t.toList== [108,108])=false:=by simpa only[Bool.not_eq_true]using c4
  have d4:Hid ((x==108&&y==108)=false) :=by show _=_;rw[←lI HL.out];exact c4'
  clear c4;by_cases c5:(t.toList== [115,115])=true
  ·have hxy:=c5;rw[lI HL.out,Bool.and_eq_true,beq_iff_eq,beq_iff_eq]at hxy;have HM:Hid (mend (ai s)=ai s) :=by show _=_;rw[HS.out,l6,hxy.1,hxy.2];simp[j6]
   clear hxy H0 H1;go_wp2_with fail;go_ret;rw[HM.out];exact⟨congrArg (fun z=>Ending.returned (Value.string z)) (iL s).symm,hbw⟩
  have c5':(t.toList== [115,115])=false:=by simpa only[Bool.not_eq_true]using c5
  have d5:Hid ((x==115&&y==115)=false) :=by show _=_;rw[←lI HL.out];exact c5'
  clear c5;by_cases c6:(t.toList== [122,122])=true
  ·have hxy:=c6;rw[lI HL.out,Bool.and_eq_true,beq_iff_eq,beq_iff_eq]at hxy;have HM:Hid (mend (ai s)=ai s) :=by show _=_;rw[HS.out,l6,hxy.1,hxy.2];simp[j6]
   clear hxy H0 H1;go_wp2_with fail;go_ret;rw[HM.out];exact⟨congrArg (fun z=>Ending.returned (Value.string z)) (iL s).symm,hbw⟩
  have c6':(t.toList== [122,122])=false:=by simpa only[Bool.not_eq_true]using c6
  have d6:Hid ((x==122&&y==122)=false) :=by show _=_;rw[←lI HL.out];exact c6'
  clear c6;by_cases g:((t[0]'p0).toNat:Int)=((t[1]'p1).toNat:Int)
  ·have hxy:x=y:=by rw[H0.out,H1.out]at g;exact UInt8.toNat_inj.1 (by omega)
   have X6:Hid (lastB (ai t) 1=y) :=by show _=_;rw[HL.out];rfl
   by_cases hv:mM y=true
   ·have HM:Hid (mend (ai s)=ai s) :=by show _=_;rw[HS.out,l6,j6,j6,j6,d1.out,d2.out,d3.out,hv];simp
    have HV:Hid (mM (lastB (ai t) 1)=true) :=by show _=_;rw[X6.out,hv]
    have hv2:mM (lastB (ai t) 1)=true:=HV.out;clear d1 d2 d3 d4 d5 d6 hv hxy H0 H1 HL X6;go_wp2_with fail;go_quiet((go_at_call 165;refine Calls.quiet_of_same (qC _ _ (by omega) (by omega))));go_wp2_with fail;go_ret;rw[HM.out];exact⟨congrArg (fun z=>Ending.returned (Value.string z)) (iL s).symm,below_drewN hbw _⟩
   ·have hvf:mM y=false:=by simpa using hv
    have HM:Hid (mend (ai s)=bZ (ai s) 1) :=by show _=_;have e4:=d4.out;have e5:=d5.out;have e6:=d6.out;rw[hxy,Bool.and_self]at e4 e5 e6;rw[HS.out,l6,hxy,hvf,bne,bne,bne,e4,e5,e6];simp
    have hv2:mM (lastB (ai t) 1)=false:=by rw[X6.out,hvf]
    clear d1 d2 d3 d4 d5 d6 hv hvf hxy H0 H1 HL X6;go_wp2_with fail;go_quiet((go_at_call 165;refine Calls.quiet_of_same (qC _ _ (by omega) (by omega))));go_wp2_with fail;go_ret;rw[HM.out,←xK];exact⟨rfl,below_drewN hbw _⟩
  ·have hxy:(x==y)=false:=by rw[beq_eq_false_iff_ne];intro e;apply g;rw[H0.out,H1.out,e]
   have gb:(((t[0]'p0).toNat:Int)==((t[1]'p1).toNat:Int))=false:=beq_eq_false_iff_ne.2 g;have HM:Hid (mend (ai s)=ai s) :=by show _=_;rw[HS.out,l6,j6,j6,j6,d1.out,d2.out,d3.out,hxy];simp
   clear d1 d2 d3 d4 d5 d6 hxy H0 H1 HL;go_wp2_with fail;go_quiet(fail);go_wp2_with fail;go_ret;rw[HM.out];exact⟨congrArg (fun z=>Ending.returned (Value.string z)) (iL s).symm,below_drewN hbw _⟩
theorem R4(l:List UInt8)(h:2≤l.length) : ∃pre x y,l=pre++ [x,y] :=by
 have:l=l.take (l.length-2)++l.drop (l.length-2) :=(List.take_append_drop _ _).symm;have hd:(l.drop (l.length-2)).length=2:=by rw[List.length_drop];omega
 generalize l.drop (l.length-2)=d at*;match d,hd with
 | [x,y],_=>exact⟨_,x,y,this⟩
theorem TY(s p:ByteArray)(w:World)(hs:s.size≤64)(hp:p.size≤64)(ha:eD (ai s)=true) :Calls Tryz.prog 152 #[.string s,.string p] w fun e w'=>e= .returned (.string (bs (l8 (ai s) (ai p))))∧Below w.heap.size w w':=by
 by_cases h3:s.size<3;·exact EE s p w hs hp ha (Or.inl h3)
 by_cases hv:jR (ai s)=true
 ·obtain⟨pre,x,y,hl⟩ :=R4 (ai s) (by rw[ay];omega);have hn:s.size=pre.length+2:=by rw[←ay,hl];simp
  have ht:ai (s.extract (s.size-1-1) s.size)= [x,y] :=by rw[ai,Lib.extract_data,show s.data.toList=ai s from rfl,hl,hn];simp
  have hz:(s.extract (s.size-1-1) s.size).size=2:=by rw[←ay,ht];rfl
  have e:l8 (ai s) (ai p)=mend (ai s) :=by rw[l8,ay,decide_eq_false h3,hv];rfl
  rw[e];refine O0 s p _ x y pre w hs hp (by omega) ha hv rfl ht hl hz (by omega) (by omega) ?_ ?_;·show _=_;rw[l9,ht];rfl
  ·show _=_;rw[l9,ht];rfl
 ·exact EE s p w hs hp ha (Or.inr (by simpa using hv))
def Qs(l e:List UInt8) :List UInt8:=if ends l e=true then bZ l e.length else l
theorem Aq(s:ByteArray)(e:List UInt8)(w:World)(hs:s.size≤64) :Calls Tryz.prog 155 #[.string s,.string (bs e)] w fun x w'=>x= .returned (.tuple #[.string (bs (Qs (ai s) e)),.bool (ends (ai s) e)])∧w'=w:=by refine(Tryz.strings_CutSuffix s (bs e) w (by omega)).mono ?_;rintro x w'⟨rfl,rfl⟩;rw[show(bs e).data.toList=e from bH e];exact⟨rfl,rfl⟩
theorem Uu(es:List (List UInt8))(k:Nat)(h:k<es.length) :es.drop k=es.getD k [] ::es.drop (k+1) :=by rw[List.drop_eq_getElem_cons h];simp[h]
theorem Vr(es:List (List UInt8))(k:Nat)(h:k<es.length) :es.getD k []∈es:=by rw[List.getD_eq_getElem?_getD,List.getElem?_eq_getElem h,Option.getD_some];exact List.getElem_mem _
theorem xe(es:List (List UInt8))(F:List UInt8→List UInt8→List UInt8)(g b n cap:Nat)(s:ByteArray)(w:World)(hs:s.size≤64)(eg: ∀args w,(callFunc g args).run Tryz.prog w= .ok (.enter g args) w)(hl:es.length=n)(hn:n≤8)(hbl:b<w.heap.size)(hc: ∀t,t<n→w.cell? ⟨b,t,none⟩=some (.string (bs (es.getD t []))))(HF:Hid (∀e∈es,∀W,ends (ai s) e=true→Calls Tryz.prog g #[.string (bs (bZ (ai s) e.length)),.string (bs e)] W fun x W'=>x= .returned (.string (bs (F (bZ (ai s) e.length) e)))∧Below W.heap.size W W')) :Calls Tryz.prog 141 #[.agg #[.slice (some ⟨b,0,none⟩) n cap,.func (.func g) #[] #[]],.string s] w fun e w'=>e= .returned (.string (bs (bu F (ai s) es)))∧Below w.heap.size w w':=by
 have Hc:=aa hc;clear hc;go_enter Tryz.func141,Tryz.ntmps141;go_wp2_with fail;have HB:Hid (Below w.heap.size w (w.alloc (.cells #[.slice (some ⟨b,0,none⟩) n cap,.func (.func g) #[] #[]] 167))) :=(Below.refl _ _).alloc (Nat.le_refl _) _;go_loop [12](fun i=>∃k:Nat,k≤n∧i= .int .i64 k∧bu F (ai s) es=bu F (ai s) (es.drop k))(fun i=>n-(intOf i).toNat);case atStart=>exact⟨0,Nat.zero_le _,rfl,rfl⟩
 case round=>
  obtain⟨k,hk,rfl,abm⟩ :=hrel;have HK:=aa abm;clear abm;by_cases hlt:k<n
  ·have g1:=(HB.out.cell (p:=⟨b,k,none⟩) hbl).trans (Hc.out k hlt);have hkl:k<es.length:=by omega
   have HD:=aa (Uu es k hkl);have HM:=aa (Vr es k hkl);generalize hee:es.getD k []=e at*;clear hee;by_cases he:ends (ai s) e=true
   ·have HR:Hid (bu F (ai s) es=F (bZ (ai s) e.length) e) :=by show _=_;rw[HK.out,HD.out,bu,if_pos he]
    have HE:=aa he;have HO:Hid (Qs (ai s) e=bZ (ai s) e.length) :=by show _=_;rw[Qs,if_pos he]
    clear he;go_wp2_with fail;refine(Aq s e _ hs).mono ?_;rintro x w'⟨rfl,hw⟩;obtain rfl:=hw.symm;rw[HE.out,HO.out];go_wp2_with(go_at_fn g;refine(HF.out e HM.out _ HE.out).mono ?_;rintro x w2⟨rfl,hb2⟩);go_ret;rw[HR.out];exact⟨rfl,HB.out.trans (hb2.mono (by simp))⟩
   ·have he':ends (ai s) e=false:=by simpa using he
    have HN:Hid (bu F (ai s) es=bu F (ai s) (es.drop (k+1))) :=by show _=_;rw[HK.out,HD.out,bu,if_neg he]
    have HE:=aa he';clear he he';go_wp2_with fail;refine(Aq s e _ hs).mono ?_;rintro x w'⟨rfl,hw⟩;obtain rfl:=hw.symm;rw[HE.out];go_wp2_with fail;go_round;case rel=>exact⟨k+1,by omega,by go_num,HN.out⟩
    case measure=>simp[intOf];omega
  ·have HR:Hid (bu F (ai s) es=ai s) :=by show _=_;rw[HK.out,List.drop_of_length_le (by omega),bu]
   go_wp2_with fail;go_ret;rw[HR.out,iL];exact⟨rfl,HB.out⟩
end Go.Proofs.YtcjiphknpagenaaGreatDoor
