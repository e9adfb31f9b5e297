import Derived.Test.YtcjiphknpagenaaGreatDoorDocsJ17
namespace Go.Proofs.YtcjiphknpagenaaGreatDoor
open Go Go.RowKit
set_option linter.unusedVariables false
set_option linter.unusedSimpArgs false
set_option maxRecDepth 100000
set_option maxHeartbeats 8000000
def pV(B:Nat)(w:World) :Prop:=w.heap[B]?=some (.cells #[.string ⟨#[115,115,101,115]⟩,.string ⟨#[105,101,115]⟩,.string ⟨#[115,115]⟩,.string ⟨#[117,115]⟩,.string ⟨#[105,115]⟩,.string ⟨#[115]⟩] 9)∧w.heap[B+1]?=some (.cells #[.string ⟨#[105,110,103]⟩,.string ⟨#[101,100]⟩] 9)∧w.heap[B+1+1]?=some (.cells #[.string ⟨#[108,121]⟩] 9)∧w.heap[B+1+1+1]?=some (.cells #[.string ⟨#[121]⟩] 9)∧w.heap[B+1+1+1+1]?=some (.cells #[.slice (some ⟨B,0,none⟩) 6 6,.func (.func 151) #[] #[],.slice (some ⟨B+1,0,none⟩) 2 2,.func (.func 152) #[] #[],.slice (some ⟨B+1+1,0,none⟩) 1 1,.func (.func 153) #[] #[],.slice (some ⟨B+1+1+1,0,none⟩) 1 1,.func (.func 154) #[] #[]] 167)
theorem lt_of_block {w:World} {b:Nat} {o:Obj}(h:w.heap[b]?=some o) :b<w.heap.size:=(Array.getElem?_eq_some_iff.1 h).1
theorem pV.below {B:Nat} {w w':World}(h:pV B w)(hb:Below w.heap.size w w') :pV B w':=by obtain⟨h0,h1,h2,h3,h4⟩ :=h;exact⟨(hb.block _ (lt_of_block h0)).trans h0,(hb.block _ (lt_of_block h1)).trans h1,(hb.block _ (lt_of_block h2)).trans h2,(hb.block _ (lt_of_block h3)).trans h3,(hb.block _ (lt_of_block h4)).trans h4⟩
theorem cell_of_block {w:World} {b:Nat} {cs:Array Value} {t:TypeId}(h:w.heap[b]?=some (.cells cs t))(k:Nat) :w.cell? ⟨b,k,none⟩=cs[k]?:=by simp[World.cell?,h]
theorem alloc_at(w:World)(o:Obj) :(w.alloc o).heap[w.heap.size]?=some o:=heap_alloc_new w o
theorem alloc_old(w:World)(o:Obj)(b:Nat)(x:Obj)(h:w.heap[b]?=some x) :(w.alloc o).heap[b]?=some x:=(((Below.refl w.heap.size w).alloc (Nat.le_refl _) o).block b (lt_of_block h)).trans h
theorem uN(w:World)(o:Obj) :(w.alloc o).heap.size=w.heap.size+1:=by simp
theorem aaj(w:World)(o1 o2 o3 o4 o5:Obj) :let w':=((((w.alloc o1).alloc o2).alloc o3).alloc o4).alloc o5
    w'.heap[w.heap.size]?=some o1∧w'.heap[w.heap.size+1]?=some o2∧w'.heap[w.heap.size+1+1]?=some o3∧w'.heap[w.heap.size+1+1+1]?=some o4∧w'.heap[w.heap.size+1+1+1+1]?=some o5:=by
  have s1:=uN w o1
  have s2:=uN (w.alloc o1) o2
  have s3:=uN ((w.alloc o1).alloc o2) o3
  have s4:=uN (((w.alloc o1).alloc o2).alloc o3) o4
  have a2:=alloc_at (w.alloc o1) o2
  have a3:=alloc_at ((w.alloc o1).alloc o2) o3
  have a4:=alloc_at (((w.alloc o1).alloc o2).alloc o3) o4
  have a5:=alloc_at ((((w.alloc o1).alloc o2).alloc o3).alloc o4) o5
  rw[s1]at a2 s2
  rw[s2]at a3 s3
  rw[s3]at a4 s4
  rw[s4]at a5
  exact⟨alloc_old _ _ _ _ (alloc_old _ _ _ _ (alloc_old _ _ _ _ (alloc_old _ _ _ _ (alloc_at w o1)))),alloc_old _ _ _ _ (alloc_old _ _ _ _ (alloc_old _ _ _ _ a2)),alloc_old _ _ _ _ (alloc_old _ _ _ _ a3),alloc_old _ _ _ _ a4,a5⟩
theorem SC(w:World) :Calls Tryz.prog 140 #[] w fun e w'=>e= .returned (.slice (some ⟨w.heap.size+1+1+1+1,0,none⟩) 4 4)∧pV w.heap.size w'∧Below w.heap.size w w':=by go_enter Tryz.func140,Tryz.ntmps140;go_wp2;go_ret;refine⟨rfl,aaj w _ _ _ _ _,?_⟩;·exact(((((Below.refl _ _).alloc (Nat.le_refl _) _).alloc (by simp) _).alloc (by simp;omega) _).alloc (by simp;omega) _).alloc (by simp;omega) _
def yt(l:List UInt8) :Nat→List UInt8
 |0=>l
 |1=>dz l
 |2=>gy (dz l)
 |3=>jq (gy (dz l))
 |_=>kF (jq (gy (dz l)))
theorem zJ {l:List UInt8}(h:eD l=true)(n:Nat) :eD (bZ l n)=true:=by rw[eD,List.all_eq_true]at h⊢;exact fun x hx=>h x (List.mem_of_mem_take hx)
theorem Sl {l:List UInt8}(h:eD l=true)(c:UInt8)(hc:small c=true) :eD (l++ [c])=true:=by rw[eD,List.all_append];rw[eD]at h;simp[h,hc]
theorem QJ {l:List UInt8}(h:eD l=true) :eD (dz l)=true:=by
 unfold dz;split;·exact zJ h _
 ·split
  ·split;·exact Sl (zJ h _) _ (by decide)
   ·exact h
  ·split;·exact zJ h _
   ·exact h
theorem e_len {es:List (List UInt8)}(h: ∀e∈es,e.length≤4) {e:List UInt8}(he:e∈es) :(bs e).size≤64:=by have:=h e he;rw[aK];omega
theorem afn(j:Nat)(h:j<6) :(#[.string ⟨#[115,115,101,115]⟩,.string ⟨#[105,101,115]⟩,.string ⟨#[115,115]⟩,.string ⟨#[117,115]⟩,.string ⟨#[105,115]⟩,.string ⟨#[115]⟩] :Array Value)[j]?=some (.string (bs ((tC:List (List UInt8)).getD j []))) :=by
 match j,h with
 |0,_=>rfl
 |1,_=>rfl
 |2,_=>rfl
 |3,_=>rfl
 |4,_=>rfl
 |5,_=>rfl
theorem afi(j:Nat)(h:j<2) :(#[.string ⟨#[105,110,103]⟩,.string ⟨#[101,100]⟩] :Array Value)[j]?=some (.string (bs (([[105,110,103],[101,100]] :List (List UInt8)).getD j []))) :=by
 match j,h with
 |0,_=>rfl
 |1,_=>rfl
theorem afj(j:Nat)(h:j<1) :(#[.string ⟨#[108,121]⟩] :Array Value)[j]?=some (.string (bs (([[108,121]] :List (List UInt8)).getD j []))) :=by
 match j,h with
 |0,_=>rfl
theorem agq(j:Nat)(h:j<1) :(#[.string ⟨#[121]⟩] :Array Value)[j]?=some (.string (bs (([[121]] :List (List UInt8)).getD j []))) :=by
 match j,h with
 |0,_=>rfl
theorem M4(s:ByteArray)(w:World)(h3:3≤s.size)(h64:s.size≤64)(HA:Hid (eD (ai s)=true)) :Calls Tryz.prog 122 #[.string s] w fun e w'=>e= .returned (.string (bs (kF (jq (gy (dz (ai s)))))))∧Below w.heap.size w w':=by
 have hlz: ¬(65536:Int)<(s.size:Int) :=by omega
 have b1:(decide ((3:Int)≤(s.size:Int)) &&decide ((s.size:Int)≤64))=true:=by rw[decide_eq_true (by omega),decide_eq_true (by omega)];rfl
 have HW:=aa b1;clear b1;go_enter Tryz.func122,Tryz.ntmps122;go_wp2_with fail;refine(nH s _ (by omega)).mono ?_;rintro e w1⟨rfl,hb1⟩;have HB1:=aa hb1;clear hb1;go_wp2_with fail;refine(dA _ _ _ _).mono ?_;rintro e w'⟨rfl,hw⟩;obtain rfl:=hw.symm;rw[HW.out];go_wp2_with fail;refine(AB s _ (by omega)).mono ?_;rintro e w'⟨rfl,hw⟩;obtain rfl:=hw.symm;rw[HA.out];go_wp2_with fail;refine(SC _).mono ?_;rintro e w2⟨rfl,hr,hb2⟩;have HR:=aa hr;have HB2:=aa (HB1.out.trans (hb2.mono HB1.out.size));clear hr hb2 HB1;generalize w1.heap.size=B at*;clear hw;go_wp2_with fail;go_loopw [3,23](fun c i wr=>∃(k:Nat)(t:ByteArray),k≤4∧i= .int .i64 k∧c= .string t∧t.size≤64∧ai t=yt (ai s) k∧(k≤1→eD (ai t)=true)∧pV B wr∧Below w.heap.size w wr)(fun _ i _=>4-(intOf i).toNat);case atStart=>exact⟨0,s,by omega,rfl,rfl,h64,rfl,fun _=>HA.out,HR.out,HB2.out⟩
 case round=>
  obtain⟨k,t,hk,rfl,rfl,hts,hst,hal,hrl,hbel⟩ :=hrel;have HST:=aa hst;have HAL:=aa hal;have zM:=aa hrl;have oh:=aa hbel;clear hst hal hrl hbel HR HB2;by_cases hlt:k<4
  ·have hk4:k=0∨k=1∨k=2∨k=3:=by omega
   rcases hk4 with rfl|rfl|rfl|rfl
   ·have HQ:=zM.out;have g1:wr.cell? ⟨B+1+1+1+1,0,none⟩=some (.slice (some ⟨B,0,none⟩) 6 6) :=cell_of_block HQ.2.2.2.2 0;have g2:wr.cell? ⟨B+1+1+1+1,1,none⟩=some (.func (.func 151) #[] #[]) :=cell_of_block HQ.2.2.2.2 1;have HH:Hid (wr.heap[B]?=some (.cells #[.string ⟨#[115,115,101,115]⟩,.string ⟨#[105,101,115]⟩,.string ⟨#[115,115]⟩,.string ⟨#[117,115]⟩,.string ⟨#[105,115]⟩,.string ⟨#[115]⟩] 9)) :=HQ.1;clear HQ;go_wp2_with fail;refine(xe tC eP 151 (B) 6 6 t _ hts (enters_of Tryz.func151 (by kernel_rfl) rfl) rfl (by decide) (lt_of_block (alloc_old _ _ _ _ HH.out)) (fun j hj=>(cell_of_block (alloc_old _ _ _ _ HH.out) j).trans (afn j hj)) (fun e he W _=>Xc e he _ W (by rw[aK,dF,ay];omega))).mono ?_;rintro e w3⟨rfl,hb3⟩;have BL:=aa ((Below.refl wr.heap.size wr).alloc (Nat.le_refl _) (.cells #[.slice (some ⟨B,0,none⟩) 6 6,.func (.func 151) #[] #[]] 167))
    have HB3:=aa (BL.out.trans (hb3.mono (by simp)));have HN:Hid (pV B w3∧Below w.heap.size w w3) :=⟨zM.out.below HB3.out,oh.out.trans (HB3.out.mono oh.out.size)⟩;have HT:Hid (ai (bs (bu eP (ai t) tC))=yt (ai s) 1) :=by show _=_;rw[bH,show bu eP (ai t) tC=dz (ai t)from xV _,HST.out];rfl
    have HZ:Hid ((bs (bu eP (ai t) tC)).size≤64) :=by show _≤_;rw[aK,show bu eP (ai t) tC=dz (ai t)from xV _];have:=Ky (ai t);rw[ay]at this;omega
    have HS:Hid (1≤1→eD (ai (bs (bu eP (ai t) tC)))=true) :=by intro hk1;rw[bH,show bu eP (ai t) tC=dz (ai t)from xV _];exact QJ (HAL.out (by omega))
    clear hb3 BL HB3 g1 g2 HH;go_wp2_with fail;go_roundw;case rel=>exact⟨1,_,by omega,by go_num,rfl,HZ.out,HT.out,HS.out,HN.out.1,HN.out.2⟩
    case measure=>simp[intOf]
   ·have HQ:=zM.out;have g1:wr.cell? ⟨B+1+1+1+1,2,none⟩=some (.slice (some ⟨B+1,0,none⟩) 2 2) :=cell_of_block HQ.2.2.2.2 2;have g2:wr.cell? ⟨B+1+1+1+1,3,none⟩=some (.func (.func 152) #[] #[]) :=cell_of_block HQ.2.2.2.2 3;have HH:Hid (wr.heap[B+1]?=some (.cells #[.string ⟨#[105,110,103]⟩,.string ⟨#[101,100]⟩] 9)) :=HQ.2.1;clear HQ;go_wp2_with fail;refine(xe [[105,110,103],[101,100]] l8 152 (B+1) 2 2 t _ hts (enters_of Tryz.func152 (by kernel_rfl) rfl) rfl (by decide) (lt_of_block (alloc_old _ _ _ _ HH.out)) (fun j hj=>(cell_of_block (alloc_old _ _ _ _ HH.out) j).trans (afi j hj)) (fun e he W _=>by have:=TY (bs (bZ (ai t) e.length)) (bs e) W (by rw[aK,dF,ay];omega) (e_len (es:=[[105,110,103],[101,100]]) (by decide) he) (by rw[bH];exact zJ (HAL.out (by omega)) _);rwa [bH,bH]at this)).mono ?_;rintro e w3⟨rfl,hb3⟩;have BL:=aa ((Below.refl wr.heap.size wr).alloc (Nat.le_refl _) (.cells #[.slice (some ⟨B+1,0,none⟩) 2 2,.func (.func 152) #[] #[]] 167))
    have HB3:=aa (BL.out.trans (hb3.mono (by simp)));have HN:Hid (pV B w3∧Below w.heap.size w w3) :=⟨zM.out.below HB3.out,oh.out.trans (HB3.out.mono oh.out.size)⟩;have HT:Hid (ai (bs (bu l8 (ai t) [[105,110,103],[101,100]]))=yt (ai s) 2) :=by show _=_;rw[bH,show bu l8 (ai t) [[105,110,103],[101,100]]=gy (ai t)from CS _,HST.out];rfl
    have HZ:Hid ((bs (bu l8 (ai t) [[105,110,103],[101,100]])).size≤64) :=by show _≤_;rw[aK,show bu l8 (ai t) [[105,110,103],[101,100]]=gy (ai t)from CS _];have:=za (ai t);rw[ay]at this;omega
    have HS:Hid (2≤1→eD (ai (bs (bu l8 (ai t) [[105,110,103],[101,100]])))=true) :=by intro hk1;omega
    clear hb3 BL HB3 g1 g2 HH;go_wp2_with fail;go_roundw;case rel=>exact⟨2,_,by omega,by go_num,rfl,HZ.out,HT.out,HS.out,HN.out.1,HN.out.2⟩
    case measure=>simp[intOf]
   ·have HQ:=zM.out;have g1:wr.cell? ⟨B+1+1+1+1,4,none⟩=some (.slice (some ⟨B+1+1,0,none⟩) 1 1) :=cell_of_block HQ.2.2.2.2 4;have g2:wr.cell? ⟨B+1+1+1+1,5,none⟩=some (.func (.func 153) #[] #[]) :=cell_of_block HQ.2.2.2.2 5;have HH:Hid (wr.heap[B+1+1]?=some (.cells #[.string ⟨#[108,121]⟩] 9)) :=HQ.2.2.1;clear HQ;go_wp2_with fail;refine(xe [[108,121]] sD 153 (B+1+1) 1 1 t _ hts (enters_of Tryz.func153 (by kernel_rfl) rfl) rfl (by decide) (lt_of_block (alloc_old _ _ _ _ HH.out)) (fun j hj=>(cell_of_block (alloc_old _ _ _ _ HH.out) j).trans (afj j hj)) (fun e he W _=>by have:=XW (bs (bZ (ai t) e.length)) (bs e) W (by rw[aK,dF,ay];omega) (e_len (es:=[[108,121]]) (by decide) he);rwa [bH,bH]at this)).mono ?_;rintro e w3⟨rfl,hb3⟩;have BL:=aa ((Below.refl wr.heap.size wr).alloc (Nat.le_refl _) (.cells #[.slice (some ⟨B+1+1,0,none⟩) 1 1,.func (.func 153) #[] #[]] 167))
    have HB3:=aa (BL.out.trans (hb3.mono (by simp)));have HN:Hid (pV B w3∧Below w.heap.size w w3) :=⟨zM.out.below HB3.out,oh.out.trans (HB3.out.mono oh.out.size)⟩;have HT:Hid (ai (bs (bu sD (ai t) [[108,121]]))=yt (ai s) 3) :=by show _=_;rw[bH,show bu sD (ai t) [[108,121]]=jq (ai t)from CR _,HST.out];rfl
    have HZ:Hid ((bs (bu sD (ai t) [[108,121]])).size≤64) :=by show _≤_;rw[aK,show bu sD (ai t) [[108,121]]=jq (ai t)from CR _];have:=KN (ai t);rw[ay]at this;omega
    have HS:Hid (3≤1→eD (ai (bs (bu sD (ai t) [[108,121]])))=true) :=by intro hk1;omega
    clear hb3 BL HB3 g1 g2 HH;go_wp2_with fail;go_roundw;case rel=>exact⟨3,_,by omega,by go_num,rfl,HZ.out,HT.out,HS.out,HN.out.1,HN.out.2⟩
    case measure=>simp[intOf]
   ·have HQ:=zM.out;have g1:wr.cell? ⟨B+1+1+1+1,6,none⟩=some (.slice (some ⟨B+1+1+1,0,none⟩) 1 1) :=cell_of_block HQ.2.2.2.2 6;have g2:wr.cell? ⟨B+1+1+1+1,7,none⟩=some (.func (.func 154) #[] #[]) :=cell_of_block HQ.2.2.2.2 7;have HH:Hid (wr.heap[B+1+1+1]?=some (.cells #[.string ⟨#[121]⟩] 9)) :=HQ.2.2.2.1;clear HQ;go_wp2_with fail;refine(xe [[121]] mO 154 (B+1+1+1) 1 1 t _ hts (enters_of Tryz.func154 (by kernel_rfl) rfl) rfl (by decide) (lt_of_block (alloc_old _ _ _ _ HH.out)) (fun j hj=>(cell_of_block (alloc_old _ _ _ _ HH.out) j).trans (agq j hj)) (fun e he W _=>by have:=UM (bs (bZ (ai t) e.length)) (bs e) W (by rw[aK,dF,ay];omega) (e_len (es:=[[121]]) (by decide) he);rwa [bH,bH]at this)).mono ?_;rintro e w3⟨rfl,hb3⟩;have BL:=aa ((Below.refl wr.heap.size wr).alloc (Nat.le_refl _) (.cells #[.slice (some ⟨B+1+1+1,0,none⟩) 1 1,.func (.func 154) #[] #[]] 167))
    have HB3:=aa (BL.out.trans (hb3.mono (by simp)));have HN:Hid (pV B w3∧Below w.heap.size w w3) :=⟨zM.out.below HB3.out,oh.out.trans (HB3.out.mono oh.out.size)⟩;have HT:Hid (ai (bs (bu mO (ai t) [[121]]))=yt (ai s) 4) :=by show _=_;rw[bH,show bu mO (ai t) [[121]]=kF (ai t)from CW _,HST.out];rfl
    have HZ:Hid ((bs (bu mO (ai t) [[121]])).size≤64) :=by show _≤_;rw[aK,show bu mO (ai t) [[121]]=kF (ai t)from CW _];have:=LW (ai t);rw[ay]at this;omega
    have HS:Hid (4≤1→eD (ai (bs (bu mO (ai t) [[121]])))=true) :=by intro hk1;omega
    clear hb3 BL HB3 g1 g2 HH;go_wp2_with fail;go_roundw;case rel=>exact⟨4,_,by omega,by go_num,rfl,HZ.out,HT.out,HS.out,HN.out.1,HN.out.2⟩
    case measure=>simp[intOf]
  ·obtain rfl:k=4:=by omega
   go_wp2_with fail;go_ret;rw[←show ai t=kF (jq (gy (dz (ai s))))from HST.out,iL];exact⟨rfl,oh.out⟩
theorem M9(s:ByteArray)(w:World)(h3:3≤s.size)(h64:s.size≤64)(HA:Hid (eD (ai s)=false)) :Calls Tryz.prog 111 #[.string s] w fun e w'=>e= .returned (.string s)∧∃m,w'=w.drewN m:=by
 have b0:decide ((s.size:Int)<3)=false:=decide_eq_false (by omega);have b1:decide ((64:Int)<(s.size:Int))=false:=decide_eq_false (by omega);have b2: ¬(65536:Int)<(s.size:Int) :=by omega
 go_enter Tryz.func111,Tryz.ntmps111;go_wp2;go_loop [3](fun i=>∃k:Nat,k≤s.size∧i= .int .i64 k∧eD ((ai s).take k)=true)(fun i=>s.size-(intOf i).toNat);case atStart=>exact⟨0,Nat.zero_le _,rfl,rfl⟩
 case round=>
  obtain⟨k,hk,rfl,hall⟩ :=hrel;have HK:=aa hall;clear hall;by_cases hlt:k<s.size
  ·have hkl:k<(ai s).length:=by rw[ay];exact hlt
   have HG:=aa (l9 s k hlt);by_cases hsm:small ((ai s).getD k 0)=true
   ·have HN:Hid (eD ((ai s).take (k+1))=true) :=by show _=_;rw[eD,yC _ _ hkl,←eD,HK.out,hsm];rfl
    rw[←HG.out,small,decide_eq_true_eq]at hsm;obtain⟨g1,g2⟩ :=hsm;have ZZ: ¬((s[k]'hlt).toNat:Int)<97:=by omega
    have g2z: ¬(122:Int)<((s[k]'hlt).toNat:Int) :=by omega
    have g1b:decide (((s[k]'hlt).toNat:Int)<97)=false:=decide_eq_false ZZ;have g2b:decide ((122:Int)<((s[k]'hlt).toNat:Int))=false:=decide_eq_false g2z;go_wp2;go_round;case rel=>exact⟨k+1,by omega,by go_num,HN.out⟩
    case measure=>simp[intOf];omega
   ·have Wn:small ((ai s).getD k 0)=false:=by simpa using hsm
    rw[←HG.out,small,decide_eq_false_iff_not]at Wn;by_cases g1:((s[k]'hlt).toNat:Int)<97;·clear hsm Wn;go_wp2;go_ret;exact⟨rfl,0,rfl⟩
    ·have g1b:decide (((s[k]'hlt).toNat:Int)<97)=false:=decide_eq_false g1;have g2:(122:Int)<((s[k]'hlt).toNat:Int) :=by omega
     clear hsm Wn;go_wp2;go_ret;exact⟨rfl,0,rfl⟩
  ·exfalso;have h1:=HK.out;rw[List.take_of_length_le (by rw[ay];omega),HA.out]at h1;cases h1
theorem K5(s:ByteArray)(w:World)(hs:s.size≤1048576) :Calls Tryz.prog 111 #[.string s] w fun e w'=>e= .returned (.string (bs (gU (ai s))))∧∃m,w'=w.drewN m:=by
 by_cases hlong:65536<s.size
 ·have HM:Hid (gU (ai s)= []) :=by show _=_;rw[gU,ay,if_pos hlong]
  have hz:(65536:Int)<(s.size:Int) :=by omega
  go_enter Tryz.func111,Tryz.ntmps111;go_wp2;go_ret;rw[HM.out];exact⟨rfl,0,rfl⟩
 have hz: ¬(65536:Int)<(s.size:Int) :=by omega
 by_cases h3:s.size<3
 ·have HM:Hid (gU (ai s)=ai s) :=by show _=_;rw[gU,ay,if_neg hlong,if_pos (Or.inl h3)]
  have h3z:(s.size:Int)<3:=by omega
  go_enter Tryz.func111,Tryz.ntmps111;go_wp2;go_ret;rw[HM.out,iL];exact⟨rfl,0,rfl⟩
 by_cases h64:64<s.size
 ·have HM:Hid (gU (ai s)=ai s) :=by show _=_;rw[gU,ay,if_neg hlong,if_pos (Or.inr h64)]
  have h3b:decide ((s.size:Int)<3)=false:=decide_eq_false (by omega);have af8:(64:Int)<(s.size:Int) :=by omega
  go_enter Tryz.func111,Tryz.ntmps111;go_wp2;go_ret;rw[HM.out,iL];exact⟨rfl,0,rfl⟩
 have e0:gU (ai s)=if eD (ai s)=true then kF (jq (gy (dz (ai s))))else ai s:=by rw[gU,ay,if_neg hlong,if_neg (by omega)];rfl
 by_cases ha:eD (ai s)=true;·rw[e0,if_pos ha];exact Np s w (by omega) (by omega) ha
 ·rw[e0,if_neg ha,iL];have ha':eD (ai s)=false:=by simpa using ha
  exact M9 s w (by omega) (by omega) ha'
theorem KT(s:ByteArray)(w:World)(hs:s.size≤1048576) :Calls Tryz.prog 122 #[.string s] w fun e w'=>e= .returned (.string (bs (gU (ai s))))∧Below w.heap.size w w':=by
 by_cases hlong:65536<s.size
 ·have HM:Hid (gU (ai s)= []) :=by show _=_;rw[gU,ay,if_pos hlong]
  have hz:(65536:Int)<(s.size:Int) :=by omega
  go_enter Tryz.func122,Tryz.ntmps122;go_wp2_with fail;go_ret;rw[HM.out];exact⟨rfl,Below.refl _ _⟩
 have hz: ¬(65536:Int)<(s.size:Int) :=by omega
 by_cases hin:3≤s.size∧s.size≤64
 ·have e0:gU (ai s)=if eD (ai s)=true then kF (jq (gy (dz (ai s))))else ai s:=by rw[gU,ay,if_neg hlong,if_neg (by omega)];rfl
  by_cases ha:eD (ai s)=true;·rw[e0,if_pos ha];exact M4 s w (by omega) (by omega) ha
  ·have HM:Hid (gU (ai s)=ai s) :=by show _=_;rw[e0,if_neg ha]
   have ha':eD (ai s)=false:=by simpa using ha
   have HA:=aa ha';have HW:Hid ((decide ((3:Int)≤(s.size:Int)) &&decide ((s.size:Int)≤64))=true) :=by show _=_;rw[decide_eq_true (by omega),decide_eq_true (by omega)];rfl
   clear e0 ha ha' hin;go_enter Tryz.func122,Tryz.ntmps122;go_wp2_with fail;refine(nH s _ (by omega)).mono ?_;rintro e w1⟨rfl,hb1⟩;have HB1:=aa hb1;clear hb1;go_wp2_with fail;refine(dA _ _ _ _).mono ?_;rintro e w'⟨rfl,hw⟩;obtain rfl:=hw.symm;rw[HW.out];go_wp2_with fail;refine(AB s _ (by omega)).mono ?_;rintro e w'⟨rfl,hw⟩;obtain rfl:=hw.symm;rw[HA.out];go_wp2_with fail;go_ret;rw[HM.out,iL];exact⟨rfl,HB1.out⟩
 ·have HM:Hid (gU (ai s)=ai s) :=by show _=_;rw[gU,ay,if_neg hlong,if_pos (by omega)]
  have HW:Hid ((decide ((3:Int)≤(s.size:Int)) &&decide ((s.size:Int)≤64))=false) :=by
   show _=_;by_cases h3:3≤s.size;·rw[decide_eq_false (p:=(s.size:Int)≤64) (by omega),Bool.and_false]
   ·rw[decide_eq_false (p:=(3:Int)≤(s.size:Int)) (by omega),Bool.false_and]
  clear hin;go_enter Tryz.func122,Tryz.ntmps122;go_wp2_with fail;refine(nH s _ (by omega)).mono ?_;rintro e w1⟨rfl,hb1⟩;have HB1:=aa hb1;clear hb1;go_wp2_with fail;refine(dA _ _ _ _).mono ?_;rintro e w'⟨rfl,hw⟩;obtain rfl:=hw.symm;rw[HW.out];go_wp2_with fail;go_ret;rw[HM.out,iL];exact⟨rfl,HB1.out⟩
theorem gH(s:ByteArray)(w:World)(hs:s.size≤1048576) :Calls Tryz.prog 87 #[.string s] w fun e w'=>∃v,e= .returned (.tuple #[v,.int .i64 (aJ s)])∧w'.ownsRow w.heap.size 3 1 v (di s).length ((di s).map (Value.int .i64))∧Below w.heap.size w w':=by
 by_cases hlong:65536<s.size
 ·have HL:Hid (di s= []) :=by show _=_;rw[di,if_pos hlong]
  have HC:Hid (aJ s=2) :=by show _=_;rw[aJ,if_pos hlong]
  have hlz:(65536:Int)<(s.size:Int) :=by omega
  go_enter Tryz.func87,Tryz.ntmps87;go_wp2;go_ret2;rw[HL.out,HC.out];exact⟨_,rfl,dJ _ _,(Below.refl _ _).alloc (Nat.le_refl _) _⟩
 ·have hlz: ¬(65536:Int)<(s.size:Int) :=by omega
  by_cases hv:bM s=true
  ·have HL:Hid (di s=oG s) :=by show _=_;rw[di,if_neg hlong]
   have HC:Hid (aJ s=0) :=by show _=_;rw[aJ,if_neg hlong,if_pos hv]
   go_enter Tryz.func87,Tryz.ntmps87;go_wp2_with fail;refine(nM s _ hs).mono ?_;rintro e w1⟨v,rfl,hown,hb1⟩;have HO:=aa hown;clear hown;go_wp2;go_ret2;rw[HL.out,HC.out];exact⟨_,rfl,HO.out,hb1⟩
  ·have hv':bM s=false:=by simpa using hv
   have HL:Hid (di s= []) :=by show _=_;rw[di,if_neg hlong,oG,if_neg hv]
   have HC:Hid (aJ s=3) :=by show _=_;rw[aJ,if_neg hlong,if_neg hv]
   clear hv;go_enter Tryz.func87,Tryz.ntmps87;go_wp2_with fail;refine(nM s _ hs).mono ?_;rintro e w1⟨v,rfl,hown,hb1⟩;clear hown;go_wp2;go_ret2;rw[HL.out,HC.out];exact⟨_,rfl,fQ (dJ _ _) hb1.size,hb1.alloc hb1.size _⟩
theorem BJ(a:Int)(w:World) :Calls Tryz.prog 127 #[.int .i64 a] w fun e w'=>e= .returned (.int .i64 (dG a))∧w'=w:=by
 rcases(by omega:a≤64∨(65≤a∧a≤90)∨(91≤a∧a≤191)∨(192≤a∧a≤197)∨a=198∨a=199∨(200≤a∧a≤203)∨(204≤a∧a≤207)∨a=208∨a=209∨(210≤a∧a≤214)∨a=215∨a=216∨(217≤a∧a≤220)∨a=221∨a=222∨a=223∨(224≤a∧a≤229)∨a=230∨a=231∨(232≤a∧a≤235)∨(236≤a∧a≤239)∨a=240∨a=241∨(242≤a∧a≤246)∨a=247∨a=248∨(249≤a∧a≤252)∨a=253∨a=254∨a=255∨(256≤a∧a≤912)∨(913≤a∧a≤929)∨a=930∨(931≤a∧a≤939)∨(940≤a∧a≤1023)∨(1024≤a∧a≤1039)∨(1040≤a∧a≤1071)∨1072≤a)with h|h|h|h|h|h|h|h|h|h|h|h|h|h|h|h|h|h|h|h|h|h|h|h|h|h|h|h|h|h|h|h|h|h|h|h|h|h|h;all_goals
  first| (subst h;go_enter Tryz.func127,Tryz.ntmps127;go_wp2;go_ret;exact⟨rfl,rfl⟩)|
   (
    have HH:=aa h;try(have l:=h.1;have u:=h.2)
    have e215:(a==215)=false:=beq_eq_false_iff_ne.2 (by omega);have e231:(a==231)=false:=beq_eq_false_iff_ne.2 (by omega);have e241:(a==241)=false:=beq_eq_false_iff_ne.2 (by omega);have e248:(a==248)=false:=beq_eq_false_iff_ne.2 (by omega);have Ec:(a==253)=false:=beq_eq_false_iff_ne.2 (by omega);have DZ:(a==255)=false:=beq_eq_false_iff_ne.2 (by omega);have uz:(a==930)=false:=beq_eq_false_iff_ne.2 (by omega);have n215:(a !=215)=true:=by rw[bne_iff_ne];omega
    have ai9:(a !=930)=true:=by rw[bne_iff_ne];omega
    try have ai4:(a+32==231)=false:=beq_eq_false_iff_ne.2 (by omega)
    try have t231:(a+80==231)=false:=beq_eq_false_iff_ne.2 (by omega)
    try have ai1:(a+32==241)=false:=beq_eq_false_iff_ne.2 (by omega)
    try have t241:(a+80==241)=false:=beq_eq_false_iff_ne.2 (by omega)
    try have aiQ:(a+32==248)=false:=beq_eq_false_iff_ne.2 (by omega)
    try have t248:(a+80==248)=false:=beq_eq_false_iff_ne.2 (by omega)
    try have aiV:(a+32==253)=false:=beq_eq_false_iff_ne.2 (by omega)
    try have aiM:(a+80==253)=false:=beq_eq_false_iff_ne.2 (by omega)
    try have ai6:(a+32==255)=false:=beq_eq_false_iff_ne.2 (by omega)
    try have ai3:(a+80==255)=false:=beq_eq_false_iff_ne.2 (by omega)
    go_enter Tryz.func127,Tryz.ntmps127;go_wp2;go_ret;have h:=HH.out;refine⟨?_,rfl⟩;unfold dG dV dN;(repeat(first|rw[if_pos (by omega)]|rw[if_neg (by omega)]));rfl)
theorem Hr {o:ByteArray}(h:0<o.size) :(o.toList== [])=false:=by rw[beq_eq_false_iff_ne,Lib.toList_data];intro e;have:=ay o;rw[ai,e]at this;simp at this;omega
theorem GK(a b:ByteArray) :ai (a++b)=ai a++ai b:=by simp[ai]
theorem zx(w:World)(r:Int)(h0:0≤r)(h1:r≤255) :(convert 22 9 (.slice (some ⟨w.heap.size,0,none⟩) 1 1)).run Tryz.prog (w.alloc (.cells #[.int .u8 r] 5))= .ok (.string (bs [UInt8.ofNat r.toNat])) (w.alloc (.cells #[.int .u8 r] 5)) :=by
 refine run_convert_bytes_back _ 22 9 5 ⟨w.heap.size,0,none⟩ 1 [UInt8.ofNat r.toNat] Tryz.underlying22 Tryz.underlying5 Tryz.underlying9 fun j hj=> ?_;rw[ko,World.cell?_alloc_at (hn:=rfl)];match j,hj with
 |0,_=>exact congrArg (fun z=>some (Value.int .u8 z)) (byte_back r h0 h1).symm
theorem R8(q:List UInt8) :(q++ [48,48,48]).take 4=(q.take 4++ [48,48,48]).take 4:=by
 by_cases h:q.length≤4;·rw[List.take_of_length_le (l:=q) h]
 ·rw[List.take_append_of_le_length (by omega),List.take_append_of_le_length (by rw[List.length_take];omega),List.take_take];rfl
theorem WV(q:List UInt8)(h:1≤q.length) :(q++ [48,48,48]).take 4=(q++ [48]++ [48,48,48]).take 4:=by
 match q,h with
 |a::t,_=>
  match t with
  | []=>rfl
  | [b]=>rfl
  | [b,c]=>rfl
  |b::c::d::u=>simp
def strOf:Value→ByteArray
 | .string s=>s
 |_=>⟨#[]⟩
theorem GJ(s:ByteArray)(w:World)(hs:s.size≤1048576)(hc:aJ s=0) :Calls Tryz.prog 112 #[.string s] w fun e w'=>e= .returned (.string (bs (jc (di s))))∧Below w.heap.size w w':=by
 have HC:=aa hc;clear hc;have hn:=Ej s;go_enter Tryz.func112,Tryz.ntmps112;go_wp2_with fail;refine(gH s _ (by omega)).mono ?_;rintro e w1⟨v0,rfl,hown0,hb1⟩;rw[HC.out];generalize hz:di s=l at*;have Hz:=aa hz;clear hz;rcases fO hown0 with⟨rfl,hl0⟩| ⟨g,cap,rfl,hgb,hgl⟩
 ·have hl:l= [] :=List.length_eq_zero_iff.1 hl0;subst hl;clear hl0 hown0;go_wp2_with fail;go_loop [5,7](fun c i=>c= .string ⟨#[]⟩∧i= .int .i64 0)(fun _ _=>0);case atStart=>exact⟨rfl,rfl⟩
  case round=>
   obtain⟨rfl,rfl⟩ :=hrel;go_wp2_with fail;go_loop [5](fun c=>c= .string ⟨#[]⟩)(fun _=>0);case atStart=>rfl
   case round=>obtain rfl:=hrel;go_wp2_with fail;go_ret;rw[Hz.out];exact⟨rfl,hb1⟩
 ·have HO:=aa hown0;have HB:=aa hb1;have Eu:=aa (xB hown0 rfl);clear hown0 hb1;have ho0:ai (⟨#[]⟩ :ByteArray)= [] :=rfl;go_wp2_with fail;go_loopw [5,6,7](fun c d i wr=>∃(k:Nat)(q:List UInt8)(z:Int)(o:ByteArray),k≤l.length∧i= .int .i64 k∧d= .int .i64 z∧c= .string o∧ai o=q.take 4∧qO l k q z∧Below w1.heap.size w1 wr)(fun _ _ i _=>l.length-(intOf i).toNat);case atStart=>exact⟨0,[],0,⟨#[]⟩,by omega,rfl,rfl,rfl,rfl,qO.zero l,Below.refl _ _⟩
  case round=>
   obtain⟨k,q,z,o,hk,rfl,rfl,rfl,hq,hat,hbr⟩ :=hrel;have Hq:=aa hq;have HA:=aa hat;have bg:=aa hbr;have afG:o.size≤4:=by rw[←ay,hq,List.length_take];omega
   clear hq hat hbr;by_cases hlt:k<l.length
   ·have g1:=(bg.out.cell (p:=⟨g,0+k,none⟩) hgl).trans (Eu.out k hlt);rw[Nat.zero_add]at g1;have hzd:=HA.out.last;generalize hr0:l.getD k 0=r0 at*;have Hr0:=aa hr0;clear hr0;have HS:Hid (∀q' d',iQ (q,z) (dG r0)=(q',d')→qO l (k+1) q' d') :=by intro q' d' h;exact HA.out.step hlt (by rw[Hr0.out];exact h)
    go_wp2_with fail;refine(BJ _ _).mono ?_;rintro e w'⟨rfl,hw⟩;obtain rfl:=hw.symm;clear hw;generalize dG r0=r at*;by_cases h97:r<97
    ·have HN:=aa (HS.out _ _ (Mx q z r (Or.inl h97)));clear HS;go_wp2_with fail;go_roundw;case rel=>exact⟨k+1,q,z,o,by omega,by go_num,rfl,rfl,Hq.out,HN.out,bg.out⟩
     case measure=>simp[intOf];omega
    have aiz:decide (r<97)=false:=decide_eq_false h97;by_cases h122:122<r
    ·have HN:=aa (HS.out _ _ (Mx q z r (Or.inr h122)));clear HS;go_wp2_with fail;go_roundw;case rel=>exact⟨k+1,q,z,o,by omega,by go_num,rfl,rfl,Hq.out,HN.out,bg.out⟩
     case measure=>simp[intOf];omega
    have air:decide (122<r)=false:=decide_eq_false h122;have hsd:=F3 r;have aiy:97≤r:=by omega
    have aiv:r≤122:=by omega
    by_cases hq0:q= []
    ·subst hq0;have HN:=aa (HS.out _ _ (Kr z r (by omega) (by omega)));clear HS;obtain rfl:o=⟨#[]⟩ :=by rw[←iL o,Hq.out];rfl
     by_cases h1:r=104
     ·have h1b:(r==104)=true:=beq_iff_eq.2 h1;have AQ:(r==119)=false:=beq_eq_false_iff_ne.2 (by omega);clear h1;have hcv:(convert 22 9 (.slice (some ⟨wr.heap.size,0,none⟩) 1 1)).run Tryz.prog (wr.alloc (.cells #[.int .u8 (r)] 5))= .ok (.string (bs [UInt8.ofNat (r).toNat])) (wr.alloc (.cells #[.int .u8 (r)] 5)) :=zx wr (r) (by omega) (by omega);go_wp2_with fail;refine(wX r _ (by omega) (by omega)).mono ?_;rintro e w'⟨rfl,hw⟩;obtain rfl:=hw.symm;clear hw;go_wp2_with fail;go_roundw;case rel=>exact⟨k+1,[UInt8.ofNat r.toNat],bC r,_,by omega,by go_num,rfl,rfl,bH _,HN.out,(bg.out.alloc bg.out.size _)⟩
      case measure=>simp[intOf];omega
     have h1b:(r==104)=false:=beq_eq_false_iff_ne.2 h1;by_cases h2:r=119
     ·have AQ:(r==119)=true:=beq_iff_eq.2 h2;clear h2 h1;have hcv:(convert 22 9 (.slice (some ⟨wr.heap.size,0,none⟩) 1 1)).run Tryz.prog (wr.alloc (.cells #[.int .u8 (r)] 5))= .ok (.string (bs [UInt8.ofNat (r).toNat])) (wr.alloc (.cells #[.int .u8 (r)] 5)) :=zx wr (r) (by omega) (by omega);go_wp2_with fail;refine(wX r _ (by omega) (by omega)).mono ?_;rintro e w'⟨rfl,hw⟩;obtain rfl:=hw.symm;clear hw;go_wp2_with fail;go_roundw;case rel=>exact⟨k+1,[UInt8.ofNat r.toNat],bC r,_,by omega,by go_num,rfl,rfl,bH _,HN.out,(bg.out.alloc bg.out.size _)⟩
      case measure=>simp[intOf];omega
     have AQ:(r==119)=false:=beq_eq_false_iff_ne.2 h2;clear h1 h2;have hcv:(convert 22 9 (.slice (some ⟨wr.heap.size,0,none⟩) 1 1)).run Tryz.prog (wr.alloc (.cells #[.int .u8 (r)] 5))= .ok (.string (bs [UInt8.ofNat (r).toNat])) (wr.alloc (.cells #[.int .u8 (r)] 5)) :=zx wr (r) (by omega) (by omega);go_wp2_with fail;refine(wX r _ (by omega) (by omega)).mono ?_;rintro e w'⟨rfl,hw⟩;obtain rfl:=hw.symm;clear hw;go_wp2_with fail;go_roundw;case rel=>exact⟨k+1,[UInt8.ofNat r.toNat],bC r,_,by omega,by go_num,rfl,rfl,bH _,HN.out,(bg.out.alloc bg.out.size _)⟩
     case measure=>simp[intOf];omega
    ·have Li:0<q.length:=List.length_pos_iff.2 hq0;have ho1:0<o.size:=by rw[←ay,Hq.out,List.length_take];omega
     have hoe:(o.toList== [])=false:=Hr ho1;have hon:(o.toList != [])=true:=by rw[bne,hoe];rfl
     by_cases h1:r=104
     ·have HN:=aa (HS.out _ _ (Cy q z r (by omega) (by omega) hq0 (Or.inl h1)));clear HS;have h1b:(r==104)=true:=beq_iff_eq.2 h1;clear h1;go_wp2_with fail;go_roundw;case rel=>exact⟨k+1,q,z,o,by omega,by go_num,rfl,rfl,Hq.out,HN.out,bg.out⟩
      case measure=>simp[intOf];omega
     have h1b:(r==104)=false:=beq_eq_false_iff_ne.2 h1;by_cases h2:r=119
     ·have HN:=aa (HS.out _ _ (Cy q z r (by omega) (by omega) hq0 (Or.inr h2)));clear HS;have AQ:(r==119)=true:=beq_iff_eq.2 h2;clear h1 h2;go_wp2_with fail;go_roundw;case rel=>exact⟨k+1,q,z,o,by omega,by go_num,rfl,rfl,Hq.out,HN.out,bg.out⟩
      case measure=>simp[intOf];omega
     have AQ:(r==119)=false:=beq_eq_false_iff_ne.2 h2;have HP:=aa (fun hn=>HS.out _ _ (Ol q z r (by omega) (by omega) hq0 (by omega) hn));have HQ:=aa (fun hn hd=>HS.out _ _ (UN q z r (by omega) (by omega) hq0 (by omega) hn hd));clear HS h1 h2;go_wp2_with fail;refine(wX r _ (by omega) (by omega)).mono ?_;rintro e w'⟨rfl,hw⟩;obtain rfl:=hw.symm;clear hw;generalize bC r=d at*;by_cases hd0:d=0
     ·have HN:=aa (HP.out (Or.inl hd0));subst hd0;go_wp2_with fail;go_roundw;case rel=>exact⟨k+1,q,0,o,by omega,by go_num,rfl,rfl,Hq.out,HN.out,bg.out⟩
      case measure=>simp[intOf];omega
     have aiW:(d !=0)=true:=bne_iff_ne.2 hd0;by_cases hdz:d=z
     ·have HN:=aa (HP.out (Or.inr hdz));subst hdz;go_wp2_with fail;go_roundw;case rel=>exact⟨k+1,q,d,o,by omega,by go_num,rfl,rfl,Hq.out,HN.out,bg.out⟩
      case measure=>simp[intOf];omega
     have aiS:(d !=z)=true:=bne_iff_ne.2 hdz;have HN:=aa (HQ.out hd0 hdz);clear hdz hd0 HP HQ;by_cases h4:o.size<4
     ·have h4z:(o.size:Int)<4:=by omega
      have hq4:q.length<4:=by rw[←ay,Hq.out,List.length_take]at h4;omega
      have hbz:(bs [UInt8.ofNat (48+d).toNat]).size≤1:=by rw[aK];exact Nat.le_refl _
      have HO:Hid (ai (o++bs [UInt8.ofNat (48+d).toNat])=(q++ [UInt8.ofNat (48+d).toNat]).take 4) :=by show _=_;rw[GK,Hq.out,bH,List.take_of_length_le (by omega),List.take_of_length_le (by simp;omega)]
      have hcv:(convert 22 9 (.slice (some ⟨wr.heap.size,0,none⟩) 1 1)).run Tryz.prog (wr.alloc (.cells #[.int .u8 (48+d)] 5))= .ok (.string (bs [UInt8.ofNat (48+d).toNat])) (wr.alloc (.cells #[.int .u8 (48+d)] 5)) :=zx wr (48+d) (by omega) (by omega);go_wp2_with fail;go_roundw;case rel=>exact⟨k+1,q++ [UInt8.ofNat (48+d).toNat],d,_,by omega,by go_num,rfl,rfl,HO.out,HN.out,(bg.out.alloc bg.out.size _)⟩
      case measure=>simp[intOf];omega
     ·have NA:decide ((o.size:Int)<4)=false:=decide_eq_false (by omega);have HO:Hid (ai o=(q++ [UInt8.ofNat (48+d).toNat]).take 4) :=by show _=_;rw[Hq.out,List.take_append_of_le_length];rw[←ay,Hq.out,List.length_take]at h4;omega
      go_wp2_with fail;go_roundw;case rel=>exact⟨k+1,q++ [UInt8.ofNat (48+d).toNat],d,o,by omega,by go_num,rfl,rfl,HO.out,HN.out,bg.out⟩
      case measure=>simp[intOf];omega
   ·have HD:Hid (jc l=if q= []then[]else(q++ [48,48,48]).take 4) :=HA.out.done hlt;clear HA;by_cases hq0:q= []
    ·have HE:Hid (jc l= []) :=by show _=_;rw[HD.out,if_pos hq0]
     subst hq0;obtain rfl:o=⟨#[]⟩ :=by rw[←iL o,Hq.out];rfl
     go_wp2_with fail;go_loop [5](fun c=>c= .string ⟨#[]⟩)(fun _=>0);case atStart=>rfl
     case round=>obtain rfl:=hrel;go_wp2_with fail;go_ret;rw[Hz.out,HE.out];exact⟨rfl,HB.out.trans (bg.out.mono HB.out.size)⟩
    ·have Li:0<q.length:=List.length_pos_iff.2 hq0;have HE:Hid (jc l=(ai o++ [48,48,48]).take 4) :=by show _=_;rw[HD.out,if_neg hq0,Hq.out,R8]
     have ho1:0<o.size:=by rw[←ay,Hq.out,List.length_take];omega
     go_wp2_with fail;go_loop [5](fun c=>∃t:ByteArray,c= .string t∧0<t.size∧t.size≤4∧jc l=(ai t++ [48,48,48]).take 4)(fun c=>4-(strOf c).size);case atStart=>exact⟨o,rfl,ho1,afG,HE.out⟩
     case round=>
      obtain⟨t,rfl,ht1,ht4,htp⟩ :=hrel;have HTP:=aa htp;clear htp;have hoe:(t.toList== [])=false:=Hr ht1;have hon:(t.toList != [])=true:=by rw[bne,hoe];rfl
      by_cases h4:t.size<4
      ·have h4z:(t.size:Int)<4:=by omega
       have HM:Hid (jc l=(ai (t++(⟨#[48]⟩ :ByteArray))++ [48,48,48]).take 4) :=by show _=_;rw[HTP.out,show(⟨#[48]⟩ :ByteArray)=bs [48]from rfl,GK,bH,WV _ (by rw[ay];omega)]
       have HZ:Hid ((t++(⟨#[48]⟩ :ByteArray)).size=t.size+1) :=by show _=_;rw[←ay,show(⟨#[48]⟩ :ByteArray)=bs [48]from rfl,GK,bH,List.length_append,ay];rfl
       go_wp2_with fail;go_round;case rel=>exact⟨_,rfl,by rw[HZ.out];omega,by rw[HZ.out];omega,HM.out⟩
       case measure=>simp only[strOf];show 4-(t++(⟨#[48]⟩ :ByteArray)).size<4-t.size;rw[HZ.out];omega
      ·have NA:decide ((t.size:Int)<4)=false:=decide_eq_false (by omega);have HF:Hid (jc l=ai t) :=by show _=_;rw[HTP.out,List.take_append_of_le_length (by rw[ay];omega),List.take_of_length_le (by rw[ay];omega)]
       go_wp2_with fail;go_ret;rw[Hz.out,HF.out,iL];exact⟨rfl,HB.out.trans (bg.out.mono HB.out.size)⟩
theorem Jt(s:ByteArray)(w:World)(hs:s.size≤1048576) :Calls Tryz.prog 112 #[.string s] w fun e w'=>e= .returned (.string (bs (jc (di s))))∧Below w.heap.size w w':=by
 by_cases hc:aJ s=0;·exact GJ s w hs hc
 ·have hcn:(aJ s !=0)=true:=by rw[bne_iff_ne];exact hc
  have HL:=aa (K8 s hc);clear hc;go_enter Tryz.func112,Tryz.ntmps112;go_wp2_with fail;refine(gH s _ (by omega)).mono ?_;rintro e w1⟨v0,rfl,hown0,hb1⟩;generalize aJ s=c at*;clear hown0;go_wp2_with fail;go_ret;rw[HL.out];exact⟨rfl,hb1⟩
theorem mI(b off n cap:Nat)(zs:List Int)(w:World)(hn:n≤65536)(hl:zs.length=n)(hb:b<w.heap.size)(hc: ∀t,t<n→w.cell? ⟨b,off+t,none⟩=some (.int .i64 (zs.getD t 0)))(hok: ∀t,t<n→fT (zs.getD t 0)=true) :Calls Tryz.prog 91 #[.slice (some ⟨b,off,none⟩) n cap] w fun e w'=>e= .returned (.string ⟨(encs zs).toArray⟩)∧Below w.heap.size w w':=by
 obtain⟨i0,hi,hz0,hz1,hz2⟩ :=info_parts Tryz.infoByte;go_enter Tryz.func91,Tryz.ntmps91;go_wp2;go_loopw [3,4](fun v i wr=>∃k:Nat,k≤n∧i= .int .i64 k∧wr.ownsRow w.heap.size 5 1 v (encs (zs.take k)).length (Lib.byteCells (encs (zs.take k)))∧Below w.heap.size w wr∧v≠ .slice none 0 0)(fun _ i _=>n-(intOf i).toNat);case atStart=>refine⟨0,Nat.zero_le _,rfl,?_,(Below.refl _ _).alloc (Nat.le_refl _) _,by simp⟩;simpa[encs,Lib.byteCells]using(World.ownsRow_lit (base:=w.heap.size) (e:=5) (size:=1) w #[] 0 (Nat.le_refl _) (by unfold maxLen;omega) (by simp))
 case round=>
  obtain⟨k,hk,rfl,hown,hbel,hnn⟩ :=hrel;by_cases hlt:k<n
  ·have g1:=(hbel.cell (p:=⟨b,off+k,none⟩) hb).trans (hc k hlt);have hok1:=hok k hlt;have hkz:k<zs.length:=by omega
   have eg:zs.getD k 0=zs[k] :=by simp[hkz]
   rw[eg]at hok1 g1;have Hts:Hid (zs.take (k+1)=zs.take k++ [zs[k]]) :=by show _=_;rw[Cr zs k hkz,eg]
   have hle:(encs (zs.take k)).length≤4*n:=by have:=ym (zs.take k);rw[List.length_take]at this;omega
   have hrl:=Lib.runeCells_le zs[k];clear hc hok eg;go_wp2_with fail;refine(nD zs[k] _ hok1).mono ?_;rintro e w1⟨rfl,rfl⟩;have hcr:Hid (∀j u,(Lib.runeCells zs[k])[j]?=some u→(wr.alloc (.cells (Lib.runeCells zs[k]).toArray 5)).cell? ((⟨wr.heap.size,0,none⟩ :Addr).add j)=some u) :=by intro j u hj;rw[ko,World.cell?_alloc_at (hn:=rfl)];simpa using hj
   go_wp2_with(at_builtin;refine wpList_append_own _ rfl (.tmp 12) (.tmp 17) 22 rfl w.heap.size 5 i0 (.int .u8 0) 1 1 Tryz.underlying22 hi hz0 hz1 hz2 rfl (by decide) _ _ _ rfl (hown.alloc _) ⟨wr.heap.size,0,none⟩ _ _ (Lib.runeCells zs[k]) rfl (by simp) ?c1 ?c2 ?c3 ?c4 ?c5 ?_);case c1=>exact hcr.out
   case c2=>exact VO _
   case c3=>unfold maxLen;omega
   case c4=>omega
   case c5=>have:=hbel.size;simp;omega
   intro v' w2 hown' hgrow hne;have R:Hid (w2.ownsRow w.heap.size 5 1 v' (encs (zs.take (k+1))).length (Lib.byteCells (encs (zs.take (k+1))))∧Below w.heap.size w w2) :=by
    refine⟨?_,(hbel.alloc hbel.size _).grown hgrow (by have:=hbel.size;simp;omega) ?_⟩;·rw[Hts.out,Ch,Lib.byteCells_append,Lib.byteCells_encodeRune,List.length_append,←Lib.runeCells_length];exact hown'
    ·intro g hg;rcases hown.2 with⟨h,_⟩| ⟨g',cap',cur,h,hbase,_⟩;·exact absurd h hnn
     ·rw[h]at hg;cases hg;exact hbase
   clear hown' hgrow hcr;go_wp2;go_roundw;case rel=>exact⟨k+1,by omega,by go_num,R.out.1,R.out.2,hne⟩
   case measure=>simp[intOf];omega
  ·have HK:Hid (k=n) :=by show k=n;omega
   have hcb:Hid (∃g cap',u3= .slice (some ⟨g,0,none⟩) (encs (zs.take k)).length cap') :=by
    rcases hown.2 with⟨h,_⟩| ⟨g,cap',_,h,_⟩;·exact absurd h hnn
    ·exact⟨g,cap',h⟩
   obtain⟨g,cap',rfl⟩ :=hcb.out;have hcv:(convert 22 9 (.slice (some ⟨g,0,none⟩) (encs (zs.take k)).length cap')).run Tryz.prog wr= .ok (.string ⟨(encs (zs.take k)).toArray⟩) wr:=by refine run_convert_bytes_back wr 22 9 5 ⟨g,0,none⟩ cap' (encs (zs.take k)) Tryz.underlying22 Tryz.underlying5 Tryz.underlying9 fun j hj=> ?_;rw[ko,hown.cellAt j (by omega)];simp[Lib.byteCells,hj]
   go_wp2;go_ret;refine⟨?_,hbel⟩;rw[HK.out,List.take_of_length_le (by omega)];rfl
theorem Dh(ao:Option Addr)(cap:Nat)(w:World) :Calls Tryz.prog 91 #[.slice ao 0 cap] w fun e w'=>e= .returned (.string ⟨#[]⟩)∧Below w.heap.size w w':=by have hcv: ∀(w1:World)(g:Nat),(convert 22 9 (.slice (some ⟨g,0,none⟩) 0 0)).run Tryz.prog w1= .ok (.string ⟨#[]⟩) w1:=fun w1 g=>run_convert_bytes_back w1 22 9 5 ⟨g,0,none⟩ 0 [] Tryz.underlying22 Tryz.underlying5 Tryz.underlying9 fun j hj=>absurd hj (by simp);go_enter Tryz.func91,Tryz.ntmps91;go_wp2;refine wp_loop_rounds 1 ?_;rw[rounds_succ];go_wp2;go_ret;exact⟨rfl,(Below.refl _ _).alloc (Nat.le_refl _) _⟩
theorem Qc(base n:Nat)(v:Value)(zs:List Int)(w:World)(hn:n≤65536)(hl:zs.length=n)(hok: ∀r∈zs,fT r=true)(h:w.ownsRow base 3 1 v n (zs.map (Value.int .i64))) :Calls Tryz.prog 91 #[v] w fun e w'=>e= .returned (.string ⟨(encs zs).toArray⟩)∧Below w.heap.size w w':=by
 rcases fO h with⟨rfl,rfl⟩| ⟨g,cap,rfl,_,hg⟩;·obtain rfl:zs= [] :=List.eq_nil_of_length_eq_zero hl;exact Dh _ _ w
 ·refine mI g 0 n cap zs w hn hl hg (xB h hl) (fun t ht=> ?_);have hlt:t<zs.length:=by omega
  have:zs.getD t 0=zs[t] :=by simp[hlt]
  rw[this];exact hok _ (List.getElem_mem hlt)
theorem Tryz.infoStr:(Tryz.prog.info? 9).map (fun i=>(i.zero,i.size,i.bytes))=some (some (.string ⟨#[]⟩),1,16) :=by kernel_rfl
theorem JB {l:List Int}(h: ∀r∈l,fT r=true)(i n t:Nat)(ht:t<((l.drop i).take n).length) :fT (((l.drop i).take n).getD t 0)=true:=by apply h;rw[List.getD_eq_getElem?_getD,List.getElem?_eq_getElem ht,Option.getD_some];exact List.mem_of_mem_drop (List.mem_of_mem_take (List.getElem_mem _))
theorem KA(l:List Int)(i n t:Nat)(ht:t<((l.drop i).take n).length) :((l.drop i).take n).getD t 0=l.getD (i+t) 0:=by rw[List.length_take,List.length_drop]at ht;rw[List.getD_eq_getElem?_getD,List.getD_eq_getElem?_getD,List.getElem?_take,if_pos (by omega),List.getElem?_drop]
theorem NB(s:ByteArray)(h:aJ s=0) :bM s=true∧s.size≤65536:=by
 unfold aJ at h;by_cases h1:65536<s.size;·rw[if_pos h1]at h;omega
 ·rw[if_neg h1]at h;by_cases h2:bM s=true;·exact⟨h2,by omega⟩
  ·rw[if_neg h2]at h;omega
theorem DY {w:World} {base e n:Nat} {v:Value} {xs:List Value}(h:w.ownsRow base e 1 v n xs)(hn:v≠ .slice none 0 0) : ∃g cap,v= .slice (some ⟨g,0,none⟩) n cap:=by
 rcases fO h with⟨h1,_⟩| ⟨g,cap,h1,_,_⟩;·exact absurd h1 hn
 ·exact⟨g,cap,h1⟩
theorem K6(s:ByteArray)(L H:Nat)(w:World)(hs:s.size≤1048576)(HC:Hid (aJ s=0))(h1:1≤L)(h2:L≤H)(h8:H≤8)(G:List (List UInt8))(HG:Hid (lH L (H+1-L) (di s)=G))(HK:Hid (∀r∈di s,fT r=true))(R:List (List UInt8))(c:Int)(HR:Hid ((G.length≤4096→R=G∧c=0)∧(¬G.length≤4096→R= []∧c=11))) :Calls Tryz.prog 113 #[.string s,.int .i64 L,.int .i64 H] w fun e w'=>∃v,e= .returned (.tuple #[v,.int .i64 c])∧w'.ownsRow w.heap.size 9 1 v R.length (bR R)∧Below w.heap.size w w':=by
 obtain⟨i0,hi,hz0,hz1,hz2⟩ :=info_parts Tryz.infoStr;have hn:=Ej s;have b1:decide ((L:Int)<1)=false:=decide_eq_false (by omega);have b2:decide ((H:Int)<(L:Int))=false:=decide_eq_false (by omega);have b2n:decide (H<L)=false:=decide_eq_false (by omega);have b3:decide ((8:Int)<(H:Int))=false:=decide_eq_false (by omega);go_enter Tryz.func113,Tryz.ntmps113;go_wp2_with fail;refine(gH s _ (by omega)).mono ?_;rintro e w1⟨v0,rfl,hown0,hb1⟩;rw[HC.out];generalize di s=l at*;rcases fO hown0 with⟨rfl,hl0⟩| ⟨g,cap,rfl,hgb,hgl⟩
 ·have hl:l= [] :=List.length_eq_zero_iff.1 hl0;subst hl;have HF:Hid (R= []∧c=0) :=by
   have hG:G= [] :=by rw[←HG.out];rfl
   have:=HR.out.1 (by rw[hG];simp);rw[hG]at this;exact this
  clear hl0 hown0;go_wp2_with fail;go_loop [10,11](fun v i=>v= .slice (some ⟨w1.heap.size,0,none⟩) 0 0∧i= .int .i64 0)(fun _ _=>0);case atStart=>exact⟨rfl,rfl⟩
  case round=>obtain⟨rfl,rfl⟩ :=hrel;go_wp2_with fail;go_ret2;rw[HF.out.1,HF.out.2];exact⟨_,rfl,fQ (dJ w1 9) hb1.size,hb1.alloc hb1.size _⟩
 ·have HB:=aa hb1;have Eu:=aa (xB hown0 rfl);have ais:l.length≤cap:=by
   rcases hown0.2 with⟨h,_⟩| ⟨g',cap',cur,h,_,_,hc,_⟩;·cases h
   ·cases h;exact hc
  clear hown0 hb1;go_wp2_with fail;go_loopw [10,11](fun v i wr=>∃(k:Nat)(out:List (List UInt8)),k≤l.length∧i= .int .i64 k∧wr.ownsRow w1.heap.size 9 1 v out.length (bR out)∧v≠ .slice none 0 0∧out.length≤4096∧out++lH L (H+1-L) (l.drop k)=G∧Below w1.heap.size w1 wr)(fun _ i _=>l.length-(intOf i).toNat);case atStart=>exact⟨0,[],by omega,rfl,dJ w1 9,by simp,by simp,HG.out,(Below.refl _ _).alloc (Nat.le_refl _) _⟩
  case round=>
   obtain⟨k,out,hk,rfl,hown,hnn,ho,hG,hbr⟩ :=hrel;have HO:=aa hown;have HN:=aa hnn;have bg:=aa hbr;have rZ:=aa hG;clear hown hnn hbr hG;by_cases hlt:k<l.length
   ·have HD:=aa (G7 L (H+1-L) l k hlt);go_wp2_with fail;go_loopw [10,12](fun v i wr=>∃(n f:Nat)(out:List (List UInt8)),n+f=H+1∧L≤n∧i= .int .i64 n∧wr.ownsRow w1.heap.size 9 1 v out.length (bR out)∧v≠ .slice none 0 0∧out.length≤4096∧out++(qp (l.drop k) n f++lH L (H+1-L) (l.drop (k+1)))=G∧Below w1.heap.size w1 wr)(fun _ i _=>H+1-(intOf i).toNat);case atStart=>exact⟨L,H+1-L,out,by omega,by omega,rfl,HO.out,HN.out,ho,by rw[←HD.out];exact rZ.out,bg.out⟩
    case round=>
     clear HO HN bg rZ ho;obtain⟨n,f,out,hnf,hLn,rfl,hown,hnn,ho,hG,hbr⟩ :=hrel;have HO:=aa hown;have HN:=aa hnn;have bg:=aa hbr;have rZ:=aa hG;clear hown hnn hbr hG;have hform:=DY HO.out HN.out;have hsz1:=bg.out.size;by_cases hnH:n≤H
     ·have hnz:(n:Int)≤(H:Int) :=by omega
      by_cases hfit:k+n≤l.length
      ·have hfz:(k:Int)+(n:Int)≤(l.length:Int) :=by omega
       obtain⟨f,rfl⟩ : ∃f',f=f'+1:=⟨f-1,by omega⟩;have HST:=aa (Dv (l.drop k) n f (by rw[List.length_drop];omega));obtain⟨g2,c2,rfl⟩ :=hform;by_cases hfull:out.length=4096
       ·have aaR:Hid (¬G.length≤4096) :=by show¬_;have:=congrArg List.length rZ.out;rw[HST.out,List.length_append,List.length_append,List.length_cons]at this;omega
        rw[hfull]at*;go_wp2_with fail;go_ret2;rw[(HR.out.2 aaR.out).1,(HR.out.2 aaR.out).2];exact⟨_,rfl,fQ (dJ wr 9) (by have:=HB.out.size;omega),HB.out.trans ((bg.out.alloc bg.out.size _).mono HB.out.size)⟩
       ·have hfb:((out.length:Int)==4096)=false:=beq_eq_false_iff_ne.2 (by omega);have hzl:((l.drop k).take n).length=n:=by rw[List.length_take,List.length_drop];omega
        go_wp2_with fail;refine(mI g k n (cap-k) ((l.drop k).take n) _ (by omega) hzl (by omega) (fun t ht=> ?_) (fun t ht=>JB HK.out k n t (by omega))).mono ?_;·rw[KA l k n t (by omega),←Eu.out (k+t) (by omega),Nat.zero_add];exact bg.out.cell (p:=⟨g,k+t,none⟩) hgl
        ·rintro e w5⟨rfl,hb5⟩;have eG:=aa (bg.out.trans (hb5.mono bg.out.size));have jH:=aa (own_below HO.out hb5);have Ak:=eG.out.size;clear hb5 HO bg hzl;generalize hT:encs ((l.drop k).take n)=T;have HT:=aa hT;clear hT;rw[show(⟨T.toArray⟩ :ByteArray)=bs T from rfl];go_wp2_with(at_builtin;refine wpList_append_own _ rfl _ _ 40 rfl w1.heap.size 9 i0 (.string ⟨#[]⟩) 1 16 Tryz.underlying40 hi hz0 hz1 hz2 rfl (by decide) _ _ _ rfl (jH.out.alloc _) ⟨w5.heap.size,0,none⟩ 1 1 [.string (bs T)] rfl rfl ?c1 ?c2 ?c3 ?c4 ?c5 ?_);case c1=>
          intro j u hj;match j,hj with
          |0,hj=>simp at hj;subst hj;simp[Addr.add]
         case c2=>intro u hu;simp at hu;subst hu;rfl
         case c3=>unfold maxLen;omega
         case c4=>omega
         case c5=>simp;omega
         intro v' w6 hown' hgrow hne;have RR:Hid (w6.ownsRow w1.heap.size 9 1 v' (out++ [T]).length (bR (out++ [T]))∧v'≠ .slice none 0 0∧Below w1.heap.size w1 w6) :=by
          refine⟨?_,?_,(eG.out.alloc Ak _).grown hgrow (by simp;omega) (iM jH.out)⟩;·rw[ow,List.length_append];exact hown'
          ·exact hne
         have HE:Hid (out++ [T]++(qp (l.drop k) (n+1) f++lH L (H+1-L) (l.drop (k+1)))=G) :=by show _=_;rw[←rZ.out,HST.out,HT.out];simp
         clear hown' hgrow hne jH eG rZ HST HT;go_wp2_with fail;go_roundw;case rel=>exact⟨n+1,f,out++ [T],by omega,by omega,by go_num,RR.out.1,RR.out.2.1,by simp;omega,HE.out,RR.out.2.2⟩
         case measure=>simp[intOf];omega
      ·have hfb:decide ((k:Int)+(n:Int)≤(l.length:Int))=false:=decide_eq_false (by omega);have HE:Hid (out++lH L (H+1-L) (l.drop (k+1))=G) :=by have h:=rZ.out;rw[yN (l.drop k) n f (by rw[List.length_drop];omega),List.nil_append]at h;exact h
       go_wp2_with fail;go_roundw;case rel=>exact⟨k+1,out,by omega,by go_num,HO.out,HN.out,ho,HE.out,bg.out⟩
       case measure=>simp[intOf];omega
     ·have hnb:decide ((n:Int)≤(H:Int))=false:=decide_eq_false (by omega);have HE:Hid (out++lH L (H+1-L) (l.drop (k+1))=G) :=by have h:=rZ.out;rw[show f=0 by omega]at h;exact h
      go_wp2_with fail;go_roundw;case rel=>exact⟨k+1,out,by omega,by go_num,HO.out,HN.out,ho,HE.out,bg.out⟩
      case measure=>simp[intOf];omega
   ·have HF:Hid (G=out) :=by show _=_;rw[←rZ.out,Lg _ _ _ _ hlt,List.append_nil]
    have Uj:Hid (G.length≤4096) :=by show _≤_;rw[HF.out];exact ho
    go_wp2_with fail;go_ret2;rw[(HR.out.1 Uj.out).1,(HR.out.1 Uj.out).2,HF.out];exact⟨_,rfl,fQ HO.out HB.out.size,HB.out.trans (bg.out.mono HB.out.size)⟩
theorem xY(lo hi:Int) :rF lo hi=true↔(1≤lo∧lo≤hi∧hi≤8) :=by simp[rF]
theorem Jd(s:ByteArray)(lo hi:Int)(w:World)(hs:s.size≤1048576) :Calls Tryz.prog 113 #[.string s,.int .i64 lo,.int .i64 hi] w fun e w'=>∃v,e= .returned (.tuple #[v,.int .i64 (dw s lo hi)])∧w'.ownsRow w.heap.size 9 1 v (eX s lo hi).length (bR (eX s lo hi))∧Below w.heap.size w w':=by
 by_cases hc:aJ s=0
 ·by_cases hok:rF lo hi=true
  ·have hb:=(xY lo hi).1 hok;obtain⟨L,rfl⟩ :=Int.eq_ofNat_of_zero_le (by omega:0≤lo);obtain⟨H,rfl⟩ :=Int.eq_ofNat_of_zero_le (by omega:0≤hi);have hd:=(NB s hc);refine K6 s L H w hs hc (by omega) (by omega) (by omega) (zA s L H) ?_ ?_ _ _ ?_;·show _=_;rw[zA,Int.toNat_natCast,show((H:Int)+1-(L:Int)).toNat=H+1-L by omega]
   ·intro r hr;rw[di,if_neg (by omega),oG,if_pos hd.1]at hr;exact wO s hd.1 r hr
   ·refine⟨fun h=> ?_,fun h=> ?_⟩
    ·have e:dw s L H=0:=by rw[dw,if_pos hc,if_pos hok,if_pos h]
     exact⟨by rw[eX,if_pos e],e⟩
    ·have e:dw s L H=11:=by rw[dw,if_pos hc,if_pos hok,if_neg h]
     exact⟨by rw[eX,if_neg (by omega)],e⟩
  ·have HM:Hid (dw s lo hi=1∧eX s lo hi= []) :=by
    have e:dw s lo hi=1:=by rw[dw,if_pos hc,if_neg hok]
    exact⟨e,by rw[eX,if_neg (by omega)]⟩
   have HC:=aa hc;have hnb: ¬(1≤lo∧lo≤hi∧hi≤8) :=fun h=>hok ((xY lo hi).2 h);clear hc hok;by_cases h1:lo<1;·clear hnb;go_enter Tryz.func113,Tryz.ntmps113;go_wp2_with fail;refine(gH s _ (by omega)).mono ?_;rintro e w1⟨v0,rfl,hown0,hb1⟩;rw[HC.out];clear hown0;go_wp2_with fail;go_ret2;rw[HM.out.1,HM.out.2];exact⟨_,rfl,fQ (dJ w1 9) hb1.size,hb1.alloc hb1.size _⟩
   have h1b:decide (lo<1)=false:=decide_eq_false h1;by_cases h2:hi<lo;·clear hnb;go_enter Tryz.func113,Tryz.ntmps113;go_wp2_with fail;refine(gH s _ (by omega)).mono ?_;rintro e w1⟨v0,rfl,hown0,hb1⟩;rw[HC.out];clear hown0;go_wp2_with fail;go_ret2;rw[HM.out.1,HM.out.2];exact⟨_,rfl,fQ (dJ w1 9) hb1.size,hb1.alloc hb1.size _⟩
   have AQ:decide (hi<lo)=false:=decide_eq_false h2;have h3:8<hi:=by omega
   clear hnb;go_enter Tryz.func113,Tryz.ntmps113;go_wp2_with fail;refine(gH s _ (by omega)).mono ?_;rintro e w1⟨v0,rfl,hown0,hb1⟩;rw[HC.out];clear hown0;go_wp2_with fail;go_ret2;rw[HM.out.1,HM.out.2];exact⟨_,rfl,fQ (dJ w1 9) hb1.size,hb1.alloc hb1.size _⟩
 ·have HM:Hid (dw s lo hi=aJ s∧eX s lo hi= []) :=by
   have e:dw s lo hi=aJ s:=by rw[dw,if_neg hc]
   exact⟨e,by rw[eX,if_neg (by rw[e];exact hc)]⟩
  have hcn:(aJ s !=0)=true:=by rw[bne_iff_ne];exact hc
  clear hc;go_enter Tryz.func113,Tryz.ntmps113;go_wp2_with fail;refine(gH s _ (by omega)).mono ?_;rintro e w1⟨v0,rfl,hown0,hb1⟩;clear hown0;generalize aJ s=c at*;go_wp2_with fail;go_ret2;rw[HM.out.1,HM.out.2];exact⟨_,rfl,fQ (dJ w1 9) hb1.size,hb1.alloc hb1.size _⟩
end Go.Proofs.YtcjiphknpagenaaGreatDoor
