import Derived.Test.YtcjiphknpagenaaGreatDoorDocsJ04
import Derived.Test.YtcjiphknpagenaaGreatDoorDocsJ03
namespace Go.Proofs.YtcjiphknpagenaaGreatDoor
open Go Go.RowKit
set_option linter.unusedVariables false
set_option linter.unusedSimpArgs false
set_option maxRecDepth 100000
set_option maxHeartbeats 8000000
theorem qU(s:ByteArray)(k:Nat)(h:k<s.size) :s[k]=(ai s).getD k 0:=by
 have h':k<(ai s).length:=by rw[ay];exact h
 rw[List.getD_eq_getElem?_getD,List.getElem?_eq_getElem h',Option.getD_some];simp[ai];rfl
theorem o9(p:UInt8→Bool)(l:List UInt8) {k:Nat}(hk:k<l.length)(h:(l.take k).all p=true)(hp:p (l.getD k 0)=true) :(l.take (k+1)).all p=true:=by rw[List.take_succ_eq_append_getElem hk,List.all_append,h];rw[List.getD_eq_getElem?_getD,List.getElem?_eq_getElem hk]at hp;simpa using hp
theorem yX(p:UInt8→Bool)(l:List UInt8) {k:Nat}(hk:k<l.length)(hp:p (l.getD k 0)=false) :l.all p=false:=by rw[List.all_eq_false];rw[List.getD_eq_getElem?_getD,List.getElem?_eq_getElem hk]at hp;exact⟨l[k],List.getElem_mem hk,by simpa using hp⟩
theorem I4(s:ByteArray)(w:World)(hs:s.size≤1048576) :Calls Tryz.prog 92 #[.string s] w fun e w'=>e= .returned (.bool ((ai s).all fq))∧w'=w:=by
 go_enter Tryz.func92,Tryz.ntmps92;go_wp2;go_loop [6](fun i=>∃k:Nat,k≤s.size∧i= .int .i64 k∧((ai s).take k).all fq=true)(fun i=>s.size-(intOf i).toNat);case atStart=>exact⟨0,Nat.zero_le _,rfl,rfl⟩
 case round=>
  obtain⟨k,hk,rfl,hall⟩ :=hrel;have HA:=aa hall;clear hall;by_cases hlt:k<s.size
  ·have hkl:k<(ai s).length:=by rw[ay];exact hlt
   have HG:=aa (qU s k hlt);have dY:((s[k]'hlt).toNat:Int)≤255:=by have:=UInt8.toNat_lt (s[k]'hlt);omega
   have HW:Hid ((decide ((97:Int)≤((s[k]'hlt).toNat:Int)) &&decide (((s[k]'hlt).toNat:Int)≤122))=fq ((ai s).getD k 0)) :=by show _=_;rw[fq,HG.out]
   by_cases hv:fq ((ai s).getD k 0)=true
   ·have HN:Hid (((ai s).take (k+1)).all fq=true) :=o9 _ _ hkl HA.out hv;go_wp2_with fail;refine(dA _ _ _ _).mono ?_;rintro e w'⟨rfl,hw⟩;obtain rfl:=hw.symm;rw[HW.out,hv];clear hv;go_wp2;go_round;case rel=>exact⟨k+1,by omega,by go_num,HN.out⟩
    case measure=>simp[intOf];omega
   ·have hv':fq ((ai s).getD k 0)=false:=by simpa using hv
    have HR:Hid ((ai s).all fq=false) :=yX _ _ hkl hv';go_wp2_with fail;refine(dA _ _ _ _).mono ?_;rintro e w'⟨rfl,hw⟩;obtain rfl:=hw.symm;rw[HW.out,hv'];clear hv hv';go_wp2;go_ret;rw[HR.out];exact⟨rfl,rfl⟩
  ·have HR:Hid ((ai s).all fq=true) :=by have:=HA.out;rw[List.take_of_length_le (by rw[ay];omega)]at this;exact this
   go_wp2;go_ret;rw[HR.out];exact⟨rfl,rfl⟩
theorem M8(s:ByteArray)(h:1≤s.size) :(ai (s.extract 0 1)).all fq=fq ((ai s).getD 0 0) :=by
 have e:ai (s.extract 0 1)=(ai s).take 1:=by simp[ai,ByteArray.data_extract]
 rw[e];have hl:1≤(ai s).length:=by rw[ay];exact h
 match hq:ai s,hl with
 |c::t,_=>simp
theorem Pf(s:ByteArray)(w:World)(hs:s.size≤1048576) :Calls Tryz.prog 69 #[.string s] w fun e w'=>e= .returned (.bool (je (ai s)))∧w'=w:=by
 go_enter Tryz.func69,Tryz.ntmps69;have hll:=ay s;by_cases hin:1≤s.size∧s.size≤30
 ·have HW:Hid ((decide ((1:Int)≤(s.size:Int)) &&decide ((s.size:Int)≤30))=true) :=by show _=_;rw[decide_eq_true (by omega),decide_eq_true (by omega)];rfl
  obtain⟨h1,h30⟩ :=hin;go_wp2_with fail;refine(dA _ _ _ _).mono ?_;rintro e w'⟨rfl,hw⟩;obtain rfl:=hw.symm;rw[HW.out];have HX:Hid ((ai (s.extract 0 1)).all fq=fq ((ai s).getD 0 0)) :=M8 s h1;go_wp2_with fail;refine(I4 _ _ (by rw[ByteArray.size_extract];omega)).mono ?_;rintro e w'⟨rfl,hw⟩;obtain rfl:=hw.symm;rw[HX.out];by_cases hf:fq ((ai s).getD 0 0)=true
  ·rw[hf];have HF:=aa hf;clear hf HX HW hw;go_wp2_with fail;go_loopw [17](fun i wr=>∃k:Nat,k≤s.size∧i= .int .i64 k∧((ai s).take k).all sF=true∧wr=w)(fun i _=>s.size-(intOf i).toNat);case atStart=>exact⟨0,Nat.zero_le _,rfl,rfl,rfl⟩
   case round=>
    obtain⟨k,hk,rfl,hall,jU⟩ :=hrel;have kg:=jU.symm;subst kg;clear jU;have HA:=aa hall;clear hall;by_cases hlt:k<s.size
    ·have hkl:k<(ai s).length:=by rw[ay];exact hlt
     have HG:=aa (qU s k hlt);have dY:((s[k]'hlt).toNat:Int)≤255:=by have:=UInt8.toNat_lt (s[k]'hlt);omega
     have HW1:Hid ((decide ((97:Int)≤((s[k]'hlt).toNat:Int)) &&decide (((s[k]'hlt).toNat:Int)≤122))=fq ((ai s).getD k 0)) :=by show _=_;rw[fq,HG.out]
     have HW2:Hid ((decide ((48:Int)≤((s[k]'hlt).toNat:Int)) &&decide (((s[k]'hlt).toNat:Int)≤57))=F9 ((ai s).getD k 0)) :=by show _=_;rw[F9,HG.out]
     have HW3:Hid (decide (((s[k]'hlt).toNat:Int)=95)=decide ((((ai s).getD k 0).toNat:Int)=95)) :=by show _=_;rw[HG.out]
     go_wp2_with fail;refine(dA _ _ _ _).mono ?_;rintro e w'⟨rfl,hw⟩;obtain rfl:=hw.symm;rw[HW1.out];by_cases hc1:fq ((ai s).getD k 0)=true
     ·rw[hc1];have HN:Hid (((ai s).take (k+1)).all sF=true) :=o9 _ _ hkl HA.out (by rw[sF,hc1];rfl);clear hc1 HW1 HW2 HW3 hw;go_wp2_with fail;go_roundw;case rel=>exact⟨k+1,by omega,by go_num,HN.out,by first|trivial|rfl⟩
      case measure=>simp[intOf];omega
     ·have hc1':fq ((ai s).getD k 0)=false:=by simpa using hc1
      rw[hc1'];have tK:=aa hc1';clear hc1 hc1' HW1 hw;go_wp2_with fail;refine(dA _ _ _ _).mono ?_;rintro e w'⟨rfl,hw⟩;obtain rfl:=hw.symm;rw[HW2.out];by_cases hc2:F9 ((ai s).getD k 0)=true
      ·rw[hc2];have HN:Hid (((ai s).take (k+1)).all sF=true) :=o9 _ _ hkl HA.out (by rw[sF,hc2];simp);clear hc2 HW2 HW3 hw;go_wp2_with fail;go_roundw;case rel=>exact⟨k+1,by omega,by go_num,HN.out,by first|trivial|rfl⟩
       case measure=>simp[intOf];omega
      ·have hc2':F9 ((ai s).getD k 0)=false:=by simpa using hc2
       rw[hc2'];have C8:=aa hc2';clear hc2 hc2' HW2 hw;by_cases hc3:((s[k]'hlt).toNat:Int)=95
       ·have HN:Hid (((ai s).take (k+1)).all sF=true) :=o9 _ _ hkl HA.out (by rw[sF,←HW3.out,decide_eq_true hc3];simp);clear HW3;go_wp2_with fail;go_roundw;case rel=>exact⟨k+1,by omega,by go_num,HN.out,by first|trivial|rfl⟩
        case measure=>simp[intOf];omega
       ·have HR:Hid (je (ai s)=false) :=OT hkl (by rw[sF,tK.out,C8.out,←HW3.out,decide_eq_false hc3];rfl);clear HW3;go_wp2_with fail;go_ret;rw[HR.out];exact⟨rfl,rfl⟩
    ·have HR:Hid (je (ai s)=true) :=by show _=_;have:=HA.out;rw[List.take_of_length_le (by rw[ay];omega)]at this;rw[je,this,HF.out,decide_eq_true (p:=1≤(ai s).length) (by omega),decide_eq_true (p:=(ai s).length≤30) (by omega)];rfl
     go_wp2_with fail;go_ret;rw[HR.out];exact⟨rfl,rfl⟩
  ·have hf':fq ((ai s).getD 0 0)=false:=by simpa using hf
   have HR:Hid (je (ai s)=false) :=by show _=_;rw[je,hf'];simp
   rw[hf'];clear hf hf' HX HW hw;go_wp2_with fail;go_ret;rw[HR.out];exact⟨rfl,rfl⟩
 ·have HR:Hid (je (ai s)=false) :=by
   show _=_;rw[je,hll];by_cases h1:1≤s.size;·rw[decide_eq_false (p:=s.size≤30) (by omega)];simp
   ·rw[decide_eq_false h1];simp
  have HW:Hid ((decide ((1:Int)≤(s.size:Int)) &&decide ((s.size:Int)≤30))=false) :=by
   show _=_;by_cases h1:1≤s.size;·rw[decide_eq_false (p:=(s.size:Int)≤30) (by omega),Bool.and_false]
   ·rw[decide_eq_false (p:=(1:Int)≤(s.size:Int)) (by omega),Bool.false_and]
  clear hin;go_wp2_with fail;refine(dA _ _ _ _).mono ?_;rintro e w'⟨rfl,hw⟩;obtain rfl:=hw.symm;rw[HW.out];clear HW hw;go_wp2_with fail;go_ret;rw[HR.out];exact⟨rfl,rfl⟩
theorem Lb(s:ByteArray)(w:World)(hs:s.size≤1048576) :Calls Tryz.prog 51 #[.string s] w fun e w'=>e= .returned (.bool (je (ai s)))∧w'=w:=by
 have hll:=ay s;by_cases h1:(s.size:Int)<1
 ·have HR:Hid (je (ai s)=false) :=by show _=_;rw[je,hll,decide_eq_false (p:=1≤s.size) (by omega)];simp
  go_enter Tryz.func51,Tryz.ntmps51;go_wp2_with fail;go_ret;rw[HR.out];exact⟨rfl,rfl⟩
 by_cases h2:(s.size:Int)>30
 ·have HR:Hid (je (ai s)=false) :=by show _=_;rw[je,hll,decide_eq_false (p:=s.size≤30) (by omega)];simp
  go_enter Tryz.func51,Tryz.ntmps51;go_wp2_with fail;go_ret;rw[HR.out];exact⟨rfl,rfl⟩
 have h0:0<s.size:=by omega
 have su:=aa (qU s 0 h0);by_cases h3:((s[0]'h0).toNat:Int)<97
 ·have HR:Hid (je (ai s)=false) :=by show _=_;rw[je,fq,←su.out,decide_eq_false (p:=(97:Int)≤((s[0]'h0).toNat:Int)) (by omega)];simp
  clear su;go_enter Tryz.func51,Tryz.ntmps51;go_wp2_with fail;go_ret;rw[HR.out];exact⟨rfl,rfl⟩
 by_cases h4:((s[0]'h0).toNat:Int)>122
 ·have HR:Hid (je (ai s)=false) :=by show _=_;rw[je,fq,←su.out,decide_eq_false (p:=((s[0]'h0).toNat:Int)≤122) (by omega)];simp
  clear su;go_enter Tryz.func51,Tryz.ntmps51;go_wp2_with fail;go_ret;rw[HR.out];exact⟨rfl,rfl⟩
 have HF:Hid (fq ((ai s).getD 0 0)=true) :=by show _=_;rw[fq,←su.out,decide_eq_true (p:=(97:Int)≤((s[0]'h0).toNat:Int)) (by omega),decide_eq_true (p:=((s[0]'h0).toNat:Int)≤122) (by omega)];rfl
 clear su;go_enter Tryz.func51,Tryz.ntmps51;go_wp2_with fail;go_loopw [3](fun i wr=>∃k:Nat,k≤s.size∧i= .int .i64 k∧((ai s).take k).all sF=true∧wr=w)(fun i _=>s.size-(intOf i).toNat);case atStart=>exact⟨0,Nat.zero_le _,rfl,rfl,rfl⟩
 case round=>
  obtain⟨k,hk,rfl,hall,jU⟩ :=hrel;have kg:=jU.symm;subst kg;clear jU h3 h4;have HA:=aa hall;clear hall;by_cases hlt:k<s.size
  ·have hkz:(k:Int)<(s.size:Int) :=by omega
   have hkl:k<(ai s).length:=by rw[ay];exact hlt
   have HG:=aa (qU s k hlt);obtain⟨z,hz⟩ : ∃z:Int,((s[k]'hlt).toNat:Int)=z:=⟨_,rfl⟩;have HZ:Hid ((((ai s).getD k 0).toNat:Int)=z) :=by show _=_;rw[←HG.out];exact hz
   have fB:Hid (∀b:Bool,sF ((ai s).getD k 0)=b→b=(decide (97≤z) &&decide (z≤122)|| (decide (48≤z) &&decide (z≤57))||decide (z=95))) :=fun b hb=>by rw[←hb,sF,fq,F9,HZ.out]
   clear HG;have go1:(97≤z∧z≤122)∨(48≤z∧z≤57)∨z=95∨(sF ((ai s).getD k 0)=false) :=by
    by_cases q1:97≤z∧z≤122;·exact Or.inl q1
    by_cases q2:48≤z∧z≤57;·exact Or.inr (Or.inl q2)
    by_cases q3:z=95;·exact Or.inr (Or.inr (Or.inl q3))
    refine Or.inr (Or.inr (Or.inr ?_));rw[fB.out _ rfl];simp only[Bool.or_eq_false_iff,Bool.and_eq_false_iff,decide_eq_false_iff_not];omega
   by_cases hok:sF ((ai s).getD k 0)=true
   ·have HN:Hid (((ai s).take (k+1)).all sF=true) :=o9 _ _ hkl HA.out hok;have hz3:(97≤z∧z≤122)∨(48≤z∧z≤57)∨z=95:=by
     rcases go1 with h|h|h|h;·exact Or.inl h
     ·exact Or.inr (Or.inl h)
     ·exact Or.inr (Or.inr h)
     ·rw[h]at hok;cases hok
    clear hok go1 fB HZ;rcases hz3 with⟨q1,q2⟩| ⟨q1,q2⟩|q1;all_goals
     go_wp2_with fail;go_roundw;case rel=>exact⟨k+1,by omega,by go_num,HN.out,by first|trivial|rfl⟩
     case measure=>simp[intOf];omega
   ·have HR:Hid (je (ai s)=false) :=OT hkl (by simpa using hok);have hz3: ¬(97≤z∧z≤122)∧¬(48≤z∧z≤57)∧z≠95:=by
     have hf:sF ((ai s).getD k 0)=false:=by simpa using hok
     have:=fB.out _ hf;refine⟨fun h=> ?_,fun h=> ?_,fun h=> ?_⟩;·rw[decide_eq_true h.1,decide_eq_true h.2]at this;simp at this
     ·rw[decide_eq_true h.1,decide_eq_true h.2]at this;simp at this
     ·rw[decide_eq_true h]at this;simp at this
    clear hok go1 fB HZ;obtain⟨q1,q2,q3⟩ :=hz3;by_cases p1:z<97
    ·by_cases p2:z<48;·go_wp2_with fail;go_ret;rw[HR.out];exact⟨rfl,rfl⟩
     ·have p3:z>57:=by omega
      go_wp2_with fail;go_ret;rw[HR.out];exact⟨rfl,rfl⟩
    ·have p3:z>122:=by omega
     have p4: ¬z<48:=by omega
     have p5:z>57:=by omega
     go_wp2_with fail;go_ret;rw[HR.out];exact⟨rfl,rfl⟩
  ·have hkz: ¬(k:Int)<(s.size:Int) :=by omega
   have HR:Hid (je (ai s)=true) :=by show _=_;have:=HA.out;rw[List.take_of_length_le (by rw[ay];omega)]at this;rw[je,this,HF.out,decide_eq_true (p:=1≤(ai s).length) (by omega),decide_eq_true (p:=(ai s).length≤30) (by omega)];rfl
   go_wp2_with fail;go_ret;rw[HR.out];exact⟨rfl,rfl⟩
theorem Lf(f:Fd)(aS aY:Option Addr)(cS cY:Nat)(w:World)(FK:f.stops.length≤1048576)(Al:f.af.length≤1048576) :Calls Tryz.prog 53 #[.agg #[.bool f.bf,.bool f.bA,.bool f.bp,.slice aS f.stops.length cS,.slice aY f.af.length cY,.int .i64 f.lo,.int .i64 f.hi]] w fun e w'=>e= .returned (.bool (qF f))∧Below w.heap.size w w':=by obtain⟨R,hR⟩ : ∃R,qF f=R:=⟨_,rfl⟩;have HR:=aa hR;rw[hR];clear hR;rw[qF]at HR;generalize f.bf=bf at*;generalize f.bA=bA at*;generalize f.bp=bp at*;generalize f.stops.length=nS at*;generalize f.af.length=nY at*;generalize f.lo=lo at*;generalize f.hi=hi at*;clear f;go_enter Tryz.func53,Tryz.ntmps53;go_wp2_with fail;all_goals go_ret;refine⟨?_,(Below.refl _ _).alloc (Nat.le_refl _) _⟩;rw[←HR.out];simp[*]<;>first| (intros;omega)| (rw[Bool.eq_iff_iff];simp only[beq_iff_eq,decide_eq_true_eq];done)| (rw[Bool.eq_iff_iff];simp only[beq_iff_eq,Bool.and_eq_true,decide_eq_true_eq];omega)
theorem Qy(f:Fd)(aS aY:Option Addr)(cS cY:Nat)(w:World)(FK:f.stops.length≤1048576)(Al:f.af.length≤1048576) :Calls Tryz.prog 71 #[.agg #[.bool f.bf,.bool f.bA,.bool f.bp,.slice aS f.stops.length cS,.slice aY f.af.length cY,.int .i64 f.lo,.int .i64 f.hi]] w fun e w'=>e= .returned (.bool (qF f))∧Below w.heap.size w w':=by obtain⟨R,hR⟩ : ∃R,qF f=R:=⟨_,rfl⟩;have HR:=aa hR;rw[hR];clear hR;rw[qF]at HR;generalize f.bf=bf at*;generalize f.bA=bA at*;generalize f.bp=bp at*;generalize f.stops.length=nS at*;generalize f.af.length=nY at*;generalize f.lo=lo at*;generalize f.hi=hi at*;clear f;go_enter Tryz.func71,Tryz.ntmps71;go_wp2_with fail;all_goals go_ret;refine⟨?_,(Below.refl _ _).alloc (Nat.le_refl _) _⟩;rw[←HR.out];simp[*]<;>first| (intros;omega)| (rw[Bool.eq_iff_iff];simp only[beq_iff_eq,decide_eq_true_eq];done)| (rw[Bool.eq_iff_iff];simp only[beq_iff_eq,Bool.and_eq_true,decide_eq_true_eq];omega)
def MI(w:World)(b o:Nat)(f:Fd) :Prop:=w.cell? ⟨b,o,none⟩=some (.string (bs f.name))∧w.cell? ⟨b,o+1,none⟩=some (.int .i64 f.kind)∧w.cell? ⟨b,o+2,none⟩=some (.bool f.bf)∧w.cell? ⟨b,o+3,none⟩=some (.bool f.bA)∧w.cell? ⟨b,o+4,none⟩=some (.bool f.bp)∧(∃aS cS,w.cell? ⟨b,o+5,none⟩=some (.slice aS f.stops.length cS)∧bE w aS f.stops)∧(∃aY cY,w.cell? ⟨b,o+6,none⟩=some (.slice aY f.af.length cY)∧dB w aY f.af)∧w.cell? ⟨b,o+7,none⟩=some (.int .i64 f.lo)∧w.cell? ⟨b,o+8,none⟩=some (.int .i64 f.hi)
theorem MI.below {w w':World} {b o:Nat} {f:Fd}(h:MI w b o f)(hb:b<w.heap.size)(hw:Below w.heap.size w w') :MI w' b o f:=by have k: ∀j,w'.cell? ⟨b,j,none⟩=w.cell? ⟨b,j,none⟩ :=fun j=>hw.cell (p:=⟨b,j,none⟩) hb;obtain⟨h0,h1,h2,h3,h4,⟨aS,cS,h5,hS⟩,⟨aY,cY,h6,hY⟩,h7,h8⟩ :=h;exact⟨(k _).trans h0,(k _).trans h1,(k _).trans h2,(k _).trans h3,(k _).trans h4,⟨aS,cS,(k _).trans h5,hS.below hw⟩,⟨aY,cY,(k _).trans h6,hY.below hw⟩,(k _).trans h7,(k _).trans h8⟩
def jK(w:World)(a:Option Addr)(l:List Fd) :Prop:=l= []∨∃b off,a=some ⟨b,off,none⟩∧b<w.heap.size∧∀i,i<l.length→MI w b (off+i*9) (l.getD i fd0)
theorem jK.below {w w':World} {a:Option Addr} {l:List Fd}(h:jK w a l)(hb:Below w.heap.size w w') :jK w' a l:=by
 rcases h with h| ⟨b,off,h1,h2,h3⟩;·exact Or.inl h
 ·exact Or.inr ⟨b,off,h1,Nat.lt_of_lt_of_le h2 hb.size,fun i hi=>(h3 i hi).below h2 hb⟩
def kz(f:Fd) :Prop:=f.name.length≤1048576∧f.stops.length≤1048576∧f.af.length≤1048576∧Mv f.stops∧Kc f.af
def CU(I:Nat→Prop)(g:Nat)(a:Option Addr) :Prop:=∀blk off,a=some ⟨blk,off,none⟩→I blk∧blk≠g
structure Ob(W:World)(I:Nat→Prop)(g:Nat)(cs:Array Value)(o:Nat)(f:Fd) :Prop where
 nm:cs[o]?=some (.string (bs f.name))
 kd:cs[o+1]?=some (.int .i64 f.kind)
 c2:cs[o+2]?=some (.bool f.bf)
 c3:cs[o+3]?=some (.bool f.bA)
 c4:cs[o+4]?=some (.bool f.bp)
 c5: ∃a c,cs[o+5]?=some (.slice a f.stops.length c)∧bE W a f.stops∧CU I g a∧(¬I g→a=none→c=0)
 c6: ∃a c,cs[o+6]?=some (.slice a f.af.length c)∧dB W a f.af∧CU I g a∧(¬I g→a=none→c=0)
 c7:cs[o+7]?=some (.int .i64 f.lo)
 c8:cs[o+8]?=some (.int .i64 f.hi)
 sm:f.name.length≤100∧mY f.stops f.af f.lo f.hi
structure gX(W:World)(I:Nat→Prop)(g:Nat)(l:List Fd) :Prop where
 blk: ∃cs,W.heap[g]?=some (.cells cs 75)∧cs.size=45∧∀i,i<l.length→Ob W I g cs (i*9) (l.getD i fd0)
 few:l.length≤5
 gW:g<W.heap.size
theorem q9 {W W':World} {a:Option Addr} {l:List (List UInt8)}(h:bE W a l)(hz:W.heap.size≤W'.heap.size)(hk: ∀blk off,a=some ⟨blk,off,none⟩→blk<W.heap.size→W'.heap[blk]?=W.heap[blk]?) :bE W' a l:=by
 rcases h with h| ⟨b,off,h1,h2,h3⟩;·exact Or.inl h
 ·exact Or.inr ⟨b,off,h1,Nat.lt_of_lt_of_le h2 hz,fun t ht=>by rw[←h3 t ht];simp[World.cell?,hk b off h1 h2]⟩
theorem gX.keep {W W':World} {I:Nat→Prop} {g:Nat} {l:List Fd} {X:Nat→Prop}(h:gX W I g l)(hb:But X W W')(hg: ¬X g)(hX: ∀x,I x→¬X x) :gX W' I g l:=by obtain⟨⟨cs,h1,h2,h3⟩,h4,h5⟩ :=h;have hk: ∀a:Option Addr,CU I g a→∀blk off,a=some ⟨blk,off,none⟩→blk<W.heap.size→W'.heap[blk]?=W.heap[blk]?:=fun a ha blk off e hl=>hb.block blk hl (hX blk (ha blk off e).1);refine⟨⟨cs,(hb.block g h5 hg).trans h1,h2,fun i hi=> ?_⟩,h4,Nat.lt_of_lt_of_le h5 hb.size⟩;have q:=h3 i hi;obtain⟨a,c,q1,q2,q3,q4⟩ :=q.c5;obtain⟨a',c',r1,r2,r3,r4⟩ :=q.c6;exact{q with c5:=⟨a,c,q1,q9 q2 hb.size (hk a q3),q3,q4⟩,c6:=⟨a',c',r1,jM r2 hb.size (hk a' r3),r3,r4⟩}
theorem ME {stops:List (List UInt8)} {af:List (List UInt8×List UInt8)} {lo hi:Int}(h:mY stops af lo hi) :Mv stops∧Kc af:=by
 obtain⟨_,_,h1,h2,_⟩ :=h;refine⟨fun t ht=> ?_,fun t ht=> ?_⟩;·rw[aK];exact h1 _ (by rw[List.getD_eq_getElem?_getD,List.getElem?_eq_getElem ht];exact List.getElem_mem ht)
 ·rw[aK,aK];exact h2 _ (by rw[List.getD_eq_getElem?_getD,List.getElem?_eq_getElem ht];exact List.getElem_mem ht)
theorem SE:kz fd0:=⟨by decide,by decide,by decide,fun t ht=>absurd ht (by simp[fd0]),fun t ht=>absurd ht (by simp[fd0])⟩
theorem gX.sz {W:World} {I:Nat→Prop} {g:Nat} {l:List Fd}(h:gX W I g l) : ∀i,kz (l.getD i fd0) :=fun i=>by
 by_cases hi:i<l.length;·obtain⟨⟨cs,h1,h2,h3⟩,_⟩ :=h;obtain⟨q1,q2⟩ :=(h3 i hi).sm;have q3:=q2.1;have q4:=q2.2.1;exact⟨by omega,by omega,by omega,(ME q2).1,(ME q2).2⟩
 ·rw[List.getD_eq_getElem?_getD,List.getElem?_eq_none (by omega)];exact SE
theorem Ob.at {W:World} {I:Nat→Prop} {g:Nat} {cs:Array Value} {o:Nat} {f:Fd}(h:Ob W I g cs o f)(hg:W.heap[g]?=some (.cells cs 75)) :MI W g o f:=by obtain⟨a,c,q1,q2,q3,q4⟩ :=h.c5;obtain⟨a',c',r1,r2,r3,r4⟩ :=h.c6;exact⟨(ah hg o).trans h.nm,(ah hg _).trans h.kd,(ah hg _).trans h.c2,(ah hg _).trans h.c3,(ah hg _).trans h.c4,⟨a,c,(ah hg _).trans q1,q2⟩,⟨a',c',(ah hg _).trans r1,r2⟩,(ah hg _).trans h.c7,(ah hg _).trans h.c8⟩
theorem gX.hold {W:World} {I:Nat→Prop} {g:Nat} {l:List Fd}(h:gX W I g l) :jK W (some ⟨g,0,none⟩) l:=by obtain⟨⟨cs,h1,h2,h3⟩,h4,h5⟩ :=h;refine Or.inr ⟨g,0,rfl,h5,fun i hi=> ?_⟩;rw[Nat.zero_add];exact(h3 i hi).at h1
theorem gX.take {W:World} {I:Nat→Prop} {g:Nat} {l:List Fd}(h:gX W I g l)(m:Nat) :gX W I g (l.take m) :=by obtain⟨⟨cs,h1,h2,h3⟩,h4,h5⟩ :=h;refine⟨⟨cs,h1,h2,fun i hi=> ?_⟩,by rw[List.length_take];omega,h5⟩;rw[List.length_take]at hi;have:=h3 i (by omega);rwa [show(l.take m).getD i fd0=l.getD i fd0 from by simp[List.getD_eq_getElem?_getD,List.getElem?_take,show i<m by omega]]
def fds(fo st ph:Bool)(stops:List (List UInt8))(af:List (List UInt8×List UInt8))(lo hi:Int) :List Fd:=[⟨[98,111,100,121],1,fo,st,ph,stops,af,lo,hi⟩,⟨[112,114,105,99,101],3,false,false,false,[],[],0,0⟩,⟨[116,97,103],2,false,false,false,[],[],0,0⟩,⟨[116,105,116,108,101],1,true,false,false,[],[],0,0⟩,⟨[121,101,97,114],3,false,false,false,[],[],0,0⟩]
theorem Zw(fo st ph:Bool)(stops:List (List UInt8))(af:List (List UInt8×List UInt8))(lo hi:Int)(h1:stops.length≤100)(h2:af.length≤100)(m i:Nat) :(((fds fo st ph stops af lo hi).take m).getD i fd0).stops.length≤100∧(((fds fo st ph stops af lo hi).take m).getD i fd0).af.length≤100:=by
 by_cases hlt:i<((fds fo st ph stops af lo hi).take m).length
 ·rw[List.getD_eq_getElem?_getD,List.getElem?_eq_getElem hlt,Option.getD_some];have hm:=List.mem_of_mem_take (List.getElem_mem hlt);generalize((fds fo st ph stops af lo hi).take m)[i]=f at hm⊢;simp only[fds,List.mem_cons,List.not_mem_nil,or_false]at hm;rcases hm with rfl|rfl|rfl|rfl|rfl;·exact⟨h1,h2⟩
  all_goals exact⟨by simp,by simp⟩
 ·rw[List.getD_eq_getElem?_getD,List.getElem?_eq_none (by omega)];exact⟨by simp[fd0],by simp[fd0]⟩
theorem FP(W:World)(I:Nat→Prop)(g:Nat)(cs:Array Value)(o:Nat)(nm:List UInt8)(kd:Int)(fo:Bool)(hn:nm.length≤100)(h0:cs[o]?=some (.string (bs nm)))(h1:cs[o+1]?=some (.int .i64 kd))(h2:cs[o+2]?=some (.bool fo))(h3:cs[o+3]?=some (.bool false))(h4:cs[o+4]?=some (.bool false))(h5:cs[o+5]?=some (.slice none 0 0))(h6:cs[o+6]?=some (.slice none 0 0))(h7:cs[o+7]?=some (.int .i64 0))(h8:cs[o+8]?=some (.int .i64 0)) :Ob W I g cs o ⟨nm,kd,fo,false,false,[],[],0,0⟩ :=⟨h0,h1,h2,h3,h4,⟨none,0,h5,Or.inl rfl,fun _ _ e=>(by cases e),fun _ _=>rfl⟩,⟨none,0,h6,Or.inl rfl,fun _ _ e=>(by cases e),fun _ _=>rfl⟩,h7,h8,hn,⟨by simp,by simp,by simp,by simp,(by show(-100:Int)≤0;omega),(by show(0:Int)≤100;omega),(by show(-100:Int)≤0;omega),(by show(0:Int)≤100;omega)⟩⟩
theorem abq {W:World} {I:Nat→Prop} {g:Nat} {fo st ph:Bool} {aS aY:Option Addr} {cS cY:Nat} {stops:List (List UInt8)} {af:List (List UInt8×List UInt8)} {lo hi:Int} {ns ny:Nat}(hns:stops.length=ns)(hny:af.length=ny)(h:W.heap[g]?=some (.cells #[.string ⟨#[98,111,100,121]⟩,.int .i64 1,.bool fo,.bool st,.bool ph,.slice aS ns cS,.slice aY ny cY,.int .i64 lo,.int .i64 hi,.string ⟨#[112,114,105,99,101]⟩,.int .i64 3,.bool false,.bool false,.bool false,.slice none 0 0,.slice none 0 0,.int .i64 0,.int .i64 0,.string ⟨#[116,97,103]⟩,.int .i64 2,.bool false,.bool false,.bool false,.slice none 0 0,.slice none 0 0,.int .i64 0,.int .i64 0,.string ⟨#[116,105,116,108,101]⟩,.int .i64 1,.bool true,.bool false,.bool false,.slice none 0 0,.slice none 0 0,.int .i64 0,.int .i64 0,.string ⟨#[121,101,97,114]⟩,.int .i64 3,.bool false,.bool false,.bool false,.slice none 0 0,.slice none 0 0,.int .i64 0,.int .i64 0] 75))(hS:bE W aS stops)(hY:dB W aY af)(iS:CU I g aS)(iY:CU I g aY)(cs0:aS=none→cS=0)(cy0:aY=none→cY=0)(hsm:mY stops af lo hi)(h1:stops.length≤100)(h2:af.length≤100) :gX W I g (fds fo st ph stops af lo hi) :=by
 subst hns hny;refine⟨⟨_,h,rfl,fun i hi=> ?_⟩,by simp[fds],(Array.getElem?_eq_some_iff.1 h).1⟩;have hi5:i<5:=by simpa[fds]using hi
 rcases(by omega:i=0∨i=1∨i=2∨i=3∨i=4)with rfl|rfl|rfl|rfl|rfl;·exact⟨rfl,rfl,rfl,rfl,rfl,⟨aS,cS,rfl,hS,iS,fun _=>cs0⟩,⟨aY,cY,rfl,hY,iY,fun _=>cy0⟩,rfl,rfl,(by show([98,111,100,121] :List UInt8).length≤100;decide),hsm⟩
 ·exact FP _ _ _ _ _ _ 3 false (by decide) rfl rfl rfl rfl rfl rfl rfl rfl rfl
 ·exact FP _ _ _ _ _ _ 2 false (by decide) rfl rfl rfl rfl rfl rfl rfl rfl rfl
 ·exact FP _ _ _ _ _ _ 1 true (by decide) rfl rfl rfl rfl rfl rfl rfl rfl rfl
 ·exact FP _ _ _ _ _ _ 3 false (by decide) rfl rfl rfl rfl rfl rfl rfl rfl rfl
def zu(w:World)(g:Nat) :Prop:=∀i,i<5→∃(nm:List UInt8)(kd:Int),nm.length≤8∧w.cell? ⟨g,i*9,none⟩=some (.string ⟨nm.toArray⟩)∧w.cell? ⟨g,i*9+1,none⟩=some (.int .i64 kd)
theorem zu.but {X:Nat→Prop} {w w':World} {g:Nat}(h:zu w g)(hb:But X w w')(hx: ¬X g) :zu w' g:=fun i hi=>by obtain⟨nm,kd,h1,h2,h3⟩ :=h i hi;exact⟨nm,kd,h1,(hb.cell (p:=⟨g,i*9,none⟩) (cell_lt h2) hx).trans h2,(hb.cell (p:=⟨g,i*9+1,none⟩) (cell_lt h3) hx).trans h3⟩
theorem gX.five {W:World} {I:Nat→Prop} {g:Nat} {fo st ph:Bool} {stops:List (List UInt8)} {af:List (List UInt8×List UInt8)} {lo hi:Int}(h:gX W I g (fds fo st ph stops af lo hi)) :zu W g:=fun i hi=>by obtain⟨⟨cs,h1,h2,h3⟩,_⟩ :=h;have q:=h3 i (by simpa[fds]using hi);refine⟨_,_,?_,(ah h1 _).trans q.nm,(ah h1 _).trans q.kd⟩;rcases(by omega:i=0∨i=1∨i=2∨i=3∨i=4)with rfl|rfl|rfl|rfl|rfl<;>simp[fds]
theorem But.Du {X:Nat→Prop} {a b:World}(h:But X a b)(g k:Nat)(u:Value)(hg:a.heap.size≤g) :But X a (b.setCell ⟨g,k,none⟩ u) :=⟨h.os,h.tape,h.output,by have:=h.size;simpa using this,fun i hi hn=>(au b g k u i (by omega)).trans (h.block i hi hn)⟩
theorem But.more {X:Nat→Prop} {a b c:World}(h:But X a b)(k:But X b c) :But X a c:=h.trans k (fun _ _ h=>h) (fun _ _ h=>h)
theorem But.blk {X:Nat→Prop} {a b:World}(h:But X a b) {g:Nat} {o:Obj}(hg:a.heap[g]?=some o)(hx: ¬X g) :b.heap[g]?=some o:=(h.block g (Array.getElem?_eq_some_iff.1 hg).1 hx).trans hg
def Q4(w:World)(b:Nat)(ao:Option Addr)(n cap:Nat)(A:Int)(e:Ending)(w':World) :Prop:=∃g m c I l,e= .returned (.agg #[.slice (some ⟨g,0,none⟩) m c])∧1≤m∧m≤5∧zu w' g∧w.heap.size≤g∧Sx b ao n cap w' A∧But (fun x=>x=b) w w'∧l.length=m∧(∀x,I x→b<x∧w.heap.size≤x∧x<w'.heap.size)∧gX w' I g l∧¬I g∧∀i,(l.getD i fd0).stops.length≤100∧(l.getD i fd0).af.length≤100
theorem Oz {w W:World} {b:Nat} {ao:Option Addr} {n cap:Nat} {A A':Int} {I:Nat→Prop} {g2 gf m c:Nat} {fo st ph:Bool} {stops:List (List UInt8)} {af:List (List UInt8×List UInt8)} {lo hi:Int}(hS:Sx b ao n cap W A)(hB:But (fun x=>x=b) w W)(hL:gX W I gf (fds fo st ph stops af lo hi))(hA:A≤A')(hg2:w.heap.size≤g2∧b≠g2∧gf≠g2)(hgf:w.heap.size≤gf)(hI: ∀x,I x→b<x∧w.heap.size≤x∧x<W.heap.size∧x≠g2)(KR: ¬I gf)(Bp:stops.length≤100∧af.length≤100)(hm:1≤m∧m≤5)(hcb: ∀j,j<n→∃blk off,ao=some ⟨blk,off,none⟩∧blk<w.heap.size) :Q4 w b ao n cap A' (.returned (.agg #[.slice (some ⟨gf,0,none⟩) m c])) (W.setCell ⟨g2,0,none⟩ (.slice (some ⟨gf,0,none⟩) m c)) :=by obtain⟨h1,h2,h4⟩ :=hg2;have hX:But (fun x=>x=g2) W (W.setCell ⟨g2,0,none⟩ (.slice (some ⟨gf,0,none⟩) m c)) :=(But.refl (fun x=>x=g2) W).set g2 0 _ rfl;have hK:=hL.keep hX h4 (fun x hx e=>(hI x hx).2.2.2 e);refine⟨gf,m,c,I,_,rfl,hm.1,hm.2,hK.five,hgf,(hS.set g2 0 _ (fun e=>h2 e.symm) (fun j hj=>by obtain⟨blk,off,q1,q2⟩ :=hcb j hj;exact⟨blk,off,q1,by omega⟩)).mono hA,hB.Du g2 0 _ h1,?_,fun x hx=>by have:=hI x hx;simp;omega,hK.take m,KR,Zw _ _ _ _ _ _ _ Bp.1 Bp.2 m⟩;rw[List.length_take];simp[fds];omega
theorem Qw(b:Nat)(ao:Option Addr)(n cap:Nat)(A:Int)(w:World)(hn:n≤1048576)(hA:A≤100000)(hs:Sx b ao n cap w A)(hcb: ∀j,j<n→∃blk off,ao=some ⟨blk,off,none⟩∧blk<w.heap.size) :Calls Tryz.prog 16 #[.pointer (some ⟨b,0,none⟩)] w (Q4 w b ao n cap (A+66)) :=by
 have HS:=aa hs;have HC:=aa hcb;have hlt:=hs.lt;clear hs hcb;go_enter Tryz.func16,Tryz.ntmps16;go_upto_region 1 with fail;have HB1:Hid (Below w.heap.size w (w.alloc (.cells #[.slice none 0 0] 25))) :=(Below.refl _ _).alloc (Nat.le_refl _) _;have mR:=aa (heap_alloc_new w (.cells #[.slice none 0 0] 25));obtain⟨g2,hg2⟩ : ∃g,w.heap.size=g:=⟨_,rfl⟩;have HG:Hid (w.heap.size≤g2∧b≠g2) :=⟨Nat.le_of_eq hg2,by omega⟩;rw[hg2]at mR;simp only[hg2];clear hg2;generalize w.alloc (.cells #[.slice none 0 0] 25)=w1 at*;have j5:=aa (HS.out.below HB1.out);have HL1:Hid (b<w1.heap.size∧w.heap.size≤w1.heap.size∧g2<w1.heap.size) :=⟨j5.out.lt,HB1.out.size,(Array.getElem?_eq_some_iff.1 mR.out).1⟩;go_wp2_with fail;refine(Pz b ao n cap A w1 hn (by omega) j5.out (fun j hj=>by obtain⟨blk,off,h1,h2⟩ :=HC.out j hj;exact⟨blk,off,h1,Nat.lt_of_lt_of_le h2 HB1.out.size⟩)).mono ?_
 rintro e w2⟨fo,st,ph,aS,aY,cS,cY,stops,af,lo,hi,rfl,hs2,hb2,p1,p2,p3,p4,p5,p6,p7,p8,p9,pa,pb,pc,pd,pe⟩;have hsm:mY stops af lo hi:=⟨by omega,by omega,fun t ht=>by obtain⟨i,hi,rfl⟩ :=List.getElem_of_mem ht;have:=p7 i hi;rw[aK,List.getD_eq_getElem?_getD,List.getElem?_eq_getElem hi]at this;exact this,fun y hy=>by obtain⟨i,hi,rfl⟩ :=List.getElem_of_mem hy;have:=p8 i hi;rw[aK,aK,List.getD_eq_getElem?_getD,List.getElem?_eq_getElem hi]at this;exact this,p9,pa,pb,pc⟩;have HP:Hid (bE w2 aS stops∧dB w2 aY af∧(∀blk off,aS=some ⟨blk,off,none⟩→w1.heap.size≤blk∧blk<w2.heap.size)∧(∀blk off,aY=some ⟨blk,off,none⟩→w1.heap.size≤blk∧blk<w2.heap.size)∧(aS=none→cS=0)∧(aY=none→cY=0)∧mY stops af lo hi∧stops.length≤100∧af.length≤100) :=⟨p1,p2,p3,p4,pd,pe,hsm,p5,p6⟩;have JZ:Hid (stops.length≤100∧af.length≤100) :=⟨p5,p6⟩;obtain⟨ns,hns⟩ : ∃k,stops.length=k:=⟨_,rfl⟩
 obtain⟨ny,hny⟩ : ∃k,af.length=k:=⟨_,rfl⟩;have NR:=aa hns;have HNy:=aa hny;rw[hns,hny];have HS2:=aa hs2;have HB2:=aa ((But.of_below HB1.out).more hb2);have iw:=aa (hb2.blk mR.out (fun e=>HG.out.2 e.symm));have HL2:Hid (w1.heap.size≤w2.heap.size) :=hb2.size;clear hs2 hb2 j5 HB1 mR p1 p2 p3 p4 p5 p6 p7 p8 p9 pa pb pc pd pe hsm hns hny;go_upto_region 2 with fail;obtain⟨w3,hw3⟩ : ∃w3,w2.alloc (.cells #[.string ⟨#[98,111,100,121]⟩,.int .i64 1,.bool fo,.bool st,.bool ph,.slice aS ns cS,.slice aY ny cY,.int .i64 lo,.int .i64 hi,.string ⟨#[112,114,105,99,101]⟩,.int .i64 3,.bool false,.bool false,.bool false,.slice none 0 0,.slice none 0 0,.int .i64 0,.int .i64 0,.string ⟨#[116,97,103]⟩,.int .i64 2,.bool false,.bool false,.bool false,.slice none 0 0,.slice none 0 0,.int .i64 0,.int .i64 0,.string ⟨#[116,105,116,108,101]⟩,.int .i64 1,.bool true,.bool false,.bool false,.slice none 0 0,.slice none 0 0,.int .i64 0,.int .i64 0,.string ⟨#[121,101,97,114]⟩,.int .i64 3,.bool false,.bool false,.bool false,.slice none 0 0,.slice none 0 0,.int .i64 0,.int .i64 0] 75)=w3:=⟨_,rfl⟩
 have ic:Below w2.heap.size w2 w3:=by rw[←hw3];exact(Below.refl _ _).alloc (Nat.le_refl _) _
 have hzA:w3.heap.size=w2.heap.size+1:=by rw[←hw3];simp
 have HI:Hid (∀x,(w1.heap.size≤x∧x<w2.heap.size)→b<x∧w.heap.size≤x∧x<w3.heap.size∧x≠g2) :=fun x hx=>by have:=HL1.out;omega
 have ED:Hid (gX w3 (fun x=>w1.heap.size≤x∧x<w2.heap.size) w2.heap.size (fds fo st ph stops af lo hi)) :=by
  obtain⟨p1,p2,p3,p4,p5,p6,p7,p8,p9⟩ :=HP.out;refine abq (cS:=cS) (cY:=cY) NR.out HNy.out ?_ (p1.below ic) (p2.below ic) (fun x y e=> ?_) (fun x y e=> ?_) p5 p6 p7 p8 p9;·rw[←hw3];exact heap_alloc_new w2 _
  ·have:=p3 x y e;exact⟨this,by omega⟩
  ·have:=p4 x y e;exact⟨this,by omega⟩
 rw[hw3];have ql:=aa (HS2.out.below ic);have HB3:=aa (HB2.out.more (But.of_below ic));have Ah:=aa (aD iw.out ic);obtain⟨gf,hgf⟩ : ∃g,w2.heap.size=g:=⟨_,rfl⟩;have OV:Hid (w.heap.size≤gf∧b≠gf∧gf≠g2) :=⟨by have:=HB2.out.size;omega,by have:=HS2.out.lt;omega,by have:=(Array.getElem?_eq_some_iff.1 iw.out).1;omega⟩;rw[hgf]at ED HI;simp only[hgf];clear hgf HS2 HB2 iw ic hw3 hzA HP HL2;go_wp2_with fail;refine(pK ql.out hn (by omega) 6 (by omega) (by omega)).mono ?_;rintro e w4⟨x,rfl,hs4,hb4⟩;have EC:=aa hs4;have bU:=aa (HB3.out.more hb4);have Bf:=aa (hb4.blk Ah.out (fun e=>HG.out.2 e.symm));have Aj:=hb4.size;have Oj:=aa (ED.out.keep hb4 (fun e=>OV.out.2.1 e.symm) (fun x hx e=>by have:=HI.out x hx;omega));clear hs4 hb4 ql HB3 Ah ED;cases x with
 |true=>
  go_wp2_with fail;refine(dx EC.out hn (by omega) 5 (by omega) (by omega)).mono ?_;rintro e w5⟨y,rfl,hy,hs5,hb5⟩;have vP:=aa (hb5.blk Bf.out (fun e=>HG.out.2 e.symm));have Ak:=hb5.size;have Yd:=aa (Oj.out.keep hb5 (fun e=>OV.out.2.1 e.symm) (fun x hx e=>by have:=HI.out x hx;omega));have Y0:=aa hs5;have eG:=aa (bU.out.more hb5);clear hs5 hb5 EC bU Bf Oj;have y0:=ah vP.out 0;have y1:=aC vP.out 0;simp only[List.getElem?_toArray,List.getElem?_cons_zero]at y0;obtain⟨m,hm⟩ : ∃m:Nat,1+(y:Int)=(m:Int) :=⟨1+y,by omega⟩;have hm1:1≤m∧m≤5:=by omega
  have OG:(m:Int)≤5:=by omega
  go_wp2;have hfin:=aa (aV vP.out 0 (.slice (some ⟨gf,0,none⟩) m 5));refine bodyPost_ret (v:= .agg #[.slice (some ⟨gf,0,none⟩) m 5]) ?_ rfl (Oz Y0.out eG.out Yd.out (by omega) ⟨HG.out.1,HG.out.2,OV.out.2.2⟩ OV.out.1 (fun x hx=>by have:=HI.out x hx;omega) (fun h=>by omega) JZ.out hm1 HC.out);generalize w5.setCell ⟨g2,0,none⟩ (.slice (some ⟨gf,0,none⟩) m 5)=wf at*;have z0:=ah hfin.out 0;simp at z0;simp[results,Tryz.results16,go_sem,z0]
 |false=>have y0:=ah Bf.out 0;have y1:=aC Bf.out 0;simp only[List.getElem?_toArray,List.getElem?_cons_zero]at y0;go_wp2;have hfin:=aa (aV Bf.out 0 (.slice (some ⟨gf,0,none⟩) 5 5));refine bodyPost_ret (v:= .agg #[.slice (some ⟨gf,0,none⟩) 5 5]) ?_ rfl (Oz EC.out bU.out Oj.out (by omega) ⟨HG.out.1,HG.out.2,OV.out.2.2⟩ OV.out.1 (fun x hx=>by have:=HI.out x hx;omega) (fun h=>by omega) JZ.out (by omega) HC.out);generalize w4.setCell ⟨g2,0,none⟩ (.slice (some ⟨gf,0,none⟩) 5 5)=wf at*;have z0:=ah hfin.out 0;simp at z0;simp[results,Tryz.results16,go_sem,z0]
abbrev Vl:=List UInt8×List (List UInt8) ×List Int
abbrev Dc:=List UInt8×List Vl
def aQ:Vl:=([],[],[])
def gN(w:World)(a:Option Addr)(l:List (List UInt8)) :Prop:=l= []∨∃b off,a=some ⟨b,off,none⟩∧b<w.heap.size∧∀i,i<l.length→w.cell? ⟨b,off+i,none⟩=some (.string ⟨(l.getD i []).toArray⟩)
def qD(w:World)(a:Option Addr)(l:List Int) :Prop:=l= []∨∃b off,a=some ⟨b,off,none⟩∧b<w.heap.size∧∀i,i<l.length→w.cell? ⟨b,off+i,none⟩=some (.int .i64 (l.getD i 0))
def gK(w:World)(a:Option Addr)(V:List Vl) :Prop:=V= []∨∃b off,a=some ⟨b,off,none⟩∧b<w.heap.size∧∀i,i<V.length→w.cell? ⟨b,off+i*3,none⟩=some (.string ⟨(V.getD i aQ).1.toArray⟩)∧(∃at_ ct,w.cell? ⟨b,off+i*3+1,none⟩=some (.slice at_ (V.getD i aQ).2.1.length ct)∧gN w at_ (V.getD i aQ).2.1)∧∃an cn,w.cell? ⟨b,off+i*3+2,none⟩=some (.slice an (V.getD i aQ).2.2.length cn)∧qD w an (V.getD i aQ).2.2
theorem gN.below {w w':World} {a:Option Addr} {l:List (List UInt8)}(h:gN w a l)(hb:Below w.heap.size w w') :gN w' a l:=by
 rcases h with h| ⟨b,off,ha,hbl,h⟩;·exact Or.inl h
 ·exact Or.inr ⟨b,off,ha,Nat.lt_of_lt_of_le hbl hb.size,fun i hi=>(hb.cell (p:=⟨b,off+i,none⟩) hbl).trans (h i hi)⟩
theorem qD.below {w w':World} {a:Option Addr} {l:List Int}(h:qD w a l)(hb:Below w.heap.size w w') :qD w' a l:=by
 rcases h with h| ⟨b,off,ha,hbl,h⟩;·exact Or.inl h
 ·exact Or.inr ⟨b,off,ha,Nat.lt_of_lt_of_le hbl hb.size,fun i hi=>(hb.cell (p:=⟨b,off+i,none⟩) hbl).trans (h i hi)⟩
theorem gK.below {w w':World} {a:Option Addr} {V:List Vl}(h:gK w a V)(hb:Below w.heap.size w w') :gK w' a V:=by
 rcases h with h| ⟨b,off,ha,hbl,h⟩;·exact Or.inl h
 ·refine Or.inr ⟨b,off,ha,Nat.lt_of_lt_of_le hbl hb.size,fun i hi=> ?_⟩;obtain⟨h1,⟨at_,ct,h2,h3⟩,an,cn,h4,h5⟩ :=h i hi;exact⟨(hb.cell (p:=⟨b,off+i*3,none⟩) hbl).trans h1,⟨at_,ct,(hb.cell (p:=⟨b,off+i*3+1,none⟩) hbl).trans h2,h3.below hb⟩,an,cn,(hb.cell (p:=⟨b,off+i*3+2,none⟩) hbl).trans h4,h5.below hb⟩
def mkS(t:List UInt8) :Value:= .string ⟨t.toArray⟩
def EJ(z:Int) :Value:= .int .i64 z
theorem acr {b:Nat} {ao:Option Addr} {n cap:Nat} {W:World} {A:Int}(h:Sx b ao n cap W A)(hn:n≤1048576)(hA:A≤274877906944)(N:Nat)(hN:N≤1000) :Calls Tryz.prog 40 #[.pointer (some ⟨b,0,none⟩),.int .i64 (N:Int)] W fun e w'=>∃t:ByteArray,e= .returned (.string t)∧t.size≤32*N∧Sx b ao n cap w' (A+6*(N:Int))∧But (fun x=>x=b) W w':=by obtain⟨a,sd,h1,h2,h3,h4,h5,h6⟩ :=h;refine(R9 b ao n cap a sd N W hn hN h1 (by omega) h3 h4 h5 h6).mono ?_;rintro e w1⟨t,a1,qQ,rfl,ht,Ls,LU,sU,hsd1,o7,hg1⟩;exact⟨t,rfl,ht,⟨a1,qQ,by omega,by omega,sU,hsd1,o7,h6.kept hg1⟩,Cx hg1⟩
theorem Tryz.infoStrL:(Tryz.prog.info? 9).map (fun i=>(i.zero,i.size,i.bytes))=some (some (.string ⟨#[]⟩),1,16) :=by kernel_rfl
theorem Tryz.infoIntL:(Tryz.prog.info? 3).map (fun i=>(i.zero,i.size,i.bytes))=some (some (.int .i64 0),1,8) :=by kernel_rfl
theorem Tryz.infoValL:(Tryz.prog.info? 43).map (fun i=>(i.zero,i.size,i.bytes))=some (some (.agg #[.string ⟨#[]⟩,.slice none 0 0,.slice none 0 0]),3,64) :=by kernel_rfl
def sC(l:List (List UInt8)) :List Value:=l.map fun t=> .string ⟨t.toArray⟩
def zC(l:List Int) :List Value:=l.map fun z=> .int .i64 z
theorem Oo(l:List (List UInt8))(t:List UInt8) :sC (l++ [t])=sC l++ [.string ⟨t.toArray⟩] :=by simp[sC]
theorem NJ(l:List Int)(z:Int) :zC (l++ [z])=zC l++ [.int .i64 z] :=by simp[zC]
theorem gu {w:World} {base e sz n:Nat} {v:Value} {xs:List Value}(h:w.ownsRow base e sz v n xs) {x:Nat}(hx:v.ownBlock=some x) :x<w.heap.size:=by obtain⟨_,cur,hc⟩ :=dH h hx;exact(Array.getElem?_eq_some_iff.1 hc).1
theorem Kn {X:Nat→Prop} {w w':World} {base e sz n:Nat} {v:Value} {xs:List Value}(h:w.ownsRow base e sz v n xs)(hb:But X w w')(hx: ∀x,v.ownBlock=some x→¬X x) :w'.ownsRow base e sz v n xs:=cz h fun x hv=>hb.block x (gu h hv) (hx x hv)
theorem gI {w:World} {base base' e e' sz sz' n n':Nat} {v v':Value} {xs xs':List Value}(h:w.ownsRow base e sz v n xs)(h':w.ownsRow base' e' sz' v' n' xs')(hne:e≠e') {x:Nat}(hx:v.ownBlock=some x) :v'.ownBlock≠some x:=fun e1=>by obtain⟨_,c1,h1⟩ :=dH h hx;obtain⟨_,c2,h2⟩ :=dH h' e1;rw[h1]at h2;injection h2 with h2;injection h2 with _ h2;exact hne h2
theorem dO {w:World} {base e sz n g:Nat} {v:Value} {xs:List Value} {cs:Array Value} {t:TypeId}(h:w.ownsRow base e sz v n xs)(hg:w.heap[g]?=some (.cells cs t))(hne:e≠t) :v.ownBlock≠some g:=fun e1=>by obtain⟨_,c1,h1⟩ :=dH h e1;rw[h1]at hg;injection hg with hg;injection hg with _ hg;exact hne hg
theorem kP {w w':World} {v:Value}(h:w.grownBy w' v.ownBlock) :But (fun x=>v.ownBlock=some x) w w':=⟨h.os,h.tape,h.output,h.size,fun i hi hn=>h.block i hi fun e=>hn e.symm⟩
theorem Sx.Gw {b:Nat} {ao:Option Addr} {n cap:Nat} {W W':World} {A:Int} {X:Nat→Prop}(h:Sx b ao n cap W A)(hb:But X W W')(hx: ¬X b)(hc: ∀j,j<n→∃blk off,ao=some ⟨blk,off,none⟩∧blk<W.heap.size∧¬X blk) :Sx b ao n cap W' A:=by obtain⟨a,sd,h1,h2,h3,h4,h5,h6⟩ :=h;refine⟨a,sd,h1,h2,h3,h4,(hb.block b h5.lt hx).trans h5,fun j hj=> ?_⟩;obtain⟨blk,off,z,q1,q2,q3,q4,q5⟩ :=h6 j hj;obtain⟨BU,off',r1,r2,r3⟩ :=hc j hj;rw[q1]at r1;cases r1;exact⟨blk,off,z,q1,q2,q3,q4,(hb.cell (p:=⟨blk,off+j,none⟩) r2 r3).trans q5⟩
structure VI(w0:World)(b:Nat)(ao:Option Addr)(n cap:Nat)(A:Int)(g7:Nat)(nm:List UInt8)(tv:Value)(T:List (List UInt8))(nv:Value)(Z:List Int)(W:World) :Prop where
 src:Sx b ao n cap W A
 but:But (fun x=>x=b) w0 W
 box:W.heap[g7]?=some (.cells #[.string ⟨nm.toArray⟩,tv,nv] 43)
 Ov:w0.heap.size≤g7
 txt:W.ownsRow w0.heap.size 9 1 tv T.length (sC T)
 num:W.ownsRow w0.heap.size 3 1 nv Z.length (zC Z)
 bl:b<w0.heap.size
 cb: ∀j,j<n→∃blk off,ao=some ⟨blk,off,none⟩∧blk<w0.heap.size
section
variable {w0 W W':World} {b:Nat} {ao:Option Addr} {n cap:Nat} {A A':Int} {g7:Nat} {nm:List UInt8} {tv:Value} {T:List (List UInt8)} {nv:Value} {Z:List Int}
theorem VI.draw(h:VI w0 b ao n cap A g7 nm tv T nv Z W)(hs:Sx b ao n cap W' A')(hb:But (fun x=>x=b) W W') :VI w0 b ao n cap A' g7 nm tv T nv Z W':=⟨hs,h.but.more hb,hb.blk h.box (fun e=>by have:=h.Ov;have:=h.bl;omega),h.Ov,Kn h.txt hb (fun x hx e=>by have:=(dH h.txt hx).1;have:=h.bl;omega),Kn h.num hb (fun x hx e=>by have:=(dH h.num hx).1;have:=h.bl;omega),h.bl,h.cb⟩
theorem VI.below(h:VI w0 b ao n cap A g7 nm tv T nv Z W)(hb:Below W.heap.size W W') :VI w0 b ao n cap A g7 nm tv T nv Z W':=h.draw (h.src.below hb) (But.of_below hb)
theorem VI.mono(h:VI w0 b ao n cap A g7 nm tv T nv Z W)(hA:A≤A') :VI w0 b ao n cap A' g7 nm tv T nv Z W:=⟨h.src.mono hA,h.but,h.box,h.Ov,h.txt,h.num,h.bl,h.cb⟩
theorem VI.grow {k:Nat} {u:Value} {e:TypeId} {m:Nat} {v:Value} {xs:List Value}(h:VI w0 b ao n cap A g7 nm tv T nv Z W)(hr:W.ownsRow w0.heap.size e 1 v m xs)(he:e≠43)(hg:W.grownBy W' v.ownBlock) :Sx b ao n cap (W'.setCell ⟨g7,k,none⟩ u) A∧But (fun x=>x=b) w0 (W'.setCell ⟨g7,k,none⟩ u)∧(W'.setCell ⟨g7,k,none⟩ u).heap[g7]?=some (.cells (#[.string ⟨nm.toArray⟩,tv,nv].setIfInBounds k u) 43)∧(∀y,y≠g7→v.ownBlock≠some y→y<W.heap.size→(W'.setCell ⟨g7,k,none⟩ u).heap[y]?=W.heap[y]?) :=by
 have hb:=kP hg;have h7:W'.heap[g7]?=_:=hb.blk h.box (dO hr h.box he);have Yu:=h.Ov;have hbl:=h.bl;have hX: ∀x,x<w0.heap.size→¬(v.ownBlock=some x) :=fun x hx e1=>by have:=(dH hr e1).1;omega
 refine⟨(h.src.Gw hb (hX b hbl) (fun j hj=> ?_)).set g7 k u (by omega) (fun j hj=> ?_),⟨hb.os.trans h.but.os,hb.tape.trans h.but.tape,hb.output.trans h.but.output,?_,fun i hi hn=> ?_⟩,aV h7 k u,fun y hy hy2 hy3=>(au _ _ _ _ _ hy).trans (hb.block y hy3 hy2)⟩;·obtain⟨blk,off,h1,h2⟩ :=h.cb j hj;exact⟨blk,off,h1,Nat.lt_of_lt_of_le h2 h.but.size,hX blk h2⟩
 ·obtain⟨blk,off,h1,h2⟩ :=h.cb j hj;exact⟨blk,off,h1,by omega⟩
 ·have:=hb.size;have:=h.but.size;simp;omega
 ·rw[au _ _ _ _ _ (by omega),hb.block i (Nat.lt_of_lt_of_le hi h.but.size) (hX i hi)];exact h.but.block i hi hn
theorem VI.JF {tv':Value} {x:List UInt8}(h:VI w0 b ao n cap A g7 nm tv T nv Z W)(ho:W'.ownsRow w0.heap.size 9 1 tv' (T++ [x]).length (sC (T++ [x])))(hg:W.grownBy W' tv.ownBlock) :VI w0 b ao n cap A g7 nm tv' (T++ [x]) nv Z (W'.setCell ⟨g7,1,none⟩ tv') :=by obtain⟨h1,h2,h3,h4⟩ :=h.grow (k:=1) (u:=tv') h.txt (by decide) hg;have h7:W'.heap[g7]?=_:=(kP hg).blk h.box (dO h.txt h.box (by decide));exact⟨h1,h2,h3,h.Ov,cz ho fun y hy=>au _ _ _ _ _ (fun e=>dO ho h7 (by decide) (by rw[hy,e])),cz h.num fun y hy=>h4 y (fun e=>dO h.num h.box (by decide) (by rw[hy,e])) (gI h.num h.txt (by decide) hy) (gu h.num hy),h.bl,h.cb⟩
theorem VI.ac6 {Yt:Value} {z:Int}(h:VI w0 b ao n cap A g7 nm tv T nv Z W)(ho:W'.ownsRow w0.heap.size 3 1 Yt (Z++ [z]).length (zC (Z++ [z])))(hg:W.grownBy W' nv.ownBlock) :VI w0 b ao n cap A g7 nm tv T Yt (Z++ [z]) (W'.setCell ⟨g7,2,none⟩ Yt) :=by obtain⟨h1,h2,h3,h4⟩ :=h.grow (k:=2) (u:=Yt) h.num (by decide) hg;have h7:W'.heap[g7]?=_:=(kP hg).blk h.box (dO h.num h.box (by decide));exact⟨h1,h2,h3,h.Ov,cz h.txt fun y hy=>h4 y (fun e=>dO h.txt h.box (by decide) (by rw[hy,e])) (gI h.txt h.num (by decide) hy) (gu h.txt hy),cz ho fun y hy=>au _ _ _ _ _ (fun e=>dO ho h7 (by decide) (by rw[hy,e])),h.bl,h.cb⟩
theorem VI.cells(h:VI w0 b ao n cap A g7 nm tv T nv Z W) :W.cell? ⟨g7,0,none⟩=some (.string ⟨nm.toArray⟩)∧W.cell? ⟨g7,1,none⟩=some tv∧W.cell? ⟨g7,2,none⟩=some nv∧W.frozen? ⟨g7,1,none⟩=false∧W.frozen? ⟨g7,2,none⟩=false:=⟨ah h.box 0,ah h.box 1,ah h.box 2,aC h.box 1,aC h.box 2⟩
end
end Go.Proofs.YtcjiphknpagenaaGreatDoor
