import Derived.Test.YtkbjimkngmlfcaaDoorSetsJ09
namespace Go.Proofs.YtkbjimkngmlfcaaDoor
open Go Go.RowKit
open Go renaming World→aal,Calls→aar
open Go.Lib renaming runeCells→aap
open Go.RowKit renaming Below→aab
open Go.Utf8 renaming decode→aau
open Or renaming inl→aas,inr→aah
set_option linter.unusedVariables false
set_option linter.unusedSimpArgs false
set_option maxRecDepth 100000
set_option maxHeartbeats 2000000
theorem abH {P:Prop}(h:P:=by
 have hch':ig v=false:=by simpa using hch
 have HA:=ah (He.out.2 (fun hh=>hch hh.2));clear hch;go_wp2_with fail;refine(Aj _ _).mono ?_;rintro e w1⟨rfl,rfl⟩;exact agG) :P:=h
theorem JQ {P:Prop}(h:P:=by go_enter Tryd.func89,Tryd.ntmps89;exact agG) :P:=h
theorem zc7 {P:Prop}(h:P:=by
 have hpk:p+k<s.size:=by omega
 have Hk:=ah (oD s (p+k) hpk);have bdk:=jZ s (p+k);have ark:(p:Int)+(k:Int)<(s.size:Int) :=by omega
 by_cases hc1:aO s (p+k)<128;·have HA:=ah (Ro.out ⟨k,hk1,hlt,Or.inl hc1⟩);rw[←Hk.out]at hc1 bdk;go_wp2;go_ret2;rw[HA.out.1,HA.out.2];exact⟨rfl,Below.refl _ _⟩
 ·by_cases hc2:191<aO s (p+k);·have HA:=ah (Ro.out ⟨k,hk1,hlt,Or.inr hc2⟩);rw[←Hk.out]at hc1 hc2 bdk;go_wp2;go_ret2;rw[HA.out.1,HA.out.2];exact⟨rfl,Below.refl _ _⟩
  ·have HS:=ah (iP s p v0 k hk1);have GK:=ah (MV s p k HC.out (by omega) (by omega));rw[←Hk.out]at hc1 hc2 bdk;go_wp2;go_round;case rel=>exact⟨k+1,by omega,by omega,by go_num,by rw[HS.out,Hk.out],GK.out⟩
   case measure=>simp[intOf];omega) :P:=h
theorem G5 {P:Prop}(h:P:=by go_wp2_with fail;refine(Aj _ _).mono ?_;rintro e w1⟨rfl,rfl⟩;go_wp2_with fail;refine(UG v _ hch).mono ?_;rintro e w1⟨rfl,rfl⟩;go_wp2;go_ret2;rw[HA.out.1,HA.out.2];exact⟨rfl,(Below.refl _ _).alloc (Nat.le_refl _) _⟩) :P:=h
theorem agG {P:Prop}(h:P:=by go_wp2;go_ret2;rw[HA.out.1,HA.out.2];exact⟨rfl,Below.refl _ _⟩) :P:=h
theorem PI {P:Prop}(h:P:=by
 rw[bne_iff_ne,hrl.out];repeat' split
 all_goals omega) :P:=h
theorem BX(r:Int)(h:ig r=true) :((aap r).length:Int)=if r<128 then 1 else if r<2048 then 2 else if r<65536 then 3 else 4:=by
 rw[jH]at h;unfold aap;rw[List.length_map];by_cases h1:r<128;·rw[Lib.encodeRuneZ_one h.1 (by omega),if_pos h1];rfl
 ·by_cases h2:r<2048;·rw[Lib.encodeRuneZ_two (by omega) (by omega),if_neg h1,if_pos h2];rfl
  ·by_cases h3:r<65536;·rw[Lib.encodeRuneZ_three (by omega),if_neg h1,if_neg h2,if_pos h3];rfl
   ·rw[Lib.encodeRuneZ_four (by omega) (by omega),if_neg h1,if_neg h2,if_neg h3];rfl
theorem VV(s:ByteArray)(p:Nat)(w:aal)(hs:s.size≤1048576)(hp:p<s.size)(h:aO s p<128) :aar Tryd.prog 89 #[.string s,.int .i64 p] w fun e w'=>e= .returned (.tuple #[.int .i64 (oW s p),.int .i64 (nJ s p)])∧aab w.heap.size w w':=by have HA:=ah (amW s p h);have Hb:=ah (oD s p hp);rw[←Hb.out]at h;go_enter Tryd.func89,Tryd.ntmps89;go_wp2;go_ret2;rw[HA.out.1,HA.out.2,←Hb.out];exact⟨rfl,Below.refl _ _⟩
theorem YM(s:ByteArray)(p:Nat)(w:aal)(hs:s.size≤1048576)(hp:p<s.size)(h:128≤aO s p)(h2:aO s p<192) :aar Tryd.prog 89 #[.string s,.int .i64 p] w fun e w'=>e= .returned (.tuple #[.int .i64 (oW s p),.int .i64 (nJ s p)])∧aab w.heap.size w w':=by have HA:=ah (ahP s p h h2);have Hb:=ah (oD s p hp);rw[←Hb.out]at h h2;exact JQ
theorem Xl(s:ByteArray)(p:Nat)(w:aal)(hs:s.size≤1048576)(hp:p<s.size)(h:192≤aO s p)(h2:aO s p<224) :aar Tryd.prog 89 #[.string s,.int .i64 p] w fun e w'=>e= .returned (.tuple #[.int .i64 (oW s p),.int .i64 (nJ s p)])∧aab w.heap.size w w':=by
 have bd:=jZ s p;have Hb:=ah (oD s p hp);by_cases hsz:s.size<p+2
 ·have HA:=ah (yP s p 2 (aas ⟨rfl,h,h2⟩) (aas hsz));have hszz:(s.size:Int)<(p:Int)+2:=by omega
  rw[←Hb.out]at h h2 bd;exact JQ
 ·have hszz: ¬(s.size:Int)<(p:Int)+2:=by omega
  have Ro:=ah (fun hb=>yP s p 2 (aas ⟨rfl,h,h2⟩) (aah hb));have Bc:=ah (fun hc=>an3 s p h h2 (by omega) hc);generalize hv0:aO s p-192=v0 at Bc;have Hv0:=ah hv0;have KE:0≤v0:=by omega
  have Hu:v0≤31:=by omega
  have OC:Hid (((s[p]'hp).toNat:Int)-192=v0) :=by show _=_;rw[Hb.out];exact hv0
  rw[←Hb.out]at h h2 bd;clear hv0;go_enter Tryd.func89,Tryd.ntmps89;go_wp2;rw[OC.out];go_loop [8,9](fun v i=>∃k:Nat,1≤k∧k≤2∧i= .int .i64 k∧v= .int .i64 (eD s p v0 k)∧lW s p k)(fun _ i=>2-(intOf i).toNat);case atStart=>exact⟨1,by omega,by omega,rfl,rfl,Ah s p⟩
  case round=>
   obtain⟨k,hk1,hk,rfl,rfl,hcont⟩ :=hrel;have vb:=J2 s p v0 KE Hu k hk1 (by omega) hcont;have HC:=ah hcont;clear hcont;by_cases hlt:k<2;·exact zc7
   ·obtain rfl:k=2:=by omega
    have He:=ah (Bc.out HC.out);have NN:=ah (abQ s p v0 Hu HC.out);generalize eD s p v0 2=v at He vb NN;by_cases hch:ig v=true
    ·have hrl:=ah (BX v hch);by_cases hv:128≤v
     ·have HA:=ah (He.out.1 hv);have hvu:v<2048:=NN.out;have hlen:(((aap v).length:Int) !=2)=false:=by rw[hrl.out,if_neg (by omega),if_pos (by omega)];rfl
      exact G5
     ·have HA:=ah (He.out.2 (by omega));have hlen:(((aap v).length:Int) !=2)=true:=by exact PI
      exact G5
    ·have hch':ig v=false:=by simpa using hch
     exact absurd ((jH v).2 (by have:=NN.out;omega)) hch
theorem XP(s:ByteArray)(p:Nat)(w:aal)(hs:s.size≤1048576)(hp:p<s.size)(h:224≤aO s p)(h2:aO s p<240) :aar Tryd.prog 89 #[.string s,.int .i64 p] w fun e w'=>e= .returned (.tuple #[.int .i64 (oW s p),.int .i64 (nJ s p)])∧aab w.heap.size w w':=by
 have bd:=jZ s p;have Hb:=ah (oD s p hp);by_cases hsz:s.size<p+3
 ·have HA:=ah (yP s p 3 (aah (aas ⟨rfl,h,h2⟩)) (aas hsz));have hszz:(s.size:Int)<(p:Int)+3:=by omega
  rw[←Hb.out]at h h2 bd;exact JQ
 ·have hszz: ¬(s.size:Int)<(p:Int)+3:=by omega
  have Ro:=ah (fun hb=>yP s p 3 (aah (aas ⟨rfl,h,h2⟩)) (aah hb));have Bc:=ah (fun hc=>amT s p h h2 (by omega) hc);generalize hv0:aO s p-224=v0 at Bc;have Hv0:=ah hv0;have KE:0≤v0:=by omega
  have Hu:v0≤31:=by omega
  have OC:Hid (((s[p]'hp).toNat:Int)-224=v0) :=by show _=_;rw[Hb.out];exact hv0
  rw[←Hb.out]at h h2 bd;clear hv0;go_enter Tryd.func89,Tryd.ntmps89;go_wp2;rw[OC.out];go_loop [8,9](fun v i=>∃k:Nat,1≤k∧k≤3∧i= .int .i64 k∧v= .int .i64 (eD s p v0 k)∧lW s p k)(fun _ i=>3-(intOf i).toNat);case atStart=>exact⟨1,by omega,by omega,rfl,rfl,Ah s p⟩
  case round=>
   obtain⟨k,hk1,hk,rfl,rfl,hcont⟩ :=hrel;have vb:=J2 s p v0 KE Hu k hk1 (by omega) hcont;have HC:=ah hcont;clear hcont;by_cases hlt:k<3;·exact zc7
   ·obtain rfl:k=3:=by omega
    have He:=ah (Bc.out HC.out);have NN:=ah (abP s p v0 (by have:=OC.out;omega) HC.out);generalize eD s p v0 3=v at He vb NN;by_cases hch:ig v=true
    ·have hrl:=ah (BX v hch);by_cases hv:2048≤v
     ·have HA:=ah (He.out.1 ⟨hv,hch⟩);have hvu:v<65536:=NN.out;have hlen:(((aap v).length:Int) !=3)=false:=by rw[hrl.out,if_neg (by omega),if_neg (by omega),if_pos (by omega)];rfl
      exact G5
     ·have HA:=ah (He.out.2 (fun hh=>hv hh.1));have hlen:(((aap v).length:Int) !=3)=true:=by exact PI
      exact G5
    ·exact abH
theorem XC(s:ByteArray)(p:Nat)(w:aal)(hs:s.size≤1048576)(hp:p<s.size)(h:240≤aO s p) :aar Tryd.prog 89 #[.string s,.int .i64 p] w fun e w'=>e= .returned (.tuple #[.int .i64 (oW s p),.int .i64 (nJ s p)])∧aab w.heap.size w w':=by
 have bd:=jZ s p;have Hb:=ah (oD s p hp);by_cases hsz:s.size<p+4
 ·have HA:=ah (yP s p 4 (aah (aah ⟨rfl,h⟩)) (aas hsz));have hszz:(s.size:Int)<(p:Int)+4:=by omega
  rw[←Hb.out]at h bd;exact JQ
 ·have hszz: ¬(s.size:Int)<(p:Int)+4:=by omega
  have Ro:=ah (fun hb=>yP s p 4 (aah (aah ⟨rfl,h⟩)) (aah hb));have Bc:=ah (fun hc=>anX s p h (by omega) hc);generalize hv0:aO s p-240=v0 at Bc;have Hv0:=ah hv0;have KE:0≤v0:=by omega
  have Hu:v0≤31:=by omega
  have OC:Hid (((s[p]'hp).toNat:Int)-240=v0) :=by show _=_;rw[Hb.out];exact hv0
  rw[←Hb.out]at h bd;clear hv0;go_enter Tryd.func89,Tryd.ntmps89;go_wp2;rw[OC.out];go_loop [8,9](fun v i=>∃k:Nat,1≤k∧k≤4∧i= .int .i64 k∧v= .int .i64 (eD s p v0 k)∧lW s p k)(fun _ i=>4-(intOf i).toNat);case atStart=>exact⟨1,by omega,by omega,rfl,rfl,Ah s p⟩
  case round=>
   obtain⟨k,hk1,hk,rfl,rfl,hcont⟩ :=hrel;have vb:=J2 s p v0 KE Hu k hk1 (by omega) hcont;have HC:=ah hcont;clear hcont;by_cases hlt:k<4;·exact zc7
   ·obtain rfl:k=4:=by omega
    have He:=ah (Bc.out HC.out);skip;generalize eD s p v0 4=v at He vb;by_cases hch:ig v=true
    ·have hrl:=ah (BX v hch);by_cases hv:65536≤v
     ·have HA:=ah (He.out.1 ⟨hv,hch⟩);skip;have hlen:(((aap v).length:Int) !=4)=false:=by rw[hrl.out,if_neg (by omega),if_neg (by omega),if_neg (by omega)];rfl
      exact G5
     ·have HA:=ah (He.out.2 (fun hh=>hv hh.1));have hlen:(((aap v).length:Int) !=4)=true:=by exact PI
      exact G5
    ·exact abH
theorem Sj(s:ByteArray)(p:Nat)(w:aal)(hs:s.size≤1048576)(hp:p<s.size) :aar Tryd.prog 89 #[.string s,.int .i64 p] w fun e w'=>e= .returned (.tuple #[.int .i64 (oW s p),.int .i64 (nJ s p)])∧aab w.heap.size w w':=by
 by_cases h1:aO s p<128;·exact VV s p w hs hp h1
 by_cases h2:aO s p<192;·exact YM s p w hs hp (by omega) h2
 by_cases h3:aO s p<224;·exact Xl s p w hs hp (by omega) h3
 by_cases h4:aO s p<240;·exact XP s p w hs hp (by omega) h4
 ·exact XC s p w hs hp (by omega)
theorem Tryd.infoInt:(Tryd.prog.info? 3).map (fun i=>(i.zero,i.size,i.bytes))=some (some (.int .i64 0),1,8) :=by kernel_rfl
theorem F6(s:ByteArray)(w:aal)(hs:s.size≤1048576) :aar Tryd.prog 85 #[.string s] w fun e w'=>∃v,e= .returned (.tuple #[v,.bool (kC s)])∧w'.ownsRow w.heap.size 3 1 v (zN s).length ((zN s).map (Value.int .i64))∧aab w.heap.size w w':=by
 obtain⟨i0,hi,hz0,hz1,hz2⟩ :=info_parts Tryd.infoInt;go_enter Tryd.func85,Tryd.ntmps85;go_wp2;go_loopw [4,5](fun v i wr=>∃(p f:Nat)(acc:List Int),p≤s.size∧i= .int .i64 p∧wr.ownsRow w.heap.size 3 1 v acc.length (acc.map (Value.int .i64))∧aab w.heap.size w wr∧acc++runesFrom s f p=runes s∧s.size≤p+f∧qb s p=kC s)(fun _ i _=>s.size-(intOf i).toNat);case atStart=>exact⟨0,s.size,[],Nat.zero_le _,rfl,gF w _,(Below.refl _ _).alloc (Nat.le_refl _) _,rfl,by omega,PV s⟩
 case round=>
  obtain⟨p,f,acc,hp,rfl,hown,hbel,hacc,hf,hv⟩ :=hrel;have hlen:acc.length≤s.size:=by have:=congrArg List.length hacc;rw[List.length_append]at this;have:=Wp s;omega
  by_cases hlt:p<s.size
  ·have hw:=width_le s p hlt;have hr:=rune_le s p;have HO:=ah hown;by_cases hb:bad s p
   ·have HV:Hid (kC s=false) :=by show _=_;rw[←hv];exact Vg s p hlt hb
    have HL:Hid (zN s= []) :=by show _=_;rw[zN,if_neg (by rw[HV.out];simp)]
    have HW:=ah (aci s p hb);clear hown hacc hv;go_wp2_with fail;refine(Sj s p _ hs hlt).mono ?_;rintro e w1⟨rfl,hb1⟩;rw[HW.out];have tC:aab w.heap.size w w1:=hbel.trans (hb1.mono hbel.size);clear hb1;go_wp2;go_ret2;rw[HV.out,HL.out];refine⟨_,rfl,jM (gF _ _) tC.size,tC.alloc tC.size _⟩
   ·have HW:=ah (WV s p hb);have HC:=ah (XJ s p hb);have Zp:Hid (acc++ [((aau s p).1:Int)]++runesFrom s (f-1) (p+(aau s p).2)=runes s) :=by exact ahT
    have Hv2:Hid (qb s (p+(aau s p).2)=kC s) :=by show _=_;rw[QN s p hlt hb,hv]
    clear hown hacc hv;go_wp2_with fail;refine(Sj s p _ hs hlt).mono ?_;rintro e w1⟨rfl,hb1⟩;rw[HW.out,HC.out];have tC:aab w.heap.size w w1:=hbel.trans (hb1.mono hbel.size);have jl:=ah (own_below HO.out hb1);clear hb1 HO;generalize(aau s p).1=r at*;generalize(aau s p).2=n at*;go_wp2_with(at_builtin;refine wpList_append_own _ rfl _ _ 56 rfl w.heap.size 3 i0 (.int .i64 0) 1 8 Tryd.underlying56 hi hz0 hz1 hz2 rfl (by decide) _ _ _ rfl (jl.out.alloc _) ⟨w1.heap.size,0,none⟩ 1 1 [.int .i64 (r:Int)] rfl rfl ?c1 ?c2 ?c3 ?c4 ?c5 ?_);case c1=>
     intro j u hj;match j,hj with
     |0,hj=>simp at hj;subst hj;simp[Addr.add]
    case c2=>intro u hu;simp at hu;subst hu;rfl
    case c3=>unfold maxLen;omega
    case c4=>omega
    case c5=>have:=tC.size;simp;omega
    intro v' w2 hown' hgrow hne;have R:Hid (w2.ownsRow w.heap.size 3 1 v' (acc++ [(r:Int)]).length ((acc++ [(r:Int)]).map (Value.int .i64))∧aab w.heap.size w w2) :=by refine⟨?_,(tC.alloc tC.size _).grown hgrow (by have:=tC.size;simp;omega) (fF jl.out)⟩;rw[List.length_append,List.map_append];exact hown'
    clear hown' hgrow jl;go_wp2;go_roundw;case rel=>exact⟨p+n,f-1,acc++ [(r:Int)],by omega,by go_num,R.out.1,R.out.2,Zp.out,by omega,Hv2.out⟩
    case measure=>simp[intOf];omega
  ·have HV:Hid (kC s=true) :=by show _=_;rw[←hv];exact Sg s p hlt
   have HL:Hid (zN s=acc) :=by show _=_;rw[zN,if_pos HV.out,←hacc,runesFrom_end s f p hlt,List.append_nil]
   clear hacc hv;have HO:=ah hown;clear hown;go_wp2;go_ret2;rw[HV.out,HL.out];exact⟨_,rfl,HO.out,hbel⟩
theorem zn(s:ByteArray)(w:aal)(hs:s.size≤1048576) :aar Tryd.prog 65 #[.string s] w fun e w'=>∃v,e= .returned (.tuple #[v,.int .i64 (dG s)])∧w'.ownsRow w.heap.size 3 1 v (eO s).length ((eO s).map (Value.int .i64))∧aab w.heap.size w w':=by
 by_cases hlong:65536<s.size
 ·have HL:Hid (eO s= []) :=by show _=_;rw[eO,if_pos hlong]
  have HC:Hid (dG s=2) :=by show _=_;rw[dG,if_pos hlong]
  have hlz:(65536:Int)<(s.size:Int) :=by omega
  go_enter Tryd.func65,Tryd.ntmps65;go_wp2;go_ret2;rw[HL.out,HC.out];exact⟨_,rfl,gF _ _,(Below.refl _ _).alloc (Nat.le_refl _) _⟩
 ·have hlz: ¬(65536:Int)<(s.size:Int) :=by omega
  by_cases hv:kC s=true
  ·have HL:Hid (eO s=zN s) :=by show _=_;rw[eO,if_neg hlong]
   have HC:Hid (dG s=0) :=by show _=_;rw[dG,if_neg hlong,if_pos hv]
   go_enter Tryd.func65,Tryd.ntmps65;go_wp2_with fail;refine(F6 s _ hs).mono ?_;rintro e w1⟨v,rfl,hown,hb1⟩;have HO:=ah hown;clear hown;go_wp2;go_ret2;rw[HL.out,HC.out];exact⟨_,rfl,HO.out,hb1⟩
  ·have hv':kC s=false:=by simpa using hv
   have HL:Hid (eO s= []) :=by show _=_;rw[eO,if_neg hlong,zN,if_neg hv]
   have HC:Hid (dG s=3) :=by show _=_;rw[dG,if_neg hlong,if_neg hv]
   clear hv;go_enter Tryd.func65,Tryd.ntmps65;go_wp2_with fail;refine(F6 s _ hs).mono ?_;rintro e w1⟨v,rfl,hown,hb1⟩;clear hown;go_wp2;go_ret2;rw[HL.out,HC.out];exact⟨_,rfl,jM (gF _ _) hb1.size,hb1.alloc hb1.size _⟩
end Go.Proofs.YtkbjimkngmlfcaaDoor
