import Derived.Test.YtcjiphknpagenaaGreatDoorDocsJ15
namespace Go.Proofs.YtcjiphknpagenaaGreatDoor
open Go Go.RowKit
set_option linter.unusedVariables false
set_option linter.unusedSimpArgs false
set_option maxRecDepth 100000
set_option maxHeartbeats 2000000
theorem Bi(r:Int)(h:fT r=true) :((Lib.runeCells r).length:Int)=if r<128 then 1 else if r<2048 then 2 else if r<65536 then 3 else 4:=by
 rw[j4]at h;unfold Lib.runeCells;rw[List.length_map];by_cases h1:r<128;·rw[Lib.encodeRuneZ_one h.1 (by omega),if_pos h1];rfl
 ·by_cases h2:r<2048;·rw[Lib.encodeRuneZ_two (by omega) (by omega),if_neg h1,if_pos h2];rfl
  ·by_cases h3:r<65536;·rw[Lib.encodeRuneZ_three (by omega),if_neg h1,if_neg h2,if_pos h3];rfl
   ·rw[Lib.encodeRuneZ_four (by omega) (by omega),if_neg h1,if_neg h2,if_neg h3];rfl
theorem Xd(s:ByteArray)(p:Nat)(w:World)(hs:s.size≤1048576)(hp:p<s.size)(h:aB s p<128) :Calls Tryz.prog 96 #[.string s,.int .i64 p] w fun e w'=>e= .returned (.tuple #[.int .i64 (qo s p),.int .i64 (pE s p)])∧Below w.heap.size w w':=by have HA:=aa (agd s p h);have Hb:=aa (lT s p hp);rw[←Hb.out]at h;go_enter Tryz.func96,Tryz.ntmps96;go_wp2;go_ret2;rw[HA.out.1,HA.out.2,←Hb.out];exact⟨rfl,Below.refl _ _⟩
theorem XX(s:ByteArray)(p:Nat)(w:World)(hs:s.size≤1048576)(hp:p<s.size)(h:128≤aB s p)(h2:aB s p<192) :Calls Tryz.prog 96 #[.string s,.int .i64 p] w fun e w'=>e= .returned (.tuple #[.int .i64 (qo s p),.int .i64 (pE s p)])∧Below w.heap.size w w':=by have HA:=aa (acO s p h h2);have Hb:=aa (lT s p hp);rw[←Hb.out]at h h2;go_enter Tryz.func96,Tryz.ntmps96;go_wp2;go_ret2;rw[HA.out.1,HA.out.2];exact⟨rfl,Below.refl _ _⟩
theorem WL(s:ByteArray)(p:Nat)(w:World)(hs:s.size≤1048576)(hp:p<s.size)(h:192≤aB s p)(h2:aB s p<224) :Calls Tryz.prog 96 #[.string s,.int .i64 p] w fun e w'=>e= .returned (.tuple #[.int .i64 (qo s p),.int .i64 (pE s p)])∧Below w.heap.size w w':=by
 have bd:=jP s p;have Hb:=aa (lT s p hp);by_cases hsz:s.size<p+2
 ·have HA:=aa (yc s p 2 (Or.inl ⟨rfl,h,h2⟩) (Or.inl hsz));have hszz:(s.size:Int)<(p:Int)+2:=by omega
  rw[←Hb.out]at h h2 bd;go_enter Tryz.func96,Tryz.ntmps96;go_wp2;go_ret2;rw[HA.out.1,HA.out.2];exact⟨rfl,Below.refl _ _⟩
 ·have hszz: ¬(s.size:Int)<(p:Int)+2:=by omega
  have rH:=aa (fun hb=>yc s p 2 (Or.inl ⟨rfl,h,h2⟩) (Or.inr hb));have Bd:=aa (fun hc=>afM s p h h2 (by omega) hc);generalize hv0:aB s p-192=v0 at Bd;have Hv0:=aa hv0;have Ll:0≤v0:=by omega
  have Ga:v0≤31:=by omega
  have Og:Hid (((s[p]'hp).toNat:Int)-192=v0) :=by show _=_;rw[Hb.out];exact hv0
  rw[←Hb.out]at h h2 bd;clear hv0;go_enter Tryz.func96,Tryz.ntmps96;go_wp2;rw[Og.out];go_loop [8,9](fun v i=>∃k:Nat,1≤k∧k≤2∧i= .int .i64 k∧v= .int .i64 (fI s p v0 k)∧oo s p k)(fun _ i=>2-(intOf i).toNat);case atStart=>exact⟨1,by omega,by omega,rfl,rfl,zz s p⟩
  case round=>
   obtain⟨k,hk1,hk,rfl,rfl,hcont⟩ :=hrel;have vb:=KH s p v0 Ll Ga k hk1 (by omega) hcont;have HC:=aa hcont;clear hcont;by_cases hlt:k<2
   ·have hpk:p+k<s.size:=by omega
    have Hk:=aa (lT s (p+k) hpk);have BR:=jP s (p+k);have acG:(p:Int)+(k:Int)<(s.size:Int) :=by omega
    by_cases hc1:aB s (p+k)<128;·have HA:=aa (rH.out ⟨k,hk1,hlt,Or.inl hc1⟩);rw[←Hk.out]at hc1 BR;go_wp2;go_ret2;rw[HA.out.1,HA.out.2];exact⟨rfl,Below.refl _ _⟩
    ·by_cases hc2:191<aB s (p+k);·have HA:=aa (rH.out ⟨k,hk1,hlt,Or.inr hc2⟩);rw[←Hk.out]at hc1 hc2 BR;go_wp2;go_ret2;rw[HA.out.1,HA.out.2];exact⟨rfl,Below.refl _ _⟩
     ·have HS:=aa (iG s p v0 k hk1);have C8:=aa (xI s p k HC.out (by omega) (by omega));rw[←Hk.out]at hc1 hc2 BR;go_wp2;go_round;case rel=>exact⟨k+1,by omega,by omega,by go_num,by rw[HS.out,Hk.out],C8.out⟩
      case measure=>simp[intOf];omega
   ·obtain rfl:k=2:=by omega
    have He:=aa (Bd.out HC.out);have Oq:=aa (Zo s p v0 Ga HC.out);generalize fI s p v0 2=v at He vb Oq;by_cases hch:fT v=true
    ·have hrl:=aa (Bi v hch);by_cases hv:128≤v
     ·have HA:=aa (He.out.1 hv);have hvu:v<2048:=Oq.out;have hlen:(((Lib.runeCells v).length:Int) !=2)=false:=by rw[hrl.out,if_neg (by omega),if_pos (by omega)];rfl
      go_wp2_with fail;refine(lM _ _).mono ?_;rintro e w1⟨rfl,rfl⟩;go_wp2_with fail;refine(nD v _ hch).mono ?_;rintro e w1⟨rfl,rfl⟩;go_wp2;go_ret2;rw[HA.out.1,HA.out.2];exact⟨rfl,(Below.refl _ _).alloc (Nat.le_refl _) _⟩
     ·have HA:=aa (He.out.2 (by omega));have hlen:(((Lib.runeCells v).length:Int) !=2)=true:=by
       rw[bne_iff_ne,hrl.out];repeat' split
       all_goals omega
      go_wp2_with fail;refine(lM _ _).mono ?_;rintro e w1⟨rfl,rfl⟩;go_wp2_with fail;refine(nD v _ hch).mono ?_;rintro e w1⟨rfl,rfl⟩;go_wp2;go_ret2;rw[HA.out.1,HA.out.2];exact⟨rfl,(Below.refl _ _).alloc (Nat.le_refl _) _⟩
    ·have hch':fT v=false:=by simpa using hch
     exact absurd ((j4 v).2 (by have:=Oq.out;omega)) hch
theorem Wj(s:ByteArray)(p:Nat)(w:World)(hs:s.size≤1048576)(hp:p<s.size)(h:224≤aB s p)(h2:aB s p<240) :Calls Tryz.prog 96 #[.string s,.int .i64 p] w fun e w'=>e= .returned (.tuple #[.int .i64 (qo s p),.int .i64 (pE s p)])∧Below w.heap.size w w':=by
 have bd:=jP s p;have Hb:=aa (lT s p hp);by_cases hsz:s.size<p+3
 ·have HA:=aa (yc s p 3 (Or.inr (Or.inl ⟨rfl,h,h2⟩)) (Or.inl hsz));have hszz:(s.size:Int)<(p:Int)+3:=by omega
  rw[←Hb.out]at h h2 bd;go_enter Tryz.func96,Tryz.ntmps96;go_wp2;go_ret2;rw[HA.out.1,HA.out.2];exact⟨rfl,Below.refl _ _⟩
 ·have hszz: ¬(s.size:Int)<(p:Int)+3:=by omega
  have rH:=aa (fun hb=>yc s p 3 (Or.inr (Or.inl ⟨rfl,h,h2⟩)) (Or.inr hb));have Bd:=aa (fun hc=>afz s p h h2 (by omega) hc);generalize hv0:aB s p-224=v0 at Bd;have Hv0:=aa hv0;have Ll:0≤v0:=by omega
  have Ga:v0≤31:=by omega
  have Og:Hid (((s[p]'hp).toNat:Int)-224=v0) :=by show _=_;rw[Hb.out];exact hv0
  rw[←Hb.out]at h h2 bd;clear hv0;go_enter Tryz.func96,Tryz.ntmps96;go_wp2;rw[Og.out];go_loop [8,9](fun v i=>∃k:Nat,1≤k∧k≤3∧i= .int .i64 k∧v= .int .i64 (fI s p v0 k)∧oo s p k)(fun _ i=>3-(intOf i).toNat);case atStart=>exact⟨1,by omega,by omega,rfl,rfl,zz s p⟩
  case round=>
   obtain⟨k,hk1,hk,rfl,rfl,hcont⟩ :=hrel;have vb:=KH s p v0 Ll Ga k hk1 (by omega) hcont;have HC:=aa hcont;clear hcont;by_cases hlt:k<3
   ·have hpk:p+k<s.size:=by omega
    have Hk:=aa (lT s (p+k) hpk);have BR:=jP s (p+k);have acG:(p:Int)+(k:Int)<(s.size:Int) :=by omega
    by_cases hc1:aB s (p+k)<128;·have HA:=aa (rH.out ⟨k,hk1,hlt,Or.inl hc1⟩);rw[←Hk.out]at hc1 BR;go_wp2;go_ret2;rw[HA.out.1,HA.out.2];exact⟨rfl,Below.refl _ _⟩
    ·by_cases hc2:191<aB s (p+k);·have HA:=aa (rH.out ⟨k,hk1,hlt,Or.inr hc2⟩);rw[←Hk.out]at hc1 hc2 BR;go_wp2;go_ret2;rw[HA.out.1,HA.out.2];exact⟨rfl,Below.refl _ _⟩
     ·have HS:=aa (iG s p v0 k hk1);have C8:=aa (xI s p k HC.out (by omega) (by omega));rw[←Hk.out]at hc1 hc2 BR;go_wp2;go_round;case rel=>exact⟨k+1,by omega,by omega,by go_num,by rw[HS.out,Hk.out],C8.out⟩
      case measure=>simp[intOf];omega
   ·obtain rfl:k=3:=by omega
    have He:=aa (Bd.out HC.out);have Oq:=aa (Zr s p v0 (by have:=Og.out;omega) HC.out);generalize fI s p v0 3=v at He vb Oq;by_cases hch:fT v=true
    ·have hrl:=aa (Bi v hch);by_cases hv:2048≤v
     ·have HA:=aa (He.out.1 ⟨hv,hch⟩);have hvu:v<65536:=Oq.out;have hlen:(((Lib.runeCells v).length:Int) !=3)=false:=by rw[hrl.out,if_neg (by omega),if_neg (by omega),if_pos (by omega)];rfl
      go_wp2_with fail;refine(lM _ _).mono ?_;rintro e w1⟨rfl,rfl⟩;go_wp2_with fail;refine(nD v _ hch).mono ?_;rintro e w1⟨rfl,rfl⟩;go_wp2;go_ret2;rw[HA.out.1,HA.out.2];exact⟨rfl,(Below.refl _ _).alloc (Nat.le_refl _) _⟩
     ·have HA:=aa (He.out.2 (fun hh=>hv hh.1));have hlen:(((Lib.runeCells v).length:Int) !=3)=true:=by
       rw[bne_iff_ne,hrl.out];repeat' split
       all_goals omega
      go_wp2_with fail;refine(lM _ _).mono ?_;rintro e w1⟨rfl,rfl⟩;go_wp2_with fail;refine(nD v _ hch).mono ?_;rintro e w1⟨rfl,rfl⟩;go_wp2;go_ret2;rw[HA.out.1,HA.out.2];exact⟨rfl,(Below.refl _ _).alloc (Nat.le_refl _) _⟩
    ·have hch':fT v=false:=by simpa using hch
     have HA:=aa (He.out.2 (fun hh=>hch hh.2));clear hch;go_wp2_with fail;refine(lM _ _).mono ?_;rintro e w1⟨rfl,rfl⟩;go_wp2;go_ret2;rw[HA.out.1,HA.out.2];exact⟨rfl,Below.refl _ _⟩
theorem WT(s:ByteArray)(p:Nat)(w:World)(hs:s.size≤1048576)(hp:p<s.size)(h:240≤aB s p) :Calls Tryz.prog 96 #[.string s,.int .i64 p] w fun e w'=>e= .returned (.tuple #[.int .i64 (qo s p),.int .i64 (pE s p)])∧Below w.heap.size w w':=by
 have bd:=jP s p;have Hb:=aa (lT s p hp);by_cases hsz:s.size<p+4
 ·have HA:=aa (yc s p 4 (Or.inr (Or.inr ⟨rfl,h⟩)) (Or.inl hsz));have hszz:(s.size:Int)<(p:Int)+4:=by omega
  rw[←Hb.out]at h bd;go_enter Tryz.func96,Tryz.ntmps96;go_wp2;go_ret2;rw[HA.out.1,HA.out.2];exact⟨rfl,Below.refl _ _⟩
 ·have hszz: ¬(s.size:Int)<(p:Int)+4:=by omega
  have rH:=aa (fun hb=>yc s p 4 (Or.inr (Or.inr ⟨rfl,h⟩)) (Or.inr hb));have Bd:=aa (fun hc=>afr s p h (by omega) hc);generalize hv0:aB s p-240=v0 at Bd;have Hv0:=aa hv0;have Ll:0≤v0:=by omega
  have Ga:v0≤31:=by omega
  have Og:Hid (((s[p]'hp).toNat:Int)-240=v0) :=by show _=_;rw[Hb.out];exact hv0
  rw[←Hb.out]at h bd;clear hv0;go_enter Tryz.func96,Tryz.ntmps96;go_wp2;rw[Og.out];go_loop [8,9](fun v i=>∃k:Nat,1≤k∧k≤4∧i= .int .i64 k∧v= .int .i64 (fI s p v0 k)∧oo s p k)(fun _ i=>4-(intOf i).toNat);case atStart=>exact⟨1,by omega,by omega,rfl,rfl,zz s p⟩
  case round=>
   obtain⟨k,hk1,hk,rfl,rfl,hcont⟩ :=hrel;have vb:=KH s p v0 Ll Ga k hk1 (by omega) hcont;have HC:=aa hcont;clear hcont;by_cases hlt:k<4
   ·have hpk:p+k<s.size:=by omega
    have Hk:=aa (lT s (p+k) hpk);have BR:=jP s (p+k);have acG:(p:Int)+(k:Int)<(s.size:Int) :=by omega
    by_cases hc1:aB s (p+k)<128;·have HA:=aa (rH.out ⟨k,hk1,hlt,Or.inl hc1⟩);rw[←Hk.out]at hc1 BR;go_wp2;go_ret2;rw[HA.out.1,HA.out.2];exact⟨rfl,Below.refl _ _⟩
    ·by_cases hc2:191<aB s (p+k);·have HA:=aa (rH.out ⟨k,hk1,hlt,Or.inr hc2⟩);rw[←Hk.out]at hc1 hc2 BR;go_wp2;go_ret2;rw[HA.out.1,HA.out.2];exact⟨rfl,Below.refl _ _⟩
     ·have HS:=aa (iG s p v0 k hk1);have C8:=aa (xI s p k HC.out (by omega) (by omega));rw[←Hk.out]at hc1 hc2 BR;go_wp2;go_round;case rel=>exact⟨k+1,by omega,by omega,by go_num,by rw[HS.out,Hk.out],C8.out⟩
      case measure=>simp[intOf];omega
   ·obtain rfl:k=4:=by omega
    have He:=aa (Bd.out HC.out);skip;generalize fI s p v0 4=v at He vb;by_cases hch:fT v=true
    ·have hrl:=aa (Bi v hch);by_cases hv:65536≤v
     ·have HA:=aa (He.out.1 ⟨hv,hch⟩);skip;have hlen:(((Lib.runeCells v).length:Int) !=4)=false:=by rw[hrl.out,if_neg (by omega),if_neg (by omega),if_neg (by omega)];rfl
      go_wp2_with fail;refine(lM _ _).mono ?_;rintro e w1⟨rfl,rfl⟩;go_wp2_with fail;refine(nD v _ hch).mono ?_;rintro e w1⟨rfl,rfl⟩;go_wp2;go_ret2;rw[HA.out.1,HA.out.2];exact⟨rfl,(Below.refl _ _).alloc (Nat.le_refl _) _⟩
     ·have HA:=aa (He.out.2 (fun hh=>hv hh.1));have hlen:(((Lib.runeCells v).length:Int) !=4)=true:=by
       rw[bne_iff_ne,hrl.out];repeat' split
       all_goals omega
      go_wp2_with fail;refine(lM _ _).mono ?_;rintro e w1⟨rfl,rfl⟩;go_wp2_with fail;refine(nD v _ hch).mono ?_;rintro e w1⟨rfl,rfl⟩;go_wp2;go_ret2;rw[HA.out.1,HA.out.2];exact⟨rfl,(Below.refl _ _).alloc (Nat.le_refl _) _⟩
    ·have hch':fT v=false:=by simpa using hch
     have HA:=aa (He.out.2 (fun hh=>hch hh.2));clear hch;go_wp2_with fail;refine(lM _ _).mono ?_;rintro e w1⟨rfl,rfl⟩;go_wp2;go_ret2;rw[HA.out.1,HA.out.2];exact⟨rfl,Below.refl _ _⟩
theorem Q9(s:ByteArray)(p:Nat)(w:World)(hs:s.size≤1048576)(hp:p<s.size) :Calls Tryz.prog 96 #[.string s,.int .i64 p] w fun e w'=>e= .returned (.tuple #[.int .i64 (qo s p),.int .i64 (pE s p)])∧Below w.heap.size w w':=by
 by_cases h1:aB s p<128;·exact Xd s p w hs hp h1
 by_cases h2:aB s p<192;·exact XX s p w hs hp (by omega) h2
 by_cases h3:aB s p<224;·exact WL s p w hs hp (by omega) h3
 by_cases h4:aB s p<240;·exact Wj s p w hs hp (by omega) h4
 ·exact WT s p w hs hp (by omega)
theorem Tryz.infoInt:(Tryz.prog.info? 3).map (fun i=>(i.zero,i.size,i.bytes))=some (some (.int .i64 0),1,8) :=by kernel_rfl
theorem nM(s:ByteArray)(w:World)(hs:s.size≤1048576) :Calls Tryz.prog 78 #[.string s] w fun e w'=>∃v,e= .returned (.tuple #[v,.bool (bM s)])∧w'.ownsRow w.heap.size 3 1 v (oG s).length ((oG s).map (Value.int .i64))∧Below w.heap.size w w':=by
 obtain⟨i0,hi,hz0,hz1,hz2⟩ :=info_parts Tryz.infoInt;go_enter Tryz.func78,Tryz.ntmps78;go_wp2;go_loopw [4,5](fun v i wr=>∃(p f:Nat)(acc:List Int),p≤s.size∧i= .int .i64 p∧wr.ownsRow w.heap.size 3 1 v acc.length (acc.map (Value.int .i64))∧Below w.heap.size w wr∧acc++runesFrom s f p=runes s∧s.size≤p+f∧dW s p=bM s)(fun _ i _=>s.size-(intOf i).toNat);case atStart=>exact⟨0,s.size,[],Nat.zero_le _,rfl,dJ w _,(Below.refl _ _).alloc (Nat.le_refl _) _,rfl,by omega,lS s⟩
 case round=>
  obtain⟨p,f,acc,hp,rfl,hown,hbel,hacc,hf,hv⟩ :=hrel;have hlen:acc.length≤s.size:=by have:=congrArg List.length hacc;rw[List.length_append]at this;have:=mG s;omega
  by_cases hlt:p<s.size
  ·have hw:=width_le s p hlt;have hr:=rune_le s p;have HO:=aa hown;by_cases hb:bad s p
   ·have HV:Hid (bM s=false) :=by show _=_;rw[←hv];exact IQ s p hlt hb
    have HL:Hid (oG s= []) :=by show _=_;rw[oG,if_neg (by rw[HV.out];simp)]
    have HW:=aa (Zl s p hb);clear hown hacc hv;go_wp2_with fail;refine(Q9 s p _ hs hlt).mono ?_;rintro e w1⟨rfl,hb1⟩;rw[HW.out];have wM:Below w.heap.size w w1:=hbel.trans (hb1.mono hbel.size);clear hb1;go_wp2;go_ret2;rw[HV.out,HL.out];refine⟨_,rfl,fQ (dJ _ _) wM.size,wM.alloc wM.size _⟩
   ·have HW:=aa (WY s p hb);have HC:=aa (XL s p hb);have jS:Hid (acc++ [((Utf8.decode s p).1:Int)]++runesFrom s (f-1) (p+(Utf8.decode s p).2)=runes s) :=by show _=_;obtain⟨g,rfl⟩ : ∃g,f=g+1:=⟨f-1,by omega⟩;rw[eU s g p hlt]at hacc;rw[←hacc];simp
    have Ba:Hid (dW s (p+(Utf8.decode s p).2)=bM s) :=by show _=_;rw[lZ s p hlt hb,hv]
    clear hown hacc hv;go_wp2_with fail;refine(Q9 s p _ hs hlt).mono ?_;rintro e w1⟨rfl,hb1⟩;rw[HW.out,HC.out];have wM:Below w.heap.size w w1:=hbel.trans (hb1.mono hbel.size);have lY:=aa (own_below HO.out hb1);clear hb1 HO;generalize(Utf8.decode s p).1=r at*;generalize(Utf8.decode s p).2=n at*;go_wp2_with(at_builtin;refine wpList_append_own _ rfl _ _ 41 rfl w.heap.size 3 i0 (.int .i64 0) 1 8 Tryz.underlying41 hi hz0 hz1 hz2 rfl (by decide) _ _ _ rfl (lY.out.alloc _) ⟨w1.heap.size,0,none⟩ 1 1 [.int .i64 (r:Int)] rfl rfl ?c1 ?c2 ?c3 ?c4 ?c5 ?_);case c1=>
     intro j u hj;match j,hj with
     |0,hj=>simp at hj;subst hj;simp[Addr.add]
    case c2=>intro u hu;simp at hu;subst hu;rfl
    case c3=>unfold maxLen;omega
    case c4=>omega
    case c5=>have:=wM.size;simp;omega
    intro v' w2 hown' hgrow hne;have R:Hid (w2.ownsRow w.heap.size 3 1 v' (acc++ [(r:Int)]).length ((acc++ [(r:Int)]).map (Value.int .i64))∧Below w.heap.size w w2) :=by refine⟨?_,(wM.alloc wM.size _).grown hgrow (by have:=wM.size;simp;omega) (iM lY.out)⟩;rw[List.length_append,List.map_append];exact hown'
    clear hown' hgrow lY;go_wp2;go_roundw;case rel=>exact⟨p+n,f-1,acc++ [(r:Int)],by omega,by go_num,R.out.1,R.out.2,jS.out,by omega,Ba.out⟩
    case measure=>simp[intOf];omega
  ·have HV:Hid (bM s=true) :=by show _=_;rw[←hv];exact IK s p hlt
   have HL:Hid (oG s=acc) :=by show _=_;rw[oG,if_pos HV.out,←hacc,runesFrom_end s f p hlt,List.append_nil]
   clear hacc hv;have HO:=aa hown;clear hown;go_wp2;go_ret2;rw[HV.out,HL.out];exact⟨_,rfl,HO.out,hbel⟩
theorem mV(t:List UInt8)(w:World)(hs:(bs t).size≤1048576) :Calls Tryz.prog 77 #[.string (bs t)] w fun e w'=>e= .returned (.bool (lu t))∧Below w.heap.size w w':=by
 have HZ:Hid (t.length=(bs t).size) :=(aK t).symm;have HT:Hid (lu t=(decide (1≤t.length) &&decide (t.length≤64) &&bM (bs t))) :=rfl;rw[HZ.out]at HT;generalize bs t=s at*;clear HZ;by_cases h1:1≤s.size
 ·have h1z:(1:Int)≤(s.size:Int) :=by omega
  by_cases h64:s.size≤64
  ·have af8:(s.size:Int)≤64:=by omega
   have HR:Hid (lu t=bM s) :=by show _=_;rw[HT.out,decide_eq_true h1,decide_eq_true h64];rfl
   clear HT;go_enter Tryz.func77,Tryz.ntmps77;go_wp2_with fail;refine(nM s _ hs).mono ?_;rintro e w1⟨v,rfl,_,hb1⟩;go_wp2_with fail;go_ret;rw[HR.out];exact⟨rfl,hb1⟩
  ·have aiX:decide ((s.size:Int)≤64)=false:=decide_eq_false (by omega);have HR:Hid (lu t=false) :=by show _=_;rw[HT.out,decide_eq_false h64];simp
   clear HT;go_enter Tryz.func77,Tryz.ntmps77;go_wp2_with fail;refine(nM s _ hs).mono ?_;rintro e w1⟨v,rfl,_,hb1⟩;go_wp2_with fail;go_ret;rw[HR.out];exact⟨rfl,hb1⟩
 ·have h1b:decide ((1:Int)≤(s.size:Int))=false:=decide_eq_false (by omega);have HR:Hid (lu t=false) :=by show _=_;rw[HT.out,decide_eq_false h1];simp
  clear HT;go_enter Tryz.func77,Tryz.ntmps77;go_wp2_with fail;refine(nM s _ hs).mono ?_;rintro e w1⟨v,rfl,_,hb1⟩;go_wp2_with fail;go_ret;rw[HR.out];exact⟨rfl,hb1⟩
theorem pQ(t:List UInt8)(w:World)(hs:(bs t).size≤1048576)(hT:Tabs w) :Calls Tryz.prog 93 #[.string (bs t)] w fun e w'=>e= .returned (.bool (lu t))∧Below w.heap.size w w':=by
 have AZ:=aa hT;clear hT;have HZ:Hid (t.length=(bs t).size) :=(aK t).symm;have HT:Hid (lu t=(decide (1≤t.length) &&decide (t.length≤64) &&bM (bs t))) :=rfl;rw[HZ.out]at HT;generalize bs t=s at*;clear HZ;by_cases hin:1≤s.size∧s.size≤64
 ·have HR:Hid (lu t=bM s) :=by show _=_;rw[HT.out,decide_eq_true hin.1,decide_eq_true hin.2];rfl
  have HW:Hid ((decide ((1:Int)≤(s.size:Int)) &&decide ((s.size:Int)≤64))=true) :=by show _=_;rw[decide_eq_true (by omega),decide_eq_true (by omega)];rfl
  clear HT hin;go_enter Tryz.func93,Tryz.ntmps93;go_wp2_with fail;refine(dA _ _ _ _).mono ?_;rintro e w'⟨rfl,hw⟩;obtain rfl:=hw.symm;clear hw;rw[HW.out];go_wp2_with fail;refine(A9 s _ hs AZ.out).mono ?_;rintro e w1⟨rfl,hb1⟩;go_wp2_with fail;go_ret;rw[HR.out];exact⟨rfl,hb1⟩
 ·have HR:Hid (lu t=false) :=by
   show _=_;rw[HT.out];by_cases h1:1≤s.size;·rw[decide_eq_false (p:=s.size≤64) (by omega)];simp
   ·rw[decide_eq_false h1];simp
  have HW:Hid ((decide ((1:Int)≤(s.size:Int)) &&decide ((s.size:Int)≤64))=false) :=by
   show _=_;by_cases h1:1≤s.size;·rw[decide_eq_false (p:=(s.size:Int)≤64) (by omega),Bool.and_false]
   ·rw[decide_eq_false (p:=(1:Int)≤(s.size:Int)) (by omega),Bool.false_and]
  clear HT hin;go_enter Tryz.func93,Tryz.ntmps93;go_wp2_with fail;refine(dA _ _ _ _).mono ?_;rintro e w'⟨rfl,hw⟩;obtain rfl:=hw.symm;clear hw;rw[HW.out];go_wp2_with fail;go_ret;rw[HR.out];exact⟨rfl,Below.refl _ _⟩
def vz(z:Int) :Bool:=z==97 ||z==101 ||z==105 ||z==111 ||z==117 ||z==121
theorem EP(c:UInt8) :vz (c.toNat:Int)=mM c:=by
 have key: ∀k:Nat,k<256→(((c.toNat:Int)==(k:Int))=(c==UInt8.ofNat k)) :=by
  intro k hk;rw[Bool.eq_iff_iff,beq_iff_eq,beq_iff_eq];constructor
  ·intro h;have h':c.toNat=k:=by omega
   rw[←h',UInt8.ofNat_toNat]
  ·intro h;subst h;rw[UInt8.toNat_ofNat'];omega
 unfold vz mM;have k1:=key 97 (by decide);have k2:=key 101 (by decide);have k3:=key 105 (by decide);have k4:=key 111 (by decide);have k5:=key 117 (by decide);have k6:=key 121 (by decide);rw[show(97:Int)=((97:Nat) :Int)from rfl,show(101:Int)=((101:Nat) :Int)from rfl,show(105:Int)=((105:Nat) :Int)from rfl,show(111:Int)=((111:Nat) :Int)from rfl,show(117:Int)=((117:Nat) :Int)from rfl,show(121:Int)=((121:Nat) :Int)from rfl,k1,k2,k3,k4,k5,k6];rfl
theorem pG (z : Int) (w : World) : Calls Tryz.prog 132 #[.int .u8 z] w fun e w' => e = .returned (.bool (vz z)) ∧ w' = w := by
  go_enter Tryz.func132, Tryz.ntmps132
  go_wp2
  all_goals (go_ret; refine ⟨?_, rfl⟩; simp [vz, *])
theorem gT(s p:ByteArray)(w:World)(hs:s.size≤1048576)(hp:p.size≤1048576) :Calls Tryz.prog 128 #[.string s,.string p] w fun e w'=>e= .returned (.bool (ends (ai s) (ai p)))∧w'=w:=by
 have HR:Hid (_=Lib.hasSuffix (ai s) (ai p)) :=Lib.hasSuffix_raw s p;by_cases hl:p.size≤s.size
 ·have hlz:(p.size:Int)≤(s.size:Int) :=by omega
  go_enter Tryz.func128,Tryz.ntmps128;go_wp2;go_ret;rw[ends,←HR.out,decide_eq_true hl,Bool.true_and];exact⟨rfl,rfl⟩
 ·have hlz: ¬(p.size:Int)≤(s.size:Int) :=by omega
  go_enter Tryz.func128,Tryz.ntmps128;go_wp2;go_ret;rw[ends,←HR.out,decide_eq_false hl,Bool.false_and];exact⟨rfl,rfl⟩
theorem xK(s:ByteArray)(n:Nat) :s.extract 0 (s.size-n)=bs (bZ (ai s) n) :=by rw[Lib.extract_eq,bZ,ay];simp[bs,ai]
theorem nZ(s:ByteArray)(n:Nat)(w:World)(hs:s.size≤1048576)(hn:n≤s.size) :Calls Tryz.prog 129 #[.string s,.int .i64 n] w fun e w'=>e= .returned (.string (bs (bZ (ai s) n)))∧w'=w:=by go_enter Tryz.func129,Tryz.ntmps129;go_wp2;go_ret;rw[xK];exact⟨rfl,rfl⟩
theorem l9(s:ByteArray)(k:Nat)(h:k<s.size) :s[k]=(ai s).getD k 0:=by
 have h':k<(ai s).length:=by rw[ay];exact h
 rw[List.getD_eq_getElem?_getD,List.getElem?_eq_getElem h',Option.getD_some];simp[ai];rfl
theorem any_take_succ(l:List UInt8)(f:UInt8→Bool)(k:Nat)(h:k<l.length) :(l.take (k+1)).any f=((l.take k).any f ||f (l.getD k 0)) :=by rw[List.take_succ_eq_append_getElem h,List.any_append,List.getD_eq_getElem?_getD,List.getElem?_eq_getElem h];simp only[List.any_cons,List.any_nil,Bool.or_false,Option.getD_some]
theorem BQ(s:ByteArray)(w:World)(hs:s.size≤1048576) :Calls Tryz.prog 130 #[.string s] w fun e w'=>e= .returned (.bool (jR (ai s)))∧w'=w:=by
 go_enter Tryz.func130,Tryz.ntmps130;go_wp2;go_loop [3](fun i=>∃k:Nat,k≤s.size∧i= .int .i64 k∧jR ((ai s).take k)=false)(fun i=>s.size-(intOf i).toNat);case atStart=>exact⟨0,Nat.zero_le _,rfl,by rfl⟩
 case round=>
  obtain⟨k,hk,rfl,hany⟩ :=hrel;have HA:=aa hany;clear hany;by_cases hlt:k<s.size
  ·have hkl:k<(ai s).length:=by rw[ay];exact hlt
   have HG:=aa (l9 s k hlt);by_cases hv:mM ((ai s).getD k 0)=true
   ·have HV:Hid (vz ((s[k]'hlt).toNat:Int)=true) :=by show _=_;rw[EP,HG.out];exact hv
    have HR:Hid (jR (ai s)=true) :=by show _=_;rw[jR,List.any_eq_true];refine⟨(ai s).getD k 0,?_,hv⟩;rw[List.getD_eq_getElem?_getD,List.getElem?_eq_getElem hkl,Option.getD_some];exact List.getElem_mem _
    clear hv;go_wp2_with fail;refine(pG _ _).mono ?_;rintro e w'⟨rfl,rfl⟩;rw[HV.out];go_wp2;go_ret;rw[HR.out];exact⟨rfl,rfl⟩
   ·have hv':mM ((ai s).getD k 0)=false:=by simpa using hv
    have HV:Hid (vz ((s[k]'hlt).toNat:Int)=false) :=by show _=_;rw[EP,HG.out];exact hv'
    have HN:Hid (jR ((ai s).take (k+1))=false) :=by show _=_;rw[jR,any_take_succ _ _ _ hkl,←jR,HA.out,hv'];rfl
    clear hv hv';go_wp2_with fail;refine(pG _ _).mono ?_;rintro e w'⟨rfl,rfl⟩;rw[HV.out];go_wp2;go_round;case rel=>exact⟨k+1,by omega,by go_num,HN.out⟩
    case measure=>simp[intOf];omega
  ·have HR:Hid (jR (ai s)=false) :=by have:=HA.out;rw[List.take_of_length_le (by rw[ay];omega)]at this;exact this
   go_wp2;go_ret;rw[HR.out];exact⟨rfl,rfl⟩
def yE:List UInt8:=[97,101,105,111,117,121]
theorem L8(c:UInt8) :yE.contains c=mM c:=by
 have key: ∀a b:UInt8,(a==b)=(b==a) :=fun a b=>by rw[Bool.eq_iff_iff,beq_iff_eq,beq_iff_eq];exact eq_comm
 unfold yE mM;simp only[List.contains_cons,List.contains_nil,Bool.or_false,Bool.or_assoc]
theorem Eg(l:List UInt8) :Lib.containsAny l yE=jR l:=by
 unfold Lib.containsAny jR;induction l with
 |nil=>rfl
 |cons b t ih=>
  rw[List.any_cons,←ih,Lib.indexAny,L8];cases hv:mM b
  ·rw[if_neg (by simp),Bool.false_or];by_cases h:Lib.indexAny t yE= -1;·rw[if_pos (by simp[h]),h]
   ·have:=Lib.indexAny_ge yE t;rw[if_neg (by simp[h]),decide_eq_true (by omega),decide_eq_true (by omega)]
  ·rw[if_pos rfl,Bool.true_or];decide
theorem Jz(c:UInt8) :decide (0≤Lib.indexByte yE c)=mM c:=by
 by_cases h1:c=97;·subst h1;decide
 by_cases h2:c=101;·subst h2;decide
 by_cases h3:c=105;·subst h3;decide
 by_cases h4:c=111;·subst h4;decide
 by_cases h5:c=117;·subst h5;decide
 by_cases h6:c=121;·subst h6;decide
 have f: ∀a:UInt8,¬c=a→(a==c)=false∧(c==a)=false:=fun a h=>⟨beq_eq_false_iff_ne.2 (fun e=>h e.symm),beq_eq_false_iff_ne.2 h⟩;unfold yE mM;simp only[Lib.indexByte,(f _ h1).1,(f _ h2).1,(f _ h3).1,(f _ h4).1,(f _ h5).1,(f _ h6).1,(f _ h1).2,(f _ h2).2,(f _ h3).2,(f _ h4).2,(f _ h5).2,(f _ h6).2];simp
def l8(a e:List UInt8) :List UInt8:=if decide (a.length<3)|| !jR a then a++e else mend a
def eP(a e:List UInt8) :List UInt8:=if e= [105,101,115]then(if 2≤a.length then a++ [121]else a++e)else if e= [115]then(if a.length<3 then a++e else a)else if e= [115,115,101,115]then a++ [115,115]else a++e
def sD(a e:List UInt8) :List UInt8:=if a.length<3 then a++e else a
def mO(a e:List UInt8) :List UInt8:=if decide (a.length<2)||mM (lastB a 1)then a++e else a++ [105]
def bu(F:List UInt8→List UInt8→List UInt8)(l:List UInt8) :List (List UInt8)→List UInt8
 | []=>l
 |e::es=>if ends l e=true then F (bZ l e.length) e else bu F l es
theorem mD {l e:List UInt8} :ends l e=true↔∃t,l=t++e:=by
 constructor;·intro h;exact⟨_,uU h⟩
 ·rintro⟨t,rfl⟩;exact Nk t e
theorem rA(t e f:List UInt8)(h:f.length≤e.length) :ends (t++e) f=ends e f:=by
 rw[Bool.eq_iff_iff,mD,mD];constructor
 ·rintro⟨u,hu⟩;have hl:(t++e).drop t.length=(u++f).drop t.length:=by rw[hu]
  rw[List.drop_left]at hl;have hlen:u.length+f.length=t.length+e.length:=by have:=congrArg List.length hu;simp at this;omega
  rw[List.drop_append_of_le_length (by omega)]at hl;exact⟨_,hl⟩
 ·rintro⟨u,rfl⟩;exact⟨t++u,by simp⟩
theorem xV(l:List UInt8) :bu eP l [[115,115,101,115],[105,101,115],[115,115],[117,115],[105,115],[115]]=dz l:=by
 unfold bu dz;by_cases h1:ends l [115,115,101,115]=true;·rw[if_pos h1,if_pos h1];obtain⟨t,rfl⟩ :=mD.1 h1;simp[eP,bZ];rw[List.take_append];simp;rw[List.take_of_length_le (by omega)]
 rw[if_neg h1,if_neg h1];unfold bu;by_cases h2:ends l [105,101,115]=true
 ·rw[if_pos h2,if_pos h2];obtain⟨t,rfl⟩ :=mD.1 h2;rw[mJ];by_cases h5:5≤(t++ [105,101,115]).length;·rw[if_pos h5,show bZ (t++ [105,101,115]) 3=t from mJ t [105,101,115],eP,if_pos rfl,if_pos (by simp at h5;omega)]
  ·rw[if_neg h5,eP,if_pos rfl,if_neg (by simp at h5;omega)]
 rw[if_neg h2,if_neg h2];unfold bu;by_cases h3:ends l [115,115]=true;·rw[if_pos h3];obtain⟨t,rfl⟩ :=mD.1 h3;rw[mJ,if_neg (by rw[h3];simp)];simp[eP]
 have h3':ends l [115,115]=false:=by simpa using h3
 rw[if_neg h3];unfold bu;by_cases h4:ends l [117,115]=true;·rw[if_pos h4];obtain⟨t,rfl⟩ :=mD.1 h4;rw[mJ,if_neg (by rw[h4];simp)];simp[eP]
 have h4':ends l [117,115]=false:=by simpa using h4
 rw[if_neg h4];unfold bu;by_cases h5:ends l [105,115]=true;·rw[if_pos h5];obtain⟨t,rfl⟩ :=mD.1 h5;rw[mJ,if_neg (by rw[h5];simp)];simp[eP]
 have h5':ends l [105,115]=false:=by simpa using h5
 rw[if_neg h5];unfold bu;by_cases h6:ends l [115]=true
 ·rw[if_pos h6,h6,h3',h4',h5'];obtain⟨t,rfl⟩ :=mD.1 h6;rw[mJ];by_cases h7:4≤(t++ [115]).length;·rw[if_pos (by simp;simpa using h7),show bZ (t++ [115]) 1=t from mJ t [115],eP,if_neg (by simp),if_pos rfl,if_neg (by simp at h7;omega)]
  ·rw[if_neg (by simp at h7⊢;omega),eP,if_neg (by simp),if_pos rfl,if_pos (by simp at h7;omega)]
 ·have h6':ends l [115]=false:=by simpa using h6
  rw[if_neg h6,h6'];simp[bu]
theorem Ie(l:List UInt8)(e:List UInt8)(n:Nat)(hn:e.length+3=n)(h:ends l e=true) :l8 (bZ l e.length) e=if decide (n≤l.length) &&jR (bZ l e.length)then mend (bZ l e.length)else l:=by
 have hs:=uU h;have hl:=vN h;have hc:=dF l e.length;unfold l8;by_cases h1:n≤l.length
 ·rw[decide_eq_true h1,decide_eq_false (by omega),Bool.true_and,Bool.false_or];cases hv:jR (bZ l e.length);·simp;exact hs.symm
  ·simp
 ·rw[decide_eq_false h1,decide_eq_true (by omega),Bool.true_or,if_pos rfl,Bool.false_and,if_neg (by simp)];exact hs.symm
theorem Qh {l:List UInt8}(h:ends l [105,110,103]=true) :ends l [101,100]=false:=by obtain⟨t,rfl⟩ :=mD.1 h;rw[rA _ _ _ (by simp)];decide
theorem CS(l:List UInt8) :bu l8 l [[105,110,103],[101,100]]=gy l:=by
 unfold bu gy;by_cases h1:ends l [105,110,103]=true;·rw[if_pos h1,Ie l _ 6 rfl h1,h1,Qh h1];simp
 ·have h1':ends l [105,110,103]=false:=by simpa using h1
  rw[if_neg h1,h1'];unfold bu;by_cases h2:ends l [101,100]=true;·rw[if_pos h2,Ie l _ 5 rfl h2,h2];simp
  ·have h2':ends l [101,100]=false:=by simpa using h2
   rw[if_neg h2,h2'];simp[bu]
theorem CR(l:List UInt8) :bu sD l [[108,121]]=jq l:=by
 unfold bu jq;by_cases h1:ends l [108,121]=true
 ·rw[if_pos h1,h1];have hs:=uU h1;have hl:=vN h1;have hc:=dF l 2;simp only[List.length_cons,List.length_nil]at hs hl;show sD (bZ l 2) _=_;unfold sD;by_cases h5:5≤l.length;·rw[if_neg (by omega),if_pos (by simp[h5])]
  ·rw[if_pos (by omega),if_neg (by simp;omega)];exact hs.symm
 ·have h1':ends l [108,121]=false:=by simpa using h1
  rw[if_neg h1,h1'];simp[bu]
theorem Td(l:List UInt8)(h:2≤l.length) :lastB (bZ l 1) 1=lastB l 2:=by unfold lastB;rw[dF,bZ,List.getD_eq_getElem?_getD,List.getD_eq_getElem?_getD,List.getElem?_take,if_pos (by omega)];congr 2
theorem CW(l:List UInt8) :bu mO l [[121]]=kF l:=by
 unfold bu kF;by_cases h1:ends l [121]=true
 ·rw[if_pos h1,h1];have hs:=uU h1;have hl:=vN h1;have hc:=dF l 1;simp only[List.length_cons,List.length_nil]at hs hl;show mO (bZ l 1) _=_;unfold mO;by_cases h5:3≤l.length
  ·rw[decide_eq_false (by omega),decide_eq_true h5,Td l (by omega),Bool.false_or];cases hv:mM (lastB l 2);·simp
   ·simp;exact hs.symm
  ·rw[decide_eq_true (by omega),decide_eq_false h5,Bool.true_or,if_pos rfl,if_neg (by simp)];exact hs.symm
 ·have h1':ends l [121]=false:=by simpa using h1
  rw[if_neg h1,h1'];simp[bu]
theorem Vw(s:ByteArray)(k1 k2:Nat)(hk1:k1<s.size)(hk2:k2<s.size)(e1:k1=s.size-1)(e2:k2=s.size-2)(h2:2≤s.size) :alike (ai s)=(((s[k1]'hk1).toNat:Int)==((s[k2]'hk2).toNat:Int) && !vz ((s[k1]'hk1).toNat:Int) &&((s[k1]'hk1).toNat:Int) !=108&&((s[k1]'hk1).toNat:Int) !=115&&((s[k1]'hk1).toNat:Int) !=122) :=by
 have l1:lastB (ai s) 1=s[k1]'hk1:=by rw[lastB,ay,←e1,l9]
 have l2:lastB (ai s) 2=s[k2]'hk2:=by rw[lastB,ay,←e2,l9]
 have cmp: ∀c d:UInt8,(c==d)=((c.toNat:Int)==(d.toNat:Int)) :=by intro c d;rw[Bool.eq_iff_iff,beq_iff_eq,beq_iff_eq,←UInt8.toNat_inj];omega
 rw[alike,l1,l2,ay,decide_eq_true h2,EP,Bool.true_and];simp only[bne,cmp];rfl
theorem GL(s:ByteArray)(p:ByteArray) :bs (ai s++ai p)=s++p:=by apply ByteArray.ext;simp[bs,ai]
theorem QW(s:ByteArray)(w:World)(k1 k2:Nat)(hs:s.size≤1048576)(h2:2≤s.size)(hk1:k1<s.size)(hk2:k2<s.size)(e1:IntKind.i64.wrap ((s.size:Int)-1)=(k1:Int))(e2:IntKind.i64.wrap ((s.size:Int)-2)=(k2:Int))(HX:Hid (k1=s.size-1))(HA:Hid (alike (ai s)=(((s[k1]'hk1).toNat:Int)==((s[k2]'hk2).toNat:Int) && !vz ((s[k1]'hk1).toNat:Int) &&((s[k1]'hk1).toNat:Int) !=108&&((s[k1]'hk1).toNat:Int) !=115&&((s[k1]'hk1).toNat:Int) !=122))) :Calls Tryz.prog 131 #[.string s] w fun e w'=>e= .returned (.string (bs (mend (ai s))))∧∃m,w'=w.drewN m:=by
 have h1z:(1:Int)<(s.size:Int) :=by omega
 have h2z:(2:Int)≤(s.size:Int) :=by omega
 go_enter Tryz.func131,Tryz.ntmps131;go_upto_region 2 with fail;go_cut [47](fun c wx=>c= .bool (alike (ai s))∧∃m,wx=w.drewN m);case first=>
  by_cases g1:((s[k1]'hk1).toNat:Int)=((s[k2]'hk2).toNat:Int)
  ·have HA2:Hid (alike (ai s)=(!vz ((s[k2]'hk2).toNat:Int) &&((s[k2]'hk2).toNat:Int) !=108&&((s[k2]'hk2).toNat:Int) !=115&&((s[k2]'hk2).toNat:Int) !=122)) :=by show _=_;rw[HA.out,g1];simp
   clear HA;by_cases v1:vz ((s[k2]'hk2).toNat:Int)=true
   ·have HK:Hid (alike (ai s)=false) :=by show _=_;rw[HA2.out,v1];rfl
    clear HA2;go_quiet((go_at_call 132;refine Calls.quiet_of_same (pG _ _)));go_wp2_with fail;go_meet;case rel=>exact⟨by rw[HK.out],_,rfl⟩
   have v1':vz ((s[k2]'hk2).toNat:Int)=false:=by simpa using v1
   clear v1;by_cases c1:((s[k2]'hk2).toNat:Int)=108
   ·have HK:Hid (alike (ai s)=false) :=by show _=_;rw[HA2.out,v1',c1];rfl
    clear HA2;go_quiet((go_at_call 132;refine Calls.quiet_of_same (pG _ _)));go_wp2_with fail;go_meet;case rel=>exact⟨by rw[HK.out],_,rfl⟩
   have c1':(((s[k2]'hk2).toNat:Int)==108)=false:=beq_eq_false_iff_ne.2 c1;have c1n:(((s[k2]'hk2).toNat:Int) !=108)=true:=bne_iff_ne.2 c1;by_cases c2:((s[k2]'hk2).toNat:Int)=115
   ·have HK:Hid (alike (ai s)=false) :=by show _=_;rw[HA2.out,v1',c2];rfl
    clear HA2;go_quiet((go_at_call 132;refine Calls.quiet_of_same (pG _ _)));go_wp2_with fail;go_meet;case rel=>exact⟨by rw[HK.out],_,rfl⟩
   have c2':(((s[k2]'hk2).toNat:Int)==115)=false:=beq_eq_false_iff_ne.2 c2;have c2n:(((s[k2]'hk2).toNat:Int) !=115)=true:=bne_iff_ne.2 c2;by_cases c3:((s[k2]'hk2).toNat:Int)=122
   ·have HK:Hid (alike (ai s)=false) :=by show _=_;rw[HA2.out,v1',c3];rfl
    clear HA2;go_quiet((go_at_call 132;refine Calls.quiet_of_same (pG _ _)));go_wp2_with fail;go_meet;case rel=>exact⟨by rw[HK.out],_,rfl⟩
   have c3':(((s[k2]'hk2).toNat:Int)==122)=false:=beq_eq_false_iff_ne.2 c3;have c3n:(((s[k2]'hk2).toNat:Int) !=122)=true:=bne_iff_ne.2 c3;have HK:Hid (alike (ai s)=true) :=by show _=_;rw[HA2.out,v1',bne,bne,bne,c1',c2',c3'];rfl
   clear HA2;go_quiet((go_at_call 132;refine Calls.quiet_of_same (pG _ _)));go_wp2_with fail;go_meet;case rel=>exact⟨by rw[HK.out],_,rfl⟩
  ·have g1':(((s[k1]'hk1).toNat:Int)==((s[k2]'hk2).toNat:Int))=false:=beq_eq_false_iff_ne.2 g1;have HK:Hid (alike (ai s)=false) :=by show _=_;rw[HA.out,g1'];rfl
   clear HA;go_quiet((go_at_call 132;refine Calls.quiet_of_same (pG _ _)));go_wp2_with fail;go_meet;case rel=>exact⟨by rw[HK.out],_,rfl⟩
 case rest=>
  obtain⟨rfl,m,rfl⟩ :=hcut;clear HA;by_cases ha:alike (ai s)=true
  ·have HM:Hid (mend (ai s)=bZ (ai s) 1) :=by show _=_;rw[mend,if_pos ha]
   rw[ha];clear ha;have hn1:1≤s.size:=by omega
   go_wp2_with fail;go_ret;rw[HM.out,←xK,HX.out];exact⟨rfl,_,rfl⟩
  ·have ha':alike (ai s)=false:=by simpa using ha
   rw[ha'];have HM:Hid (mend (ai s)=if ends (ai s) [97,116]||ends (ai s) [98,108]||ends (ai s) [105,122]then ai s++ [101]else ai s) :=by show _=_;rw[mend,if_neg ha]
   clear ha ha';go_wp2_with fail;refine(gT s _ _ hs (by decide)).mono ?_;rintro e w1⟨rfl,hw⟩;obtain rfl:=hw.symm;rw[show ai ⟨#[97,116]⟩= [97,116]from rfl];by_cases h1:ends (ai s) [97,116]=true;·rw[h1];rw[h1]at HM;clear h1;go_wp2_with fail;go_ret;rw[HM.out];exact⟨by simp;exact(GL s ⟨#[101]⟩).symm,_,rfl⟩
   have h1':ends (ai s) [97,116]=false:=by simpa using h1
   rw[h1'];rw[h1']at HM;clear h1 h1';go_wp2_with fail;refine(gT s _ _ hs (by decide)).mono ?_;rintro e w1⟨rfl,hw⟩;obtain rfl:=hw.symm;rw[show ai ⟨#[98,108]⟩= [98,108]from rfl];by_cases h1:ends (ai s) [98,108]=true;·rw[h1];rw[h1]at HM;clear h1;go_wp2_with fail;go_ret;rw[HM.out];exact⟨by simp;exact(GL s ⟨#[101]⟩).symm,_,rfl⟩
   have h1':ends (ai s) [98,108]=false:=by simpa using h1
   rw[h1'];rw[h1']at HM;clear h1 h1';go_wp2_with fail;refine(gT s _ _ hs (by decide)).mono ?_;rintro e w1⟨rfl,hw⟩;obtain rfl:=hw.symm;rw[show ai ⟨#[105,122]⟩= [105,122]from rfl];by_cases h1:ends (ai s) [105,122]=true;·rw[h1];rw[h1]at HM;clear h1;go_wp2_with fail;go_ret;rw[HM.out];exact⟨by simp;exact(GL s ⟨#[101]⟩).symm,_,rfl⟩
   have h1':ends (ai s) [105,122]=false:=by simpa using h1
   rw[h1'];rw[h1']at HM;clear h1 h1';go_wp2_with fail;go_ret;rw[HM.out];exact⟨by simp[iL],_,rfl⟩
theorem Qt(s:ByteArray)(w:World)(hs:s.size<2) :Calls Tryz.prog 131 #[.string s] w fun e w'=>e= .returned (.string (bs (mend (ai s))))∧∃m,w'=w.drewN m:=by
 have hd:decide ((2:Int)≤(s.size:Int))=false:=decide_eq_false (by omega);have HN: ∀a b:UInt8,Hid (ends (ai s) [a,b]=false) :=by
  intro a b;show _=_;by_cases h:ends (ai s) [a,b]=true;·have:=vN h;rw[ay]at this;simp at this;omega
  ·simpa using h
 have H1:=HN 97 116;have H2:=HN 98 108;have H3:=HN 105 122;have HA:Hid (alike (ai s)=false) :=by show _=_;rw[alike,ay,decide_eq_false (by omega)];rfl
 have HM:Hid (mend (ai s)=ai s) :=by show _=_;rw[mend,HA.out,H1.out,H2.out,H3.out];rfl
 clear HA HN;go_enter Tryz.func131,Tryz.ntmps131;go_wp2_with fail;go_quiet(fail);go_wp2_with fail;refine(gT s _ _ (by omega) (by decide)).mono ?_;rintro e w1⟨rfl,hw⟩;obtain rfl:=hw.symm;rw[show ai ⟨#[97,116]⟩= [97,116]from rfl,H1.out];go_wp2_with fail;refine(gT s _ _ (by omega) (by decide)).mono ?_;rintro e w1⟨rfl,hw⟩;obtain rfl:=hw.symm;rw[show ai ⟨#[98,108]⟩= [98,108]from rfl,H2.out];go_wp2_with fail;refine(gT s _ _ (by omega) (by decide)).mono ?_;rintro e w1⟨rfl,hw⟩;obtain rfl:=hw.symm;rw[show ai ⟨#[105,122]⟩= [105,122]from rfl,H3.out];go_wp2_with fail;go_ret;rw[HM.out];exact⟨by simp[iL],_,rfl⟩
theorem KQ(s:ByteArray)(w:World)(hs:s.size≤1048576) :Calls Tryz.prog 131 #[.string s] w fun e w'=>e= .returned (.string (bs (mend (ai s))))∧∃m,w'=w.drewN m:=by
 by_cases h:s.size<2;·exact Qt s w h
 ·exact QW s w (s.size-1) (s.size-2) hs (by omega) (by omega) (by omega) (by rw[IntWalk.i64_in _ (by omega)];omega) (by rw[IntWalk.i64_in _ (by omega)];omega) rfl (Vw s _ _ (by omega) (by omega) rfl rfl (by omega))
end Go.Proofs.YtcjiphknpagenaaGreatDoor
