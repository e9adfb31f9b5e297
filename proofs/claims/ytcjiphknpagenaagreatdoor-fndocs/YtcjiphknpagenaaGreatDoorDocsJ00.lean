import Derived.Test.YtcjiphknpagenaaGreatDoorProg
import Derived.WalkLawsBesides
import Derived.WalkSpells
import Derived.BigQuiet
import Derived.Lib.ValidLaws
namespace Go.Proofs.YtcjiphknpagenaaGreatDoor
open Go Go.RowKit
set_option linter.unusedVariables false
set_option linter.unusedSimpArgs false
set_option maxRecDepth 100000
set_option maxHeartbeats 2000000
def fT(r:Int) :Bool:=decide (0≤r∧r≤1114111∧(r<55296∨57343<r))
theorem j4(r:Int) :fT r=true↔(0≤r∧r≤1114111∧(r<55296∨57343<r)) :=by simp[fT]
theorem Gt(r:Int) :fT r=false↔¬(0≤r∧r≤1114111∧(r<55296∨57343<r)) :=by simp[fT]
def encs(l:List Int) :List UInt8:=l.flatMap Lib.encodeRune
theorem KX:encs []= [] :=rfl
theorem Ch(l:List Int)(r:Int) :encs (l++ [r])=encs l++Lib.encodeRune r:=by simp[encs]
theorem uL(r:Int) :1≤(Lib.encodeRune r).length∧(Lib.encodeRune r).length≤4:=by have:=Lib.runeCells_le r;rw[Lib.runeCells_length]at this;exact this
theorem ym(l:List Int) :(encs l).length≤4*l.length:=by
 induction l with
 |nil=>simp[encs]
 |cons x t ih=>have:=uL x;simp only[encs,List.flatMap_cons,List.length_append,List.length_cons]at*;omega
theorem CY(a b:List Int) :encs (a++b)=encs a++encs b:=by simp[encs]
theorem oW(l:List Int)(k:Nat) :(encs (l.take k)).length≤(encs l).length:=by
 have:encs l=encs (l.take k)++encs (l.drop k) :=by rw[←CY,List.take_append_drop]
 rw[this];simp
theorem yY(r:Int)(h:fT r=true) :Lib.runeLen r=((Lib.encodeRune r).length:Int) :=by
 rw[j4]at h;unfold Lib.runeLen Lib.encodeRune Lib.encodeRuneZ;simp only[List.length_map];by_cases h1:r≤127;·rw[if_neg (by omega),if_pos (by omega),if_pos (by omega)];rfl
 ·by_cases h2:r≤2047;·rw[if_neg (by omega),if_neg (by omega),if_pos (by omega),if_neg (by omega),if_pos (by omega)];rfl
  ·by_cases h3:r≤65535;·rw[if_neg (by omega),if_neg (by omega),if_neg (by omega),if_neg (by omega),if_pos (by omega),if_neg (by omega),if_neg (by omega),if_pos (by omega)];rfl
   ·rw[if_neg (by omega),if_neg (by omega),if_neg (by omega),if_neg (by omega),if_neg (by omega),if_pos (by omega),if_neg (by omega),if_neg (by omega),if_neg (by omega),if_pos (by omega)];rfl
theorem Cr(l:List Int)(k:Nat)(h:k<l.length) :l.take (k+1)=l.take k++ [l.getD k 0] :=by rw[List.take_succ_eq_append_getElem h];simp[h]
theorem aa {p:Prop}(h:p) :Hid p:=h
theorem ko(g j:Nat) :(⟨g,0,none⟩ :Addr).add j=⟨g,j,none⟩ :=by
 unfold Addr.add;by_cases h:j=0;·subst h;simp
 ·simp[h]
theorem VO(r:Int) : ∀u∈Lib.runeCells r,u.oneCell'=true:=by intro u hu;simp only[Lib.runeCells,List.mem_map]at hu;obtain⟨x,_,rfl⟩ :=hu;rfl
theorem K9 {w:World} {base e g n cap:Nat} {xs:List Value}(h:w.ownsRow base e 1 (.slice (some ⟨g,0,none⟩) n cap) n xs) :g<w.heap.size:=by
 rcases h.2 with⟨h',_⟩| ⟨g',cap',cur,h',_,hg,_⟩;·simp at h'
 ·simp only[Value.slice.injEq,Option.some.injEq,Addr.mk.injEq,and_true,true_and]at h';obtain⟨rfl,rfl⟩ :=h';exact(Array.getElem?_eq_some_iff.1 hg).1
theorem cell_lt {w:World} {b off:Nat} {v:Value}(h:w.cell? ⟨b,off,none⟩=some v) :b<w.heap.size:=by
 by_cases hb:b<w.heap.size;·exact hb
 ·have:w.heap[b]?=none:=Array.getElem?_eq_none (by omega);simp[World.cell?,this]at h
theorem xB {w:World} {base e g n cap:Nat} {zs:List Int}(h:w.ownsRow base e 1 (.slice (some ⟨g,0,none⟩) n cap) n (zs.map (Value.int .i64)))(hl:zs.length=n) : ∀t,t<n→w.cell? ⟨g,0+t,none⟩=some (.int .i64 (zs.getD t 0)) :=by intro t ht;rw[Nat.zero_add,h.cellAt t (by omega)];simp[hl,ht]
theorem own_below {w w':World} {base e n:Nat} {v:Value} {xs:List Value}(h:w.ownsRow base e 1 v n xs)(hb:Below w.heap.size w w') :w'.ownsRow base e 1 v n xs:=by
 refine⟨h.1,?_⟩;rcases h.2 with h'| ⟨g,cap,cur,h1,h2,h3,h4⟩;·exact Or.inl h'
 ·exact Or.inr ⟨g,cap,cur,h1,h2,by rw[hb.block g (Array.getElem?_eq_some_iff.1 h3).1];exact h3,h4⟩
theorem fO {w:World} {base e n:Nat} {v:Value} {xs:List Value}(h:w.ownsRow base e 1 v n xs) :(v= .slice none 0 0∧n=0)∨∃g cap,v= .slice (some ⟨g,0,none⟩) n cap∧base≤g∧g<w.heap.size:=by
 rcases h.2 with⟨h1,h2⟩| ⟨g,cap,cur,h1,hb,hg,_⟩;·exact Or.inl ⟨h1,h2⟩
 ·exact Or.inr ⟨g,cap,h1,hb,(Array.getElem?_eq_some_iff.1 hg).1⟩
theorem zi(w:World)(row:Option Nat) :w.grownBy w row:=⟨rfl,rfl,rfl,Nat.le_refl _,fun _ _ _=>rfl⟩
theorem eZ {a b c:World} {row:Option Nat}(h:a.grownBy b row)(k:b.grownBy c row) :a.grownBy c row:=⟨k.os.trans h.os,k.tape.trans h.tape,k.output.trans h.output,Nat.le_trans h.size k.size,fun i hi hne=>(k.block i (Nat.lt_of_lt_of_le hi h.size) hne).trans (h.block i hi hne)⟩
theorem dJ(w:World)(e:TypeId) :(w.alloc (.cells #[] e)).ownsRow w.heap.size e 1 (.slice (some ⟨w.heap.size,0,none⟩) 0 0) 0 [] :=by have:=World.ownsRow_lit (base:=w.heap.size) (e:=e) (size:=1) w #[] 0 (Nat.le_refl _) (by unfold maxLen;omega) (by simp);simpa using this
theorem fQ {w:World} {base base' e n:Nat} {v:Value} {xs:List Value}(h:w.ownsRow base e 1 v n xs)(hb:base'≤base) :w.ownsRow base' e 1 v n xs:=by
 refine⟨h.1,?_⟩;rcases h.2 with h'| ⟨g,cap,cur,h1,h2,h3⟩;·exact Or.inl h'
 ·exact Or.inr ⟨g,cap,cur,h1,Nat.le_trans hb h2,h3⟩
theorem iM {w:World} {base e n:Nat} {v:Value} {xs:List Value}(h:w.ownsRow base e 1 v n xs) : ∀k,v.ownBlock=some k→base≤k:=by
 intro k hk;rcases fO h with⟨rfl,_⟩| ⟨g,cap,rfl,hb,_⟩;·cases hk
 ·cases hk;exact hb
theorem own_iterAt {w:World} {base e n k p:Nat} {s:ByteArray} {v:Value} {xs:List Value}(h:w.ownsRow base e 1 v n xs)(hk:w.heap[k]?=some (.stringIter s p))(p':Nat) :(w.iterAt k s p').ownsRow base e 1 v n xs:=by
 refine⟨h.1,?_⟩;rcases h.2 with h'| ⟨g,cap,cur,h1,h2,h3,h4⟩;·exact Or.inl h'
 ·refine Or.inr ⟨g,cap,cur,h1,h2,?_,h4⟩;have hne:g≠k:=by intro e;subst e;rw[hk]at h3;cases h3
  rw[Lib.iterAt_other w k g s p' hne];exact h3
theorem own_ne_iter {w:World} {base e n k p:Nat} {s:ByteArray} {v:Value} {xs:List Value}(h:w.ownsRow base e 1 v n xs)(hk:w.heap[k]?=some (.stringIter s p)) :some k≠v.ownBlock:=by
 intro hb;rcases h.2 with⟨rfl,_⟩| ⟨g,cap,cur,rfl,h2,h3,h4⟩;·cases hb
 ·have e:k=g:=Option.some.inj hb;subst e;rw[hk]at h3;cases h3
def dQ(w:World)(b:Nat)(cv:Value)(at' sd:Int) :Prop:=w.heap[b]?=some (.cells #[cv,.int .i64 at',.int .i64 sd] 82 (0,0))
def Code(w:World)(b:Nat)(ao:Option Addr)(n:Nat) :Prop:=∀j,j<n→∃blk off z,ao=some ⟨blk,off,none⟩∧blk≠b∧0≤z∧z≤255∧w.cell? ⟨blk,off+j,none⟩=some (.int .u8 z)
theorem dQ.cell {w:World} {b:Nat} {cv:Value} {a sd:Int}(h:dQ w b cv a sd) :w.cell? ⟨b,0,none⟩=some cv∧w.cell? ⟨b,1,none⟩=some (.int .i64 a)∧w.cell? ⟨b,2,none⟩=some (.int .i64 sd) :=by unfold dQ at h;simp[World.cell?,h]
theorem dQ.free {w:World} {b:Nat} {cv:Value} {a sd:Int}(h:dQ w b cv a sd)(j:Nat) :w.frozen? ⟨b,j,none⟩=false:=frozen_of_row w b j _ _ h
theorem dQ.lt {w:World} {b:Nat} {cv:Value} {a sd:Int}(h:dQ w b cv a sd) :b<w.heap.size:=(Array.getElem?_eq_some_iff.1 h).1
theorem dQ.set1 {w:World} {b:Nat} {cv:Value} {a sd:Int}(h:dQ w b cv a sd)(a':Int) :dQ (w.setCell ⟨b,1,none⟩ (.int .i64 a')) b cv a' sd:=by have:=heap_setCell_same w b 1 _ _ (.int .i64 a') h;simpa[dQ]using this
theorem dQ.set2 {w:World} {b:Nat} {cv:Value} {a sd:Int}(h:dQ w b cv a sd)(s':Int) :dQ (w.setCell ⟨b,2,none⟩ (.int .i64 s')) b cv a s':=by have:=heap_setCell_same w b 2 _ _ (.int .i64 s') h;simpa[dQ]using this
theorem wY(w:World)(b j:Nat)(u:Value) :w.grownBy (w.setCell ⟨b,j,none⟩ u) (some b) :=⟨rfl,rfl,rfl,by simp,fun k _ hk=>heap_setCell_other w ⟨b,j,none⟩ k u (fun e=>hk (by simp[e]))⟩
theorem oC(w:World)(n:Nat)(row:Option Nat) :w.grownBy (w.drewN n) row:=⟨rfl,rfl,rfl,Nat.le_refl _,fun _ _ _=>rfl⟩
theorem Code.kept {w w':World} {b:Nat} {ao:Option Addr} {n:Nat}(h:Code w b ao n)(hg:w.grownBy w' (some b)) :Code w' b ao n:=by intro j hj;obtain⟨blk,off,z,h1,h2,h3,h4,h5⟩ :=h j hj;exact⟨blk,off,z,h1,h2,h3,h4,hg.cell h5 (by simpa using h2)⟩
def tF(w:World)(b:Nat)(cv:Value)(a k m:Int)(e:Ending)(w':World) :Prop:=∃x a' uu:Int,e= .returned (.int .i64 x)∧0≤x∧x≤m∧a≤a'∧a'≤a+k∧0≤uu∧uu<2147483648∧dQ w' b cv a' uu∧w.grownBy w' (some b)
theorem UZ(b:Nat)(ao:Option Addr)(n cap:Nat)(a sd:Int)(w:World)(hn:n≤1048576)(ha0:0≤a)(ha1:a<n)(hs0:0≤sd)(hs1:sd<2147483648)(hs:dQ w b (.slice ao n cap) a sd)(hc:Code w b ao n) :Calls Tryz.prog 67 #[.pointer (some ⟨b,0,none⟩)] w fun e w'=>tF w b (.slice ao n cap) a 1 255 e w':=by
 obtain⟨blk,off,z,rfl,hne,hz0,hz1,hzc⟩ :=hc a.toNat (by omega);obtain⟨A,rfl⟩ :=Int.eq_ofNat_of_zero_le ha0;rw[Int.toNat_natCast]at hzc;obtain⟨c0,c1,c2⟩ :=hs.cell;have f1:=hs.free 1;have f2:=hs.free 2;have HS:=aa hs;have hle:(A:Int)+1≤(n:Int) :=by omega
 have hidx:(A:Int)+1-1<(n:Int) :=by omega
 have hA:A<n:=by omega
 clear hc hs;go_enter Tryz.func67,Tryz.ntmps67;go_wp2;go_quiet(fail);go_wp2;have HS2:Hid (dQ ((w.setCell ⟨b,1,none⟩ (.int .i64 ((A:Int)+1))).drewN nq) b (.slice (some ⟨blk,off,none⟩) n cap) ((A:Int)+1) sd) :=HS.out.set1 _;have HG2:Hid (w.grownBy ((w.setCell ⟨b,1,none⟩ (.int .i64 ((A:Int)+1))).drewN nq) (some b)) :=eZ (wY w b 1 _) (oC _ _ _);generalize(w.setCell ⟨b,1,none⟩ (.int .i64 ((A:Int)+1))).drewN nq=w2 at*;have afH:w2.cell? ⟨blk,off+A,none⟩=some (.int .u8 z) :=HG2.out.cell hzc (by simpa using hne);have uE:=aa hzc;clear hzc c0 c1 c2 f1 f2;obtain⟨d0,d1,d2⟩ :=HS2.out.cell;have e1:=HS2.out.free 1;have e2:=HS2.out.free 2;go_region;have hm0:0≤(sd*31+z+7) %2147483648:=Int.emod_nonneg _ (by omega);have hm1:(sd*31+z+7) %2147483648<2147483648:=Int.emod_lt_of_pos _ (by omega);generalize(sd*31+z+7) %2147483648=uu at*;have ql:Hid (dQ (w2.setCell ⟨b,2,none⟩ (.int .i64 uu)).drew b (.slice (some ⟨blk,off,none⟩) n cap) ((A:Int)+1) uu) :=HS2.out.set2 _
 have HG3:Hid (w.grownBy (w2.setCell ⟨b,2,none⟩ (.int .i64 uu)).drew (some b)) :=eZ HG2.out (eZ (wY w2 b 2 _) (oC _ 1 _));generalize(w2.setCell ⟨b,2,none⟩ (.int .i64 uu)).drew=w3 at*;have ai5:w3.cell? ⟨blk,off+A,none⟩=some (.int .u8 z) :=HG3.out.cell uE.out (by simpa using hne);clear d0 d1 d2 e1 e2 afH HS2 HG2 HS;obtain⟨d0,d1,d2⟩ :=ql.out.cell;go_wp2;go_quiet(fail);go_wp2;go_ret;unfold tF;exact⟨z,(A:Int)+1,uu,rfl,hz0,hz1,by omega,by omega,hm0,hm1,ql.out,eZ HG3.out (oC _ _ _)⟩
theorem WK(b:Nat)(ao:Option Addr)(n cap:Nat)(a sd:Int)(w:World)(hn:n≤1048576)(ha0:0≤a)(ha1: ¬a<n)(ha2:a≤1099511627776)(hs0:0≤sd)(hs1:sd<2147483648)(hs:dQ w b (.slice ao n cap) a sd) :Calls Tryz.prog 67 #[.pointer (some ⟨b,0,none⟩)] w fun e w'=>tF w b (.slice ao n cap) a 1 255 e w':=by
 obtain⟨c0,c1,c2⟩ :=hs.cell;have f1:=hs.free 1;have HS:=aa hs;have hle: ¬a+1≤(n:Int) :=by omega
 have aiH:decide (a+1≤(n:Int))=false:=by simp;omega
 clear hs;go_enter Tryz.func67,Tryz.ntmps67;go_wp2;go_quiet(fail);go_wp2;have HS2:Hid (dQ ((w.setCell ⟨b,1,none⟩ (.int .i64 (a+1))).drewN nq) b (.slice ao n cap) (a+1) sd) :=HS.out.set1 _;have HG2:Hid (w.grownBy ((w.setCell ⟨b,1,none⟩ (.int .i64 (a+1))).drewN nq) (some b)) :=eZ (wY w b 1 _) (oC _ _ _);generalize(w.setCell ⟨b,1,none⟩ (.int .i64 (a+1))).drewN nq=w2 at*;clear c0 c1 c2 f1;obtain⟨d0,d1,d2⟩ :=HS2.out.cell;have e2:=HS2.out.free 2;by_cases P8:(4000:Int)+4*(n:Int)<a+1;·go_quiet(fail);go_wp2;go_ret;unfold tF;exact⟨0,a+1,sd,rfl,by omega,by omega,by omega,by omega,hs0,hs1,HS2.out,eZ HG2.out (oC _ _ _)⟩
 ·have hfd:decide ((4000:Int)+4*(n:Int)<a+1)=false:=by simp;omega
  go_quiet(fail);go_wp2;have hm0:0≤(sd*1103515245+12345) %2147483648:=Int.emod_nonneg _ (by omega);have hm1:(sd*1103515245+12345) %2147483648<2147483648:=Int.emod_lt_of_pos _ (by omega);go_ret;unfold tF;exact⟨_,a+1,_,rfl,by omega,by omega,by omega,by omega,hm0,hm1,dQ.set2 (w:=w2.drewN nq) HS2.out _,eZ HG2.out (eZ (oC _ _ _) (wY (w2.drewN nq) b 2 _))⟩
theorem zK(b:Nat)(ao:Option Addr)(n cap:Nat)(a sd:Int)(w:World)(hn:n≤1048576)(ha0:0≤a)(ha2:a≤1099511627776)(hs0:0≤sd)(hs1:sd<2147483648)(hs:dQ w b (.slice ao n cap) a sd)(hc:Code w b ao n) :Calls Tryz.prog 67 #[.pointer (some ⟨b,0,none⟩)] w fun e w'=>tF w b (.slice ao n cap) a 1 255 e w':=by
 by_cases h:a<n;·exact UZ b ao n cap a sd w hn ha0 h hs0 hs1 hs hc
 ·exact WK b ao n cap a sd w hn ha0 h ha2 hs0 hs1 hs
theorem yL(b:Nat)(ao:Option Addr)(n cap:Nat)(a sd m:Int)(w:World)(hn:n≤1048576)(hm:1≤m)(hm2:m≤16777216)(ha0:0≤a)(ha2:a≤549755813888)(hs0:0≤sd)(hs1:sd<2147483648)(hs:dQ w b (.slice ao n cap) a sd)(hc:Code w b ao n) :Calls Tryz.prog 38 #[.pointer (some ⟨b,0,none⟩),.int .i64 m] w fun e w'=>tF w b (.slice ao n cap) a 3 (m-1) e w':=by
 have HS:=aa hs;have HC:=aa hc;clear hs hc;by_cases h1:m≤1;·go_enter Tryz.func38,Tryz.ntmps38;go_wp2;go_ret;unfold tF;exact⟨0,a,sd,rfl,by omega,by omega,by omega,by omega,hs0,hs1,HS.out,zi _ _⟩
 ·by_cases h2:m≤256;·go_enter Tryz.func38,Tryz.ntmps38;go_wp2_with fail;refine(zK b ao n cap a sd _ hn ha0 (by omega) hs0 hs1 HS.out HC.out).mono ?_;rintro e w1⟨x,a1,qQ,rfl,hx0,hx1,Ls,LU,sU,hsd1,o7,hg1⟩;have hr0:=Int.emod_nonneg x (by omega:m≠0);have hr1:=Int.emod_lt_of_pos x (by omega:0<m);have HR:=aa (And.intro o7 hg1);clear o7 hg1;go_wp2;go_ret;unfold tF;exact⟨_,a1,qQ,rfl,by omega,by omega,by omega,by omega,sU,hsd1,HR.out.1,HR.out.2⟩
  ·go_enter Tryz.func38,Tryz.ntmps38;go_wp2_with fail;refine(zK b ao n cap a sd _ hn ha0 (by omega) hs0 hs1 HS.out HC.out).mono ?_;rintro e w1⟨x,a1,qQ,rfl,hx0,hx1,Ls,LU,sU,hsd1,o7,hg1⟩;have HR:=aa (And.intro o7 hg1);have tK:=aa (HC.out.kept hg1);clear o7 hg1 HC HS;go_wp2_with fail;refine(zK b ao n cap a1 qQ _ hn (by omega) (by omega) sU hsd1 HR.out.1 tK.out).mono ?_;rintro e w2⟨y,a2,sd2,rfl,hy0,hy1,ha5,ha6,hsd2,afY,abJ,hg2⟩;have HR2:=aa (And.intro abJ (eZ HR.out.2 hg2));have C8:=aa (tK.out.kept hg2);clear abJ hg2 tK HR;go_wp2_with fail;refine(zK b ao n cap a2 sd2 _ hn (by omega) (by omega) hsd2 afY HR2.out.1 C8.out).mono ?_;rintro e w3⟨z,a3,sd3,rfl,hz0,hz1,ha7,ha8,afU,agb,abj,hg3⟩;have HR3:=aa (And.intro abj (eZ HR2.out.2 hg3));clear abj hg3 C8 HR2;have hr0:=Int.emod_nonneg (x*65536+y*256+z) (by omega:m≠0);have hr1:=Int.emod_lt_of_pos (x*65536+y*256+z) (by omega:0<m);go_wp2;go_ret;unfold tF;exact⟨_,a3,sd3,rfl,by omega,by omega,by omega,by omega,afU,agb,HR3.out.1,HR3.out.2⟩
def Rl(w:World)(b:Nat)(cv:Value)(a k:Int)(e:Ending)(w':World) :Prop:=∃(x:Bool)(a' uu:Int),e= .returned (.bool x)∧a≤a'∧a'≤a+k∧0≤uu∧uu<2147483648∧dQ w' b cv a' uu∧w.grownBy w' (some b)
theorem PX(b:Nat)(ao:Option Addr)(n cap:Nat)(a sd m:Int)(w:World)(hn:n≤1048576)(hm:1≤m)(hm2:m≤16777216)(ha0:0≤a)(ha2:a≤549755813888)(hs0:0≤sd)(hs1:sd<2147483648)(hs:dQ w b (.slice ao n cap) a sd)(hc:Code w b ao n) :Calls Tryz.prog 19 #[.pointer (some ⟨b,0,none⟩),.int .i64 m] w fun e w'=>Rl w b (.slice ao n cap) a 3 e w':=by have HS:=aa hs;have HC:=aa hc;clear hs hc;go_enter Tryz.func19,Tryz.ntmps19;go_wp2_with fail;refine(yL b ao n cap a sd m _ hn hm hm2 ha0 ha2 hs0 hs1 HS.out HC.out).mono ?_;rintro e w1⟨x,a1,qQ,rfl,hx0,hx1,Ls,LU,sU,hsd1,o7,hg1⟩;have HR:=aa (And.intro o7 hg1);clear o7 hg1;go_wp2;go_ret;unfold Rl;exact⟨_,a1,qQ,rfl,by omega,by omega,sU,hsd1,HR.out.1,HR.out.2⟩
def WN(m:Nat) :Value→Bool
 | .string s=>decide (s.size≤m)
 |_=>false
theorem ZH {m:Nat} {v:Value}(h:WN m v=true) : ∃t,v= .string t∧t.size≤m:=by
 cases v with
 |string s=>exact⟨s,rfl,by simpa[WN]using h⟩
 |_=>cases h
theorem IZ {w w1:World} {C:Array Value} {t:TypeId} {b:Nat}(hg:(w.alloc (.cells C t)).grownBy w1 (some b))(hb:b<w.heap.size)(m:Nat)(hC:C.all (WN m)=true)(j:Nat)(hj:j<C.size) : ∃t,w1.cell? ⟨w.heap.size,j,none⟩=some (.string t)∧t.size≤m:=by
 have h1:(w.alloc (.cells C t)).cell? ⟨w.heap.size,j,none⟩=some C[j] :=by rw[World.cell?_alloc_at (hn:=rfl)];exact Array.getElem?_eq_getElem hj
 have h2:=hg.cell h1 (by simp;omega);rw[Array.all_eq_true]at hC;obtain⟨s,hs,hm⟩ :=ZH (hC j hj);rw[hs]at h2;exact⟨s,h2,hm⟩
def El(w:World)(b:Nat)(cv:Value)(a k:Int)(m:Nat)(e:Ending)(w':World) :Prop:=∃(t:ByteArray)(a' uu:Int),e= .returned (.string t)∧t.size≤m∧a≤a'∧a'≤a+k∧0≤uu∧uu<2147483648∧dQ w' b cv a' uu∧w.grownBy w' (some b)
theorem dQ.alloc {w:World} {b:Nat} {cv:Value} {a sd:Int}(h:dQ w b cv a sd)(o:Obj) :dQ (w.alloc o) b cv a sd:=by unfold dQ at*;rw[Below.heap_alloc w o b (Array.getElem?_eq_some_iff.1 h).1];exact h
theorem Code.alloc {w:World} {b:Nat} {ao:Option Addr} {n:Nat}(h:Code w b ao n)(o:Obj) :Code (w.alloc o) b ao n:=h.kept (World.grownBy_alloc w o (some b))
theorem Vm(b:Nat)(ao:Option Addr)(n cap:Nat)(a sd:Int)(w:World)(hn:n≤1048576)(ha0:0≤a)(ha2:a≤549755813888)(hs0:0≤sd)(hs1:sd<2147483648)(hs:dQ w b (.slice ao n cap) a sd)(hc:Code w b ao n) :Calls Tryz.prog 68 #[.pointer (some ⟨b,0,none⟩)] w fun e w'=>El w b (.slice ao n cap) a 3 16 e w':=by
 have HS:=aa hs;have HC:=aa hc;have hb:=hs.lt;clear hs hc;go_enter Tryz.func68,Tryz.ntmps68;go_wp2_with fail;refine(yL b ao n cap a sd 25 _ hn (by omega) (by omega) ha0 ha2 hs0 hs1 (by exact HS.out.alloc _) (by exact HC.out.alloc _)).mono ?_;rintro e w1⟨x,a1,qQ,rfl,hx0,hx1,Ls,LU,sU,hsd1,o7,hg1⟩;obtain⟨X,rfl⟩ :=Int.eq_ofNat_of_zero_le hx0;obtain⟨t,ht,htm⟩ :=IZ hg1 hb 16 (by decide+kernel) X (by show X<25;omega);have HR:=aa (And.intro o7 (eZ (World.grownBy_alloc w _ (some b)) hg1));clear o7 hg1;have hxz:(X:Int)<25:=by omega
 go_wp2;go_ret;unfold El;exact⟨t,a1,qQ,rfl,htm,by omega,by omega,sU,hsd1,HR.out.1,HR.out.2⟩
theorem R9(b:Nat)(ao:Option Addr)(n cap:Nat)(a sd:Int)(N:Nat)(w:World)(hn:n≤1048576)(hN:N≤1000)(ha0:0≤a)(ha2:a≤274877906944)(hs0:0≤sd)(hs1:sd<2147483648)(hs:dQ w b (.slice ao n cap) a sd)(hc:Code w b ao n) :Calls Tryz.prog 40 #[.pointer (some ⟨b,0,none⟩),.int .i64 (N:Int)] w fun e w'=>El w b (.slice ao n cap) a (6*(N:Int)) (32*N) e w':=by
 have HS:=aa hs;have HC:=aa hc;have hb:=hs.lt;clear hs hc;go_enter Tryz.func40,Tryz.ntmps40;go_wp2;go_loopw [1,5](fun kv ov wr=>∃(k:Nat)(t:ByteArray)(a1 qQ:Int),k≤N∧kv= .int .i64 (k:Int)∧ov= .string t∧t.size+32*k≤32*N∧a≤a1∧a1+6*(k:Int)≤a+6*(N:Int)∧0≤qQ∧qQ<2147483648∧dQ wr b (.slice ao n cap) a1 qQ∧w.grownBy wr (some b))(fun kv _ _=>(intOf kv).toNat);case atStart=>exact⟨N,⟨#[]⟩,a,sd,Nat.le_refl _,rfl,rfl,by show 0+32*N≤32*N;omega,by omega,by omega,hs0,hs1,HS.out,zi _ _⟩
 case round=>
  obtain⟨k,t,a1,qQ,hkN,rfl,rfl,htk,Ls,LU,hd0,hd1,hsr,hgr⟩ :=hrel;have HSr:=aa hsr;have Yo:=aa hgr;have hbr:=hsr.lt;clear hsr hgr;by_cases hk:0<k
  ·have hkz:(0:Int)<(k:Int) :=by omega
   go_wp2_with fail;refine(Vm b ao n cap a1 qQ _ hn (by omega) (by omega) hd0 hd1 HSr.out (HC.out.kept Yo.out)).mono ?_;rintro e w1⟨u,a2,sd2,rfl,hum,ha5,ha6,hd2,hd3,hs2,hg2⟩;have HS2:=aa hs2;have HG2:=aa (eZ Yo.out hg2);have hb2:=hs2.lt;clear hs2 hg2 HSr Yo;go_wp2_with fail;refine(yL b ao n cap a2 sd2 10 _ hn (by omega) (by omega) (by omega) (by omega) hd2 hd3 (by exact HS2.out.alloc _) (by exact(HC.out.kept HG2.out).alloc _)).mono ?_;rintro e w3⟨x,a3,sd3,rfl,hx0,hx1,ha7,ha8,hd4,hd5,hs3,hg3⟩;obtain⟨X,rfl⟩ :=Int.eq_ofNat_of_zero_le hx0;obtain⟨v,hv,hvm⟩ :=IZ hg3 hb2 16 (by decide+kernel) X (by show X<10;omega);have HR:=aa (And.intro hs3 (eZ HG2.out (eZ (World.grownBy_alloc w1 _ (some b)) hg3)));clear hs3 hg3 HS2 HG2;have hxz:(X:Int)<10:=by omega
   go_wp2;go_roundw;case rel=>exact⟨k-1,t++u++v,a3,sd3,by omega,by go_num,rfl,by rw[ByteArray.size_append,ByteArray.size_append];omega,by omega,by omega,hd4,hd5,HR.out.1,HR.out.2⟩
   case measure=>simp[intOf];omega
  ·have HK:Hid (k=0) :=by show k=0;omega
   go_wp2;go_ret;unfold El;exact⟨t,a1,qQ,rfl,by omega,by omega,by omega,hd0,hd1,HSr.out,Yo.out⟩
def Dy(w:World)(g:Nat)(l:List UInt8) :Prop:=∀j(hj:j<l.length),w.cell? ⟨g,j,none⟩=some (.int .u8 (l[j].toNat:Int))
theorem Dy.text {w:World} {g:Nat} {l:List UInt8}(h:Dy w g l)(k cap:Nat)(hk:l.length=k) :(convert 22 9 (.slice (some ⟨g,0,none⟩) k cap)).run Tryz.prog w= .ok (.string ⟨l.toArray⟩) w:=by subst hk;exact run_convert_bytes_back w 22 9 5 ⟨g,0,none⟩ cap l Tryz.underlying22 Tryz.underlying5 Tryz.underlying9 fun j hj=>by rw[ko];exact h j hj
theorem bytes_at(l:List UInt8)(j:Nat)(hj:j<l.length) :(Lib.byteCells l)[j]?=some (.int .u8 (l[j].toNat:Int)) :=by simp[Lib.byteCells,hj]
theorem size_mk(l:List UInt8) :(⟨l.toArray⟩ :ByteArray).size=l.length:=by rw[Lib.size_eq]
theorem Tryz.info5:(Tryz.prog.info? 5).map (fun i=>(i.zero,i.size,i.bytes))=some (some (.int .u8 0),1,1) :=by kernel_rfl
theorem zh(t:ByteArray)(N:Nat)(w:World)(ht:t.size≤16)(hN:N≤100000) :Calls Tryz.prog 39 #[.string t,.int .i64 (N:Int)] w fun e w'=>∃r:ByteArray,e= .returned (.string r)∧r.size≤t.size*N∧Below w.heap.size w w':=by
 obtain⟨i0,hi,hz0,hz1,hz2⟩ :=info_parts Tryz.info5;go_enter Tryz.func39,Tryz.ntmps39;go_wp2;go_loopw [5,6](fun v i wr=>∃(k:Nat)(L:List UInt8),k≤N∧i= .int .i64 (k:Int)∧L.length≤t.size*k∧wr.ownsRow w.heap.size 5 1 v L.length (Lib.byteCells L)∧Below w.heap.size w wr∧v≠ .slice none 0 0)(fun _ i _=>N-(intOf i).toNat);case atStart=>exact⟨0,[],Nat.zero_le _,rfl,by simp,dJ w _,(Below.refl _ _).alloc (Nat.le_refl _) _,by simp⟩
 case round=>
  obtain⟨k,L,hk,rfl,hL,hown,hbel,hnn⟩ :=hrel;have hL2:L.length≤16*k:=Nat.le_trans hL (Nat.mul_le_mul_right k ht);have HL:=aa hL;clear hL;have HO:=aa hown;have HB:=aa hbel;have sG:=hbel.size;by_cases hlt:k<N
  ·clear hown hbel;go_wp2_with(at_builtin;refine Lib.wpList_append_own_string _ rfl _ _ 22 9 rfl w.heap.size 5 i0 Tryz.underlying22 Tryz.underlying9 hi hz0 hz1 hz2 _ _ _ rfl HO.out t rfl ?c1 ?c2 sG ?_);case c1=>unfold maxLen;omega
   case c2=>omega
   intro v' w2 hown' hgrow hne;have R:Hid (w2.ownsRow w.heap.size 5 1 v' (L++t.data.toList).length (Lib.byteCells (L++t.data.toList))∧Below w.heap.size w w2) :=by refine⟨?_,HB.out.grown hgrow sG (iM HO.out)⟩;rw[List.length_append,←Lib.size_eq,Lib.byteCells_append];exact hown'
   have hne':Hid (v'≠ .slice none 0 0) :=hne;clear hown' hgrow hne;go_wp2;go_roundw;case rel=>exact⟨k+1,L++t.data.toList,by omega,by go_num,by rw[List.length_append,←Lib.size_eq,Nat.mul_succ];exact Nat.add_le_add_right HL.out _,R.out.1,R.out.2,hne'.out⟩
   case measure=>simp[intOf];omega
  ·rcases fO hown with⟨rfl,h0⟩| ⟨g,cap,rfl,hbg,hgl⟩;·exact absurd rfl hnn
   ·have hbs:Dy wr g L:=fun j hj=>by rw[hown.cellAt j (by omega)];exact bytes_at L j hj
    have hcv:=hbs.text L.length cap rfl;clear hbs hown hbel;go_wp2;go_ret;exact⟨⟨L.toArray⟩,rfl,by rw[size_mk];exact Nat.le_trans HL.out (Nat.mul_le_mul_left _ hk),HB.out⟩
theorem Qe(ao:Option Addr)(n cap:Nat)(w:World)(hn:n≤1048576) :Calls Tryz.prog 15 #[.slice ao n cap] w fun e w'=>e= .returned (.pointer (some ⟨w.heap.size,0,none⟩))∧dQ w' w.heap.size (.slice ao n cap) 0 ((n:Int) %1000)∧w.grownBy w' none:=by go_enter Tryz.func15,Tryz.ntmps15;go_wp2;go_ret;exact⟨rfl,heap_alloc_new w _,World.grownBy_alloc w _ none⟩
def CodeIn(w:World)(ao:Option Addr)(n:Nat) :Prop:=∀j,j<n→∃blk off z,ao=some ⟨blk,off,none⟩∧blk<w.heap.size∧0≤z∧z≤255∧w.cell? ⟨blk,off+j,none⟩=some (.int .u8 z)
theorem CodeIn.code {w w':World} {ao:Option Addr} {n:Nat}(h:CodeIn w ao n)(hg:w.grownBy w' none) :Code w' w.heap.size ao n:=fun j hj=>by obtain⟨blk,off,z,h1,h2,h3,h4,h5⟩ :=h j hj;exact⟨blk,off,z,h1,by omega,h3,h4,hg.cell h5 (by simp)⟩
theorem CodeIn.below {w w':World} {ao:Option Addr} {n:Nat}(h:CodeIn w ao n)(hb:Below w.heap.size w w') :CodeIn w' ao n:=fun j hj=>by obtain⟨blk,off,z,h1,h2,h3,h4,h5⟩ :=h j hj;exact⟨blk,off,z,h1,Nat.lt_of_lt_of_le h2 hb.size,h3,h4,by rw[hb.cell (p:=⟨blk,off+j,none⟩) h2];exact h5⟩
def bs(l:List UInt8) :ByteArray:=⟨l.toArray⟩
def ai(s:ByteArray) :List UInt8:=s.data.toList
theorem iL(s:ByteArray) :bs (ai s)=s:=by simp[bs,ai]
theorem bH(l:List UInt8) :ai (bs l)=l:=by simp[bs,ai]
theorem ay(s:ByteArray) :(ai s).length=s.size:=(Lib.size_eq s).symm
theorem aK(l:List UInt8) :(bs l).size=l.length:=by rw[←ay,bH]
def mM(c:UInt8) :Bool:=c==97 ||c==101 ||c==105 ||c==111 ||c==117 ||c==121
def jR(l:List UInt8) :Bool:=l.any mM
def ends(l e:List UInt8) :Bool:=Lib.hasSuffix l e
def bZ(l:List UInt8)(n:Nat) :List UInt8:=l.take (l.length-n)
def lastB(l:List UInt8)(n:Nat) :UInt8:=l.getD (l.length-n) 0
def dz(l:List UInt8) :List UInt8:=if ends l [115,115,101,115]then bZ l 2 else if ends l [105,101,115]then(if 5≤l.length then bZ l 3++ [121]else l)else if ends l [115] && !ends l [115,115] && !ends l [117,115] && !ends l [105,115] &&decide (4≤l.length)then bZ l 1 else l
def alike(l:List UInt8) :Bool:=decide (2≤l.length) &&lastB l 1==lastB l 2&& !mM (lastB l 1) &&lastB l 1 !=108&&lastB l 1 !=115&&lastB l 1 !=122
def mend(l:List UInt8) :List UInt8:=if alike l then bZ l 1 else if ends l [97,116]||ends l [98,108]||ends l [105,122]then l++ [101]else l
def gy(l:List UInt8) :List UInt8:=if ends l [105,110,103] &&decide (6≤l.length) &&jR (bZ l 3)then mend (bZ l 3)else if ends l [101,100] &&decide (5≤l.length) &&jR (bZ l 2)then mend (bZ l 2)else l
def jq(l:List UInt8) :List UInt8:=if ends l [108,121] &&decide (5≤l.length)then bZ l 2 else l
def kF(l:List UInt8) :List UInt8:=if ends l [121] &&decide (3≤l.length) && !mM (lastB l 2)then bZ l 1++ [105]else l
def small(c:UInt8) :Bool:=decide (97≤c.toNat∧c.toNat≤122)
def gU(l:List UInt8) :List UInt8:=if 65536<l.length then[]else if l.length<3∨64<l.length then l else if l.all small=true then kF (jq (gy (dz l)))else l
theorem vN {l e:List UInt8}(h:ends l e=true) :e.length≤l.length:=by have:e<:+l:=List.isSuffixOf_iff_suffix.1 h;exact this.length_le
theorem uU {l e:List UInt8}(h:ends l e=true) :l=bZ l e.length++e:=by obtain⟨t,rfl⟩ :=List.isSuffixOf_iff_suffix.1 h;simp[bZ]
theorem dF(l:List UInt8)(n:Nat) :(bZ l n).length=l.length-n:=by simp[bZ]
theorem Nk(t e:List UInt8) :ends (t++e) e=true:=List.isSuffixOf_iff_suffix.2 ⟨t,rfl⟩
theorem mJ(t e:List UInt8) :bZ (t++e) e.length=t:=by simp[bZ]
theorem Ky(l:List UInt8) :(dz l).length≤l.length:=by
 unfold dz;split;·rw[dF];omega
 ·split
  ·split;·rw[List.length_append,dF];simp;omega
   ·exact Nat.le_refl _
  ·split;·rw[dF];omega
   ·exact Nat.le_refl _
theorem OP(l:List UInt8) :(mend l).length≤l.length+1:=by
 unfold mend;split;·rw[dF];omega
 ·split;·simp
  ·omega
theorem za(l:List UInt8) :(gy l).length≤l.length:=by
 unfold gy;split;·rename_i h;simp only[Bool.and_eq_true,decide_eq_true_eq]at h;have:=OP (bZ l 3);rw[dF]at this;omega
 ·split;·rename_i h;simp only[Bool.and_eq_true,decide_eq_true_eq]at h;have:=OP (bZ l 2);rw[dF]at this;omega
  ·exact Nat.le_refl _
theorem KN(l:List UInt8) :(jq l).length≤l.length:=by
 unfold jq;split;·rw[dF];omega
 ·exact Nat.le_refl _
theorem LW(l:List UInt8) :(kF l).length≤l.length:=by
 unfold kF;split;·rename_i h;simp only[Bool.and_eq_true,decide_eq_true_eq]at h;rw[List.length_append,dF];simp;omega
 ·exact Nat.le_refl _
def bR(l:List (List UInt8)) :List Value:=l.map fun t=>Value.string (bs t)
theorem FL(l:List (List UInt8)) :(bR l).length=l.length:=by simp[bR]
theorem ow(l:List (List UInt8))(t:List UInt8) :bR (l++ [t])=bR l++ [.string (bs t)] :=by simp[bR]
theorem G6(l:List (List UInt8))(k:Nat)(h:k<l.length) :(bR l)[k]?=some (.string (bs (l.getD k []))) :=by simp[bR,h]
theorem uV {w:World} {base e g cap:Nat} {l:List (List UInt8)}(h:w.ownsRow base e 1 (.slice (some ⟨g,0,none⟩) l.length cap) l.length (bR l)) : ∀t,t<l.length→w.cell? ⟨g,t,none⟩=some (.string (bs (l.getD t []))) :=by intro t ht;rw[h.cellAt t (by omega),G6 l t ht]
def bad(s:ByteArray)(p:Nat) :Prop:=(Utf8.decode s p).1=65533∧(Utf8.decode s p).2=1
instance(s:ByteArray)(p:Nat) :Decidable (bad s p) :=inferInstanceAs(Decidable (_∧_))
def aB(s:ByteArray)(p:Nat) :Int:=((s.get! p).toNat:Int)
theorem jP(s:ByteArray)(p:Nat) :0≤aB s p∧aB s p≤255:=by have:=(s.get! p).toNat_lt;unfold aB;omega
theorem lT(s:ByteArray)(p:Nat)(h:p<s.size) :((s[p]'h).toNat:Int)=aB s p:=by
 have e:s.get! p=s[p]'h:=by simp[ByteArray.get!,getElem!_pos,h];rfl
 rw[aB,e]
def qo(s:ByteArray)(p:Nat) :Int:=if bad s p then 0 else((Utf8.decode s p).1:Int)
def pE(s:ByteArray)(p:Nat) :Int:=if bad s p then 0 else((Utf8.decode s p).2:Int)
def fI(s:ByteArray)(p:Nat)(v0:Int) :Nat→Int
 |0=>v0
 |k+1=>if k=0 then v0 else fI s p v0 k*64+aB s (p+k)-128
theorem vB(s:ByteArray)(p:Nat)(v0:Int) :fI s p v0 1=v0:=rfl
theorem iG(s:ByteArray)(p:Nat)(v0:Int)(k:Nat)(h:1≤k) :fI s p v0 (k+1)=fI s p v0 k*64+aB s (p+k)-128:=by show(if k=0 then _ else _)=_;rw[if_neg (by omega)]
def oo(s:ByteArray)(p k:Nat) :Prop:=∀j,1≤j→j<k→128≤aB s (p+j)∧aB s (p+j)≤191
theorem zz(s:ByteArray)(p:Nat) :oo s p 1:=fun j h1 h2=>by omega
theorem xI(s:ByteArray)(p k:Nat)(h:oo s p k)(h1:128≤aB s (p+k))(h2:aB s (p+k)≤191) :oo s p (k+1) :=fun j a b=>by
 by_cases e:j=k;·subst e;exact⟨h1,h2⟩
 ·exact h j a (by omega)
theorem KH(s:ByteArray)(p:Nat)(v0:Int)(h0:0≤v0)(h1:v0≤31)(k:Nat)(hk:1≤k)(hk4:k≤4)(hc:oo s p k) :0≤fI s p v0 k∧fI s p v0 k≤8388607:=by
 have e1:=vB s p v0;have e2:fI s p v0 2=fI s p v0 1*64+aB s (p+1)-128:=iG s p v0 1 (by omega);have e3:fI s p v0 3=fI s p v0 2*64+aB s (p+2)-128:=iG s p v0 2 (by omega);have e4:fI s p v0 4=fI s p v0 3*64+aB s (p+3)-128:=iG s p v0 3 (by omega);rcases(show k=1∨k=2∨k=3∨k=4 by omega)with rfl|rfl|rfl|rfl;·omega
 ·have:=hc 1 (by omega) (by omega);omega
 ·have:=hc 1 (by omega) (by omega);have:=hc 2 (by omega) (by omega);omega
 ·have:=hc 1 (by omega) (by omega);have:=hc 2 (by omega) (by omega);have:=hc 3 (by omega) (by omega);omega
theorem Zo(s:ByteArray)(p:Nat)(v0:Int)(h:v0≤31)(hc:oo s p 2) :fI s p v0 2<2048:=by have e2:fI s p v0 2=fI s p v0 1*64+aB s (p+1)-128:=iG s p v0 1 (by omega);have c1:=hc 1 (by omega) (by omega);rw[vB]at e2;omega
theorem Zr(s:ByteArray)(p:Nat)(v0:Int)(h:v0≤15)(hc:oo s p 3) :fI s p v0 3<65536:=by have e2:fI s p v0 2=fI s p v0 1*64+aB s (p+1)-128:=iG s p v0 1 (by omega);have e3:fI s p v0 3=fI s p v0 2*64+aB s (p+2)-128:=iG s p v0 2 (by omega);have c1:=hc 1 (by omega) (by omega);have c2:=hc 2 (by omega) (by omega);rw[vB]at e2;omega
theorem jb(s:ByteArray)(p:Nat) :Utf8.decode s p=Lib.decodeN (s.size-p) (s.get! p).toNat (s.get! (p+1)).toNat (s.get! (p+2)).toNat (s.get! (p+3)).toNat:=Lib.decode_at s p
theorem Gi(s:ByteArray)(p:Nat) :bad s p↔Utf8.decode s p=(65533,1) :=by
 unfold bad;constructor;·intro h;exact Prod.ext h.1 h.2
 ·intro h;rw[h];exact⟨rfl,rfl⟩
theorem qX(s:ByteArray)(p:Nat)(h:Utf8.decode s p=(65533,1)) :qo s p=0∧pE s p=0:=by have hb:=(Gi s p).2 h;unfold qo pE;rw[if_pos hb,if_pos hb];exact⟨rfl,rfl⟩
theorem uQ(s:ByteArray)(p r n:Nat)(h:Utf8.decode s p=(r,n))(hn: ¬(r=65533∧n=1)) :qo s p=r∧pE s p=n:=by
 have hb: ¬bad s p:=by rw[Gi,h];intro e;cases e;exact hn ⟨rfl,rfl⟩
 unfold qo pE;rw[if_neg hb,if_neg hb,h];exact⟨rfl,rfl⟩
theorem agd(s:ByteArray)(p:Nat)(h:aB s p<128) :qo s p=aB s p∧pE s p=1:=by
 unfold aB at*;have e:Utf8.decode s p=((s.get! p).toNat,1) :=by rw[jb];unfold Lib.decodeN;rw[if_pos (by omega)]
 exact uQ s p _ 1 e (by omega)
theorem acO(s:ByteArray)(p:Nat)(h:128≤aB s p)(h2:aB s p<192) :qo s p=0∧pE s p=0:=by unfold aB at*;apply qX;rw[jb];unfold Lib.decodeN;rw[if_neg (by omega),if_neg (by omega),if_neg (by omega),if_neg (by omega)]
theorem yc(s:ByteArray)(p n:Nat)(h:(n=2∧192≤aB s p∧aB s p<224)∨(n=3∧224≤aB s p∧aB s p<240)∨(n=4∧240≤aB s p))(hbad:s.size<p+n∨∃j,1≤j∧j<n∧(aB s (p+j)<128∨191<aB s (p+j))) :qo s p=0∧pE s p=0:=by
 apply qX;have b0:=jP s p;have b1:=jP s (p+1);have b2:=jP s (p+2);have b3:=jP s (p+3);have key:(n=2→s.size<p+2∨aB s (p+1)<128∨191<aB s (p+1))∧(n=3→s.size<p+3∨aB s (p+1)<128∨191<aB s (p+1)∨aB s (p+2)<128∨191<aB s (p+2))∧(n=4→s.size<p+4∨aB s (p+1)<128∨191<aB s (p+1)∨aB s (p+2)<128∨191<aB s (p+2)∨aB s (p+3)<128∨191<aB s (p+3)) :=by
  rcases hbad with hb| ⟨j,j1,j2,hj⟩;·exact⟨fun e=>by omega,fun e=>by omega,fun e=>by omega⟩
  ·rcases(show j=1∨j=2∨j=3 by omega)with rfl|rfl|rfl;·exact⟨fun e=>by omega,fun e=>by omega,fun e=>by omega⟩
   ·exact⟨fun e=>by omega,fun e=>by omega,fun e=>by omega⟩
   ·exact⟨fun e=>by omega,fun e=>by omega,fun e=>by omega⟩
 clear hbad;unfold aB at*;rw[jb];unfold Lib.decodeN;rw[if_neg (by omega),if_neg (by omega),if_neg (by omega),if_neg (by omega)]
theorem afM(s:ByteArray)(p:Nat)(h:192≤aB s p)(h2:aB s p<224)(hs:p+2≤s.size)(hc:oo s p 2) :(128≤fI s p (aB s p-192) 2→qo s p=fI s p (aB s p-192) 2∧pE s p=2)∧(fI s p (aB s p-192) 2<128→qo s p=0∧pE s p=0) :=by
 have e2:fI s p (aB s p-192) 2=fI s p (aB s p-192) 1*64+aB s (p+1)-128:=iG _ _ _ 1 (by omega);rw[vB]at e2;have c1:=hc 1 (by omega) (by omega);rw[e2];unfold aB at*;have ed:Utf8.decode s p=if(s.get! p).toNat %32*64+(s.get! (p+1)).toNat %64≥128 then((s.get! p).toNat %32*64+(s.get! (p+1)).toNat %64,2)else(65533,1) :=by rw[jb];unfold Lib.decodeN;rw[if_neg (by omega),if_pos (by omega)]
 constructor;·intro hv;rw[if_pos (by omega)]at ed;have:=uQ s p _ 2 ed (by omega);omega
 ·intro hv;rw[if_neg (by omega)]at ed;exact qX s p ed
theorem afz(s:ByteArray)(p:Nat)(h:224≤aB s p)(h2:aB s p<240)(hs:p+3≤s.size)(hc:oo s p 3) :(2048≤fI s p (aB s p-224) 3∧fT (fI s p (aB s p-224) 3)=true→qo s p=fI s p (aB s p-224) 3∧pE s p=3)∧(¬(2048≤fI s p (aB s p-224) 3∧fT (fI s p (aB s p-224) 3)=true)→qo s p=0∧pE s p=0) :=by
 have e2:fI s p (aB s p-224) 2=fI s p (aB s p-224) 1*64+aB s (p+1)-128:=iG _ _ _ 1 (by omega);have e3:fI s p (aB s p-224) 3=fI s p (aB s p-224) 2*64+aB s (p+2)-128:=iG _ _ _ 2 (by omega);rw[vB]at e2;rw[e2]at e3;have c1:=hc 1 (by omega) (by omega);have c2:=hc 2 (by omega) (by omega);rw[e3,j4];unfold aB at*;have ed:Utf8.decode s p=if(s.get! p).toNat %16*4096+(s.get! (p+1)).toNat %64*64+(s.get! (p+2)).toNat %64≥2048∧((s.get! p).toNat %16*4096+(s.get! (p+1)).toNat %64*64+(s.get! (p+2)).toNat %64<55296∨(57344≤(s.get! p).toNat %16*4096+(s.get! (p+1)).toNat %64*64+(s.get! (p+2)).toNat %64∧(s.get! p).toNat %16*4096+(s.get! (p+1)).toNat %64*64+(s.get! (p+2)).toNat %64≤1114111))then((s.get! p).toNat %16*4096+(s.get! (p+1)).toNat %64*64+(s.get! (p+2)).toNat %64,3)else(65533,1) :=by rw[jb];unfold Lib.decodeN;rw[if_neg (by omega),if_neg (by omega),if_pos (by omega)]
 constructor;·intro hv;rw[if_pos (by omega)]at ed;have:=uQ s p _ 3 ed (by omega);omega
 ·intro hv;rw[if_neg (by omega)]at ed;exact qX s p ed
theorem afr(s:ByteArray)(p:Nat)(h:240≤aB s p)(hs:p+4≤s.size)(hc:oo s p 4) :(65536≤fI s p (aB s p-240) 4∧fT (fI s p (aB s p-240) 4)=true→qo s p=fI s p (aB s p-240) 4∧pE s p=4)∧(¬(65536≤fI s p (aB s p-240) 4∧fT (fI s p (aB s p-240) 4)=true)→qo s p=0∧pE s p=0) :=by
 have e2:fI s p (aB s p-240) 2=fI s p (aB s p-240) 1*64+aB s (p+1)-128:=iG _ _ _ 1 (by omega);have e3:fI s p (aB s p-240) 3=fI s p (aB s p-240) 2*64+aB s (p+2)-128:=iG _ _ _ 2 (by omega);have e4:fI s p (aB s p-240) 4=fI s p (aB s p-240) 3*64+aB s (p+3)-128:=iG _ _ _ 3 (by omega);rw[vB]at e2;rw[e2]at e3;rw[e3]at e4;have c1:=hc 1 (by omega) (by omega);have c2:=hc 2 (by omega) (by omega);have c3:=hc 3 (by omega) (by omega);have bd:=jP s p;rw[e4,j4];unfold aB at*;by_cases h8:(s.get! p).toNat<248
 ·have ed:Utf8.decode s p=if(s.get! p).toNat %8*262144+(s.get! (p+1)).toNat %64*4096+(s.get! (p+2)).toNat %64*64+(s.get! (p+3)).toNat %64≥65536∧((s.get! p).toNat %8*262144+(s.get! (p+1)).toNat %64*4096+(s.get! (p+2)).toNat %64*64+(s.get! (p+3)).toNat %64<55296∨(57344≤(s.get! p).toNat %8*262144+(s.get! (p+1)).toNat %64*4096+(s.get! (p+2)).toNat %64*64+(s.get! (p+3)).toNat %64∧(s.get! p).toNat %8*262144+(s.get! (p+1)).toNat %64*4096+(s.get! (p+2)).toNat %64*64+(s.get! (p+3)).toNat %64≤1114111))then((s.get! p).toNat %8*262144+(s.get! (p+1)).toNat %64*4096+(s.get! (p+2)).toNat %64*64+(s.get! (p+3)).toNat %64,4)else(65533,1) :=by rw[jb];unfold Lib.decodeN;rw[if_neg (by omega),if_neg (by omega),if_neg (by omega),if_pos (by omega)]
  constructor;·intro hv;rw[if_pos (by omega)]at ed;have:=uQ s p _ 4 ed (by omega);omega
  ·intro hv;rw[if_neg (by omega)]at ed;exact qX s p ed
 ·have ed:Utf8.decode s p=(65533,1) :=by rw[jb];unfold Lib.decodeN;rw[if_neg (by omega),if_neg (by omega),if_neg (by omega),if_neg (by omega)]
  exact⟨fun hv=>by exfalso;omega,fun _=>qX s p ed⟩
def runesFrom(s:ByteArray) :Nat→Nat→List Int
 |0,_=>[]
 |f+1,p=>if p<s.size then((Utf8.decode s p).1:Int) ::runesFrom s f (p+(Utf8.decode s p).2)else[]
def runes(s:ByteArray) :List Int:=runesFrom s s.size 0
def dW(s:ByteArray)(p:Nat) :Bool:=Lib.validD (s.data.toList.drop p)
def bM(s:ByteArray) :Bool:=Lib.validD s.data.toList
theorem fP(s:ByteArray) :s.data.toList.length=s.size:=(Lib.size_eq s).symm
theorem lS(s:ByteArray) :dW s 0=bM s:=by simp[dW,bM]
theorem IK(s:ByteArray)(p:Nat)(h: ¬p<s.size) :dW s p=true:=by have:s.data.toList.drop p= [] :=List.drop_of_length_le (by rw[fP];omega);rw[dW,this];rfl
theorem FN(s:ByteArray)(p:Nat)(h:p<s.size) :dW s p=if bad s p then false else dW s (p+(Utf8.decode s p).2) :=by
 have hne:s.data.toList.drop p≠ [] :=by intro e;have:=congrArg List.length e;rw[List.length_drop,fP]at this;simp at this;omega
 rw[dW,Lib.validD_step _ hne,Lib.decodeL_drop,List.drop_drop];rfl
theorem IQ(s:ByteArray)(p:Nat)(h:p<s.size)(hb:bad s p) :dW s p=false:=by rw[FN s p h,if_pos hb]
theorem lZ(s:ByteArray)(p:Nat)(h:p<s.size)(hb: ¬bad s p) :dW s (p+(Utf8.decode s p).2)=dW s p:=by rw[FN s p h,if_neg hb]
theorem width_le(s:ByteArray)(p:Nat)(h:p<s.size) :1≤(Utf8.decode s p).2∧p+(Utf8.decode s p).2≤s.size:=by
 have hne:s.data.toList.drop p≠ [] :=by intro e;have:=congrArg List.length e;rw[List.length_drop,fP]at this;simp at this;omega
 have h1:=Lib.decodeL_width (s.data.toList.drop p);have h2:=Lib.decodeL_le (s.data.toList.drop p) hne;rw[Lib.decodeL_drop]at h1 h2;rw[List.length_drop,fP]at h2;omega
theorem rune_le(s:ByteArray)(p:Nat) :(Utf8.decode s p).1≤1114111:=by have:=Lib.decodeL_rune (s.data.toList.drop p);rw[Lib.decodeL_drop]at this;exact this
theorem runesFrom_end(s:ByteArray)(f p:Nat)(h: ¬p<s.size) :runesFrom s f p= [] :=by
 cases f with
 |zero=>rfl
 |succ f=>simp[runesFrom,h]
theorem eU(s:ByteArray)(f p:Nat)(h:p<s.size) :runesFrom s (f+1) p=((Utf8.decode s p).1:Int) ::runesFrom s f (p+(Utf8.decode s p).2) :=by simp[runesFrom,h]
theorem Bl(s:ByteArray) : ∀f p,(runesFrom s f p).length≤f
 |0,_=>by simp[runesFrom]
 |f+1,p=>by
  by_cases h:p<s.size;·rw[eU s f p h,List.length_cons];have:=Bl s f (p+(Utf8.decode s p).2);omega
  ·rw[runesFrom_end s _ p h];simp
theorem mG(s:ByteArray) :(runes s).length≤s.size:=Bl s _ _
theorem WY(s:ByteArray)(p:Nat)(hb: ¬bad s p) :pE s p=((Utf8.decode s p).2:Int) :=by rw[pE,if_neg hb]
theorem XL(s:ByteArray)(p:Nat)(hb: ¬bad s p) :qo s p=((Utf8.decode s p).1:Int) :=by rw[qo,if_neg hb]
theorem Zl(s:ByteArray)(p:Nat)(hb:bad s p) :pE s p=0:=by rw[pE,if_pos hb]
def oG(s:ByteArray) :List Int:=if bM s=true then runes s else[]
def di(s:ByteArray) :List Int:=if 65536<s.size then[]else oG s
def aJ(s:ByteArray) :Int:=if 65536<s.size then 2 else if bM s=true then 0 else 3
theorem Y2(s:ByteArray) :(oG s).length≤s.size:=by
 unfold oG;split;·exact mG s
 ·simp
theorem Ej(s:ByteArray) :(di s).length≤65536:=by
 unfold di;split;·simp
 ·have:=Y2 s;omega
theorem Na(n b0 b1 b2 b3:Nat)(h: ¬Lib.decodeN n b0 b1 b2 b3=(65533,1)) :fT ((Lib.decodeN n b0 b1 b2 b3).1:Int)=true:=by
 revert h;unfold Lib.decodeN;repeat' split
 all_goals intro h
 all_goals first| (exact absurd rfl h)| (rw[j4];simp only;omega)
theorem vW(s:ByteArray)(p:Nat)(h: ¬bad s p) :fT ((Utf8.decode s p).1:Int)=true:=by rw[Gi,jb]at h;rw[jb];exact Na _ _ _ _ _ h
theorem pM(s:ByteArray)(p:Nat)(h:p<s.size)(hv:dW s p=true) : ¬bad s p:=by intro hb;rw[IQ s p h hb]at hv;cases hv
theorem Ao(s:ByteArray) : ∀f p,dW s p=true→∀r∈runesFrom s f p,fT r=true
 |0,_,_,r,hr=>by simp[runesFrom]at hr
 |f+1,p,hv,r,hr=>by
  by_cases h:p<s.size
  ·have hg:=pM s p h hv;rw[eU s f p h]at hr;rcases List.mem_cons.1 hr with rfl|hr;·exact vW s p hg
   ·exact Ao s f _ (by rw[lZ s p h hg];exact hv) r hr
  ·rw[runesFrom_end s _ p h]at hr;cases hr
theorem wO(s:ByteArray)(hv:bM s=true) : ∀r∈runes s,fT r=true:=Ao s _ _ (by rw[lS];exact hv)
def dN(r:Int) :Int:=if(65≤r∧r≤90)∨(192≤r∧r≤222∧r≠215)∨(913≤r∧r≤939∧r≠930)∨(1040≤r∧r≤1071)then r+32 else if 1024≤r∧r≤1039 then r+80 else r
def dV(r:Int) :Int:=if 224≤r∧r≤229 then 97 else if r=231 then 99 else if 232≤r∧r≤235 then 101 else if 236≤r∧r≤239 then 105 else if r=241 then 110 else if(242≤r∧r≤246)∨r=248 then 111 else if 249≤r∧r≤252 then 117 else if r=253∨r=255 then 121 else r
def dG(r:Int) :Int:=dV (dN r)
theorem QM(r:Int) :dV r=r∨(97≤dV r∧dV r≤121) :=by
 unfold dV;repeat' split
 all_goals omega
theorem JK(r:Int)(h:fT r=true) :0≤dG r∧dG r≤1114111∧fT (dG r)=true:=by
 rw[j4]at h;have:(0≤dG r∧dG r≤1114111∧(dG r<55296∨57343<dG r)) :=by
  have hs:0≤dN r∧dN r≤1114111∧(dN r<55296∨57343<dN r) :=by
   unfold dN;repeat' split
   all_goals omega
  have ha:=QM (dN r);unfold dG;omega
 exact⟨this.1,this.2.1,(j4 _).2 this⟩
def dZ(r:Int) :Int:=if(65≤r∧r≤90)∨(97≤r∧r≤122)∨(192≤r∧r≤591∧r≠215∧r≠247)∨(880≤r∧r≤1279)then 1 else if 48≤r∧r≤57 then 2 else if r=39∨r=95 then 3 else if(12352≤r∧r≤12543)∨(19968≤r∧r≤40959)then 4 else 0
end Go.Proofs.YtcjiphknpagenaaGreatDoor
