import Derived.Lib.ItoaNum
import Derived.Lib.BufferWrite
import Derived.Test.YtcjiphknpagenaaGreatDoorDocsJ05
namespace Go.Proofs.YtcjiphknpagenaaGreatDoor
open Go Go.RowKit
set_option linter.unusedVariables false
set_option linter.unusedSimpArgs false
set_option maxRecDepth 100000
set_option maxHeartbeats 2000000
def aZ(v:Nat) :List UInt8:=if v<128 then[UInt8.ofNat v]else UInt8.ofNat (128+v %128) ::aZ (v/128)termination_by v decreasing_by omega
theorem lW(v:Nat)(h:v<128) :aZ v= [UInt8.ofNat v] :=by rw[aZ,if_pos h]
theorem sZ(v:Nat)(h: ¬v<128) :aZ v=UInt8.ofNat (128+v %128) ::aZ (v/128) :=by rw[aZ,if_neg h]
theorem nX(v:Nat) :1≤(aZ v).length:=by
 by_cases h:v<128;·rw[lW v h];simp
 ·rw[sZ v h];simp
theorem MS(k:Nat) : ∀v,v<128^(k+1)→(aZ v).length≤k+1:=by
 induction k with
 |zero=>intro v h;rw[lW v (by simpa using h)];simp
 |succ k ih=>
  intro v h;by_cases hv:v<128;·rw[lW v hv];simp
  ·rw[sZ v hv];have:v/128<128^(k+1) :=Nat.div_lt_of_lt_mul (by rw[Nat.pow_succ]at h;omega);have:=ih _ this;simp;omega
theorem bO(v:Nat)(h:v<4611686018427387904) :(aZ v).length≤9:=MS 8 v (Nat.lt_trans h (by decide))
def oL:List UInt8→Nat→Nat→Option (Nat×Nat)
 | [],_,_=>none
 |c::t,n,v=>if 9≤n∨(n=8∧63<c.toNat)then none else if c.toNat<128 then(if n=0∨0<c.toNat then some (v+c.toNat %128*128^n,n+1)else none)else oL t (n+1) (v+c.toNat %128*128^n)
def mE(bs:List UInt8) :Option (Nat×Nat) :=oL bs 0 0
theorem abt(n:Nat)(h:9≤n) :9223372036854775808≤128^n:=by have:128^9≤128^n:=Nat.pow_le_pow_right (by omega) h;simpa using this
theorem We(n:Nat)(h:8≤n) :72057594037927936≤128^n:=by have:128^8≤128^n:=Nat.pow_le_pow_right (by omega) h;simpa using this
theorem ofNat_toNat(v:Nat)(h:v<256) :(UInt8.ofNat v).toNat=v:=by simp;omega
theorem SG(x:Nat) : ∀(rest:List UInt8)(n v:Nat),x*128^n<4611686018427387904→(n=0∨0<x)→oL (aZ x++rest) n v=some (v+x*128^n,n+(aZ x).length) :=by
 induction x using Nat.strongRecOn with
 |_ x ih=>
  intro rest n v hx hn;by_cases h:x<128
  ·rw[lW x h];simp only[List.cons_append,List.nil_append,oL];rw[ofNat_toNat x (by omega)];have h1: ¬(9≤n∨(n=8∧63<x)) :=by
    rintro(h9| ⟨rfl,h8⟩)
    ·have:=abt n h9;rcases hn with rfl|hp;·omega
     ·have:1*128^n≤x*128^n:=Nat.mul_le_mul_right _ hp;omega
    ·omega
   rw[if_neg h1,if_pos h,if_pos hn,Nat.mod_eq_of_lt h];simp
  ·rw[sZ x h];simp only[List.cons_append,oL];rw[ofNat_toNat _ (by omega)];have h1: ¬(9≤n∨(n=8∧63<128+x %128)) :=by
    intro hh;have h8:8≤n:=by omega
    have:=We n h8;have:128*128^n≤x*128^n:=Nat.mul_le_mul_right _ (by omega);omega
   have e:=Nat.div_add_mod x 128;have key:x/128*128^(n+1)+x %128*128^n=x*128^n:=by rw[Nat.pow_succ];grind
   rw[if_neg h1,if_neg (by omega),ih (x/128) (by omega) rest (n+1) _ (by omega) (by omega)];have e2:(128+x %128) %128=x %128:=by omega
   rw[e2];simp only[List.length_cons,Option.some.injEq,Prod.mk.injEq];omega
theorem Sn(bs:List UInt8) : ∀(n v v' n':Nat),oL bs n v=some (v',n')→∃x,bs.take (n'-n)=aZ x∧v'=v+x*128^n∧(n=0∨0<x)∧x*128^n<4611686018427387904∧n'=n+(aZ x).length:=by
 induction bs with
 |nil=>intro n v v' n' h;simp[oL]at h
 |cons c t ih=>
  intro n v v' n' h;rw[oL]at h;have hc:c.toNat<256:=c.toNat_lt;split at h;·cases h
  ·rename_i h1;split at h
   ·rename_i h2;split at h
    ·rename_i h3;simp only[Option.some.injEq,Prod.mk.injEq]at h;obtain⟨rfl,rfl⟩ :=h;have hp:aZ c.toNat= [c] :=by rw[lW _ h2];simp
     refine⟨c.toNat,?_,by rw[Nat.mod_eq_of_lt h2],h3,?_,by rw[hp];rfl⟩;·rw[hp];simp
     ·by_cases h8:n=8;·subst h8;omega
      ·have:128^n≤128^7:=Nat.pow_le_pow_right (by omega) (by omega);have:c.toNat*128^n≤127*128^7:=Nat.mul_le_mul (by omega) this;omega
    ·cases h
   ·rename_i h2;obtain⟨x,h3,rfl,h4,h5,h6⟩ :=ih _ _ _ _ h;have h4':0<x:=by omega
    have hp:aZ (x*128+c.toNat %128)=c::aZ x:=by
     rw[sZ _ (by omega)];have e1:(x*128+c.toNat %128) %128=c.toNat %128:=by omega
     have e2:(x*128+c.toNat %128) /128=x:=by omega
     have e3:128+c.toNat %128=c.toNat:=by omega
     rw[e1,e2,e3];simp
    refine⟨x*128+c.toNat %128,?_,?_,Or.inr (by omega),?_,?_⟩
    ·rw[hp];have:n'-n=(n'-(n+1))+1:=by omega
     rw[this,List.take_succ_cons,h3]
    ·rw[Nat.pow_succ];grind
    ·by_cases h7:n≤7
     ·have hq:x*128^n*128<4611686018427387904:=by rw[Nat.pow_succ]at h5;grind
      have hq2:x*128^n<36028797018963968:=by omega
      have e:(x*128+c.toNat %128)*128^n=x*128^n*128+c.toNat %128*128^n:=by grind
      rw[e];have hP:0<128^n:=Nat.pow_pos (by omega);have hr:c.toNat %128*128^n<128^(n+1) :=by rw[Nat.pow_succ,Nat.mul_comm (128^n)];exact Nat.mul_lt_mul_of_pos_right (by omega) hP
      have hd:128^(n+1) ∣4611686018427387904:=by
       have:(4611686018427387904:Nat)=128^8*64:=by decide
       rw[this];exact Nat.dvd_trans (Nat.pow_dvd_pow 128 (by omega)) (Nat.dvd_mul_right _ _)
      obtain⟨q,hq3⟩ :=hd;have e4:x*128^n*128=128^(n+1)*x:=by rw[Nat.pow_succ];grind
      have hxq:x<q:=by rw[hq3,e4]at hq;exact Nat.lt_of_mul_lt_mul_left hq
      have:128^(n+1)*(x+1)≤128^(n+1)*q:=Nat.mul_le_mul_left _ hxq;rw[e4];rw[Nat.mul_add,Nat.mul_one]at this;omega
     ·exfalso;have h8:n=8:=by omega
      subst h8;omega
    ·rw[hp,List.length_cons];omega
theorem VV(x:Nat)(rest:List UInt8)(h:x<4611686018427387904) :mE (aZ x++rest)=some (x,(aZ x).length) :=by have:=SG x rest 0 0 (by simpa using h) (Or.inl rfl);simpa[mE]using this
theorem JY {bs:List UInt8} {v n:Nat}(h:mE bs=some (v,n)) :bs.take n=aZ v∧v<4611686018427387904∧n=(aZ v).length:=by
 obtain⟨x,h1,h2,h3,h4,h5⟩ :=Sn bs 0 0 v n h;have e:v=x:=by simpa using h2
 subst e;simp at h1 h4 h5;exact⟨h1,h4,h5⟩
theorem Nv {bs:List UInt8} {v n:Nat}(h:mE bs=some (v,n)) :n≤bs.length∧n≤9∧1≤n:=by
 obtain⟨h1,h2,h3⟩ :=JY h;have:=bO v h2;have:=nX v;have:(bs.take n).length=n:=by rw[h1,h3]
 rw[List.length_take]at this;omega
def AO(v:Nat) :Int:=if v %2=1 then-(((v+1) /2:Nat) :Int)else((v/2:Nat) :Int)
def jV(most:Nat)(bs:List UInt8) :Option (Nat×List UInt8) :=match mE bs with
 |none=>none
 |some (v,s)=>if v≤most then some (v,bs.drop s)else none
def oK(bs:List UInt8) :Option (List UInt8×List UInt8) :=match jV 65536 bs with
 |none=>none
 |some (n,r)=>if n≤r.length then some (r.take n,r.drop n)else none
def oI:Nat→List UInt8→Option (List (List UInt8) ×List UInt8)
 |0,bs=>some ([],bs)
 |k+1,bs=>match oK bs with
 |none=>none
 |some (t,r)=>match oI k r with
 |none=>none
 |some (ts,r')=>some (t::ts,r')
def nL:Nat→List UInt8→Option (List Int×List UInt8)
 |0,bs=>some ([],bs)
 |k+1,bs=>match jV 2000000000000 bs with
 |none=>none
 |some (v,r)=>match nL k r with
 |none=>none
 |some (zs,r')=>some (AO v::zs,r')
def tX(bs:List UInt8) :Option ((List UInt8×List (List UInt8) ×List Int) ×List UInt8) :=match oK bs with
 |none=>none
 |some (f,r1)=>match jV 4096 r1 with
 |none=>none
 |some (n,r2)=>match oI n r2 with
 |none=>none
 |some (tx,r3)=>match jV 4096 r3 with
 |none=>none
 |some (m,r4)=>match nL m r4 with
 |none=>none
 |some (zs,r5)=>some ((f,tx,zs),r5)
def pg:Nat→List UInt8→Option (List (List UInt8×List (List UInt8) ×List Int) ×List UInt8)
 |0,bs=>some ([],bs)
 |k+1,bs=>match tX bs with
 |none=>none
 |some (v,r)=>match pg k r with
 |none=>none
 |some (vs,r')=>some (v::vs,r')
def qa(bs:List UInt8) :Option ((List UInt8×List (List UInt8×List (List UInt8) ×List Int)) ×List UInt8) :=match oK bs with
 |none=>none
 |some (i,r1)=>match jV 4096 r1 with
 |none=>none
 |some (n,r2)=>match pg n r2 with
 |none=>none
 |some (V,r3)=>some ((i,V),r3)
def CK(bs:List UInt8) :Option (List UInt8×List (List UInt8×List (List UInt8) ×List Int)) :=match qa bs with
 |some (d,[])=>some d
 |_=>none
theorem tu {most:Nat} {bs:List UInt8} {v:Nat} {r:List UInt8}(h:jV most bs=some (v,r)) :r.length<bs.length∧v≤most:=by
 unfold jV at h;cases hg:mE bs with
 |none=>rw[hg]at h;simp at h
 |some p=>
  obtain⟨v',s⟩ :=p;rw[hg]at h;have hs:=Nv hg;simp only at h;split at h;·rename_i hle;simp only[Option.some.injEq,Prod.mk.injEq]at h;obtain⟨rfl,rfl⟩ :=h;exact⟨by rw[List.length_drop];omega,hle⟩
  ·simp at h
theorem Gz {bs t r:List UInt8}(h:oK bs=some (t,r)) :r.length+t.length<bs.length∧t.length≤65536:=by
 unfold oK at h;cases hg:jV 65536 bs with
 |none=>rw[hg]at h;simp at h
 |some p=>
  obtain⟨n,r'⟩ :=p;rw[hg]at h;have hs:=tu hg;simp only at h;split at h;·rename_i hle;simp only[Option.some.injEq,Prod.mk.injEq]at h;obtain⟨rfl,rfl⟩ :=h;simp only[List.length_drop,List.length_take];omega
  ·simp at h
theorem Tryz.infoByte:(Tryz.prog.info? 5).map (fun i=>(i.zero,i.size,i.bytes))=some (some (.int .u8 0),1,1) :=by kernel_rfl
def nO(w w':World)(v v':Value) :Prop:=w.grownBy w' v.ownBlock∧(v'.ownBlock=v.ownBlock∨∃k,v'.ownBlock=some k∧w.heap.size≤k)
theorem nO.refl(w:World)(v:Value) :nO w w v v:=⟨zi _ _,Or.inl rfl⟩
theorem nO.trans {a b c:World} {u v x:Value}(h:nO a b u v)(k:nO b c v x) :nO a c u x:=by
 obtain⟨h1,h2⟩ :=h;obtain⟨k1,k2⟩ :=k;refine⟨⟨k1.os.trans h1.os,k1.tape.trans h1.tape,k1.output.trans h1.output,Nat.le_trans h1.size k1.size,fun i hi hne=> ?_⟩,?_⟩
 ·refine(k1.block i (Nat.lt_of_lt_of_le hi h1.size) ?_).trans (h1.block i hi hne);rcases h2 with e| ⟨k,e,hk⟩;·rw[e];exact hne
  ·rw[e];intro e2;cases e2;omega
 ·rcases k2 with e| ⟨k,e,hk⟩
  ·rw[e];rcases h2 with e2| ⟨k',e2,hk'⟩;·exact Or.inl e2
   ·exact Or.inr ⟨k',e2,hk'⟩
  ·exact Or.inr ⟨k,e,Nat.le_trans h1.size hk⟩
theorem nO.alloc {a b:World} {u v:Value}(h:nO a b u v)(o:Obj) :nO a (b.alloc o) u v:=⟨⟨h.1.os,h.1.tape,h.1.output,by have:=h.1.size;simp;omega,fun i hi hne=>by rw[Below.heap_alloc _ _ _ (Nat.lt_of_lt_of_le hi h.1.size)];exact h.1.block i hi hne⟩,h.2⟩
theorem nO.of {w w1 w':World} {v v':Value}(h1:nO w w1 v v)(hg:w1.grownBy w' v.ownBlock)(ha:v'.ownBlock=v.ownBlock∨v'.ownBlock=some w1.heap.size) :nO w w' v v':=by
 refine h1.trans ⟨hg,?_⟩;rcases ha with e|e;·exact Or.inl e
 ·exact Or.inr ⟨_,e,Nat.le_refl _⟩
theorem uX(x:Nat)(h:x<256) :Lib.byteCells [UInt8.ofNat x]= [Value.int .u8 (x:Int)] :=by simp[Lib.byteCells];omega
theorem AL(l:List UInt8)(j:Nat)(h:j<l.length) :(Lib.byteCells l)[j]?=some (.int .u8 ((l.getD j 0).toNat:Int)) :=by simp[Lib.byteCells,h]
def BytesAt(w:World)(b off:Nat)(bs:List UInt8) :Prop:=∀t,t<bs.length→w.cell? ⟨b,off+t,none⟩=some (.int .u8 ((bs.getD t 0).toNat:Int))
theorem BytesAt.below {w w':World} {b off:Nat} {bs:List UInt8}(h:BytesAt w b off bs)(hb:Below w.heap.size w w') :BytesAt w' b off bs:=fun t ht=>(hb.cell (p:=⟨b,off+t,none⟩) (cell_lt (h t ht))).trans (h t ht)
theorem nK {w:World} {base e g n cap:Nat} {l:List UInt8}(h:w.ownsRow base e 1 (.slice (some ⟨g,0,none⟩) n cap) n (Lib.byteCells l))(hl:l.length=n) :BytesAt w g 0 l:=by intro t ht;rw[Nat.zero_add,h.cellAt t (by omega)];exact AL l t ht
theorem Jg(base n:Nat)(v:Value)(l:List UInt8)(x:Nat)(w:World)(hx:x<4611686018427387904)(hl:l.length=n)(hn:n≤1099511627776)(hb:base≤w.heap.size)(h:w.ownsRow base 5 1 v n (Lib.byteCells l)) :Calls Tryz.prog 23 #[v,.int .i64 (x:Int)] w fun e w'=>∃v',e= .returned v'∧w'.ownsRow base 5 1 v' (n+(aZ x).length) (Lib.byteCells (l++aZ x))∧nO w w' v v'∧v'≠ .slice none 0 0:=by
 obtain⟨i0,hi,hz0,hz1,hz2⟩ :=info_parts Tryz.infoByte;have HO:=aa h;clear h;go_enter Tryz.func23,Tryz.ntmps23;go_wp2;go_loopw [0,5](fun u r wr=>∃(y:Nat)(q:List UInt8),y≤x∧r= .int .u64 (y:Int)∧q++aZ y=l++aZ x∧wr.ownsRow base 5 1 u q.length (Lib.byteCells q)∧nO w wr v u)(fun _ r _=>(intOf r).toNat);case atStart=>exact⟨x,l,Nat.le_refl _,by go_num,rfl,by rw[hl];exact HO.out,nO.refl _ _⟩
 case round=>
  obtain⟨y,q,hy,rfl,hq,hown,hg⟩ :=hrel;have cu:=aa hown;have HG:=aa hg;have Hq:=aa hq;have hlen:q.length≤n+9:=by have:=congrArg List.length hq;rw[List.length_append,List.length_append]at this;have:=bO x hx;have:=nX y;omega
  clear hown hg hq;by_cases hlt:y<128
  ·have hlz: ¬(127:Int)<(y:Int) :=by omega
   go_wp2_with(at_builtin;refine wpList_append_own_at _ rfl _ _ 22 rfl base 5 i0 (.int .u8 0) 1 1 Tryz.underlying22 hi hz0 hz1 hz2 rfl (by decide) _ _ _ rfl (cu.out.alloc _) ⟨wr.heap.size,0,none⟩ 1 1 [.int .u8 (y:Int)] rfl rfl ?c1 ?c2 ?c3 ?c4 ?c5 ?_);try
    case c1=>
     intro j u hj;match j,hj with
     |0,hj=>simp at hj;subst hj;simp[Addr.add]
   case c2=>first|rfl| (intro u hu;simp at hu;subst hu;rfl)
   case c3=>unfold maxLen;omega
   case c4=>omega
   case c5=>have:=HG.out.1.size;simp;omega
   intro v' w5 hown' hgrow hne hat;have R:Hid (w5.ownsRow base 5 1 v' (n+(aZ x).length) (Lib.byteCells (l++aZ x))∧nO w w5 v v'∧v'≠ .slice none 0 0) :=by
    refine⟨?_,HG.out.trans (((nO.refl wr u0).alloc _).of hgrow (by simpa using hat)),?_⟩
    ·rw[←Hq.out,lW y hlt,Lib.byteCells_append,uX y (by omega)];have e:n+(aZ x).length=q.length+1:=by have:=congrArg List.length Hq.out;rw[List.length_append,List.length_append,lW y hlt]at this;simp at this;omega
     rw[e];exact hown'
    ·first|exact hne| (intro e;have:=(hne.1 e).2;omega)
   clear hown' hgrow hat hne;go_wp2;go_ret;exact⟨_,rfl,R.out.1,R.out.2.1,R.out.2.2⟩
  ·have hlz:(127:Int)<(y:Int) :=by omega
   obtain⟨z,hz,hbz⟩ : ∃z:Nat,z=128+y %128∧bits .or .u64 (bits .and .u64 (y:Int) 127) 128=(z:Int) :=by
    refine⟨_,rfl,?_⟩;have h1:bits .and .u64 (y:Int) 127=((y %128:Nat) :Int) :=by have:=u64_and_nat y 127 (by omega) (by omega);rw[nat_mask7]at this;exact this
    have h2:bits .or .u64 ((y %128:Nat) :Int) 128=((128+y %128:Nat) :Int) :=by have h3:=u64_or_nat (y %128) 128 (by omega) (by omega);rw[Nat.or_comm,nat_join 7 128 (y %128) (by decide) (by omega)]at h3;exact h3
    rw[h1,h2]
   have ait:z<256:=by omega
   have Hz:=aa hz;clear hz;go_wp2_with(at_builtin;refine wpList_append_own_at _ rfl _ _ 22 rfl base 5 i0 (.int .u8 0) 1 1 Tryz.underlying22 hi hz0 hz1 hz2 rfl (by decide) _ _ _ rfl (cu.out.alloc _) ⟨wr.heap.size,0,none⟩ 1 1 [.int .u8 (z:Int)] rfl rfl ?d1 ?d2 ?d3 ?d4 ?d5 ?_);try
    case d1=>
     intro j u hj;match j,hj with
     |0,hj=>simp at hj;subst hj;simp[Addr.add]
   case d2=>first|rfl| (intro u hu;simp at hu;subst hu;rfl)
   case d3=>unfold maxLen;omega
   case d4=>omega
   case d5=>have:=HG.out.1.size;simp;omega
   intro v' w5 hown' hgrow hne hat;have R:Hid (w5.ownsRow base 5 1 v' (q++ [UInt8.ofNat (128+y %128)]).length (Lib.byteCells (q++ [UInt8.ofNat (128+y %128)]))∧nO w w5 v v'∧(q++ [UInt8.ofNat (128+y %128)])++aZ (y/128)=l++aZ x) :=by
    refine⟨?_,HG.out.trans (((nO.refl wr u0).alloc _).of hgrow (by simpa using hat)),?_⟩;·rw[Lib.byteCells_append,uX _ (by omega),List.length_append,←Hz.out];exact hown'
    ·rw[←Hq.out,sZ y hlt];simp
   clear hown' hgrow hat hne HG cu Hq;go_wp2;go_roundw;case rel=>exact⟨y/128,_,by omega,by go_num,R.out.2.2,R.out.1,R.out.2.1⟩
   case measure=>simp[intOf];omega
theorem xR(x:Nat) : ∀(w:World),x<4611686018427387904→Calls Tryz.prog 43 #[.int .i64 (x:Int)] w fun e w'=>∃g cap,e= .returned (.slice (some ⟨g,0,none⟩) (aZ x).length cap)∧w'.ownsRow w.heap.size 5 1 (.slice (some ⟨g,0,none⟩) (aZ x).length cap) (aZ x).length (Lib.byteCells (aZ x))∧Below w.heap.size w w':=by
 obtain⟨i0,hi,hz0,hz1,hz2⟩ :=info_parts Tryz.infoByte;induction x using Nat.strongRecOn with
 |_ x ih=>
  intro w hx;by_cases hlt:x<128
  ·have hlz:(x:Int)<128:=by omega
   have Hp:=aa (lW x hlt);clear ih;go_enter Tryz.func43,Tryz.ntmps43;go_wp2;go_ret;refine⟨w.heap.size,1,?_,?_,(Below.refl _ _).alloc (Nat.le_refl _) _⟩;·rw[Hp.out];rfl
   ·rw[Hp.out,uX x (by omega)];have:=World.ownsRow_lit (base:=w.heap.size) (e:=5) (size:=1) w #[.int .u8 (x:Int)] 1 (Nat.le_refl _) (by unfold maxLen;omega) (by simp);simpa using this
  ·have hlz: ¬(x:Int)<128:=by omega
   have IH:=aa (ih (x/128) (by omega));clear ih;have Hp:=aa (sZ x hlt);go_enter Tryz.func43,Tryz.ntmps43;go_wp2_with fail;refine(IH.out _ (by omega)).mono ?_;rintro e w1⟨g,cap,rfl,ho,hbl⟩;have hL:(w.alloc (.cells #[Value.int .u8 (128+(x:Int) %128)] 5)).ownsRow w.heap.size 5 1 (.slice (some ⟨w.heap.size,0,none⟩) 1 1) 1 [.int .u8 (128+(x:Int) %128)] :=by have:=World.ownsRow_lit (base:=w.heap.size) (e:=5) (size:=1) w #[.int .u8 (128+(x:Int) %128)] 1 (Nat.le_refl _) (by unfold maxLen;omega) (by simp);simpa using this
   have HL:=aa (own_below hL hbl);have HO:=aa ho;have HB:Hid (Below w.heap.size w w1) :=((Below.refl _ _).alloc (Nat.le_refl _) _).trans (hbl.mono (by simp));have Hc:Hid (∀j u,(Lib.byteCells (aZ (x/128)))[j]?=some u→w1.cell? ((⟨g,0,none⟩ :Addr).add j)=some u) :=by intro j u hj;rw[ko,ho.cellAt j (by have:=(List.getElem?_eq_some_iff.1 hj).1;rw[Lib.byteCells_length]at this;omega)];exact hj
   have hp9:=bO (x/128) (by omega);have hsz:=HB.out.size;clear hL ho hbl;go_wp2_with(at_builtin;refine wpList_append_own_at _ rfl _ _ 22 rfl w.heap.size 5 i0 (.int .u8 0) 1 1 Tryz.underlying22 hi hz0 hz1 hz2 rfl (by decide) _ _ _ rfl HL.out ⟨g,0,none⟩ (aZ (x/128)).length cap (Lib.byteCells (aZ (x/128))) rfl (by rw[Lib.byteCells_length,Nat.mul_one]) Hc.out (Lib.byteCells_one _) ?c3 ?c4 ?c5 ?_);case c3=>unfold maxLen;omega
   case c4=>omega
   case c5=>exact hsz
   intro v' w5 hown' hgrow hne hat;have R:Hid (w5.ownsRow w.heap.size 5 1 v' (aZ x).length (Lib.byteCells (aZ x))∧Below w.heap.size w w5) :=by
    refine⟨?_,HB.out.grown hgrow hsz (iM HL.out)⟩;have e1:(aZ x).length=1+(aZ (x/128)).length:=by rw[Hp.out,List.length_cons];omega
    have e2:Lib.byteCells (aZ x)= [.int .u8 (128+(x:Int) %128)]++Lib.byteCells (aZ (x/128)) :=by rw[Hp.out];show Lib.byteCells ([UInt8.ofNat (128+x %128)]++aZ (x/128))=_;rw[Lib.byteCells_append,uX _ (by omega)];simp
    rw[e1,e2];exact hown'
   clear hown' hgrow hat HL HO HB Hc;have hpos:=nX x;rcases fO R.out.1 with⟨rfl,h0⟩| ⟨g2,cap2,rfl,_,_⟩;·omega
   ·go_wp2;go_ret;exact⟨g2,cap2,rfl,R.out.1,R.out.2⟩
theorem nQ {W W':World} {bh:Nat} {l:List UInt8}(h:BytesAt W bh 0 l)(hb:Below W.heap.size W W') : ∀j u,(Lib.byteCells l)[j]?=some u→W'.cell? ((⟨bh,0,none⟩ :Addr).add j)=some u:=by
 intro j u hu;have hj:j<l.length:=by have:=(List.getElem?_eq_some_iff.1 hu).1;simpa[Lib.byteCells]using this
 rw[AL l j hj]at hu;have:=h.below hb j hj;rw[show(⟨bh,0,none⟩ :Addr).add j=⟨bh,0+j,none⟩from by simp only[Addr.add];split<;>simp_all,this];exact hu
theorem nT(l:List UInt8) : ∀u∈Lib.byteCells l,u.oneCell'=true:=by intro u hu;simp only[Lib.byteCells,List.mem_map]at hu;obtain⟨x,_,rfl⟩ :=hu;rfl
theorem o8 {w:World} {base e size n:Nat} {v:Value} {zs:List Value}(h:w.ownsRow base e size v n zs) : ∃a c,v= .slice a n c:=by
 rcases h.2 with⟨rfl,h0⟩| ⟨g,cap,cur,rfl,_⟩;·exact⟨none,0,by rw[h0]⟩
 ·exact⟨_,_,rfl⟩
def dK(t:List UInt8) :List UInt8:=aZ t.length++t
def rG(n:Int) :Nat:=if n<0 then(-2*n-1).toNat else(2*n).toNat
def mK(n:Int) :List UInt8:=aZ (rG n)
def lD(v:Vl) :List UInt8:=dK v.1++aZ v.2.1.length++v.2.1.flatMap dK++aZ v.2.2.length++v.2.2.flatMap mK
def yg(d:Dc) :List UInt8:=dK d.1++aZ d.2.length++d.2.flatMap lD
def mF(t:List UInt8) :Bool:=decide (t.length≤65536)
def dU(n:Int) :Bool:=decide (-1000000000000≤n∧n≤1000000000000)
def iU(v:Vl) :Bool:=decide (v.1.length≤65536∧v.2.1.length≤4096∧v.2.2.length≤4096) &&v.2.1.all mF&&v.2.2.all dU
def iT(d:Dc) :Bool:=decide (d.1.length≤65536∧d.2.length≤4096) &&d.2.all iU
def mh(d:Dc) :List UInt8×Int:=if iT d then(yg d,0)else([],12)
theorem strCells_eq(l:List UInt8) :Lib.strCells ⟨l.toArray⟩=Lib.byteCells l:=by simp[Lib.strCells,Lib.byteCells]
theorem FM {n:Int}(h:dU n=true) :rG n<4611686018427387904:=by simp[dU]at h;unfold rG;split<;>omega
def gG(w w':World) :Prop:=∀(Q:Nat)(cs:Array Value)(t:TypeId),t≠5→w.heap[Q]?=some (Obj.cells cs t)→w'.heap[Q]?=some (Obj.cells cs t)
theorem gG.refl(w:World) :gG w w:=fun _ _ _ _ h=>h
theorem gG.trans {a b c:World}(h:gG a b)(k:gG b c) :gG a c:=fun Q cs t ht hq=>k Q cs t ht (h Q cs t ht hq)
theorem gG.of {w w':World}(h:Below w.heap.size w w') :gG w w':=fun Q cs t _ hq=>aD hq h
theorem gG.grown {w w':World} {base n:Nat} {v:Value} {ys:List Value}(ho:w.ownsRow base 5 1 v n ys)(hg:w.grownBy w' v.ownBlock) :gG w w':=fun Q cs t ht hq=>Sq hq (Below.refl _ _) hg (fun e=>by obtain⟨_,cur,hc⟩ :=dH ho e;exact aa7 hc hq (Ne.symm ht) rfl)
theorem MN(base n:Nat)(v:Value)(M t:List UInt8)(w:World)(hM:M.length=n)(hn:n≤2000000000000)(ht:t.length≤65536)(h:w.ownsRow base 5 1 v n (Lib.byteCells M))(hb:base≤w.heap.size) :Calls Tryz.prog 42 #[v,.string ⟨t.toArray⟩] w fun e w'=>∃v',e= .returned v'∧w'.ownsRow base 5 1 v' (M++dK t).length (Lib.byteCells (M++dK t))∧Below base w w'∧gG w w':=by
 obtain⟨i1,hi1,hy0,hy1,hy2⟩ :=info_parts Tryz.infoByte;have HO:=aa h;have hsl:(⟨t.toArray⟩ :ByteArray).size=t.length:=by rw[Lib.size_eq]
 have HP:=aa (xR t.length w (by omega));have hpl:=bO t.length (by omega);have Hlen:Hid ((M++dK t).length=n+(aZ t.length).length+t.length) :=by show _=_;simp[dK,hM];omega
 clear h hM;go_enter Tryz.func42,Tryz.ntmps42;go_wp2_with fail;refine HP.out.mono ?_;rintro e w1⟨gp,cp,rfl,hop,hb1⟩;have HB1:=aa hb1;have lY:=aa (own_below HO.out hb1);have iO:=aa (nK hop rfl);have hp1:0<(aZ t.length).length:=nX _;generalize TD:aZ t.length=PR at*;have HPR:=aa TD;clear TD;have hz1:=hb1.size;clear hop hb1 HP HO;dsimp only;go_wp2_with(at_builtin;refine wpList_append_lies _ rfl (.tmp 5) (.tmp 8) 22 rfl base 5 i1 (.int .u8 0) 1 1 Tryz.underlying22 hi1 hy0 hy1 hy2 rfl (by decide) v n (Lib.byteCells M) rfl lY.out ⟨gp,0,none⟩ PR.length cp (Lib.byteCells PR) rfl (by simp[Lib.byteCells]) (nQ iO.out (Below.refl _ _)) (nT _) hp1 (by unfold maxLen;omega) (by omega) (by omega) _ rfl ?_);intro g6 bL w6 hown6 fE qd rW;have lQ:=aa hown6;have fu:Hid (Below base w w6) :=(HB1.out.mono hb).grown fE (by omega) (fun k hk=>(lY.out.lt k hk).1)
 have Tm:Hid (gG w w6) :=(gG.of HB1.out).trans (.grown lY.out fE);have Ad:=fE.size;clear hown6 fE qd rW;go_wp2_with(at_builtin;refine Lib.wpList_append_own_string _ rfl (.tmp 9) (.tmp 10) 22 9 rfl base 5 i1 Tryz.underlying22 Tryz.underlying9 hi1 hy0 hy1 hy2 (.slice (some ⟨g6,0,none⟩) (n+PR.length) bL) (n+PR.length) (Lib.byteCells M++Lib.byteCells PR) rfl lQ.out ⟨t.toArray⟩ rfl (by rw[hsl];unfold maxLen;omega) (by rw[hsl];omega) (by omega) ?_);intro v7 w7 fJ kZ Qn;rw[strCells_eq]at fJ;have jy:=aa fJ;have gF:Hid (Below base w w7) :=fu.out.grown kZ (by omega) (fun k hk=>(lQ.out.lt k hk).1);have HK7:Hid (gG w w7) :=Tm.out.trans (.grown lQ.out kZ);clear fJ kZ Qn;go_wp2_with fail;go_ret;refine⟨v7,rfl,?_,gF.out,HK7.out⟩;have e:Lib.byteCells (M++dK t)=Lib.byteCells M++(Lib.byteCells PR++Lib.byteCells t) :=by rw[dK,HPR.out,Lib.byteCells_append,Lib.byteCells_append]
 rw[Hlen.out,e];exact jy.out
theorem Jm(base n:Nat)(v:Value)(M:List UInt8)(z:Int)(w:World)(hM:M.length=n)(hn:n≤2000000000000)(hz:dU z=true)(h:w.ownsRow base 5 1 v n (Lib.byteCells M))(hb:base≤w.heap.size) :Calls Tryz.prog 44 #[v,.int .i64 z] w fun e w'=>∃v',e= .returned v'∧w'.ownsRow base 5 1 v' (M++mK z).length (Lib.byteCells (M++mK z))∧Below base w w'∧gG w w':=by
 obtain⟨i1,hi1,hy0,hy1,hy2⟩ :=info_parts Tryz.infoByte;have HO:=aa h;have HP:=aa (xR (rG z) w (FM hz));have hpl:=bO (rG z) (FM hz);have hp1:0<(aZ (rG z)).length:=nX _;have Hlen:Hid ((M++mK z).length=n+(aZ (rG z)).length) :=by show _=_;simp[mK,hM]
 have He:Hid (Lib.byteCells (M++mK z)=Lib.byteCells M++Lib.byteCells (aZ (rG z))) :=by show _=_;rw[mK,Lib.byteCells_append]
 simp[dU]at hz;have hU:((rG z:Nat) :Int)=if z<0 then-2*z-1 else 2*z:=by unfold rG;split<;>omega
 clear h hM;generalize aZ (rG z)=PR at*;rw[hU]at HP;clear hU;go_enter Tryz.func44,Tryz.ntmps44;by_cases hz0:z<0;·rw[if_pos hz0]at HP;go_wp2_with fail;refine HP.out.mono ?_;rintro e w1⟨gp,cp,rfl,hop,hb1⟩;have HB1:=aa hb1;have lY:=aa (own_below HO.out hb1);have iO:=aa (nK hop rfl);have hz1:=hb1.size;clear hop hb1 HP HO;dsimp only;go_wp2_with(at_builtin;refine wpList_append_lies _ rfl (.tmp 7) (.tmp 11) 22 rfl base 5 i1 (.int .u8 0) 1 1 Tryz.underlying22 hi1 hy0 hy1 hy2 rfl (by decide) v n (Lib.byteCells M) rfl lY.out ⟨gp,0,none⟩ PR.length cp (Lib.byteCells PR) rfl (by simp[Lib.byteCells]) (nQ iO.out (Below.refl _ _)) (nT _) hp1 (by unfold maxLen;omega) (by omega) (by omega) _ rfl ?_);intro g6 bL w6 hown6 fE qd rW;have lQ:=aa hown6;have fu:Hid (Below base w w6) :=(HB1.out.mono hb).grown fE (by omega) (fun k hk=>(lY.out.lt k hk).1);have Tm:Hid (gG w w6) :=(gG.of HB1.out).trans (.grown lY.out fE);clear hown6 fE qd rW;go_wp2_with fail;go_ret;exact⟨_,rfl,by rw[Hlen.out,He.out];exact lQ.out,fu.out,Tm.out⟩
 ·rw[if_neg hz0]at HP;go_wp2_with fail;refine HP.out.mono ?_;rintro e w1⟨gp,cp,rfl,hop,hb1⟩;have HB1:=aa hb1;have lY:=aa (own_below HO.out hb1);have iO:=aa (nK hop rfl);have hz1:=hb1.size;clear hop hb1 HP HO;dsimp only;go_wp2_with(at_builtin;refine wpList_append_lies _ rfl (.tmp 13) (.tmp 16) 22 rfl base 5 i1 (.int .u8 0) 1 1 Tryz.underlying22 hi1 hy0 hy1 hy2 rfl (by decide) v n (Lib.byteCells M) rfl lY.out ⟨gp,0,none⟩ PR.length cp (Lib.byteCells PR) rfl (by simp[Lib.byteCells]) (nQ iO.out (Below.refl _ _)) (nT _) hp1 (by unfold maxLen;omega) (by omega) (by omega) _ rfl ?_);intro g6 bL w6 hown6 fE qd rW;have lQ:=aa hown6;have fu:Hid (Below base w w6) :=(HB1.out.mono hb).grown fE (by omega) (fun k hk=>(lY.out.lt k hk).1);have Tm:Hid (gG w w6) :=(gG.of HB1.out).trans (.grown lY.out fE);clear hown6 fE qd rW;go_wp2_with fail;go_ret;exact⟨_,rfl,by rw[Hlen.out,He.out];exact lQ.out,fu.out,Tm.out⟩
theorem BB {most v:Nat}(r:List UInt8)(h:v≤most)(h2:v<4611686018427387904) :jV most (aZ v++r)=some (v,r) :=by unfold jV;rw[VV v r h2];simp only;rw[if_pos h,List.drop_left]
theorem KY {t:List UInt8}(r:List UInt8)(h:t.length≤65536) :oK (dK t++r)=some (t,r) :=by unfold oK dK;rw[List.append_assoc,BB (t++r) h (by omega)];simp only;rw[if_pos (by simp),List.take_left,List.drop_left]
theorem NW(r:List UInt8) : ∀(ts:List (List UInt8)),ts.all mF=true→oI ts.length (ts.flatMap dK++r)=some (ts,r)
 | [],_=>by simp[oI]
 |t::ts,h=>by simp only[List.all_cons,Bool.and_eq_true,mF,decide_eq_true_eq]at h;rw[List.flatMap_cons,List.append_assoc,List.length_cons,oI,KY _ h.1];simp only;rw[NW r ts h.2]
theorem TM {n:Int}(h:dU n=true) :AO (rG n)=n∧rG n≤2000000000000:=by
 simp only[dU,decide_eq_true_eq]at h;unfold AO rG;by_cases hn:n<0
 ·rw[if_pos hn];have e:(-2*n-1).toNat %2=1:=by omega
  rw[if_pos e];omega
 ·rw[if_neg hn];have e: ¬(2*n).toNat %2=1:=by omega
  rw[if_neg e];omega
theorem Ox(r:List UInt8) : ∀(zs:List Int),zs.all dU=true→nL zs.length (zs.flatMap mK++r)=some (zs,r)
 | [],_=>by simp[nL]
 |z::zs,h=>by simp only[List.all_cons,Bool.and_eq_true]at h;have hs:=TM h.1;rw[List.flatMap_cons,List.append_assoc,List.length_cons,nL,mK,BB _ hs.2 (by omega)];simp only;rw[Ox r zs h.2];simp only;rw[hs.1]
theorem abC(r:List UInt8)(v:Vl)(h:iU v=true) :tX (lD v++r)=some (v,r) :=by obtain⟨f,tx,zs⟩ :=v;simp only[iU,Bool.and_eq_true,decide_eq_true_eq]at h;unfold tX lD;simp only[List.append_assoc];rw[KY _ h.1.1.1];simp only;rw[BB _ h.1.1.2.1 (by have:=h.1.1.2.1;omega)];simp only;rw[NW _ tx h.1.2];simp only;rw[BB _ h.1.1.2.2 (by have:=h.1.1.2.2;omega)];simp only;rw[Ox r zs h.2]
theorem NZ(r:List UInt8) : ∀(vs:List Vl),vs.all iU=true→pg vs.length (vs.flatMap lD++r)=some (vs,r)
 | [],_=>by simp[pg]
 |v::vs,h=>by simp only[List.all_cons,Bool.and_eq_true]at h;rw[List.flatMap_cons,List.append_assoc,List.length_cons,pg,abC _ v h.1];simp only;rw[NZ r vs h.2]
theorem Xn(d:Dc)(h:iT d=true) :CK (yg d)=some d:=by obtain⟨i,V⟩ :=d;simp only[iT,Bool.and_eq_true,decide_eq_true_eq]at h;unfold CK qa yg;rw[List.append_assoc,KY _ h.1.1];simp only;rw[BB _ h.1.2 (by have:=h.1.2;omega)];simp only;have:=NZ [] V h.2;rw[List.append_nil]at this;rw[this]
theorem I8(b1 o1 c1 b2 o2 c2 n:Nat)(zs:List Int)(w:World)(hn:n≤1048576)(h1: ∀t,t<n→w.cell? ⟨b1,o1+t,none⟩=some (.int .i64 (zs.getD t 0)))(h2: ∀t,t<n→w.cell? ⟨b2,o2+t,none⟩=some (.int .i64 (zs.getD t 0))) :Calls Tryz.prog 32 #[.slice (some ⟨b1,o1,none⟩) n c1,.slice (some ⟨b2,o2,none⟩) n c2] w fun e w'=>e= .returned (.bool true)∧∃m,w'=w.drewN m:=by
 go_enter Tryz.func32,Tryz.ntmps32;go_wp2;go_loopw [5](fun i wr=>∃k:Nat,k≤n∧i= .int .i64 k∧∃m,wr=w.drewN m)(fun i _=>n-(intOf i).toNat);case atStart=>exact⟨0,Nat.zero_le _,rfl,0,rfl⟩
 case round=>
  obtain⟨k,hk,rfl,m,rfl⟩ :=hrel;by_cases hlt:k<n
  ·have g1:=h1 k hlt;have g2:=h2 k hlt;clear h1 h2;go_wp2;go_quiet(fail);go_wp2;go_roundw;case rel=>exact⟨k+1,by omega,by go_num,_,rfl⟩
   case measure=>simp[intOf];omega
  ·go_wp2;go_ret;exact⟨rfl,m,rfl⟩
theorem I5(a1 a2:Option Addr)(c1 c2:Nat)(w:World) :Calls Tryz.prog 32 #[.slice a1 0 c1,.slice a2 0 c2] w fun e w'=>e= .returned (.bool true)∧w'=w:=by go_enter Tryz.func32,Tryz.ntmps32;go_wp2;refine wp_loop_rounds 1 ?_;rw[rounds_succ];go_wp2;go_ret;exact⟨rfl,rfl⟩
def DN(bs:List UInt8) :Int:=match mE bs with|none=>0|some (v,_)=>(v:Int)
def DU(bs:List UInt8) :Int:=match mE bs with|none=>0|some (_,s)=>(s:Int)
theorem pJ {bs:List UInt8}(h:mE bs=none) :DN bs=0∧DU bs=0:=by simp[DN,DU,h]
theorem yF {bs:List UInt8} {v s:Nat}(h:mE bs=some (v,s)) :DN bs=v∧DU bs=s:=by simp[DN,DU,h]
theorem Ea(k:Nat) :128^k=2^(7*k) :=by rw[Nat.pow_mul]
theorem Sv(y k:Nat)(c:UInt8)(hy:y<128^k)(hk:k≤8) : ∃m s y2:Nat,bits .and .u8 (c.toNat:Int) 127=(m:Int)∧IntKind.u64.wrap (m:Int)=(m:Int)∧IntKind.u64.wrap ((m:Int)*2^(7*k))=(s:Int)∧bits .or .u64 (y:Int) (s:Int)=(y2:Int)∧m=c.toNat %128∧y2=y+c.toNat %128*128^k∧y2<128^(k+1)∧y2<9223372036854775808:=by
 have hc:c.toNat<256:=c.toNat_lt;have hP:128^k≤128^8:=Nat.pow_le_pow_right (by omega) hk;have hP8:(128:Nat) ^8=72057594037927936:=by decide
 have hm:c.toNat %128<128:=Nat.mod_lt _ (by omega);have hs:c.toNat %128*128^k≤127*128^k:=Nat.mul_le_mul_right _ (by omega);have e2:((c.toNat %128:Nat) :Int)*2^(7*k)=((c.toNat %128*128^k:Nat) :Int) :=by rw[Ea,Int.natCast_mul,Int.natCast_pow];rfl
 refine⟨c.toNat %128,c.toNat %128*128^k,y+c.toNat %128*128^k,?_,?_,?_,?_,rfl,rfl,?_,?_⟩;·have:=u8_and_nat c.toNat 127 hc (by omega);rw[nat_mask7]at this;exact this
 ·exact IntWalk.u64_in _ ⟨by omega,by omega⟩
 ·rw[e2];exact IntWalk.u64_in _ ⟨by omega,by omega⟩
 ·rw[u64_or_nat y _ (by omega) (by omega),Nat.or_comm,nat_join (7*k) _ y (by rw[Ea];exact Nat.mul_mod_left _ _) (by rw[←Ea];exact hy),Nat.add_comm]
 ·rw[Nat.pow_succ];omega
 ·omega
theorem FQ(b off cap:Nat)(bs:List UInt8)(w:World)(hl:bs.length≤1048576)(hc:BytesAt w b off bs) :Calls Tryz.prog 117 #[.slice (some ⟨b,off,none⟩) bs.length cap] w fun e w'=>e= .returned (.tuple #[.int .i64 (DN bs),.int .i64 (DU bs)])∧w'=w:=by
 have Hc:=aa hc;clear hc;go_enter Tryz.func117,Tryz.ntmps117;go_wp2;go_loop [4,10](fun sv i=>∃k y:Nat,k≤bs.length∧k≤9∧i= .int .i64 k∧sv= .int .u64 (y:Int)∧y<128^k∧(k=9→mE bs=none)∧(k<9→mE bs=oL (bs.drop k) k y))(fun _ i=>bs.length-(intOf i).toNat);case atStart=>exact⟨0,0,Nat.zero_le _,by omega,rfl,rfl,by omega,by omega,fun _=>rfl⟩
 case round=>
  obtain⟨k,y,hk,hk9,rfl,rfl,hy,h9,hget⟩ :=hrel;by_cases hlt:k<bs.length
  ·have g1:=Hc.out k hlt;have hc256:(bs.getD k 0).toNat<256:=UInt8.toNat_lt _;have Hd:Hid (bs.drop k=bs.getD k 0::bs.drop (k+1)) :=by show _=_;rw[List.drop_eq_getElem_cons hlt];simp[hlt]
   generalize hcc:bs.getD k 0=cb at*;clear hcc;by_cases uM:k=9;·have HN:=aa (h9 uM);subst uM;clear h9 hget;go_wp2;go_ret2;obtain⟨e1,e2⟩ :=pJ HN.out;rw[e1,e2];exact⟨rfl,rfl⟩
   ·have HG:=aa (hget (by omega));clear h9 hget;have hsh: ¬(62:Int)≤7*(k:Int) :=by omega
    obtain⟨m,sh,y2,hm1,hm2,hm3,hm4,hm,hy2,hy3,hy4⟩ :=Sv y k cb hy (by omega);have Hm:=aa hm;have Hy2:=aa hy2;have Hy3:=aa hy3;have YA:Hid (¬128≤cb.toNat→¬4611686018427387903<y2→(k=0∨0<cb.toNat)→mE bs=some (y2,k+1)) :=by
     intro h1 h2 h3;rw[HG.out,Hd.out,oL,if_neg,if_pos (by omega),if_pos h3,hy2];rintro(h| ⟨rfl,h⟩);·omega
     ·have:64*128^8≤cb.toNat %128*128^8:=Nat.mul_le_mul_right _ (by omega);omega
    have Ym:Hid (¬128≤cb.toNat→(4611686018427387903<y2∨(cb.toNat=0∧0<k))→mE bs=none) :=by
     intro h1 h2;rw[HG.out,Hd.out,oL];rcases h2 with h2| ⟨h2,h3⟩
     ·rw[if_pos];refine Or.inr ?_;by_cases h8:k=8;·subst h8;exact⟨rfl,by omega⟩
      ·have hP:128^(k+1)≤128^8:=Nat.pow_le_pow_right (by omega) (by omega);omega
     ·by_cases h8:9≤k∨k=8∧63<cb.toNat;·rw[if_pos h8]
      ·rw[if_neg h8,if_pos (by omega),if_neg (by omega)]
    have YM:Hid (128≤cb.toNat→(k+1=9→mE bs=none)∧(k+1<9→mE bs=oL (bs.drop (k+1)) (k+1) y2)) :=by
     intro h1;constructor;·intro h8;rw[HG.out,Hd.out,oL,if_pos (Or.inr ⟨by omega,by omega⟩)]
     ·intro h8;rw[HG.out,Hd.out,oL,if_neg (by omega),if_neg (by omega),hy2]
    clear hm hy2 hy3 Hd HG hy;by_cases hbig:128≤cb.toNat
    ·have hbz:(127:Int)<(cb.toNat:Int) :=by omega
     go_wp2;go_round;case rel=>exact⟨k+1,y2,by omega,by omega,by go_num,rfl,Hy3.out,(YM.out hbig).1,(YM.out hbig).2⟩
     case measure=>simp[intOf];omega
    ·have hbz: ¬(127:Int)<(cb.toNat:Int) :=by omega
     by_cases hmax:4611686018427387903<y2
     ·have hmz:(4611686018427387903:Int)<(y2:Int) :=by omega
      have HE:=aa (pJ (Ym.out hbig (Or.inl hmax)));skip;go_wp2;go_ret2;rw[HE.out.1,HE.out.2];exact⟨rfl,rfl⟩
     ·have hmz: ¬(4611686018427387903:Int)<(y2:Int) :=by omega
      by_cases hc0:cb.toNat=0
      ·have hcz:(cb.toNat:Int)=0:=by omega
       have hm0:bits .and .u8 0 127=(m:Int) :=by rw[←hcz];exact hm1
       clear hm1;by_cases hk0:k=0
       ·have hkz: ¬(0:Int)<(k:Int) :=by omega
        have HE:=aa (yF (YA.out hbig hmax (Or.inl hk0)));clear hk0;clear hc0;go_wp2;go_ret2;rw[HE.out.1,HE.out.2];exact⟨by simp,rfl⟩
       ·have hkz:(0:Int)<(k:Int) :=by omega
        have HE:=aa (pJ (Ym.out hbig (Or.inr ⟨hc0,by omega⟩)));clear hc0;go_wp2;go_ret2;rw[HE.out.1,HE.out.2];exact⟨rfl,rfl⟩
      ·have hcz: ¬(cb.toNat:Int)=0:=by omega
       have HE:=aa (yF (YA.out hbig hmax (Or.inr (by omega))));clear hc0;go_wp2;go_ret2;rw[HE.out.1,HE.out.2];exact⟨by simp,rfl⟩
  ·have HN:Hid (mE bs=none) :=by
    show _=_;by_cases uM:k=9;·exact h9 uM
    ·rw[hget (by omega),List.drop_of_length_le (by omega)];rfl
   have HE:=aa (pJ HN.out);clear h9 hget;go_wp2;go_ret2;rw[HE.out.1,HE.out.2];exact⟨rfl,rfl⟩
theorem Fw(ao:Option Addr)(cap:Nat)(w:World) :Calls Tryz.prog 117 #[.slice ao 0 cap] w fun e w'=>e= .returned (.tuple #[.int .i64 (DN []),.int .i64 (DU [])])∧w'=w:=by obtain⟨e1,e2⟩ :=pJ (bs:=[]) rfl;rw[e1,e2];go_enter Tryz.func117,Tryz.ntmps117;go_wp2;refine wp_loop_rounds 1 ?_;rw[rounds_succ];go_wp2;go_ret2;exact⟨rfl,rfl⟩
structure pq(ty:TypeId)(w0 W:World)(B:Nat)(bs:List UInt8)(sh:Bool) :Prop where
 old:Below w0.heap.size w0 W
 new:w0.heap.size≤B
 box: ∃v,W.heap[B]?=some (.cells #[v,.bool sh] ty)∧((bs= []∧∃a c,v= .slice a 0 c)∨∃b off c,v= .slice (some ⟨b,off,none⟩) bs.length c∧bs.length≤c∧b<w0.heap.size∧BytesAt w0 b off bs)
def iI(B:Nat)(W W':World) :Prop:=W.heap.size≤W'.heap.size∧∀b,b<W.heap.size→b≠B→W'.heap[b]?=W.heap[b]?
theorem iI.trans {B:Nat} {W W' W'':World}(h:iI B W W')(h':iI B W' W'') :iI B W W'':=⟨Nat.le_trans h.1 h'.1,fun b hb hne=>(h'.2 b (Nat.lt_of_lt_of_le hb h.1) hne).trans (h.2 b hb hne)⟩
theorem iI.set(B k:Nat)(u:Value)(W:World) :iI B W (W.setCell ⟨B,k,none⟩ u) :=⟨by simp,fun b hb hne=>au W B k u b hne⟩
def sM(most:Nat)(bs:List UInt8)(sh:Bool) :Int×List UInt8×Bool:=match mE bs with
 |none=>(0,[],true)
 |some (v,s)=>if v≤most then((v:Int),bs.drop s,sh)else(0,[],true)
theorem Eh {ty:TypeId} {w0 W:World} {B:Nat} {bs:List UInt8} {sh:Bool}(h:pq ty w0 W B bs sh) :Calls Tryz.prog 116 #[.pointer (some ⟨B,0,none⟩)] W fun e w'=>e= .returned (.int .i64 0)∧pq ty w0 w' B [] true∧iI B W w':=by obtain⟨v,hb,_⟩ :=h.box;have x0:=ah hb 0;have x1:=ah hb 1;have f0:=aC hb 0;have f1:=aC hb 1;have HP:Hid (pq ty w0 ((W.setCell ⟨B,0,none⟩ (.slice none 0 0)).setCell ⟨B,1,none⟩ (.bool true)) B [] true∧iI B W ((W.setCell ⟨B,0,none⟩ (.slice none 0 0)).setCell ⟨B,1,none⟩ (.bool true))) :=⟨⟨(h.old.setCell (p:=⟨B,0,none⟩) h.new _).setCell (p:=⟨B,1,none⟩) h.new _,h.new,.slice none 0 0,nV hb,Or.inl ⟨rfl,none,0,rfl⟩⟩,(iI.set B 0 _ W).trans (iI.set B 1 _ _)⟩;clear h hb;go_enter Tryz.func116,Tryz.ntmps116;go_wp2;go_ret;exact⟨rfl,HP.out⟩
theorem BytesAt.adg {w:World} {b off:Nat} {bs:List UInt8}(h:BytesAt w b off bs)(k:Nat) :BytesAt w b (off+k) (bs.drop k) :=by intro t ht;rw[List.length_drop]at ht;have:=h (k+t) (by omega);rw[show off+k+t=off+(k+t)by omega,this];simp[List.getD_eq_getElem?_getD,List.getElem?_drop]
theorem pq.cut {ty:TypeId} {w0 W:World} {B:Nat} {bs:List UInt8} {sh:Bool} {b off c:Nat}(h:pq ty w0 W B bs sh)(hb:W.heap[B]?=some (.cells #[.slice (some ⟨b,off,none⟩) bs.length c,.bool sh] ty))(hc:bs.length≤c)(hlt:b<w0.heap.size)(hB:BytesAt w0 b off bs)(k n:Nat)(hk:k+n=bs.length)(a':Option Addr)(c':Nat)(hq:n=0∨(a'=some ⟨b,off+k,none⟩∧c'=c-k)) :pq ty w0 (W.setCell ⟨B,0,none⟩ (.slice a' n c')) B (bs.drop k) sh∧iI B W (W.setCell ⟨B,0,none⟩ (.slice a' n c')) :=by
 refine⟨⟨h.old.setCell (p:=⟨B,0,none⟩) h.new _,h.new,.slice a' n c',(aV hb 0 _).trans (by simp),?_⟩,iI.set B 0 _ W⟩;rcases hq with rfl| ⟨rfl,rfl⟩;·exact Or.inl ⟨List.drop_of_length_le (by omega),a',c',rfl⟩
 ·exact Or.inr ⟨b,off+k,c-k,by rw[List.length_drop,show bs.length-k=n by omega],by rw[List.length_drop];omega,hlt,hB.adg k⟩
theorem BytesAt.old {w0 W:World} {b off:Nat} {bs:List UInt8}(h:BytesAt w0 b off bs)(ho:Below w0.heap.size w0 W)(hlt:b<w0.heap.size) :BytesAt W b off bs:=fun t ht=>(ho.cell (p:=⟨b,off+t,none⟩) hlt).trans (h t ht)
theorem FU {ty:TypeId} {w0 W:World} {B most:Nat} {bs:List UInt8} {sh:Bool}(hn:bs.length≤1048576)(hm:most≤4611686018427387904)(h:pq ty w0 W B bs sh) :Calls Tryz.prog 98 #[.pointer (some ⟨B,0,none⟩),.int .i64 (most:Int)] W fun e w'=>e= .returned (.int .i64 (sM most bs sh).1)∧pq ty w0 w' B (sM most bs sh).2.1 (sM most bs sh).2.2∧iI B W w':=by
 obtain⟨v,hb,hv⟩ :=h.box;have HH:=aa h;have hcall: ∃a c,v= .slice a bs.length c∧Calls Tryz.prog 117 #[.slice a bs.length c] W (fun e w'=>e= .returned (.tuple #[.int .i64 (DN bs),.int .i64 (DU bs)])∧w'=W) :=by
  rcases hv with⟨rfl,a,c,e⟩| ⟨b,off,c,e,hc,hlt,hB⟩;·exact⟨a,c,e,Fw a c W⟩
  ·exact⟨_,c,e,FQ b off c bs W hn (hB.old h.old hlt)⟩
 obtain⟨a,c,rfl,hcall⟩ :=hcall;have HC:=aa hcall;have x0:=ah hb 0;have f0:=aC hb 0;cases hg:mE bs with
 |none=>
  obtain⟨e1,e2⟩ :=pJ hg;rw[e1,e2]at HC;have HE:Hid (sM most bs sh=(0,[],true)) :=by show _=_;rw[sM,hg]
  clear h hb hv hcall hg e1 e2;go_enter Tryz.func98,Tryz.ntmps98;go_wp2_with fail;refine HC.out.mono ?_;rintro e w2⟨rfl,rfl⟩;go_wp2_with fail;refine(Eh HH.out).mono ?_;rintro e w3⟨rfl,h2,h3⟩;have HP:=aa (And.intro h2 h3);clear h2 h3;go_wp2_with fail;go_ret;rw[HE.out];exact⟨rfl,HP.out⟩
 |some p=>
  obtain⟨y,s⟩ :=p;obtain⟨e1,e2⟩ :=yF hg;rw[e1,e2]at HC;obtain⟨hs1,hs2,hs3⟩ :=Nv hg;have hy:=(JY hg).2.1;have hs0:((s:Int)==0)=false:=by simp;omega
  by_cases hle:y≤most
  ·have hlez: ¬(most:Int)<(y:Int) :=by omega
   have HE:Hid (sM most bs sh=((y:Int),bs.drop s,sh)) :=by show _=_;rw[sM,hg];show(if y≤most then _ else _)=_;rw[if_pos hle]
   obtain⟨b,off,c2,e3,hc,hlt,hB⟩ :=hv.resolve_left (fun h=>by have:=congrArg List.length h.1;rw[List.length_nil]at this;omega);simp only[Value.slice.injEq,true_and]at e3;obtain⟨rfl,rfl⟩ :=e3;have HP:=aa (h.cut hb hc hlt hB s (bs.length-s) (by omega));have hsl:(s:Int)≤(bs.length:Int) :=by omega
   clear h hb hv hcall hg e1 e2 hB;go_enter Tryz.func98,Tryz.ntmps98;go_wp2_with fail;refine HC.out.mono ?_;rintro e w2⟨rfl,rfl⟩;go_wp2_with fail;all_goals go_ret;rw[HE.out];exact⟨rfl,HP.out _ _ (by first|exact Or.inr ⟨rfl,rfl⟩| (left;omega))⟩
  ·have hlez:(most:Int)<(y:Int) :=by omega
   have HE:Hid (sM most bs sh=(0,[],true)) :=by show _=_;rw[sM,hg];show(if y≤most then _ else _)=_;rw[if_neg hle]
   clear h hb hv hcall hg e1 e2;go_enter Tryz.func98,Tryz.ntmps98;go_wp2_with fail;refine HC.out.mono ?_;rintro e w2⟨rfl,rfl⟩;go_wp2_with fail;refine(Eh HH.out).mono ?_;rintro e w3⟨rfl,h2,h3⟩;have HP:=aa (And.intro h2 h3);clear h2 h3;go_wp2_with fail;go_ret;rw[HE.out];exact⟨rfl,HP.out⟩
theorem pq.keep {ty:TypeId} {w0 W W':World} {B:Nat} {bs:List UInt8} {sh:Bool}(h:pq ty w0 W B bs sh)(ho:Below w0.heap.size w0 W')(hk:W'.heap[B]?=W.heap[B]?) :pq ty w0 W' B bs sh:=by obtain⟨v,hb,hv⟩ :=h.box;exact⟨ho,h.new,v,hk.trans hb,hv⟩
theorem pq.lt {ty:TypeId} {w0 W:World} {B:Nat} {bs:List UInt8} {sh:Bool}(h:pq ty w0 W B bs sh) :B<W.heap.size:=by obtain⟨v,hb,_⟩ :=h.box;exact(Array.getElem?_eq_some_iff.1 hb).1
theorem pq.below {ty:TypeId} {w0 W W':World} {B:Nat} {bs:List UInt8} {sh:Bool}(h:pq ty w0 W B bs sh)(hb:Below W.heap.size W W') :pq ty w0 W' B bs sh:=h.keep (h.old.trans (hb.mono h.old.size)) (hb.block B h.lt)
theorem Zd {most:Nat} {bs:List UInt8} {v:Nat} {r:List UInt8}(h:jV most bs=some (v,r))(sh:Bool) :sM most bs sh=((v:Int),r,sh) :=by
 unfold jV at h;unfold sM;cases hg:mE bs with
 |none=>rw[hg]at h;simp at h
 |some p=>
  obtain⟨v',s⟩ :=p;rw[hg]at h;simp only at h⊢;split at h;·rename_i hle;simp only[Option.some.injEq,Prod.mk.injEq]at h;obtain⟨rfl,rfl⟩ :=h;rw[if_pos hle]
  ·simp at h
theorem Zt {most:Nat} {bs:List UInt8}(h:jV most bs=none)(sh:Bool) :sM most bs sh=(0,[],true) :=by
 unfold jV at h;unfold sM;cases hg:mE bs with
 |none=>rfl
 |some p=>
  obtain⟨v',s⟩ :=p;rw[hg]at h;simp only at h⊢;split at h;·simp at h
  ·rename_i hle;rw[if_neg hle]
abbrev iP:=pq 103
def zI(w:World)(u:TypeId)(pv:Value) :Prop:=w.cell? ⟨0,0,none⟩=some (.iface u pv)∧0<w.heap.size
theorem zI.at {w W:World} {u:TypeId} {pv:Value}(h:zI w u pv)(ho:Below w.heap.size w W) :W.cell? ⟨0,0,none⟩=some (.iface u pv) :=(ho.cell (p:=⟨0,0,none⟩) h.2).trans h.1
def Cut(u:TypeId)(pv:Value)(w0 W:World)(B:Nat)(e:Ending)(w':World) :Prop:=e= .panicked [{v:= .iface u pv,recovered:=false}]∧Below w0.heap.size w0 w'∧iI B W w'
theorem tN {w0 W:World} {u:TypeId} {pv:Value} {B most:Nat} {bs:List UInt8}(hE:zI w0 u pv)(hn:bs.length≤1048576)(hm:most≤2000000000000)(h:iP w0 W B bs false)(hr:jV most bs=none) :Calls Tryz.prog 80 #[.pointer (some ⟨B,0,none⟩),.int .i64 (most:Int)] W fun e w'=>Cut u pv w0 W B e w':=by have HN:=aa (FU hn (Nat.le_trans hm (by decide)) h);rw[Zt hr]at HN;have HE:=aa hE;clear h hE hr;go_enter Tryz.func80,Tryz.ntmps80;go_wp2_with fail;refine HN.out.mono ?_;rintro e w2⟨rfl,h2,h3⟩;clear HN;obtain⟨v,hb,_⟩ :=h2.box;have x1:=ah hb 1;have x0:=HE.out.at h2.old;have HC:Hid (Below w0.heap.size w0 w2∧iI B W w2) :=⟨h2.old,h3⟩;clear h2 h3 hb;go_wp2_with fail;exact⟨rfl,rfl,HC.out⟩
theorem qM {w0 W:World} {B most v:Nat} {bs r:List UInt8}(hn:bs.length≤1048576)(hm:most≤2000000000000)(h:iP w0 W B bs false)(hr:jV most bs=some (v,r)) :Calls Tryz.prog 80 #[.pointer (some ⟨B,0,none⟩),.int .i64 (most:Int)] W fun e w'=>e= .returned (.int .i64 (v:Int))∧iP w0 w' B r false∧iI B W w':=by have HN:=aa (FU hn (Nat.le_trans hm (by decide)) h);rw[Zd hr false]at HN;clear h hr;go_enter Tryz.func80,Tryz.ntmps80;go_wp2_with fail;refine HN.out.mono ?_;rintro e w2⟨rfl,h2,h3⟩;clear HN;obtain⟨v,hb,_⟩ :=h2.box;have x1:=ah hb 1;have HC:=aa (And.intro h2 h3);clear h2 h3 hb;go_wp2_with fail;go_ret;exact⟨rfl,HC.out⟩
def ac3(w0 W:World)(B:Nat)(bs:List UInt8)(n:Nat)(e:Ending)(w':World) :Prop:=∃a c,e= .returned (.slice a n c)∧(n=0∨∃b off,a=some ⟨b,off,none⟩∧BytesAt w' b off (bs.take n))∧iP w0 w' B (bs.drop n) false∧iI B W w'
theorem Te {w0 W:World} {B n:Nat} {bs:List UInt8}(hn:bs.length≤1048576)(h:iP w0 W B bs false)(hle:n≤bs.length) :Calls Tryz.prog 97 #[.pointer (some ⟨B,0,none⟩),.int .i64 (n:Int)] W (ac3 w0 W B bs n) :=by
 obtain⟨v,hb,hv⟩ :=h.box;have x0:=ah hb 0;have f0:=aC hb 0;rcases hv with⟨rfl,a,c,rfl⟩| ⟨b,off,c,rfl,hc,hlt,hB⟩
 ·obtain rfl:n=0:=by simpa using hle
  have HP:Hid (∀a c,iP w0 (W.setCell ⟨B,0,none⟩ (.slice a 0 c)) B [] false∧iI B W (W.setCell ⟨B,0,none⟩ (.slice a 0 c))) :=fun a c=>⟨⟨h.old.setCell (p:=⟨B,0,none⟩) h.new _,h.new,.slice a 0 c,(aV hb 0 _).trans (by simp),Or.inl ⟨rfl,a,c,rfl⟩⟩,iI.set B 0 _ W⟩;have hnz: ¬((0:Nat) :Int)>(([] :List UInt8).length:Int) :=by simp
  clear h hb;go_enter Tryz.func97,Tryz.ntmps97;go_wp2_with fail;all_goals go_ret;exact⟨_,_,rfl,Or.inl rfl,HP.out _ _⟩
 ·have hnz: ¬(n:Int)>(bs.length:Int) :=by omega
  have aiC:(n:Int)≤(bs.length:Int) :=by omega
  have HP:=aa (h.cut hb hc hlt hB n (bs.length-n) (by omega));have HT:Hid (BytesAt w0 b off (bs.take n)) :=fun t ht=>by rw[List.length_take]at ht;have:=hB t (by omega);rw[this];simp[List.getD_eq_getElem?_getD,show t<n by omega]
  have HO:=aa h.old;have hnew:=h.new;clear h hb hB;go_enter Tryz.func97,Tryz.ntmps97;go_wp2_with fail;all_goals go_ret;refine⟨_,_,rfl,?_,HP.out _ _ (by first|exact Or.inr ⟨rfl,rfl⟩| (left;omega))⟩;exact Or.inr ⟨b,off,rfl,HT.out.old (HO.out.setCell (p:=⟨B,0,none⟩) hnew _) hlt⟩
theorem SS {w0 W:World} {B n:Nat} {bs:List UInt8}(hn:bs.length≤1048576)(hn2:n≤1048576)(h:iP w0 W B bs false)(hle: ¬n≤bs.length) :Calls Tryz.prog 97 #[.pointer (some ⟨B,0,none⟩),.int .i64 (n:Int)] W fun e w'=>e= .returned (.slice none 0 0)∧iP w0 w' B [] true∧iI B W w':=by
 obtain⟨v,hb,hv⟩ :=h.box;obtain⟨a,c,rfl⟩ : ∃a c,v= .slice a bs.length c:=by
  rcases hv with⟨rfl,a,c,e⟩| ⟨b,off,c,e,_⟩;·exact⟨a,c,e⟩
  ·exact⟨_,c,e⟩
 have x0:=ah hb 0;have hnz:(n:Int)>(bs.length:Int) :=by omega
 have HH:=aa h;clear h hb hv;go_enter Tryz.func97,Tryz.ntmps97;go_wp2_with fail;refine(Eh HH.out).mono ?_;rintro e w2⟨rfl,h2,h3⟩;have HP:=aa (And.intro h2 h3);clear h2 h3;go_wp2_with fail;go_ret;exact⟨rfl,HP.out⟩
theorem XY {bs t r:List UInt8}(h:oK bs=some (t,r)) : ∃n q,jV 65536 bs=some (n,q)∧n≤q.length∧t=q.take n∧r=q.drop n:=by
 unfold oK at h;cases hg:jV 65536 bs with
 |none=>rw[hg]at h;simp at h
 |some p=>
  obtain⟨n,q⟩ :=p;rw[hg]at h;simp only at h;split at h;·rename_i hle;simp only[Option.some.injEq,Prod.mk.injEq]at h;exact⟨n,q,rfl,hle,h.1.symm,h.2.symm⟩
  ·simp at h
theorem Wp {bs:List UInt8}(h:oK bs=none) :jV 65536 bs=none∨∃n q,jV 65536 bs=some (n,q)∧¬n≤q.length:=by
 unfold oK at h;cases hg:jV 65536 bs with
 |none=>exact Or.inl rfl
 |some p=>
  obtain⟨n,q⟩ :=p;rw[hg]at h;simp only at h;split at h;·simp at h
  ·rename_i hle;exact Or.inr ⟨n,q,rfl,hle⟩
end Go.Proofs.YtcjiphknpagenaaGreatDoor
