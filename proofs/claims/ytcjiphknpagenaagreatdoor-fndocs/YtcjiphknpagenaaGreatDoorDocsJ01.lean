import Derived.Test.YtcjiphknpagenaaGreatDoorDocsJ00
import Derived.Lib.RuneCount
import Derived.Lib.IndexBytes
import Derived.OrdersHeld
import Derived.Handy
import Derived.Deep.Heap
import Derived.Deep.CutBlock
import Derived.Deep.RegionWith
namespace Go.Proofs.YtcjiphknpagenaaGreatDoor
open Go Go.RowKit
set_option linter.unusedVariables false
set_option linter.unusedSimpArgs false
set_option maxRecDepth 100000
set_option maxHeartbeats 400000
def fF(r:Int) :Bool:=dZ r==1 ||dZ r==2
def oD:List Int→Bool
 | []=>false
 |r::_=>fF r
def runK:List Int→Nat
 | []=>0
 |r::t=>if fF r=true then runK t+1 else if(dZ r==3&&oD t)=true then runK t+1 else 0
def fV:List Int→Nat
 | []=>0
 |r::t=>if dZ r=4 then 1 else if fF r=true then runK (r::t)else 0
def aM(l:List Int) :Nat:=(encs l).length
theorem jT(r:Int)(t:List Int) :aM (r::t)=(Lib.encodeRune r).length+aM t:=by simp[aM,encs]
theorem jg:aM []=0:=rfl
theorem kL(a b:List Int) :aM (a++b)=aM a+aM b:=by simp[aM,encs]
theorem DK(r:Int)(t:List Int)(h:fF r=true) :runK (r::t)=runK t+1:=by rw[runK,if_pos h]
theorem GX(r:Int)(t:List Int)(h:fF r=false)(h2:(dZ r==3)=true)(h3:oD t=true) :runK (r::t)=runK t+1:=by rw[runK,if_neg (by rw[h];simp),if_pos (by rw[h2,h3];rfl)]
theorem Bh(r:Int)(t:List Int)(h:fF r=false)(h2:(dZ r==3)=false∨oD t=false) :runK (r::t)=0:=by rw[runK,if_neg (by rw[h];simp),if_neg (by rcases h2 with h2|h2<;>rw[h2]<;>simp)]
theorem Gj(r:Int) :(fF r=true↔(dZ r=1∨dZ r=2)) :=by simp[fF]
theorem Nz(r:Int) :(fF r=false↔(dZ r≠1∧dZ r≠2)) :=by simp[fF]
theorem FT(r:Int)(t:List Int)(h:dZ r=4) :fV (r::t)=1:=by rw[fV,if_pos h]
theorem Hu(r:Int)(t:List Int)(h:fF r=true) :fV (r::t)=runK (r::t) :=by have h':=(Gj r).1 h;rw[fV,if_neg (by omega),if_pos h]
theorem Ez(r:Int)(t:List Int)(h:fF r=false)(h4:dZ r≠4) :fV (r::t)=0:=by rw[fV,if_neg h4,if_neg (by rw[h];simp)]
abbrev Tk:=List UInt8×Nat×Nat×Nat
def toks:Nat→List Int→Nat→Nat→List Tk
 |0,_,_,_=>[]
 |_+1,[],_,_=>[]
 |f+1,r::t,a,n=>if fV (r::t)=0 then toks f t (a+aM [r]) n else(encs ((r::t).take (fV (r::t))),n,a,a+aM ((r::t).take (fV (r::t)))) ::toks f ((r::t).drop (fV (r::t))) (a+aM ((r::t).take (fV (r::t)))) (n+1)
theorem zD(f a n:Nat) :toks f [] a n= [] :=by cases f<;>rfl
theorem Ct(f:Nat)(r:Int)(t:List Int)(a n:Nat)(h:fV (r::t)=0) :toks (f+1) (r::t) a n=toks f t (a+aM [r]) n:=by rw[toks,if_pos h]
theorem BH(f:Nat)(r:Int)(t:List Int)(a n:Nat)(h: ¬fV (r::t)=0) :toks (f+1) (r::t) a n=(encs ((r::t).take (fV (r::t))),n,a,a+aM ((r::t).take (fV (r::t)))) ::toks f ((r::t).drop (fV (r::t))) (a+aM ((r::t).take (fV (r::t)))) (n+1) :=by rw[toks,if_neg h]
def eF(t:Tk) :List Value:=[.string ⟨t.1.toArray⟩,.int .i64 t.2.1,.int .i64 t.2.2.1,.int .i64 t.2.2.2]
def ak(l:List Tk) :List Value:=l.flatMap eF
theorem cK(l:List Tk)(t:Tk) :ak (l++ [t])=ak l++eF t:=by simp[ak]
theorem uw(l:List Tk) :(ak l).length=l.length*4:=by
 induction l with
 |nil=>rfl
 |cons x t ih=>simp only[ak,List.flatMap_cons,List.length_append,List.length_cons,eF]at*;simp at*;omega
def dh(s:ByteArray) :List Tk:=toks (runes s).length (runes s) 0 0
def dI(s:ByteArray) :Int:=if aJ s=0 then(if 8192<(dh s).length then 11 else 0)else aJ s
def bY(s:ByteArray) :List Tk:=if aJ s=0 then(if 8192<(dh s).length then[]else dh s)else[]
theorem pU(s:ByteArray) : ∀f f' p,s.size≤p+f→s.size≤p+f'→runesFrom s f p=runesFrom s f' p
 |0,f',p,h,_=>by rw[runesFrom_end s 0 p (by omega),runesFrom_end s f' p (by omega)]
 |f+1,f',p,h,h'=>by
  by_cases hp:p<s.size;·have hw:=width_le s p hp;obtain⟨g,rfl⟩ : ∃g,f'=g+1:=⟨f'-1,by omega⟩;rw[eU s f p hp,eU s g p hp,pU s f g _ (by omega) (by omega)]
  ·rw[runesFrom_end s _ p hp,runesFrom_end s _ p hp]
def Rs(s:ByteArray)(p:Nat) :List Int:=runesFrom s s.size p
theorem vC(s:ByteArray) :Rs s 0=runes s:=rfl
theorem rR(s:ByteArray)(p:Nat)(h: ¬p<s.size) :Rs s p= [] :=runesFrom_end s _ p h
theorem j3(s:ByteArray)(p:Nat)(h:p<s.size) :Rs s p=((Utf8.decode s p).1:Int) ::Rs s (p+(Utf8.decode s p).2) :=by have hw:=width_le s p h;rw[Rs,pU s s.size ((s.size-1)+1) p (by omega) (by omega),eU s _ p h,pU s (s.size-1) s.size _ (by omega) (by omega)];rfl
theorem Zy(s:ByteArray)(p:Nat)(h:p<s.size) :s.data.toList.drop p≠ [] :=by intro e;have:=congrArg List.length e;rw[List.length_drop,fP]at this;simp at this;omega
theorem E8(s:ByteArray)(p:Nat)(h:p<s.size)(hg: ¬bad s p) :Lib.encodeRune ((Utf8.decode s p).1:Int)=(s.data.toList.drop p).take (Utf8.decode s p).2:=by have:=Lib.encode_decode (s.data.toList.drop p) (Zy s p h) (by rw[Lib.decodeL_drop];exact hg);rw[Lib.decodeL_drop]at this;exact this
theorem jL(s:ByteArray)(p:Nat)(h:p<s.size)(hg: ¬bad s p) :(Lib.encodeRune ((Utf8.decode s p).1:Int)).length=(Utf8.decode s p).2:=by have hw:=width_le s p h;rw[E8 s p h hg,List.length_take,List.length_drop,fP];omega
theorem La(s:ByteArray) : ∀(m p:Nat),s.size≤p+m→dW s p=true→encs (Rs s p)=s.data.toList.drop p
 |0,p,hm,_=>by rw[rR s p (by omega),List.drop_of_length_le (by rw[fP];omega)];rfl
 |m+1,p,hm,hv=>by
  by_cases h:p<s.size
  ·have hg:=pM s p h hv;have hw:=width_le s p h;have ih:=La s m (p+(Utf8.decode s p).2) (by omega) (by rw[lZ s p h hg];exact hv);rw[j3 s p h];have e: ∀(r:Int)(t:List Int),encs (r::t)=Lib.encodeRune r++encs t:=fun r t=>by simp[encs]
   rw[e,ih,E8 s p h hg,←List.drop_drop,List.take_append_drop]
  ·rw[rR s p h,List.drop_of_length_le (by rw[fP];omega)];rfl
theorem GA(s:ByteArray)(p:Nat)(hv:dW s p=true) :encs (Rs s p)=s.data.toList.drop p:=La s s.size p (by omega) hv
theorem ZC(s:ByteArray)(p:Nat)(hv:dW s p=true) :aM (Rs s p)=s.size-p:=by rw[aM,GA s p hv,List.length_drop,fP]
theorem F5(s:ByteArray) : ∀(k p:Nat),dW s p=true→Rs s (p+aM ((Rs s p).take k))=(Rs s p).drop k∧dW s (p+aM ((Rs s p).take k))=true
 |0,p,hv=>by simp[jg,hv]
 |k+1,p,hv=>by
  by_cases h:p<s.size
  ·have hg:=pM s p h hv;have hv2:dW s (p+(Utf8.decode s p).2)=true:=by rw[lZ s p h hg];exact hv
   have ih:=F5 s k (p+(Utf8.decode s p).2) hv2;rw[j3 s p h,List.take_succ_cons,jT,jL s p h hg,List.drop_succ_cons,←Nat.add_assoc];exact ih
  ·rw[rR s p h];simp[jg,rR s p h,hv]
theorem zP(s:ByteArray)(k p:Nat)(hv:dW s p=true) :encs ((Rs s p).take k)=(s.data.toList.drop p).take (aM ((Rs s p).take k)) :=by
 have h:encs (Rs s p)=encs ((Rs s p).take k)++encs ((Rs s p).drop k) :=by rw[←CY,List.take_append_drop]
 rw[←GA s p hv,h,aM];simp
theorem EY(s:ByteArray)(k p:Nat)(hp:p≤s.size)(hv:dW s p=true) :p+aM ((Rs s p).take k)≤s.size:=by
 have h1:=ZC s p hv;have h2:aM (Rs s p)=aM ((Rs s p).take k)+aM ((Rs s p).drop k) :=by rw[←kL,List.take_append_drop]
 omega
def qp(t:List Int) :Nat→Nat→List (List UInt8)
 |_,0=>[]
 |n,f+1=>if n≤t.length then encs (t.take n) ::qp t (n+1) f else[]
def lH(lo f:Nat) :List Int→List (List UInt8)
 | []=>[]
 |r::t=>qp (r::t) lo f++lH lo f t
def qh(len:Nat) :Nat→Nat→Nat
 |_,0=>0
 |n,f+1=>(len+1-n)+qh len (n+1) f
theorem yN(t:List Int)(n f:Nat)(h:t.length<n) :qp t n f= [] :=by
 cases f with
 |zero=>rfl
 |succ f=>rw[qp,if_neg (by omega)]
theorem Dv(t:List Int)(n f:Nat)(h:n≤t.length) :qp t n (f+1)=encs (t.take n) ::qp t (n+1) f:=by rw[qp,if_pos h]
theorem LZ(len:Nat) : ∀n f,len<n→qh len n f=0
 |_,0,_=>rfl
 |n,f+1,h=>by rw[qh,LZ len (n+1) f (by omega)];omega
theorem IB(t:List Int) : ∀(f n:Nat),1≤n→qh t.length n f=qh (t.length-1) n f+(qp t n f).length∨t.length=0
 |0,n,_=>Or.inl rfl
 |f+1,n,hn=>by
  by_cases h0:t.length=0;·exact Or.inr h0
  ·refine Or.inl ?_;rcases IB t f (n+1) (by omega)with ih|ih
   ·rw[qh,qh,ih];by_cases h:n≤t.length;·rw[Dv t n f h,List.length_cons];omega
    ·rw[yN t n (f+1) (by omega),yN t (n+1) f (by omega)];simp only[List.length_nil];omega
   ·exact absurd ih h0
theorem Mm(lo f:Nat)(hlo:1≤lo) : ∀l:List Int,(lH lo f l).length=qh l.length lo f
 | []=>by
  rw[lH,List.length_nil];cases f with
  |zero=>rfl
  |succ f=>rw[qh,LZ _ _ _ (by simp only[List.length_nil];omega)];simp only[List.length_nil];omega
 |r::t=>by
  rw[lH,List.length_append,Mm lo f hlo t];rcases IB (r::t) f lo hlo with h|h;·rw[h];simp only[List.length_cons,Nat.add_sub_cancel];omega
  ·simp at h
theorem G7(lo f:Nat)(l:List Int)(k:Nat)(h:k<l.length) :lH lo f (l.drop k)=qp (l.drop k) lo f++lH lo f (l.drop (k+1)) :=by rw[List.drop_eq_getElem_cons h,lH]
theorem Lg(lo f:Nat)(l:List Int)(k:Nat)(h: ¬k<l.length) :lH lo f (l.drop k)= [] :=by rw[List.drop_of_length_le (by omega),lH]
def rF(lo hi:Int) :Bool:=decide (1≤lo∧lo≤hi∧hi≤8)
def zA(s:ByteArray)(lo hi:Int) :List (List UInt8) :=lH lo.toNat (hi+1-lo).toNat (di s)
def dw(s:ByteArray)(lo hi:Int) :Int:=if aJ s=0 then(if rF lo hi=true then(if(zA s lo hi).length≤4096 then 0 else 11)else 1)else aJ s
def eX(s:ByteArray)(lo hi:Int) :List (List UInt8) :=if dw s lo hi=0 then zA s lo hi else[]
theorem Jv(s:ByteArray) :Lib.runeCount s=(runes s).length:=by
 have key: ∀f p,Lib.runeCountFrom s f p=(runesFrom s f p).length:=by
  intro f;induction f with
  |zero=>intro p;rfl
  |succ f ih=>
   intro p;by_cases h:p<s.size;·rw[Lib.runeCountFrom,if_pos h,eU s f p h,List.length_cons,ih];omega
   ·rw[Lib.runeCountFrom,if_neg h,runesFrom_end s _ p h];rfl
 exact key _ _
theorem Cn(s:ByteArray)(p:Nat)(h:p≤s.size) :(s.extract p s.size).data.toList=s.data.toList.drop p:=by rw[Lib.extract_to_end]
theorem QL(s:ByteArray)(p t:Nat)(h:p≤s.size) :Utf8.decode (s.extract p s.size) t=Utf8.decode s (p+t) :=by rw[←Lib.decodeL_drop,←Lib.decodeL_drop,Cn s p h,List.drop_drop]
theorem ext_size(s:ByteArray)(p:Nat)(h:p≤s.size) :(s.extract p s.size).size=s.size-p:=by rw[←fP,Cn s p h,List.length_drop,fP]
theorem U3(s:ByteArray)(p:Nat)(h:p≤s.size) :bM (s.extract p s.size)=dW s p:=by rw[bM,dW,Cn s p h]
theorem TU(s:ByteArray)(p:Nat)(h:p≤s.size) :runes (s.extract p s.size)=Rs s p:=by
 have key: ∀f q,runesFrom (s.extract p s.size) f q=runesFrom s f (p+q) :=by
  intro f;induction f with
  |zero=>intro q;rfl
  |succ f ih=>
   intro q;by_cases hq:q<(s.extract p s.size).size
   ·have hq2:p+q<s.size:=by rw[ext_size s p h]at hq;omega
    rw[eU _ f q hq,eU s f _ hq2,ih,QL s p q h,Nat.add_assoc]
   ·have hq2: ¬p+q<s.size:=by rw[ext_size s p h]at hq;omega
    rw[runesFrom_end _ _ _ hq,runesFrom_end _ _ _ hq2]
 rw[runes,key,Nat.add_zero,ext_size s p h,Rs];exact pU s _ _ _ (by omega) (by omega)
theorem Wm(t:ByteArray)(k:Nat)(hv:bM t=true) :t.extract 0 (aM ((runes t).take k))=bs (encs ((runes t).take k)) :=by
 have hv0:dW t 0=true:=by rw[lS];exact hv
 have h1:=zP t k 0 hv0;rw[vC,List.drop_zero]at h1;rw[Lib.extract_eq,bs,h1];simp
theorem vI(t:ByteArray)(k:Nat)(hv:bM t=true) :Rs t (aM ((runes t).take k))=(runes t).drop k∧dW t (aM ((runes t).take k))=true:=by have:=F5 t k 0 (by rw[lS];exact hv);rwa [Nat.zero_add,vC]at this
theorem QV(t:ByteArray)(k:Nat)(hv:bM t=true) :k<(runes t).length↔aM ((runes t).take k)<t.size:=by
 have h:=vI t k hv;constructor
 ·intro hk;by_cases hp:aM ((runes t).take k)<t.size;·exact hp
  ·rw[rR t _ hp]at h;have:=congrArg List.length h.1;rw[List.length_drop]at this;simp at this;omega
 ·intro hp;by_cases hk:k<(runes t).length;·exact hk
  ·rw[List.drop_of_length_le (by omega),j3 t _ hp]at h;cases h.1
theorem OL(t:ByteArray)(k:Nat)(hv:bM t=true)(hp:aM ((runes t).take k)<t.size) :((Utf8.decode t (aM ((runes t).take k))).1:Int)=(runes t).getD k 0∧aM ((runes t).take (k+1))=aM ((runes t).take k)+(Utf8.decode t (aM ((runes t).take k))).2∧fT ((runes t).getD k 0)=true:=by
 have h:=vI t k hv;have hk:=(QV t k hv).2 hp;have hg:=pM t _ hp h.2;have e:(runes t).drop k=(runes t).getD k 0::(runes t).drop (k+1) :=by rw[List.drop_eq_getElem_cons hk];simp[hk]
 rw[j3 t _ hp,e]at h;have h1:=(List.cons.inj h.1).1;refine⟨h1,?_,?_⟩;·rw[Cr _ k hk,kL,←h1,jT,jL t _ hp hg,jg];rfl
 ·rw[←h1];exact vW t _ hg
def lu(t:List UInt8) :Bool:=decide (1≤t.length) &&decide (t.length≤64) &&bM (bs t)
def CX(y:List UInt8×List UInt8) :Bool:=lu y.1&&lu y.2&& !(y.1==y.2)
def uC(lo hi:Int) :Bool:=(decide (lo=0) &&decide (hi=0))||rF lo hi
def qf(l:List (List UInt8)) :Bool:=l.all lu
def qg(l:List (List UInt8×List UInt8)) :Bool:=l.all CX
def mq(stops:List (List UInt8))(af:List (List UInt8×List UInt8))(lo hi:Int) :Bool:=decide (stops.length≤64) &&decide (af.length≤64) &&qf stops&&qg af&&uC lo hi
theorem GV(l:List (List UInt8))(k:Nat)(h:k<l.length) :qf (l.take (k+1))=(qf (l.take k) &&lu (l.getD k [])) :=by rw[qf,List.take_succ_eq_append_getElem h,List.all_append,List.getD_eq_getElem?_getD,List.getElem?_eq_getElem h];simp only[List.all_cons,List.all_nil,Bool.and_true,Option.getD_some];rfl
theorem Iu(l:List (List UInt8×List UInt8))(k:Nat)(h:k<l.length) :qg (l.take (k+1))=(qg (l.take k) &&CX (l.getD k ([],[]))) :=by rw[qg,List.take_succ_eq_append_getElem h,List.all_append,List.getD_eq_getElem?_getD,List.getElem?_eq_getElem h];simp only[List.all_cons,List.all_nil,Bool.and_true,Option.getD_some];rfl
theorem NH {l:List (List UInt8)} {k:Nat}(h:k<l.length)(hn:lu (l.getD k [])=false) :qf l=false:=by rw[qf,List.all_eq_false];refine⟨l.getD k [],?_,by rw[hn];simp⟩;rw[List.getD_eq_getElem?_getD,List.getElem?_eq_getElem h,Option.getD_some];exact List.getElem_mem _
theorem Oa {l:List (List UInt8×List UInt8)} {k:Nat}(h:k<l.length)(hn:CX (l.getD k ([],[]))=false) :qg l=false:=by rw[qg,List.all_eq_false];refine⟨l.getD k ([],[]),?_,by rw[hn];simp⟩;rw[List.getD_eq_getElem?_getD,List.getElem?_eq_getElem h,Option.getD_some];exact List.getElem_mem _
theorem yK {α:Type}(l:List α)(k:Nat)(h: ¬k<l.length) :l.take k=l:=List.take_of_length_le (by omega)
theorem dA(r lo hi:Int)(w:World) :Calls Tryz.prog 45 #[.int .i64 r,.int .i64 lo,.int .i64 hi] w fun e w'=>e= .returned (.bool (decide (lo≤r) &&decide (r≤hi)))∧w'=w:=by
 by_cases h:lo≤r;·have HB:Hid (decide (lo≤r)=true) :=decide_eq_true h;go_enter Tryz.func45,Tryz.ntmps45;go_wp2;go_ret;rw[HB.out,Bool.true_and];exact⟨rfl,rfl⟩
 ·have HB:Hid (decide (lo≤r)=false) :=decide_eq_false h;go_enter Tryz.func45,Tryz.ntmps45;go_wp2;go_ret;rw[HB.out,Bool.false_and];exact⟨rfl,rfl⟩
def bE(w:World)(a:Option Addr)(l:List (List UInt8)) :Prop:=l= []∨∃b off,a=some ⟨b,off,none⟩∧b<w.heap.size∧∀t,t<l.length→w.cell? ⟨b,off+t,none⟩=some (.string (bs (l.getD t [])))
theorem bE.below {w w':World} {a:Option Addr} {l:List (List UInt8)}(h:bE w a l)(hb:Below w.heap.size w w') :bE w' a l:=by
 rcases h with h| ⟨b,off,h1,h2,h3⟩;·exact Or.inl h
 ·exact Or.inr ⟨b,off,h1,Nat.lt_of_lt_of_le h2 hb.size,fun t ht=>(hb.cell (p:=⟨b,off+t,none⟩) h2).trans (h3 t ht)⟩
def dB(w:World)(a:Option Addr)(l:List (List UInt8×List UInt8)) :Prop:=l= []∨∃b off,a=some ⟨b,off,none⟩∧b<w.heap.size∧∀t,t<l.length→w.cell? ⟨b,off+t*2,none⟩=some (.string (bs (l.getD t ([],[])).1))∧w.cell? ⟨b,off+t*2+1,none⟩=some (.string (bs (l.getD t ([],[])).2))
theorem dB.below {w w':World} {a:Option Addr} {l:List (List UInt8×List UInt8)}(h:dB w a l)(hb:Below w.heap.size w w') :dB w' a l:=by
 rcases h with h| ⟨b,off,h1,h2,h3⟩;·exact Or.inl h
 ·exact Or.inr ⟨b,off,h1,Nat.lt_of_lt_of_le h2 hb.size,fun t ht=>⟨(hb.cell (p:=⟨b,off+t*2,none⟩) h2).trans (h3 t ht).1,(hb.cell (p:=⟨b,off+t*2+1,none⟩) h2).trans (h3 t ht).2⟩⟩
def Mv(l:List (List UInt8)) :Prop:=∀t,t<l.length→(bs (l.getD t [])).size≤1048576
def Kc(l:List (List UInt8×List UInt8)) :Prop:=∀t,t<l.length→(bs (l.getD t ([],[])).1).size≤1048576∧(bs (l.getD t ([],[])).2).size≤1048576
theorem Tryz.infoStr2:(Tryz.prog.info? 9).map (fun i=>(i.zero,i.size,i.bytes))=some (some (.string ⟨#[]⟩),1,16) :=by kernel_rfl
theorem Tryz.infoSyn:(Tryz.prog.info? 114).map (fun i=>(i.zero,i.size,i.bytes))=some (some (.agg #[.string ⟨#[]⟩,.string ⟨#[]⟩]),2,32) :=by kernel_rfl
def gB(l:List (List UInt8×List UInt8)) :List Value:=l.flatMap fun y=>[Value.string (bs y.1),Value.string (bs y.2)]
theorem uO: ∀l:List (List UInt8×List UInt8),(gB l).length=l.length*2
 | []=>rfl
 |y::t=>by have:=uO t;simp only[gB,List.flatMap_cons,List.length_append,List.length_cons,List.length_nil]at*;omega
theorem Dr(l:List (List UInt8×List UInt8))(y:List UInt8×List UInt8) :gB (l++ [y])=gB l++ [.string (bs y.1),.string (bs y.2)] :=by simp[gB]
theorem wV: ∀(l:List (List UInt8×List UInt8))(k:Nat),k<l.length→(gB l)[k*2]?=some (.string (bs (l.getD k ([],[])).1))∧(gB l)[k*2+1]?=some (.string (bs (l.getD k ([],[])).2))
 |y::t,0,_=>⟨rfl,rfl⟩
 |y::t,k+1,h=>by
  have ih:=wV t k (by simpa using h);have e:gB (y::t)= [.string (bs y.1),.string (bs y.2)]++gB t:=by simp[gB]
  rw[e,List.getElem?_append_right (by simp;omega),List.getElem?_append_right (by simp;omega)];simp only[List.length_cons,List.length_nil,List.getD_cons_succ];rw[show(k+1)*2-(0+1+1)=k*2 by omega,show(k+1)*2+1-(0+1+1)=k*2+1 by omega];exact ih
theorem II {w:World} {base g cap:Nat} {l:List (List UInt8)}(h:w.ownsRow base 9 1 (.slice (some ⟨g,0,none⟩) l.length cap) l.length (bR l)) :bE w (some ⟨g,0,none⟩) l:=Or.inr ⟨g,0,rfl,K9 h,fun t ht=>by rw[Nat.zero_add];exact uV h t ht⟩
theorem Y7 {w:World} {base e g n cap:Nat} {xs:List Value}(h:w.ownsRow base e 2 (.slice (some ⟨g,0,none⟩) n cap) n xs) :g<w.heap.size:=by
 rcases h.2 with⟨h',_⟩| ⟨g',cap',cur,h',_,hg,_⟩;·simp at h'
 ·simp only[Value.slice.injEq,Option.some.injEq,Addr.mk.injEq,and_true,true_and]at h';obtain⟨rfl,rfl⟩ :=h';exact(Array.getElem?_eq_some_iff.1 hg).1
theorem IX {w:World} {base g cap:Nat} {l:List (List UInt8×List UInt8)}(h:w.ownsRow base 114 2 (.slice (some ⟨g,0,none⟩) l.length cap) l.length (gB l)) :dB w (some ⟨g,0,none⟩) l:=Or.inr ⟨g,0,rfl,Y7 h,fun t ht=>by rw[Nat.zero_add];exact⟨by rw[h.cellAt (t*2) (by omega)];exact(wV l t ht).1,by rw[h.cellAt (t*2+1) (by omega)];exact(wV l t ht).2⟩⟩
section
variable {ops:Array Oper} {Q:Exit→Act→World→Prop} {S:World→Prop} {md:Region.Mode} {a:Act} {w:World}
theorem lV(i j:Nat) {fuel:Nat} {listed:Array Bool}(hr:Region.ready md ops listed= [i,j])(h1:wpOp Tryz.prog ops Q i (fun a' w'=>S w'∧wpAnyH Tryz.prog md ops Q S fuel (listed.setIfInBounds i true) a' w') a w)(h2:wpOp Tryz.prog ops Q j (fun a' w'=>S w'∧wpAnyH Tryz.prog md ops Q S fuel (listed.setIfInBounds j true) a' w') a w) :wpAnyH Tryz.prog md ops Q S (fuel+1) listed a w:=wpAnyH_all hr (by simp) (fun k hk=>by
 have e:k=i∨k=j:=by simpa using hk
 rcases e with rfl|rfl;·exact h1
 ·exact h2)
theorem LV(i j l:Nat) {fuel:Nat} {listed:Array Bool}(hr:Region.ready md ops listed= [i,j,l])(h1:wpOp Tryz.prog ops Q i (fun a' w'=>S w'∧wpAnyH Tryz.prog md ops Q S fuel (listed.setIfInBounds i true) a' w') a w)(h2:wpOp Tryz.prog ops Q j (fun a' w'=>S w'∧wpAnyH Tryz.prog md ops Q S fuel (listed.setIfInBounds j true) a' w') a w)(h3:wpOp Tryz.prog ops Q l (fun a' w'=>S w'∧wpAnyH Tryz.prog md ops Q S fuel (listed.setIfInBounds l true) a' w') a w) :wpAnyH Tryz.prog md ops Q S (fuel+1) listed a w:=wpAnyH_all hr (by simp) (fun k hk=>by
 have e:k=i∨k=j∨k=l:=by simpa using hk
 rcases e with rfl|rfl|rfl;·exact h1
 ·exact h2
 ·exact h3)
end
theorem ah {w:World} {b:Nat} {cs:Array Value} {t:TypeId}(h:w.heap[b]?=some (.cells cs t))(k:Nat) :w.cell? ⟨b,k,none⟩=cs[k]?:=by simp[World.cell?,h]
theorem aD {w w':World} {b:Nat} {o:Obj}(h:w.heap[b]?=some o)(hb:Below w.heap.size w w') :w'.heap[b]?=some o:=(hb.block b (Array.getElem?_eq_some_iff.1 h).1).trans h
theorem aC {w:World} {b:Nat} {cs:Array Value} {t:TypeId}(h:w.heap[b]?=some (.cells cs t))(k:Nat) :w.frozen? ⟨b,k,none⟩=false:=by simp[World.frozen?,h]
theorem gm(w:World)(o1 o2:Obj) :((w.alloc o1).alloc o2).heap[w.heap.size]?=some o1∧((w.alloc o1).alloc o2).heap[w.heap.size+1]?=some o2:=by
 refine⟨?_,?_⟩;·rw[Below.heap_alloc _ _ _ (by simp)];exact heap_alloc_new _ _
 ·have:=heap_alloc_new (w.alloc o1) o2;rw[World.size_alloc]at this;exact this
theorem au(w:World)(b k:Nat)(u:Value)(x:Nat)(hx:x≠b) :(w.setCell ⟨b,k,none⟩ u).heap[x]?=w.heap[x]?:=heap_setCell_other w ⟨b,k,none⟩ x u hx
theorem aV {w:World} {b:Nat} {cs:Array Value} {t:TypeId}(h:w.heap[b]?=some (.cells cs t))(k:Nat)(u:Value) :(w.setCell ⟨b,k,none⟩ u).heap[b]?=some (.cells (cs.setIfInBounds k u) t) :=by obtain⟨hlt,hk⟩ :=Array.getElem?_eq_some_iff.1 h;show(w.heap.modify b _)[b]?=_;rw[Array.getElem?_eq_getElem (by rw[Array.size_modify];exact hlt),Array.getElem_modify_self,hk];rfl
theorem nV {w:World} {b:Nat} {u v x y:Value} {t:TypeId}(h:w.heap[b]?=some (.cells #[u,v] t)) :((w.setCell ⟨b,0,none⟩ x).setCell ⟨b,1,none⟩ y).heap[b]?=some (.cells #[x,y] t) :=by have h2:=aV (aV h 0 x) 1 y;simpa using h2
theorem aa7 {w:World} {a b:Nat} {c1 c2:Array Value} {t1 t2:TypeId}(h1:w.heap[a]?=some (Obj.cells c1 t1))(h2:w.heap[b]?=some (Obj.cells c2 t2))(hne:t1≠t2) :a≠b:=by rintro rfl;rw[h1]at h2;simp only[Option.some.injEq,Obj.cells.injEq]at h2;exact hne h2.2.1
theorem Sq {W V w6:World} {QB:Nat} {o:Obj} {v:Value}(hQ:W.heap[QB]?=some o)(hV:Below W.heap.size W V)(hg:V.grownBy w6 v.ownBlock)(hv:v.ownBlock≠some QB) :w6.heap[QB]?=some o:=by have h1:=(Array.getElem?_eq_some_iff.1 hQ).1;have h2:=hV.size;rw[hg.block QB (by omega) (fun e=>hv e.symm),hV.block QB h1,hQ]
theorem cz {w w':World} {base e size n:Nat} {v:Value} {xs:List Value}(h:w.ownsRow base e size v n xs)(hb: ∀b,v.ownBlock=some b→w'.heap[b]?=w.heap[b]?) :w'.ownsRow base e size v n xs:=by
 refine⟨h.1,?_⟩;rcases h.2 with h'| ⟨g,cap,cur,rfl,h2,h3,h4⟩;·exact Or.inl h'
 ·exact Or.inr ⟨g,cap,cur,rfl,h2,by rw[hb g rfl];exact h3,h4⟩
theorem dH {w:World} {base e size n:Nat} {v:Value} {xs:List Value}(h:w.ownsRow base e size v n xs) {b:Nat}(hb:v.ownBlock=some b) :base≤b∧∃cur,w.heap[b]?=some (.cells cur e) :=by
 rcases h.2 with⟨h',_⟩| ⟨g,cap,cur,rfl,h2,h3,_⟩;·rw[h']at hb;cases hb
 ·cases hb;exact⟨h2,cur,h3⟩
structure But(X:Nat→Prop)(w w':World) :Prop where
 os:w'.os=w.os
 tape:w'.tape=w.tape
 output:w'.output=w.output
 size:w.heap.size≤w'.heap.size
 block: ∀b,b<w.heap.size→¬X b→w'.heap[b]?=w.heap[b]?
theorem But.refl(X:Nat→Prop)(w:World) :But X w w:=⟨rfl,rfl,rfl,Nat.le_refl _,fun _ _ _=>rfl⟩
theorem But.trans {X Y Z:Nat→Prop} {a b c:World}(h:But X a b)(k:But Y b c)(hx: ∀i,i<a.heap.size→X i→Z i)(hy: ∀i,i<a.heap.size→Y i→Z i) :But Z a c:=⟨k.os.trans h.os,k.tape.trans h.tape,k.output.trans h.output,Nat.le_trans h.size k.size,fun i hi hn=>(k.block i (Nat.lt_of_lt_of_le hi h.size) fun e=>hn (hy i hi e)).trans (h.block i hi fun e=>hn (hx i hi e))⟩
theorem But.mono {X Z:Nat→Prop} {a b:World}(h:But X a b)(hx: ∀i,i<a.heap.size→X i→Z i) :But Z a b:=⟨h.os,h.tape,h.output,h.size,fun i hi hn=>h.block i hi fun e=>hn (hx i hi e)⟩
theorem But.of_below {X:Nat→Prop} {a b:World}(h:Below a.heap.size a b) :But X a b:=⟨h.os,h.tape,h.output,h.size,fun i hi _=>h.block i hi⟩
theorem But.below {X:Nat→Prop} {n:Nat} {a b:World}(h:But X a b)(hn:n≤a.heap.size)(hx: ∀i,i<n→¬X i) :Below n a b:=⟨h.os,h.tape,h.output,h.size,fun i hi=>h.block i (by omega) (hx i hi)⟩
theorem But.set {X:Nat→Prop} {a b:World}(h:But X a b)(g k:Nat)(u:Value)(hg:X g) :But X a (b.setCell ⟨g,k,none⟩ u) :=⟨h.os,h.tape,h.output,by simpa using h.size,fun i hi hn=>(au b g k u i (fun e=>hn (e▸hg))).trans (h.block i hi hn)⟩
theorem But.alloc {X:Nat→Prop} {a b:World}(h:But X a b)(o:Obj) :But X a (b.alloc o) :=⟨h.os,h.tape,h.output,by have:=h.size;simp;omega,fun i hi hn=>(Below.heap_alloc b o i (Nat.lt_of_lt_of_le hi h.size)).trans (h.block i hi hn)⟩
theorem But.cell {X:Nat→Prop} {a b:World}(h:But X a b) {p:Addr}(hp:p.block<a.heap.size)(hx: ¬X p.block) :b.cell? p=a.cell? p:=by simp only[World.cell?];rw[h.block p.block hp hx]
theorem bE.but {X:Nat→Prop} {w w':World} {a:Option Addr} {l:List (List UInt8)}(h:bE w a l)(hb:But X w w')(hx: ∀b off,a=some ⟨b,off,none⟩→¬X b) :bE w' a l:=by
 rcases h with h| ⟨b,off,h1,h2,h3⟩;·exact Or.inl h
 ·exact Or.inr ⟨b,off,h1,Nat.lt_of_lt_of_le h2 hb.size,fun t ht=>(hb.cell (p:=⟨b,off+t,none⟩) h2 (hx b off h1)).trans (h3 t ht)⟩
def Sx(b:Nat)(ao:Option Addr)(n cap:Nat)(W:World)(A:Int) :Prop:=∃a sd:Int,0≤a∧a≤A∧0≤sd∧sd<2147483648∧dQ W b (.slice ao n cap) a sd∧Code W b ao n
theorem Sx.lt {b:Nat} {ao:Option Addr} {n cap:Nat} {W:World} {A:Int}(h:Sx b ao n cap W A) :b<W.heap.size:=by obtain⟨_,_,_,_,_,_,h,_⟩ :=h;exact h.lt
theorem Sx.below {b:Nat} {ao:Option Addr} {n cap:Nat} {W W':World} {A:Int}(h:Sx b ao n cap W A)(hb:Below W.heap.size W W') :Sx b ao n cap W' A:=by obtain⟨a,sd,h1,h2,h3,h4,h5,h6⟩ :=h;refine⟨a,sd,h1,h2,h3,h4,(hb.block b h5.lt).trans h5,fun j hj=> ?_⟩;obtain⟨blk,off,z,q1,q2,q3,q4,q5⟩ :=h6 j hj;exact⟨blk,off,z,q1,q2,q3,q4,(hb.cell (p:=⟨blk,off+j,none⟩) (cell_lt q5)).trans q5⟩
theorem Sx.alloc {b:Nat} {ao:Option Addr} {n cap:Nat} {W:World} {A:Int}(h:Sx b ao n cap W A)(o:Obj) :Sx b ao n cap (W.alloc o) A:=h.below ((Below.refl _ _).alloc (Nat.le_refl _) _)
theorem Sx.mono {b:Nat} {ao:Option Addr} {n cap:Nat} {W:World} {A A':Int}(h:Sx b ao n cap W A)(hA:A≤A') :Sx b ao n cap W A':=by obtain⟨a,sd,h1,h2,h3⟩ :=h;exact⟨a,sd,h1,by omega,h3⟩
theorem Sx.set {b:Nat} {ao:Option Addr} {n cap:Nat} {W:World} {A:Int}(h:Sx b ao n cap W A)(g k:Nat)(u:Value)(hg:g≠b)(hc: ∀j,j<n→∃blk off,ao=some ⟨blk,off,none⟩∧blk≠g) :Sx b ao n cap (W.setCell ⟨g,k,none⟩ u) A:=by obtain⟨a,sd,h1,h2,h3,h4,h5,h6⟩ :=h;refine⟨a,sd,h1,h2,h3,h4,(au W g k u b (fun e=>hg e.symm)).trans h5,fun j hj=> ?_⟩;obtain⟨blk,off,z,q1,q2,q3,q4,q5⟩ :=h6 j hj;obtain⟨BU,off',r1,r2⟩ :=hc j hj;refine⟨blk,off,z,q1,q2,q3,q4,?_⟩;rw[q1]at r1;cases r1;simp only[World.cell?]at q5⊢;rw[au W g k u blk r2];exact q5
theorem Cx {w w':World} {b:Nat}(h:w.grownBy w' (some b)) :But (fun x=>x=b) w w':=⟨h.os,h.tape,h.output,h.size,fun i hi hn=>h.block i hi fun e=>hn (Option.some.inj e)⟩
theorem dx {b:Nat} {ao:Option Addr} {n cap:Nat} {W:World} {A:Int}(h:Sx b ao n cap W A)(hn:n≤1048576)(hA:A≤274877906944)(m:Int)(hm:1≤m)(hm2:m≤16777216) :Calls Tryz.prog 38 #[.pointer (some ⟨b,0,none⟩),.int .i64 m] W fun e w'=>∃x:Nat,e= .returned (.int .i64 (x:Int))∧(x:Int)<m∧Sx b ao n cap w' (A+3)∧But (fun x=>x=b) W w':=by obtain⟨a,sd,h1,h2,h3,h4,h5,h6⟩ :=h;refine(yL b ao n cap a sd m W hn hm hm2 h1 (by omega) h3 h4 h5 h6).mono ?_;rintro e w1⟨x,a1,qQ,rfl,hx0,hx1,Ls,LU,sU,hsd1,o7,hg1⟩;obtain⟨X,rfl⟩ :=Int.eq_ofNat_of_zero_le hx0;exact⟨X,rfl,by omega,⟨a1,qQ,by omega,by omega,sU,hsd1,o7,h6.kept hg1⟩,Cx hg1⟩
theorem pK {b:Nat} {ao:Option Addr} {n cap:Nat} {W:World} {A:Int}(h:Sx b ao n cap W A)(hn:n≤1048576)(hA:A≤274877906944)(m:Int)(hm:1≤m)(hm2:m≤16777216) :Calls Tryz.prog 19 #[.pointer (some ⟨b,0,none⟩),.int .i64 m] W fun e w'=>∃x:Bool,e= .returned (.bool x)∧Sx b ao n cap w' (A+3)∧But (fun x=>x=b) W w':=by obtain⟨a,sd,h1,h2,h3,h4,h5,h6⟩ :=h;refine(PX b ao n cap a sd m W hn hm hm2 h1 (by omega) h3 h4 h5 h6).mono ?_;rintro e w1⟨x,a1,qQ,rfl,Ls,LU,sU,hsd1,o7,hg1⟩;exact⟨x,rfl,⟨a1,qQ,by omega,by omega,sU,hsd1,o7,h6.kept hg1⟩,Cx hg1⟩
structure DA(w W:World)(b:Nat)(ao:Option Addr)(n cap:Nat)(A:Int)(R BX:Nat)(fo st ph:Bool)(aS:Option Addr)(cS:Nat)(stops:List (List UInt8))(vY:Value)(af:List (List UInt8×List UInt8))(lo hi:Int) :Prop where
 src:Sx b ao n cap W A
 but:But (fun x=>x=b) w W
 res: ∃cs,W.heap[R]?=some (.cells cs 73)∧cs.size=7
 box:W.heap[BX]?=some (.cells #[.bool fo,.bool st,.bool ph,.slice aS stops.length cS,vY,.int .i64 lo,.int .i64 hi] 73)
 nu:bE W aS stops
 A8: ∀blk off,aS=some ⟨blk,off,none⟩→BX<blk
 syn:W.ownsRow (BX+1) 114 2 vY af.length (gB af)
 bl:b<w.heap.size
 rl:w.heap.size≤R
 xl:R<BX
 cb: ∀j,j<n→∃blk off,ao=some ⟨blk,off,none⟩∧blk<w.heap.size
section
variable {w W W':World} {b:Nat} {ao:Option Addr} {n cap:Nat} {A:Int} {R BX:Nat} {fo st ph:Bool} {aS:Option Addr} {cS:Nat} {stops:List (List UInt8)} {vY:Value} {af:List (List UInt8×List UInt8)} {lo hi:Int}
theorem XT {X:Nat→Prop} {base e m:Nat} {v:Value} {xs:List Value}(h:W.ownsRow base e 2 v m xs)(hb:But X W W')(hx: ∀g,v.ownBlock=some g→¬X g) :W'.ownsRow base e 2 v m xs:=by
 refine⟨h.1,?_⟩;rcases h.2 with h'| ⟨g,c,cur,rfl,h2,h3,h4⟩;·exact Or.inl h'
 ·exact Or.inr ⟨g,c,cur,rfl,h2,(hb.block g (Array.getElem?_eq_some_iff.1 h3).1 (hx g rfl)).trans h3,h4⟩
theorem fA {base e m:Nat} {v:Value} {xs:List Value}(h:W.ownsRow base e 2 v m xs) : ∀g,v.ownBlock=some g→base≤g∧g<W.heap.size:=by
 intro g e;rcases h.2 with⟨rfl,_⟩| ⟨g',c,cur,rfl,h2,h3,h4⟩;·cases e
 ·cases e;exact⟨h2,(Array.getElem?_eq_some_iff.1 h3).1⟩
theorem DA.size(h:DA w W b ao n cap A R BX fo st ph aS cS stops vY af lo hi) :BX<W.heap.size:=(Array.getElem?_eq_some_iff.1 h.box).1
theorem DA.draw(h:DA w W b ao n cap A R BX fo st ph aS cS stops vY af lo hi) {A':Int}(hs:Sx b ao n cap W' A')(hb:But (fun x=>x=b) W W') :DA w W' b ao n cap A' R BX fo st ph aS cS stops vY af lo hi:=by have h1:=h.bl;have h2:=h.rl;have h3:=h.xl;have h4:=h.size;obtain⟨cs,hr1,hr2⟩ :=h.res;refine⟨hs,h.but.trans hb (fun _ _ h=>h) (fun _ _ h=>h),⟨cs,(hb.block R (by omega) (by omega)).trans hr1,hr2⟩,(hb.block BX h4 (by omega)).trans h.box,h.nu.but hb (fun blk off e hx=> ?_),h.A8,XT h.syn hb (fun g e hx=>by have:=(fA h.syn g e).1;omega),h1,h2,h3,h.cb⟩;have:=h.A8 blk off e;omega
theorem DA.alloc(h:DA w W b ao n cap A R BX fo st ph aS cS stops vY af lo hi)(o:Obj) :DA w (W.alloc o) b ao n cap A R BX fo st ph aS cS stops vY af lo hi:=h.draw (h.src.alloc o) ((But.refl _ _).alloc o)
theorem DA.away(h:DA w W b ao n cap A R BX fo st ph aS cS stops vY af lo hi)(k:Nat)(u:Value) :Sx b ao n cap (W.setCell ⟨BX,k,none⟩ u) A∧But (fun x=>x=b) w (W.setCell ⟨BX,k,none⟩ u)∧(∃cs,(W.setCell ⟨BX,k,none⟩ u).heap[R]?=some (.cells cs 73)∧cs.size=7)∧∀g,g≠BX→(W.setCell ⟨BX,k,none⟩ u).heap[g]?=W.heap[g]?:=by have h1:=h.bl;have h2:=h.rl;have h3:=h.xl;have hg: ∀g,g≠BX→(W.setCell ⟨BX,k,none⟩ u).heap[g]?=W.heap[g]?:=fun g hne=>au W BX k u g hne;obtain⟨cs,hr1,hr2⟩ :=h.res;refine⟨h.src.set BX k u (by omega) (fun j hj=> ?_),⟨h.but.os,h.but.tape,h.but.output,by have:=h.but.size;simpa using this,fun i hi hn=>(hg i (by omega)).trans (h.but.block i hi hn)⟩,⟨cs,(hg R (by omega)).trans hr1,hr2⟩,hg⟩;obtain⟨blk,off,q1,q2⟩ :=h.cb j hj;exact⟨blk,off,q1,by omega⟩
theorem rX {a:Option Addr} {l:List (List UInt8)}(h:bE W a l)(hz:W.heap.size≤W'.heap.size)(hx: ∀blk off,a=some ⟨blk,off,none⟩→W'.heap[blk]?=W.heap[blk]?) :bE W' a l:=by
 rcases h with h| ⟨g,off,h1,h2,h3⟩;·exact Or.inl h
 ·refine Or.inr ⟨g,off,h1,Nat.lt_of_lt_of_le h2 hz,fun t ht=> ?_⟩;have:=h3 t ht;simp only[World.cell?]at this⊢;rw[hx g off h1];exact this
theorem tZ {base e m:Nat} {v:Value} {xs:List Value}(h:W.ownsRow base e 2 v m xs)(hx: ∀g,v.ownBlock=some g→W'.heap[g]?=W.heap[g]?) :W'.ownsRow base e 2 v m xs:=by
 refine⟨h.1,?_⟩;rcases h.2 with h'| ⟨g,c,cur,rfl,h2,h3,h4⟩;·exact Or.inl h'
 ·exact Or.inr ⟨g,c,cur,rfl,h2,(hx g rfl).trans h3,h4⟩
theorem DA.JM(h:DA w W b ao n cap A R BX fo st ph aS cS stops vY af lo hi)(a':Option Addr)(c':Nat)(l':List (List UInt8))(hS:bE W a' l')(hb: ∀blk off,a'=some ⟨blk,off,none⟩→BX<blk) :DA w (W.setCell ⟨BX,3,none⟩ (.slice a' l'.length c')) b ao n cap A R BX fo st ph a' c' l' vY af lo hi:=by obtain⟨h1,h2,h3,h4⟩ :=h.away 3 (.slice a' l'.length c');exact⟨h1,h2,h3,aV h.box 3 _,rX hS (by simp) (fun blk off e=>h4 blk (by have:=hb blk off e;omega)),hb,tZ h.syn (fun g e=>h4 g (by have:=(fA h.syn g e).1;omega)),h.bl,h.rl,h.xl,h.cb⟩
theorem DA.Qk(h:DA w W b ao n cap A R BX fo st ph aS cS stops vY af lo hi)(z:Int) :DA w (W.setCell ⟨BX,5,none⟩ (.int .i64 z)) b ao n cap A R BX fo st ph aS cS stops vY af z hi:=by obtain⟨h1,h2,h3,h4⟩ :=h.away 5 (.int .i64 z);exact⟨h1,h2,h3,aV h.box 5 _,rX h.nu (by simp) (fun blk off e=>h4 blk (by have:=h.A8 blk off e;omega)),h.A8,tZ h.syn (fun g e=>h4 g (by have:=(fA h.syn g e).1;omega)),h.bl,h.rl,h.xl,h.cb⟩
theorem DA.Ql(h:DA w W b ao n cap A R BX fo st ph aS cS stops vY af lo hi)(z:Int) :DA w (W.setCell ⟨BX,6,none⟩ (.int .i64 z)) b ao n cap A R BX fo st ph aS cS stops vY af lo z:=by obtain⟨h1,h2,h3,h4⟩ :=h.away 6 (.int .i64 z);exact⟨h1,h2,h3,aV h.box 6 _,rX h.nu (by simp) (fun blk off e=>h4 blk (by have:=h.A8 blk off e;omega)),h.A8,tZ h.syn (fun g e=>h4 g (by have:=(fA h.syn g e).1;omega)),h.bl,h.rl,h.xl,h.cb⟩
theorem DA.P5 {w3:World} {EB:Value} {y:List UInt8×List UInt8}(h:DA w W b ao n cap A R BX fo st ph aS cS stops vY af lo hi)(ho:w3.ownsRow (BX+1) 114 2 EB (af++ [y]).length (gB (af++ [y])))(hg:W.grownBy w3 vY.ownBlock)(hsb: ∀blk off,aS=some ⟨blk,off,none⟩→vY.ownBlock≠some blk) :DA w (w3.setCell ⟨BX,4,none⟩ EB) b ao n cap A R BX fo st ph aS cS stops EB (af++ [y]) lo hi:=by
 have q1:=h.bl;have q2:=h.rl;have q3:=h.xl;have q4:=h.size;have hge: ∀g,vY.ownBlock=some g→BX+1≤g:=fun g e=>(fA h.syn g e).1;have hk: ∀g,g<W.heap.size→g≠BX→vY.ownBlock≠some g→(w3.setCell ⟨BX,4,none⟩ EB).heap[g]?=W.heap[g]?:=fun g hl hne hv=>(au w3 BX 4 EB g hne).trans (hg.block g hl (fun e=>hv e.symm));have hlow: ∀g,g<BX→(w3.setCell ⟨BX,4,none⟩ EB).heap[g]?=W.heap[g]?:=fun g hl=>hk g (by omega) (by omega) (fun e=>by have:=hge g e;omega);have adj:w3.heap[BX]?=_:=(hg.block BX q4 (fun e=>by have:=hge BX e.symm;omega)).trans h.box;obtain⟨cs,hr1,hr2⟩ :=h.res;have hz:W.heap.size≤(w3.setCell ⟨BX,4,none⟩ EB).heap.size:=by have:=hg.size;simpa using this
 refine⟨?_,⟨hg.os.trans h.but.os,hg.tape.trans h.but.tape,hg.output.trans h.but.output,Nat.le_trans h.but.size hz,fun i hi hn=>(hlow i (by omega)).trans (h.but.block i hi hn)⟩,⟨cs,(hlow R q3).trans hr1,hr2⟩,aV adj 4 _,?_,h.A8,tZ ho (fun g e=>au w3 BX 4 EB g (by have:=(fA ho g e).1;omega)),q1,q2,q3,h.cb⟩;·have hb:But (fun x=>vY.ownBlock=some x∨x=BX) W (w3.setCell ⟨BX,4,none⟩ EB) :=⟨hg.os,hg.tape,hg.output,hz,fun g hl hn=>hk g hl (fun e=>hn (Or.inr e)) (fun e=>hn (Or.inl e))⟩;obtain⟨a,sd,h1,h2,h3,h4,h5,h6⟩ :=h.src;refine⟨a,sd,h1,h2,h3,h4,(hlow b (by omega)).trans h5,fun j hj=> ?_⟩;obtain⟨blk,off,z,r1,r2,r3,r4,r5⟩ :=h6 j hj;obtain⟨BU,off',e1,e2⟩ :=h.cb j hj;rw[r1]at e1;cases e1;refine⟨blk,off,z,r1,r2,r3,r4,?_⟩;simp only[World.cell?]at r5⊢;rw[hlow blk (by omega)];exact r5
 ·rcases h.nu with h0| ⟨blk,off,e1,e2,e3⟩;·exact Or.inl h0
  ·exact rX (Or.inr ⟨blk,off,e1,e2,e3⟩) hz (fun BU off' e=>by
    have hl:=h.A8 BU off' e;have hl2:BU<W.heap.size:=by rw[e]at e1;cases e1;exact e2
    exact hk BU hl2 (by omega) (hsb BU off' e))
end
section
variable {ops:Array Oper} {Q:Exit→Act→World→Prop} {S:World→Prop} {md:Region.Mode} {fuel:Nat} {listed:Array Bool} {a:Act} {w:World}
theorem fU(i:Nat) {oi:Oper} {v:Value}(hi:ops[i]?=some oi:=by rfl)(hs:Region.noSelect ops=true:=by kernel_rfl)(hf:Region.free md ops listed i=true:=by kernel_rfl)(hr:(Region.ready md ops listed).contains i=true:=by kernel_rfl)(hQ: ∀c a w,Q (.panic c) (a.put oi.dst v) w→Q (.panic c) a w:=by exact fun _ _ _ h=>h)(hw:Region.wanted oi (yielded ops a.tmps)=true:=by kernel_rfl)(hx: ∀w,S w→(execOp a.eval oi).run Tryz.prog w= .ok (.value v) w:=by(intro w hSw;(try dsimp only at hSw);go_simp<;>with_reducible rfl))(hS:S w:=by assumption)(h:wpAnyH Tryz.prog md ops Q S fuel (listed.setIfInBounds i true) (a.put oi.dst v) w) :wpAnyH Tryz.prog md ops Q S (fuel+1) listed a w:=wpAnyH_take hi hs hf hr hQ (Or.inl ⟨hw,hx⟩) hS h
theorem tkS(i:Nat) {oi:Oper}(hi:ops[i]?=some oi:=by rfl)(hs:Region.noSelect ops=true:=by kernel_rfl)(hf:Region.free md ops listed i=true:=by kernel_rfl)(hr:(Region.ready md ops listed).contains i=true:=by kernel_rfl)(hQ: ∀c a w,Q (.panic c) (a.put oi.dst undef) w→Q (.panic c) a w:=by exact fun _ _ _ h=>h)(hw:Region.wanted oi (yielded ops a.tmps)=false:=by kernel_rfl)(hS:S w:=by assumption)(h:wpAnyH Tryz.prog md ops Q S fuel (listed.setIfInBounds i true) (a.put oi.dst undef) w) :wpAnyH Tryz.prog md ops Q S (fuel+1) listed a w:=wpAnyH_take hi hs hf hr hQ (Or.inr ⟨hw,rfl⟩) hS h
end
section
variable {ops:Array Oper} {Q:Exit→Act→World→Prop} {S:World→Prop} {md:Region.Mode} {a:Act} {w:World}
theorem aH(i:Nat) {fuel:Nat} {listed:Array Bool}(hr:Region.ready md ops listed= [i])(h:wpOp Tryz.prog ops Q i (fun a' w'=>S w'∧wpAnyH Tryz.prog md ops Q S fuel (listed.setIfInBounds i true) a' w') a w) :wpAnyH Tryz.prog md ops Q S (fuel+1) listed a w:=wpAnyH_all hr (by simp) (fun j hj=>by
 have e:j=i:=by simpa using hj
 subst e;exact h)
theorem aU {K:Act→World→Prop} {i:Nat} {o:Oper}(v:Value)(w':World)(hi:ops[i]?=some o)(hw:Region.wanted o (yielded ops a.tmps)=true)(ho:(execOp a.eval o).run Tryz.prog w= .ok (.value v) w')(h:K (a.put o.dst v) w') :wpOp Tryz.prog ops Q i K a w:=by unfold wpOp;simp only[hi,hw,if_true,Oper.wp,ho,Oper.upon];exact .inl h
theorem ek {K:Act→World→Prop} {i:Nat} {o:Oper}(w':World)(hi:ops[i]?=some o)(hw:Region.wanted o (yielded ops a.tmps)=true)(ho:(execOp a.eval o).run Tryz.prog w= .ok .skip w')(h:K (a.put o.dst undef) w') :wpOp Tryz.prog ops Q i K a w:=by unfold wpOp;simp only[hi,hw,if_true,Oper.wp,ho,Oper.upon];exact .inl h
theorem jF {K:Act→World→Prop} {i:Nat} {o:Oper}(hi:ops[i]?=some o)(hw:Region.wanted o (yielded ops a.tmps)=true)(h:o.wp Tryz.prog a w K Q) :wpOp Tryz.prog ops Q i K a w:=by unfold wpOp;simp only[hi,hw,if_true];exact .inl h
end
theorem Sc(W:World)(ρ:Operand→Value)(o:Oper)(x:Operand)(ho:o.op= .buildSlice 22 1 #[(0,x)])(n:Int)(hx:ρ x= .int .u8 n) :(execOp ρ o).run Tryz.prog W= .ok (.value (.slice (some ⟨W.heap.size,0,none⟩) 1 1)) (W.alloc (.cells #[.int .u8 n] 5)) :=by unfold execOp;simp only[ho,hx,Sem.run_bind,Sem.run_pure,Result.andThen_ok];go_simp
theorem bK(W:World)(a:Act)(o:Oper)(f:FuncId)(x y:Operand)(t u:TypeId)(ho:o.op= .call {callee:= .value (.func f),args:=#[x,y],argTypes:=#[t,u]})(v z:Value)(hx:a.eval x=v)(hy:a.eval y=z)(hf:(callFunc f #[v,z]).run Tryz.prog W= .ok (.enter f #[v,z]) W) :(execOp a.eval o).run Tryz.prog W= .ok (.enter f #[v,z]) W:=by have hfn:a.eval (.func f)= .func (.func f) #[] #[] :=rfl;unfold execOp;simp[ho,resolve,invoke,Deferred.ofValue,hfn,hx,hy,hf]
section
variable {ops:Array Oper} {Q:Exit→Act→World→Prop} {K:Act→World→Prop} {a:Act} {w:World}
theorem bI {i:Nat} {o:Oper}(f:FuncId)(args:Array Value)(hi:ops[i]?=some o)(hw:Region.wanted o (yielded ops a.tmps)=true)(ho:(execOp a.eval o).run Tryz.prog w= .ok (.enter f args) w)(h:Calls Tryz.prog f args w fun e w'=>match e,w' with
 | .returned v,w''=>K (a.put o.dst v) w''
 | .panicked c,w''=>Q (.panic c) a w''
 | .outgrown,_=>LetsOut Q) :wpOp Tryz.prog ops Q i K a w:=by unfold wpOp;simp only[hi,hw,if_true,Oper.wp,ho,Oper.upon];exact .inl h
end
theorem acI {z:Int}(h1: -9223372036854775808≤z)(h2:z≤9223372036854775807) :IntKind.i64.wrap z=z:=IntWalk.i64_in _ ⟨by omega,by omega⟩
theorem jO(W:World)(ρ:Operand→Value)(o:Oper)(x:Operand)(ho:o.op= .load 71 x)(b off:Nat)(v:Value)(hv: ∃a n c,v= .slice a n c)(hx:ρ x= .pointer (some ⟨b,off,none⟩))(h0:W.cell? ⟨b,off,none⟩=some v) :(execOp ρ o).run Tryz.prog W= .ok (.value v) W:=by obtain⟨a,n,c,rfl⟩ :=hv;unfold execOp;simp only[ho,Instr.loadAt,Instr.sureAddr,hx,Sem.run_bind,Sem.run_pure,Result.andThen_ok];go_simp
theorem lN(W:World)(ρ:Operand→Value)(o:Oper)(x:Operand)(ho:o.op= .load 114 x)(b off:Nat)(u0 u1:Value)(hx:ρ x= .pointer (some ⟨b,off,none⟩))(h0:W.cell? ⟨b,off,none⟩=some u0)(h1:W.cell? ⟨b,off+1,none⟩=some u1) :(execOp ρ o).run Tryz.prog W= .ok (.value (.agg #[u0,u1])) W:=by unfold execOp;simp only[ho,Instr.loadAt,Instr.sureAddr,hx,Sem.run_bind,Sem.run_pure,Result.andThen_ok];go_simp
theorem oz(W:World)(ρ:Operand→Value)(o:Oper)(x y:Operand)(ho:o.op= .indexAddr 71 x y)(T X:Nat)(hx:ρ x= .slice (some ⟨T,0,none⟩) 5 5)(hy:ρ y= .int .i64 (X:Int))(h:X<5) :(execOp ρ o).run Tryz.prog W= .ok (.value (.pointer (some ⟨T,X*2,none⟩))) W:=by
 unfold execOp;simp only[ho,hx,hy,Sem.run_bind,Sem.run_pure,Result.andThen_ok];match X,h with
 |0,_=>go_simp
 |1,_=>go_simp
 |2,_=>go_simp
 |3,_=>go_simp
 |4,_=>go_simp
theorem iy(W:World)(ρ:Operand→Value)(o:Oper)(x y:Operand)(ho:o.op= .store 71 x y)(b off:Nat)(a:Option Addr)(n c:Nat)(u:Value)(hx:ρ x= .pointer (some ⟨b,off,none⟩))(hy:ρ y= .slice a n c)(h0:W.cell? ⟨b,off,none⟩=some u)(hf:W.frozen? ⟨b,off,none⟩=false) :(execOp ρ o).run Tryz.prog W= .ok .skip (W.setCell ⟨b,off,none⟩ (.slice a n c)) :=by unfold execOp;simp only[ho,Instr.storeAt,Instr.sureAddr,hx,hy,Sem.run_bind,Sem.run_pure,Result.andThen_ok];go_simp
theorem Nr(W:World)(ρ:Operand→Value)(o:Oper)(x y:Operand)(ho:o.op= .store 3 x y)(b off:Nat)(z:Int)(u:Value)(hx:ρ x= .pointer (some ⟨b,off,none⟩))(hy:ρ y= .int .i64 z)(h0:W.cell? ⟨b,off,none⟩=some u)(hf:W.frozen? ⟨b,off,none⟩=false) :(execOp ρ o).run Tryz.prog W= .ok .skip (W.setCell ⟨b,off,none⟩ (.int .i64 z)) :=by unfold execOp;simp only[ho,Instr.storeAt,Instr.sureAddr,hx,hy,Sem.run_bind,Sem.run_pure,Result.andThen_ok];go_simp
theorem iW(W:World)(ρ:Operand→Value)(o:Oper)(x:Operand)(ho:o.op= .buildSlice 71 1 #[(0,x)])(u0 u1:Value)(hx:ρ x= .agg #[u0,u1]) :(execOp ρ o).run Tryz.prog W= .ok (.value (.slice (some ⟨W.heap.size,0,none⟩) 1 1)) (W.alloc (.cells #[u0,u1] 114)) :=by unfold execOp;simp only[ho,hx,Sem.run_bind,Sem.run_pure,Result.andThen_ok];go_simp
theorem qm(W:World)(ρ:Operand→Value)(o:Oper)(x0 x1 x2 x3 x4:Operand)(ho:o.op= .buildSlice 71 5 #[(0,x0),(1,x1),(2,x2),(3,x3),(4,x4)])(u0 u1 u2 u3 u4 u5 u6 u7 u8 u9:Value)(h0:ρ x0= .agg #[u0,u1])(h1:ρ x1= .agg #[u2,u3])(h2:ρ x2= .agg #[u4,u5])(h3:ρ x3= .agg #[u6,u7])(h4:ρ x4= .agg #[u8,u9]) :(execOp ρ o).run Tryz.prog W= .ok (.value (.slice (some ⟨W.heap.size,0,none⟩) 5 5)) (W.alloc (.cells #[u0,u1,u2,u3,u4,u5,u6,u7,u8,u9] 114)) :=by unfold execOp;simp only[ho,h0,h1,h2,h3,h4,Sem.run_bind,Sem.run_pure,Result.andThen_ok];go_simp
theorem ug {W:World} {T:Nat}(h:W.heap[T]?=some (.cells #[.string ⟨#[99,97,116]⟩,.string ⟨#[102,101,108,105,110,101]⟩,.string ⟨#[114,117,110]⟩,.string ⟨#[114,117,110,110,105,110,103]⟩,.string ⟨#[104,111,117,115,101]⟩,.string ⟨#[104,111,109,101]⟩,.string ⟨#[113,117,105,99,107]⟩,.string ⟨#[102,97,115,116]⟩,.string ⟨#[114,117,110,110,105,110,103]⟩,.string ⟨#[106,111,103]⟩] 114))(X:Nat)(hX:X<5) : ∃y:List UInt8×List UInt8,W.cell? ⟨T,X*2,none⟩=some (.string (bs y.1))∧W.cell? ⟨T,X*2+1,none⟩=some (.string (bs y.2))∧y.1.length≤16∧y.2.length≤16:=by
 match X,hX with
 |0,_=>exact⟨([99,97,116],[102,101,108,105,110,101]),ah h 0,ah h 1,by decide,by decide⟩
 |1,_=>exact⟨([114,117,110],[114,117,110,110,105,110,103]),ah h 2,ah h 3,by decide,by decide⟩
 |2,_=>exact⟨([104,111,117,115,101],[104,111,109,101]),ah h 4,ah h 5,by decide,by decide⟩
 |3,_=>exact⟨([113,117,105,99,107],[102,97,115,116]),ah h 6,ah h 7,by decide,by decide⟩
 |4,_=>exact⟨([114,117,110,110,105,110,103],[106,111,103]),ah h 8,ah h 9,by decide,by decide⟩
theorem Yg {w:World} {base e sz n:Nat} {v:Value} {xs:List Value}(h:w.ownsRow base e sz v n xs) : ∃a m c,v= .slice a m c:=by
 rcases h.2 with⟨rfl,_⟩| ⟨g,c,cur,rfl,_⟩;·exact⟨_,_,_,rfl⟩
 ·exact⟨_,_,_,rfl⟩
theorem DA.more {w W w3:World} {b:Nat} {ao:Option Addr} {n cap:Nat} {A:Int} {R BX:Nat} {fo st ph:Bool} {aS:Option Addr} {cS:Nat} {stops:List (List UInt8)} {vY:Value} {af:List (List UInt8×List UInt8)} {lo hi:Int}(h:DA w W b ao n cap A R BX fo st ph aS cS stops vY af lo hi)(hne:aS=none∨stops≠ [])(hsep: ∀blk off,aS=some ⟨blk,off,none⟩→vY.ownBlock≠some blk) {y:List UInt8×List UInt8} {g cp:Nat}(hown:w3.ownsRow (BX+1) 114 2 (.slice (some ⟨g,0,none⟩) (af.length+1) cp) (af.length+1) (gB af++ [.string (bs y.1),.string (bs y.2)]))(hg:W.grownBy w3 vY.ownBlock)(hat:vY.ownBlock=some g∨g=W.heap.size) :DA w (w3.setCell ⟨BX,4,none⟩ (.slice (some ⟨g,0,none⟩) (af.length+1) cp)) b ao n cap A R BX fo st ph aS cS stops (.slice (some ⟨g,0,none⟩) (af.length+1) cp) (af++ [y]) lo hi∧∀blk off,aS=some ⟨blk,off,none⟩→(Value.slice (some ⟨g,0,none⟩) (af.length+1) cp).ownBlock≠some blk:=by
 refine⟨h.P5 ?_ hg hsep,fun blk off e e2=> ?_⟩;·rw[Dr,show(af++ [y]).length=af.length+1 from List.length_append];exact hown
 ·have e3:g=blk:=Option.some.inj e2;rcases hat with h1|h1;·exact hsep blk off e (by rw[h1,e3])
  ·rcases hne with h2|h2;·rw[h2]at e;cases e
   ·rcases h.nu with h3| ⟨b',off',e1,e4,_⟩;·exact h2 h3
    ·rw[e]at e1;cases e1;omega
theorem D6 {cs:Array Value}(h:cs.size=7) : ∃r0 r1 r2 r3 r4 r5 r6,cs= #[r0,r1,r2,r3,r4,r5,r6] :=by
 rcases cs with⟨l⟩;match l,h with
 | [a,b,c,d,e,f,g],_=>exact⟨a,b,c,d,e,f,g,rfl⟩
theorem DA.dM {w W:World} {b:Nat} {ao:Option Addr} {n cap:Nat} {A:Int} {R BX:Nat} {fo st ph:Bool} {aS:Option Addr} {cS:Nat} {stops:List (List UInt8)} {vY:Value} {af:List (List UInt8×List UInt8)} {lo hi:Int}(h:DA w W b ao n cap A R BX fo st ph aS cS stops vY af lo hi)(k:Nat)(u:Value) :DA w (W.setCell ⟨R,k,none⟩ u) b ao n cap A R BX fo st ph aS cS stops vY af lo hi:=by have h1:=h.bl;have h2:=h.rl;have h3:=h.xl;have hg: ∀g,g≠R→(W.setCell ⟨R,k,none⟩ u).heap[g]?=W.heap[g]?:=fun g hne=>au W R k u g hne;obtain⟨cs,hr1,hr2⟩ :=h.res;refine⟨h.src.set R k u (by omega) (fun j hj=> ?_),⟨h.but.os,h.but.tape,h.but.output,by have:=h.but.size;simpa using this,fun i hi hn=>(hg i (by omega)).trans (h.but.block i hi hn)⟩,⟨_,aV hr1 k u,by rw[Array.size_setIfInBounds];exact hr2⟩,(hg BX (by omega)).trans h.box,rX h.nu (by simp) (fun blk off e=>hg blk (by have:=h.A8 blk off e;omega)),h.A8,tZ h.syn (fun g e=>hg g (by have:=(fA h.syn g e).1;omega)),h1,h2,h3,h.cb⟩;obtain⟨blk,off,q1,q2⟩ :=h.cb j hj;exact⟨blk,off,q1,by omega⟩
def R7(w:World)(b:Nat)(ao:Option Addr)(n cap:Nat)(A:Int)(e:Ending)(w':World) :Prop:=∃(fo st ph:Bool)(aS aY:Option Addr)(cS cY:Nat)(stops:List (List UInt8))(af:List (List UInt8×List UInt8))(lo hi:Int),e= .returned (.agg #[.bool fo,.bool st,.bool ph,.slice aS stops.length cS,.slice aY af.length cY,.int .i64 lo,.int .i64 hi])∧Sx b ao n cap w' A∧But (fun x=>x=b) w w'∧bE w' aS stops∧dB w' aY af∧(∀blk off,aS=some ⟨blk,off,none⟩→w.heap.size≤blk∧blk<w'.heap.size)∧(∀blk off,aY=some ⟨blk,off,none⟩→w.heap.size≤blk∧blk<w'.heap.size)∧stops.length≤100∧af.length≤100∧Mv stops∧Kc af∧ -100≤lo∧lo≤100∧ -100≤hi∧hi≤100∧(aS=none→cS=0)∧(aY=none→cY=0)
theorem DA.drawn {w W:World} {b:Nat} {ao:Option Addr} {n cap:Nat} {A A':Int} {R BX:Nat} {fo st ph:Bool} {aS aY:Option Addr} {cS nY cY:Nat} {stops:List (List UInt8)} {af:List (List UInt8×List UInt8)} {lo hi:Int}(h:DA w W b ao n cap A R BX fo st ph aS cS stops (.slice aY nY cY) af lo hi)(hA:A≤A')(h1:stops.length≤4)(h2: ∀t,t<stops.length→(stops.getD t []).length≤16)(h3:af.length≤100)(h4: ∀y∈af,y.1.length≤16∧y.2.length≤16)(hne:(aS=none∧cS=0)∨stops≠ [])(h5: -100≤lo)(h6:lo≤100)(h7: -100≤hi)(h8:hi≤100) :R7 w b ao n cap A' (.returned (.agg #[.bool fo,.bool st,.bool ph,.slice aS stops.length cS,.slice aY nY cY,.int .i64 lo,.int .i64 hi])) W:=by
 have hz:=h.but.size;have e:nY=af.length∧dB W aY af∧(∀blk off,aY=some ⟨blk,off,none⟩→w.heap.size≤blk∧blk<W.heap.size)∧(aY=none→cY=0) :=by
  have hs:=h.syn;have hl:=uO af;rcases hs.2 with⟨e1,e2⟩| ⟨g,c,cur,e1,e2,e3,e4⟩
  ·injection e1 with q1 q2 q3;subst q1 q2 q3;have:af.length=0:=by omega
   exact⟨this.symm,Or.inl (List.length_eq_zero_iff.1 this),(fun blk off e=>by cases e),fun _=>rfl⟩
  ·injection e1 with q1 q2 q3;subst q1 q2 q3;refine⟨rfl,IX hs,fun blk off e=> ?_,fun e=>by cases e⟩;cases e;have:=h.rl;have:=h.xl;have:=(Array.getElem?_eq_some_iff.1 e3).1;exact⟨by omega,this⟩
 obtain⟨rfl,e2,e3,e4⟩ :=e;refine⟨fo,st,ph,aS,aY,cS,cY,stops,af,lo,hi,rfl,h.src.mono hA,h.but,h.nu,e2,fun blk off e=> ?_,e3,by omega,h3,fun t ht=> ?_,fun t ht=> ?_,h5,h6,h7,h8,fun e=> ?_,e4⟩
 ·have:=h.A8 blk off e;have:=h.rl;have:=h.xl;refine⟨by omega,?_⟩;rcases hne with h'|h';·rw[h'.1]at e;cases e
  ·rcases h.nu with q| ⟨_,_,q,q2,_⟩;·exact absurd q h'
   ·rw[e]at q;cases q;exact q2
 ·rw[aK];have:=h2 t ht;omega
 ·have hm:af.getD t ([],[])∈af:=by rw[List.getD_eq_getElem?_getD,List.getElem?_eq_getElem ht,Option.getD_some];exact List.getElem_mem _
  have:=h4 _ hm;rw[aK,aK];omega
 ·rcases hne with h'|h';·exact h'.2
  ·rcases h.nu with q| ⟨_,_,q,_⟩;·exact absurd q h'
   ·rw[e]at q;cases q
end Go.Proofs.YtcjiphknpagenaaGreatDoor
