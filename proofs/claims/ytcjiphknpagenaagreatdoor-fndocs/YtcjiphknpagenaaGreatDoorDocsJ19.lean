import Derived.Test.YtcjiphknpagenaaGreatDoorDocsJ18
namespace Go.Proofs.YtcjiphknpagenaaGreatDoor
open Go Go.RowKit
set_option linter.unusedVariables false
set_option linter.unusedSimpArgs false
set_option maxRecDepth 100000
set_option maxHeartbeats 8000000
theorem qE(lo hi:Int)(w:World) :Calls Tryz.prog 94 #[.int .i64 lo,.int .i64 hi] w fun e w'=>e= .returned (.bool (rF lo hi))∧w'=w:=by
 have HG:Hid (rF lo hi=(decide (1≤lo) &&decide (lo≤hi) &&decide (hi≤8))) :=by show _=_;rw[Bool.eq_iff_iff,xY];simp[and_assoc]
 by_cases h1:1≤lo
 ·by_cases h2:lo≤hi
  ·have HB:Hid ((decide (1≤lo) &&decide (lo≤hi))=true) :=by show _=_;rw[decide_eq_true h1,decide_eq_true h2];rfl
   go_enter Tryz.func94,Tryz.ntmps94;go_wp2;go_ret;rw[HG.out,HB.out,Bool.true_and];exact⟨rfl,rfl⟩
  ·have AQ:decide (lo≤hi)=false:=decide_eq_false h2;have HB:Hid ((decide (1≤lo) &&decide (lo≤hi))=false) :=by show _=_;rw[AQ,Bool.and_false]
   go_enter Tryz.func94,Tryz.ntmps94;go_wp2;go_ret;rw[HG.out,HB.out,Bool.false_and];exact⟨rfl,rfl⟩
 ·have h1b:decide (1≤lo)=false:=decide_eq_false h1;have HB:Hid ((decide (1≤lo) &&decide (lo≤hi))=false) :=by show _=_;rw[h1b,Bool.false_and]
  go_enter Tryz.func94,Tryz.ntmps94;go_wp2;go_ret;rw[HG.out,HB.out,Bool.false_and];exact⟨rfl,rfl⟩
def lq(t:List Int)(L H k:Nat) :List (List UInt8) :=qp t (max L (k+1)) (H+1-max L (k+1))
theorem Pd(t:List Int)(L H:Nat)(h:1≤L) :lq t L H 0=qp t L (H+1-L) :=by rw[lq,Nat.max_eq_left (by omega)]
theorem Pm(t:List Int)(L H k:Nat)(h:H<k+1) :lq t L H k= [] :=by rw[lq,show H+1-max L (k+1)=0 by omega];rfl
theorem U9(t:List Int)(L H k:Nat)(h:t.length≤k) :lq t L H k= [] :=by rw[lq];exact yN t _ _ (by omega)
theorem UU(t:List Int)(L H k:Nat)(h:k+1<L) :lq t L H (k+1)=lq t L H k:=by rw[lq,lq,Nat.max_eq_left (by omega),Nat.max_eq_left (by omega)]
theorem Xo(t:List Int)(L H k:Nat)(h:L≤k+1)(hH:k+1≤H)(hk:k<t.length) :lq t L H k=encs (t.take (k+1)) ::lq t L H (k+1) :=by rw[lq,lq,Nat.max_eq_right (by omega),Nat.max_eq_right (by omega),show H+1-(k+1)=(H+1-(k+1+1))+1 by omega,Dv t (k+1) _ (by omega)]
def ng(B:Nat)(w wr:World)(v c:Value) :Prop:=(∀i,i<B→some i≠v.ownBlock→wr.heap[i]?=w.heap[i]?)∧(c.ownBlock=v.ownBlock∨∃g,c.ownBlock=some g∧B≤g)
theorem ng.below {B:Nat} {w wr wx:World} {v c:Value}(h:ng B w wr v c)(hB:B≤wr.heap.size)(hb:Below wr.heap.size wr wx) :ng B w wx v c:=⟨fun i hi hv=>(hb.block i (by omega)).trans (h.1 i hi hv),h.2⟩
theorem ng.iterAt {B p':Nat} {w wr:World} {v c:Value} {t:ByteArray}(h:ng B w wr v c) :ng B w (wr.iterAt B t p') v c:=⟨fun i hi hv=>(Lib.iterAt_other wr B i t p' (by omega)).trans (h.1 i hi hv),h.2⟩
theorem ng.append {B:Nat} {w wr wx:World} {v c c':Value}(h:ng B w wr v c)(hB:B≤wr.heap.size)(hg:wr.grownBy wx c.ownBlock)(hat:c'.ownBlock=c.ownBlock∨c'.ownBlock=some wr.heap.size) :ng B w wx v c':=by
 refine⟨fun i hi hv=> ?_,?_⟩
 ·refine(hg.block i (by omega) ?_).trans (h.1 i hi hv);rcases h.2 with e| ⟨g,e,hge⟩;·rw[e];exact hv
  ·rw[e];intro hh;cases hh;omega
 ·rcases hat with e|e;·rw[e];exact h.2
  ·exact Or.inr ⟨_,e,hB⟩
theorem EZ(base:Nat)(v:Value)(out:List (List UInt8))(t:ByteArray)(L H:Nat)(w:World)(hs:t.size≤65536)(HV:Hid (bM t=true))(h1:1≤L)(h2:L≤H)(h8:H≤8)(ho:out.length≤4096)(hb:base≤w.heap.size)(HO:Hid (w.ownsRow base 9 1 v out.length (bR out))) :Calls Tryz.prog 158 #[v,.string t,.int .i64 L,.int .i64 H] w fun e w'=>∃v',e= .returned v'∧w'.ownsRow base 9 1 v' (out++qp (runes t) L (H+1-L)).length (bR (out++qp (runes t) L (H+1-L)))∧Below base w w'∧ng w.heap.size w w' v v':=by
 obtain⟨i0,hi,hz0,hz1,hz2⟩ :=info_parts Tryz.infoStr;have su:=aa (Pd (runes t) L H h1);rw[←su.out];generalize hG:out++lq (runes t) L H 0=G;have HG:=aa hG;have kY:=aa (World.iter_heap w t 0);have hrl:=mG t;clear hG su;go_enter Tryz.func158,Tryz.ntmps158;go_wp2_with fail;have HB0:Hid (Below base w (w.iter t 0)) :=(Below.refl _ _).alloc hb _;have HK0:Hid (ng w.heap.size w (w.iter t 0) v v) :=⟨fun i hi _=>((Below.refl w.heap.size w).alloc (Nat.le_refl _) _).block i hi,Or.inl rfl⟩;have GU:Hid ((w.iter t 0).ownsRow base 9 1 v out.length (bR out)) :=HO.out.alloc _;generalize w.iter t 0=w4 at*;generalize hB:w.heap.size=B at*;clear HO;go_loopw [0,9](fun c i wr=>∃(k:Nat)(o:List (List UInt8)),k≤(runes t).length∧i= .int .i64 k∧k≤H+1∧wr.ownsRow base 9 1 c o.length (bR o)∧o++lq (runes t) L H k=G∧o.length≤4096+k∧wr.heap[B]?=some (.stringIter t (aM ((runes t).take k)))∧Below base w wr∧ng B w wr v c)(fun _ _ wr=>t.size-wr.iterPos B)
 case atStart=>exact⟨0,out,by omega,rfl,by omega,GU.out,HG.out,by omega,kY.out,HB0.out,HK0.out⟩
 case round=>
  obtain⟨k,o,hk,rfl,hkH,hown,hGk,hol,hit,hbel,hkb⟩ :=hrel;have Rv:=aa hkb;clear hkb HK0;have uq:=aa hown;have rZ:=aa hGk;clear hown hGk GU HB0 kY;have hlt':=QV t k HV.out;generalize hp:aM ((runes t).take k)=p at*;have Hp:=aa hp;clear hp;by_cases hlt:p<t.size
  ·have hkl:k<(runes t).length:=hlt'.2 hlt;have hst:=OL t k HV.out (by rw[Hp.out];exact hlt);rw[Hp.out]at hst;have hnx: ∀ty,(Instr.next (.pointer (some ⟨B,0,none⟩)) true ty).run Tryz.prog wr=_:=fun ty=>Lib.run_next_any_at wr B t p ty hit hlt;have hw:=width_le t p hlt;have hr:=rune_le t p;have cu:=aa (own_iterAt uq.out hit (p+(Utf8.decode t p).2));have hit2:=Lib.iterAt_heap wr B t p (p+(Utf8.decode t p).2) hit;have eY:=Lib.below_iterAt hbel (k:=B) (by omega) t (p+(Utf8.decode t p).2);have xX:=aa (Rv.out.iterAt (t:=t) (p':=p+(Utf8.decode t p).2));have Hpos:=aa (iterPos_of hit);have iH:=aa hit2;have HB2:=aa eY;have lC:base≤(wr.iterAt B t (p+(Utf8.decode t p).2)).heap.size:=Nat.le_trans hb (by rw[←hB]at*;exact Nat.le_trans (Nat.le_of_eq hB.symm.symm) (by have:=eY.size;omega));have Fg:B<(wr.iterAt B t (p+(Utf8.decode t p).2)).heap.size:=(Array.getElem?_eq_some_iff.1 hit2).1
   have qN:Hid (aM ((runes t).take (k+1))=p+(Utf8.decode t p).2) :=hst.2.1;have HCH:Hid (fT ((Utf8.decode t p).1:Int)=true) :=by show _=_;rw[hst.1];exact hst.2.2
   have zM:Hid (Lib.runeLen ((Utf8.decode t p).1:Int)=((Utf8.decode t p).2:Int)) :=by show _=_;rw[yY _ HCH.out,jL t p hlt (pM t p hlt (by have:=(vI t k HV.out).2;rwa [Hp.out]at this))]
   clear hst uq hit2 eY hbel hlt';generalize(Utf8.decode t p).1=r at*;generalize(Utf8.decode t p).2=n at*;generalize wr.iterAt B t (p+n)=wi at*;by_cases adh:H<k+1
   ·have hoz:(H:Int)<(k:Int)+1:=by omega
    have HE:Hid (G=o) :=by show _=_;rw[←rZ.out,Pm _ _ _ _ adh,List.append_nil]
    go_wp2_with fail;go_ret;rw[HE.out];exact⟨_,rfl,cu.out,HB2.out,by rw[hB];exact xX.out⟩
   have hoz: ¬(H:Int)<(k:Int)+1:=by omega
   by_cases hlow:k+1<L
   ·have hlz: ¬(L:Int)≤(k:Int)+1:=by omega
    have HE:Hid (o++lq (runes t) L H (k+1)=G) :=by show _=_;rw[UU _ _ _ _ hlow];exact rZ.out
    go_wp2_with fail;go_roundw;case rel=>exact⟨k+1,o,by omega,by go_num,by omega,cu.out,HE.out,by omega,by rw[qN.out];exact iH.out,HB2.out,xX.out⟩
    case measure=>rw[iterPos_of iH.out,Hpos.out];omega
   ·have hlz:(L:Int)≤(k:Int)+1:=by omega
    have HIN:=aa (Xo (runes t) L H k (by omega) (by omega) hkl);have XE:Hid (t.extract 0 (p+n)=bs (encs ((runes t).take (k+1)))) :=by show _=_;rw[←qN.out];exact Wm t (k+1) HV.out
    have hpn:p+n≤t.size:=by omega
    have hpz:(p:Int)+(n:Int)≤(t.size:Int) :=by omega
    generalize encs ((runes t).take (k+1))=T at*;have hTz:(bs T).size≤65536:=by rw[←XE.out,←fP,Lib.extract_data];simp;omega
    go_wp2_with fail;refine(Tryz.utf8_RuneLen _ _).mono ?_;rintro e w'⟨rfl,hw'⟩;obtain rfl:=hw'.symm;clear hw';rw[zM.out];go_wp2_with fail;rw[XE.out];refine(nH (bs T) _ hTz).mono ?_;rintro e w5⟨rfl,hb5⟩;have eG:=aa (HB2.out.trans (hb5.mono lC));have jH:=aa (own_below cu.out hb5);have HK5:=aa ((xX.out.below (by omega) hb5).below (Nat.le_of_lt (Nat.lt_of_lt_of_le Fg hb5.size)) ((Below.refl w5.heap.size w5).alloc (Nat.le_refl _) (.cells #[.string (bs T)] 9)));have V9:Hid (w5.heap[B]?=some (.stringIter t (p+n))) :=(hb5.block B Fg).trans iH.out;have Ak:base≤w5.heap.size:=Nat.le_trans lC hb5.size;have agt:B<w5.heap.size:=Nat.lt_of_lt_of_le Fg hb5.size;clear hb5 cu HB2 iH XE;go_wp2_with(at_builtin;refine wpList_append_own_at _ rfl _ _ 40 rfl base 9 i0 (.string ⟨#[]⟩) 1 16 Tryz.underlying40 hi hz0 hz1 hz2 rfl (by decide) _ _ _ rfl (jH.out.alloc _) ⟨w5.heap.size,0,none⟩ 1 1 [.string (bs T)] rfl rfl ?c1 ?c2 ?c3 ?c4 ?c5 ?_)
    case c1=>
     intro j u hj;match j,hj with
     |0,hj=>simp at hj;subst hj;simp[Addr.add]
    case c2=>intro u hu;simp at hu;subst hu;rfl
    case c3=>unfold maxLen;omega
    case c4=>omega
    case c5=>simp;omega
    intro v' w6 hown' hgrow hne hat;have RR:Hid (w6.ownsRow base 9 1 v' (o++ [T]).length (bR (o++ [T]))∧w6.heap[B]?=some (.stringIter t (p+n))∧Below base w w6∧ng B w w6 v v') :=by
     refine⟨?_,?_,(eG.out.alloc Ak _).grown hgrow (by simp;omega) (iM jH.out),HK5.out.append (by simp;omega) hgrow (by rw[show(w5.alloc (.cells #[.string (bs T)] 9)).heap.size=w5.heap.size+1 by simp];exact hat)⟩;·rw[ow,List.length_append];exact hown'
     ·rw[hgrow.block B (by simp;omega) (own_ne_iter jH.out V9.out),Below.heap_alloc _ _ _ agt];exact V9.out
    have HE:Hid (o++ [T]++lq (runes t) L H (k+1)=G) :=by show _=_;rw[←rZ.out,HIN.out];simp
    clear hown' hgrow hne hat jH eG rZ HIN V9 HK5 xX;go_wp2_with fail;go_roundw;case rel=>exact⟨k+1,o++ [T],by omega,by go_num,by omega,RR.out.1,HE.out,by simp;omega,by rw[qN.out];exact RR.out.2.1,RR.out.2.2.1,RR.out.2.2.2⟩
    case measure=>rw[iterPos_of RR.out.2.1,Hpos.out];omega
  ·have hkl: ¬k<(runes t).length:=fun h=>hlt (hlt'.1 h);have hnx: ∀ty,(Instr.next (.pointer (some ⟨B,0,none⟩)) true ty).run Tryz.prog wr=_:=fun ty=>Lib.run_next_end_at wr B t p ty hit hlt;have HE:Hid (G=o) :=by show _=_;rw[←rZ.out,U9 _ _ _ _ (by omega),List.append_nil]
   clear hit hlt';go_wp2_with fail;go_ret;rw[HE.out];exact⟨_,rfl,uq.out,hbel,by rw[hB];exact Rv.out⟩
theorem WZ(zs:List Int)(k:Nat)(hk:k<zs.length) :(((zs.take k).map dG++zs.drop k).map (Value.int .i64)).set k (.int .i64 (dG zs[k]))=((zs.take (k+1)).map dG++zs.drop (k+1)).map (Value.int .i64) :=by
 have hd:zs.drop k=zs[k] ::zs.drop (k+1) :=by rw[List.drop_eq_getElem_cons hk]
 have ht:zs.take (k+1)=zs.take k++ [zs[k]] :=List.take_succ_eq_append_getElem hk;have e:(((zs.take k).map dG).map (Value.int .i64)).length=k:=by simp;omega
 rw[List.map_append,List.set_append_right _ _ (by omega),e,Nat.sub_self,hd,ht];simp only[List.map_append,List.map_cons,List.map_nil,List.set_cons_zero,List.append_assoc,List.cons_append,List.nil_append]
theorem fold_at(zs:List Int)(k:Nat)(hk:k<zs.length) :(((zs.take k).map dG++zs.drop k).map (Value.int .i64))[k]?=some (.int .i64 zs[k]) :=by
 have e:(((zs.take k).map dG).map (Value.int .i64)).length=k:=by simp;omega
 rw[List.map_append,List.getElem?_append_right (by omega),e,Nat.sub_self];simp[hk]
theorem M7(s:ByteArray)(w:World)(hs:s.size≤65536)(hv:bM s=true) :Calls Tryz.prog 109 #[.string s] w fun e w'=>e= .returned (.string ⟨(encs (uW s)).toArray⟩)∧Below w.heap.size w w':=by
 have HL:Hid (oG s=runes s) :=by show _=_;rw[oG,if_pos hv]
 have hn:=mG s;have Ye:=aa (Uv s hv);have HR:Hid (uW s=(runes s).map dG) :=rfl;go_enter Tryz.func109,Tryz.ntmps109;go_wp2_with fail;refine(nM s _ (by omega)).mono ?_;rintro e w1⟨v,rfl,hown,hb1⟩;rw[HL.out]at hown;rw[HR.out]at Ye;obtain⟨zs,hzs⟩ : ∃zs,zs=runes s:=⟨_,rfl⟩;rw[←hzs]at hown Ye hn HR;clear HL hzs;rcases fO hown with⟨rfl,hz⟩| ⟨g,cap,rfl,hbg,hgl⟩;·obtain rfl:zs= [] :=List.eq_nil_of_length_eq_zero hz;clear hown Ye;go_wp2;refine wp_loop_rounds 1 ?_;rw[rounds_succ];go_wp2_with fail;refine(Dh none 0 _).mono ?_;rintro e w2⟨rfl,hb2⟩;go_wp2;go_ret;rw[HR.out];exact⟨rfl,hb1.trans (hb2.mono hb1.size)⟩
 ·have HO:=aa hown;clear hown;go_wp2;go_loopw [5](fun i wr=>∃k:Nat,k≤zs.length∧i= .int .i64 k∧wr.ownsRow w.heap.size 3 1 (.slice (some ⟨g,0,none⟩) zs.length cap) zs.length (((zs.take k).map dG++zs.drop k).map (Value.int .i64))∧Below w.heap.size w wr)(fun i _=>zs.length-(intOf i).toNat);case atStart=>exact⟨0,Nat.zero_le _,rfl,by simpa using HO.out,hb1⟩
  case round=>
   obtain⟨k,hk,rfl,hown,hbel⟩ :=hrel;by_cases hlt:k<zs.length
   ·have q1:wr.cell? ⟨g,k,none⟩=some (.int .i64 zs[k]) :=by rw[hown.cellAt k (by omega)];exact fold_at zs k hlt
    have f1:=hown.frozenAt k;have st:=aa (hown.stored k (.int .i64 (dG zs[k])));clear hown;go_wp2_with fail;refine(BJ _ _).mono ?_;rintro e w2⟨rfl,rfl⟩;generalize hfz:dG zs[k]=fz at st⊢;have YD:=aa hfz;clear hfz;go_wp2;go_roundw;case rel=>refine⟨k+1,by omega,by go_num,?_,hbel.setCell (p:=⟨g,k,none⟩) hbg _⟩;have h:=st.out.1;rw[←YD.out,WZ zs k hlt]at h;rw[←YD.out];exact h
    case measure=>simp[intOf];omega
   ·have HK:Hid (k=zs.length) :=by show k=zs.length;omega
    rw[HK.out,List.take_of_length_le (Nat.le_refl _),List.drop_of_length_le (Nat.le_refl _),List.append_nil]at hown;have cu:=aa hown;clear hown;go_wp2_with fail;refine(Qc _ zs.length _ (zs.map dG) _ (by omega) (by simp) Ye.out cu.out).mono ?_;rintro e w2⟨rfl,hb2⟩;go_wp2;go_ret;rw[HR.out];exact⟨rfl,hbel.trans (hb2.mono hbel.size)⟩
theorem Gb(a b:List UInt8) :((bs a).toList==(bs b).toList)=(a==b) :=by rw[Lib.toList_data,Lib.toList_data,show(bs a).data.toList=a from bH a,show(bs b).data.toList=b from bH b]
theorem NG(a:Option Addr)(cap:Nat)(l:List (List UInt8))(t:List UInt8)(w:World)(hn:l.length≤1048576)(hS:bE w a l) :Calls Tryz.prog 110 #[.slice a l.length cap,.string (bs t)] w fun e w'=>e= .returned (.bool (iR l t))∧w'=w:=by
 have HS:=aa hS;clear hS;go_enter Tryz.func110,Tryz.ntmps110;go_wp2;go_loop [5](fun i=>∃k:Nat,k≤l.length∧i= .int .i64 k∧iR (l.take k) t=false)(fun i=>l.length-(intOf i).toNat);case atStart=>exact⟨0,Nat.zero_le _,rfl,rfl⟩
 case round=>
  obtain⟨k,hk,rfl,hno⟩ :=hrel;have HN:=aa hno;clear hno;by_cases hlt:k<l.length
  ·obtain⟨b,off,rfl,hbl,hc⟩ :=HS.out.resolve_left (fun h=>by rw[h]at hlt;simp at hlt);have g1:=hc k hlt;have HE:=aa (Gb (l.getD k []) t);have j5:=aa (Um l k t hlt);have HY:Hid ((l.getD k []==t)=true→iR l t=true) :=V4 hlt;generalize l.getD k []=x at*;clear hc;cases hx:(x==t)
   ·have he:((bs x).toList==(bs t).toList)=false:=by rw[HE.out];exact hx
    have tO:Hid (iR (l.take (k+1)) t=false) :=by show _=_;rw[j5.out,HN.out,hx];rfl
    clear HE hx;go_wp2;go_round;case rel=>exact⟨k+1,by omega,by go_num,tO.out⟩
    case measure=>simp[intOf];omega
   ·have he:((bs x).toList==(bs t).toList)=true:=by rw[HE.out];exact hx
    have HR:=aa (HY.out hx);clear HE hx;go_wp2;go_ret;rw[HR.out];exact⟨rfl,rfl⟩
  ·have HR:Hid (iR l t=false) :=by have h:=HN.out;rw[List.take_of_length_le (by omega)]at h;exact h
   go_wp2;go_ret;rw[HR.out];exact⟨rfl,rfl⟩
theorem Hl(t:List UInt8)(ht:(bs t).size≤65536) :(bs (tH t)).size≤262144:=by rw[aK,tH];have h1:=ym (uW (bs t));have h2:=mG (bs t);rw[uW,List.length_map]at h1;rw[uW];omega
theorem MB(l:List UInt8) :(gU l).length≤l.length:=by
 unfold gU;repeat' split
 ·simp
 ·exact Nat.le_refl _
 ·have h1:=Ky l;have h2:=za (dz l);have h3:=KN (gy (dz l));have h4:=LW (jq (gy (dz l)));omega
 ·exact Nat.le_refl _
theorem SF(x:List UInt8) :(mZ x).length≤4:=by
 unfold mZ jc;split;·simp
 ·rw[List.length_take];omega
theorem TP(b:Bool)(x:List UInt8)(n:Nat)(h:x.length≤n) :(eO b x).length≤n:=by
 unfold eO;split;·exact Nat.le_trans (MB x) h
 ·exact h
theorem EF(b:Bool)(x:List UInt8)(n:Nat)(h4:4≤n)(h:x.length≤n) :(bQ b x).length≤n:=by
 unfold bQ;split;·exact Nat.le_trans (SF x) h4
 ·exact h
theorem Kt(af:List (List UInt8×List UInt8))(T:List UInt8)(hT:T.length≤262144)(hz: ∀k,k<af.length→(af.getD k ([],[])).2.length≤64) : ∀k,k<(bB af T).length→((bB af T).getD k []).length≤262144:=by
 have key: ∀x∈bB af T,x.length≤262144:=by
  intro x hx;rw[bB]at hx;rcases List.mem_cons.1 hx with rfl|hx;·exact hT
  ·simp only[qx,List.mem_map,List.mem_filter]at hx;obtain⟨y,⟨hy,_⟩,rfl⟩ :=hx;obtain⟨k,hk,rfl⟩ :=List.getElem_of_mem hy;have:=hz k hk;rw[List.getD_eq_getElem?_getD,List.getElem?_eq_getElem hk,Option.getD_some]at this;omega
 intro k hk;apply key;rw[List.getD_eq_getElem?_getD,List.getElem?_eq_getElem hk,Option.getD_some];exact List.getElem_mem _
theorem xw {w:World} {base:Nat} {v:Value} {l:List (List UInt8)}(h:w.ownsRow base 9 1 v l.length (bR l)) : ∃a cap,v= .slice a l.length cap∧bE w a l∧(∀b off,a=some ⟨b,off,none⟩→base≤b∧v.ownBlock=some b) :=by
 rcases fO h with⟨rfl,hz⟩| ⟨g,cap,rfl,hb,hl⟩;·exact⟨none,0,by rw[hz],Or.inl (List.length_eq_zero_iff.1 hz),fun b off e=>by cases e⟩
 ·exact⟨some ⟨g,0,none⟩,cap,rfl,Or.inr ⟨g,0,rfl,hl,fun t ht=>by rw[Nat.zero_add];exact uV h t ht⟩,fun b off e=>by cases e;exact⟨hb,rfl⟩⟩
theorem bE.grown {w w':World} {a:Option Addr} {l:List (List UInt8)} {row:Option Nat}(h:bE w a l)(hg:w.grownBy w' row)(hne: ∀b off,a=some ⟨b,off,none⟩→some b≠row) :bE w' a l:=by
 rcases h with h| ⟨b,off,h1,h2,h3⟩;·exact Or.inl h
 ·refine Or.inr ⟨b,off,h1,Nat.lt_of_lt_of_le h2 hg.size,fun t ht=> ?_⟩;have hb:=hg.block b h2 (hne b off h1);have hc:=h3 t ht;simp only[World.cell?]at hc⊢;rw[hb];exact hc
theorem FJ {w:World} {base e n:Nat} {v:Value} {xs:List Value}(h:w.ownsRow base e 1 v n xs) : ∀k,v.ownBlock=some k→k<w.heap.size:=by
 intro k hk;rcases fO h with⟨rfl,_⟩| ⟨g,cap,rfl,_,hl⟩;·cases hk
 ·cases hk;exact hl
theorem own_ne {w:World} {base e n:Nat} {v:Value} {xs:List Value} {a:Option Addr}(h:w.ownsRow base e 1 v n xs)(hb: ∀b off,a=some ⟨b,off,none⟩→w.heap.size≤b) : ∀b off,a=some ⟨b,off,none⟩→some b≠v.ownBlock:=fun b off e1 e2=>Nat.lt_irrefl _ (Nat.lt_of_lt_of_le (FJ h b e2.symm) (hb b off e1))
theorem GI(p:List UInt8) :(bs p).toList.isEmpty=(p== []) :=by rw[Lib.toList_data,show(bs p).data.toList=p from bH p];cases p<;>rfl
theorem TG(s:ByteArray)(lo hi:Int) :(eX s lo hi).length≤4096:=by
 unfold eX;split
 ·rename_i h;unfold dw at h;repeat' split at h
  all_goals first|omega| (cases h;done)|skip
 ·simp
theorem Et(lo hi:Int)(z:List UInt8) :(jf lo hi z).length≤4096:=by
 unfold jf;split;·exact TG _ _ _
 ·simp
theorem Tp(fo st ph:Bool)(aS aY:Option Addr)(cS cY:Nat)(stops:List (List UInt8))(af:List (List UInt8×List UInt8))(lo hi:Int)(t:List UInt8)(w:World)(hS:bE w aS stops)(hY:dB w aY af)(FK:stops.length≤64)(Al:af.length≤64)(zY: ∀k,k<af.length→(af.getD k ([],[])).2.length≤64)(ht:(bs t).size≤65536)(hv:bM (bs t)=true)(L:List (List UInt8))(C:Int)(HF:Hid (gV fo st ph stops af lo hi t=(L,C))) :Calls Tryz.prog 86 #[.agg #[.bool fo,.bool st,.bool ph,.slice aS stops.length cS,.slice aY af.length cY,.int .i64 lo,.int .i64 hi],.string (bs t)] w fun e w'=>∃v,e= .returned (.tuple #[v,.int .i64 C])∧w'.ownsRow w.heap.size 9 1 v L.length (bR L)∧Below w.heap.size w w':=by
 obtain⟨i0,hi0,hz0,hz1,hz2⟩ :=info_parts Tryz.infoStr;have ax:Hid (Below w.heap.size w (w.alloc (.cells #[.bool fo,.bool st,.bool ph,.slice aS stops.length cS,.slice aY af.length cY,.int .i64 lo,.int .i64 hi] 73))) :=(Below.refl _ _).alloc (Nat.le_refl _) _;have hblk:(w.alloc (.cells #[.bool fo,.bool st,.bool ph,.slice aS stops.length cS,.slice aY af.length cY,.int .i64 lo,.int .i64 hi] 73)).heap[w.heap.size]?=some (.cells #[.bool fo,.bool st,.bool ph,.slice aS stops.length cS,.slice aY af.length cY,.int .i64 lo,.int .i64 hi] 73) :=heap_alloc_new _ _;have yw:=aa (hS.below ax.out);have uB:=aa (hY.below ax.out);have ZY:=aa zY;have HV:=aa hv;clear hS hY zY hv;go_enter Tryz.func86,Tryz.ntmps86;go_upto_if 17 with fail;generalize w.alloc (.cells #[.bool fo,.bool st,.bool ph,.slice aS stops.length cS,.slice aY af.length cY,.int .i64 lo,.int .i64 hi] 73)=wa at*
 generalize hB:w.heap.size=B at*;have fe:=aa hblk;clear hblk;have hza:=ax.out.size;go_cut [1](fun c wx=>c= .string (bs (eH fo t))∧Below wa.heap.size wa wx);case first=>
  cases fo;·go_wp2_with fail;go_meet;case rel=>exact⟨rfl,Below.refl _ _⟩
  ·go_wp2_with fail;refine(M7 (bs t) _ ht HV.out).mono ?_;rintro e w1⟨rfl,hb1⟩;go_wp2_with fail;go_meet;case rel=>exact⟨rfl,hb1⟩
 case rest=>
  obtain⟨rfl,hb1⟩ :=hcut;have HB1:=aa hb1;have hk1:=aD fe.out hb1;have Ey:=aa hk1;have hTz:(bs (eH fo t)).size≤262144:=by
   cases fo;·exact Nat.le_trans ht (by decide)
   ·exact Hl t ht
  have IY:Hid ((if iR stops (eH fo t)=true then([],0)else iK st ph lo hi [] (bB af (eH fo t)))=(L,C)) :=HF.out;generalize eH fo t=T at*;clear hb1 hk1 HF;have q3:wc.cell? ⟨B,3,none⟩=some (.slice aS stops.length cS) :=ah Ey.out 3;go_wp2_with fail;refine(NG aS cS stops T _ (by omega) (yw.out.below HB1.out)).mono ?_;rintro e w'⟨rfl,hw⟩;obtain rfl:=hw.symm;clear hw q3;have hzc:=HB1.out.size;have aI:Hid (Below B w wc) :=ax.out.trans (HB1.out.mono (by omega));cases hs:iR stops T
  ·have GR:Hid (iK st ph lo hi [] (bB af T)=(L,C)) :=by have h:=IY.out;rw[hs]at h;exact h
   clear hs IY;go_wp2_with fail;have hown0:=World.ownsRow_lit (base:=wc.heap.size) (e:=9) (size:=1) wc #[.string (bs T)] 1 (Nat.le_refl _) (by unfold maxLen;omega) (by simp);have tT:Hid (Below wc.heap.size wc (wc.alloc (.cells #[.string (bs T)] 9))) :=(Below.refl _ _).alloc (Nat.le_refl _) _;have GU:Hid ((wc.alloc (.cells #[.string (bs T)] 9)).ownsRow wc.heap.size 9 1 (.slice (some ⟨wc.heap.size,0,none⟩) 1 1) (bB (af.take 0) T).length (bR (bB (af.take 0) T))) :=hown0;clear hown0;go_loopw [6,7](fun v i wr=>∃k:Nat,k≤af.length∧i= .int .i64 k∧wr.ownsRow wc.heap.size 9 1 v (bB (af.take k) T).length (bR (bB (af.take k) T))∧v≠ .slice none 0 0∧Below wc.heap.size wc wr)(fun _ i _=>af.length-(intOf i).toNat);case atStart=>exact⟨0,by omega,rfl,GU.out,by simp,tT.out⟩
   case round=>
    obtain⟨k,hk,rfl,hown,hnn,hbr⟩ :=hrel;have HO:=aa hown;have HN:=aa hnn;have bg:=aa hbr;have q4:wr.cell? ⟨B,4,none⟩=some (.slice aY af.length cY) :=ah (aD Ey.out hbr) 4;have sG:=hbr.size;clear hown hnn hbr GU tT;by_cases hlt:k<af.length
    ·obtain⟨b,off,rfl,hbl,hc⟩ :=uB.out.resolve_left (fun h=>by rw[h]at hlt;simp at hlt);have g1:=(bg.out.cell (p:=⟨b,off+k*2,none⟩) (Nat.lt_of_lt_of_le hbl hzc)).trans ((HB1.out.cell (p:=⟨b,off+k*2,none⟩) hbl).trans (hc k hlt).1);have g2:=(bg.out.cell (p:=⟨b,off+k*2+1,none⟩) (Nat.lt_of_lt_of_le hbl hzc)).trans ((HB1.out.cell (p:=⟨b,off+k*2+1,none⟩) hbl).trans (hc k hlt).2);have jk:=aa (C9 af k T hlt);have HE:=aa (Gb (af.getD k ([],[])).1 T);have hl1:=pF (af.take k) T;rw[List.length_take]at hl1;clear hc;generalize(af.getD k ([],[])).1=f at*;generalize(af.getD k ([],[])).2=u at*;have hrl:(bB (af.take k) T).length≤65:=by rw[bB,List.length_cons];omega
     cases hf:(f==T)
     ·have he:((bs f).toList==(bs T).toList)=false:=by rw[HE.out];exact hf
      have HR:Hid (bB (af.take (k+1)) T=bB (af.take k) T) :=by show _=_;rw[bB,jk.out,hf];rfl
      clear HE hf jk;go_wp2_with fail;go_roundw;case rel=>exact⟨k+1,by omega,by go_num,by rw[HR.out];exact HO.out,HN.out,bg.out⟩
      case measure=>simp[intOf];omega
     ·have he:((bs f).toList==(bs T).toList)=true:=by rw[HE.out];exact hf
      have HR:Hid (bB (af.take (k+1)) T=bB (af.take k) T++ [u]) :=by show _=_;rw[bB,jk.out,hf];rfl
      clear HE hf jk;generalize bB (af.take k) T=rw0 at*;go_wp2_with(at_builtin;refine wpList_append_own _ rfl _ _ 40 rfl wc.heap.size 9 i0 (.string ⟨#[]⟩) 1 16 Tryz.underlying40 hi0 hz0 hz1 hz2 rfl (by decide) _ _ _ rfl (HO.out.alloc _) ⟨wr.heap.size,0,none⟩ 1 1 [.string (bs u)] rfl rfl ?c1 ?c2 ?c3 ?c4 ?c5 ?_);case c1=>
       intro j x hj;match j,hj with
       |0,hj=>simp at hj;subst hj;simp[Addr.add]
      case c2=>intro x hu;simp at hu;subst hu;rfl
      case c3=>unfold maxLen;omega
      case c4=>omega
      case c5=>simp;omega
      intro v' w6 hown' hgrow hne;have RR:Hid (w6.ownsRow wc.heap.size 9 1 v' (rw0++ [u]).length (bR (rw0++ [u]))∧v'≠ .slice none 0 0∧Below wc.heap.size wc w6) :=by refine⟨?_,hne,(bg.out.alloc sG _).grown hgrow (by simp;omega) (iM HO.out)⟩;rw[ow,List.length_append];exact hown'
      clear hown' hgrow hne HO bg;go_wp2_with fail;go_roundw;case rel=>exact⟨k+1,by omega,by go_num,by rw[HR.out];exact RR.out.1,RR.out.2.1,RR.out.2.2⟩
      case measure=>simp[intOf];omega
    ·have ZR:=HO.out;rw[List.take_of_length_le (by omega)]at ZR;have cu:=aa ZR;have HRl:Hid ((bB af T).length≤65) :=by show _≤_;rw[bB,List.length_cons];have:=pF af T;omega
     have HRz:Hid (∀k,k<(bB af T).length→((bB af T).getD k []).length≤262144) :=Kt af T (by rw[←aK];exact hTz) ZY.out;clear ZR HO;generalize bB af T=R at*;obtain⟨g,cap,rfl⟩ :=DY cu.out HN.out;have Eu:=aa (uV cu.out);have hgl:=K9 cu.out;have WR:Hid (Below B w wr) :=aI.out.trans (bg.out.mono (by omega));have Ut:=aa (aD Ey.out bg.out);clear cu HN bg Ey;go_wp2_with fail;clear q4 hlt;generalize wr=w3 at*;go_loopw [8,9](fun v i wx=>∃(k:Nat)(o:List (List UInt8)),k≤R.length∧i= .int .i64 k∧wx.ownsRow w3.heap.size 9 1 v o.length (bR o)∧v≠ .slice none 0 0∧o.length≤k*4096∧iK st ph lo hi o (R.drop k)=(L,C)∧Below w3.heap.size w3 wx)(fun _ i _=>R.length-(intOf i).toNat);case atStart=>exact⟨0,[],by omega,rfl,dJ w3 9,by simp,by simp,GR.out,(Below.refl _ _).alloc (Nat.le_refl _) _⟩
     case round=>
      obtain⟨m,o,hm,rfl,hown,hnn,hol,hgo,hbx⟩ :=hrel;have HO:=aa hown;have HN:=aa hnn;have HG:=aa hgo;have bq:=aa hbx;have rY:=aa (aD Ut.out hbx);clear hown hnn hgo hbx;by_cases hlt:m<R.length
      ·have HST:=aa (Kj st ph lo hi o R m hlt);have g1:=(bq.out.cell (p:=⟨g,m,none⟩) hgl).trans (Eu.out m hlt);have hxz:=HRz.out m hlt;have q1:wr.cell? ⟨B,1,none⟩=some (.bool st) :=ah rY.out 1;generalize R.getD m []=x at*;go_upto_if 63 with fail;go_cut [10](fun c wy=>c= .string (bs (eO st x))∧Below wr.heap.size wr wy);case first=>
        cases st;·go_wp2_with fail;go_meet;case rel=>exact⟨rfl,Below.refl _ _⟩
        ·go_wp2_with fail;refine(K5 (bs x) _ (by rw[aK];omega)).mono ?_;rintro e w5⟨rfl,n5,rfl⟩;rw[bH];go_wp2_with fail;go_meet;case rel=>exact⟨rfl,below_drewN (Below.refl _ _) n5⟩
       case rest=>
        obtain⟨rfl,hb5⟩ :=hcut;have hyz:=TP st x 262144 hxz;have HKc:=aa (aD rY.out hb5);have HBc:=aa (bq.out.trans (hb5.mono bq.out.size));have HOc:=aa (own_below HO.out hb5);clear hb5 g1 q1 hxz;generalize eO st x=y at*;go_wp2_with fail;refine(Jt (bs y) _ (by rw[aK];omega)).mono ?_;rintro e w6⟨rfl,hb6⟩;have HKd:=aa (aD HKc.out hb6);have Ud:=aa (HBc.out.trans (hb6.mono HBc.out.size));have HOd:=aa (own_below HOc.out hb6);clear hb6 HKc HOc HBc;have hpe:jc (di (bs y))=mZ y:=rfl;rw[hpe];clear hpe;have HPI:Hid (bQ ph y=if(ph&& !(mZ y== []))=true then mZ y else y) :=rfl;have hwz:=EF ph y 262144 (by decide) hyz;have q2:w6.cell? ⟨B,2,none⟩=some (.bool ph) :=ah HKd.out 2;generalize mZ y=p at*;go_upto_region 19 with fail;go_cut [73](fun c wy=>c= .bool (ph&& !(p== []))∧wy=w6);case first=>
         cases ph;·go_wp2_with fail;go_meet;case rel=>exact⟨rfl,rfl⟩
         ·go_wp2_with fail;go_meet;case rel=>rw[GI];exact⟨rfl,rfl⟩
        case rest=>
         obtain⟨rfl,hw⟩ :=hcut;obtain rfl:=hw.symm;clear hw;go_upto_if 73 with fail;go_cut [10](fun c wy=>c= .string (bs (bQ ph y))∧wy=w6);case first=>
          cases hpb:(ph&& !(p== []))
          ·have qN:Hid (bQ ph y=y) :=by show _=_;rw[HPI.out,hpb];rfl
           go_wp2_with fail;go_meet;case rel=>rw[qN.out];exact⟨rfl,rfl⟩
          ·have qN:Hid (bQ ph y=p) :=by show _=_;rw[HPI.out,hpb];rfl
           go_wp2_with fail;go_meet;case rel=>rw[qN.out];exact⟨rfl,rfl⟩
         case rest=>
          obtain⟨rfl,hw⟩ :=hcut;obtain rfl:=hw.symm;clear hw HPI q2;generalize bQ ph y=z at*;have YI:=aa (show jf lo hi z=if 0<lo then eX (bs z) lo hi else[z]from rfl);have EA:=aa (show codeOf lo hi z=if 0<lo then dw (bs z) lo hi else 0 from rfl);have sJ:Hid (Below w6.heap.size w6 (w6.alloc (.cells #[.string (bs z)] 9))) :=(Below.refl _ _).alloc (Nat.le_refl _) _;have HKe:=aa (aD HKd.out sJ.out);have q5:(w6.alloc (.cells #[.string (bs z)] 9)).cell? ⟨B,5,none⟩=some (.int .i64 lo) :=ah HKe.out 5;go_upto_if 79 with fail;have hlz:=Et lo hi z;go_cut [12](fun c wy=>∃aL cL,c= .slice aL (jf lo hi z).length cL∧bE wy aL (jf lo hi z)∧codeOf lo hi z=0∧(∀b off,aL=some ⟨b,off,none⟩→w6.heap.size≤b)∧Below w6.heap.size w6 wy);case first=>
           by_cases hlo:0<lo
           ·have Kh:Hid (jf lo hi z=eX (bs z) lo hi) :=by show _=_;rw[YI.out,if_pos hlo]
            have F4:Hid (codeOf lo hi z=dw (bs z) lo hi) :=by show _=_;rw[EA.out,if_pos hlo]
            have q6:(w6.alloc (.cells #[.string (bs z)] 9)).cell? ⟨B,6,none⟩=some (.int .i64 hi) :=ah HKe.out 6;clear YI EA;go_wp2_with fail;refine(Jd (bs z) lo hi _ (by rw[aK];omega)).mono ?_;rintro e w7⟨v7,rfl,fJ,iV⟩;have gF:=aa (sJ.out.trans (iV.mono sJ.out.size));have jy:=aa fJ;clear fJ iV q5 q6;by_cases hc:dw (bs z) lo hi=0
            ·rw[hc];have HE:Hid (codeOf lo hi z=0) :=F4.out.trans hc;obtain⟨aL,cL,rfl,hh,hbase⟩ :=xw jy.out;have RR:Hid (∃a' c',Value.slice aL (eX (bs z) lo hi).length cL= .slice a' (jf lo hi z).length c'∧bE w7 a' (jf lo hi z)∧codeOf lo hi z=0∧(∀b off,a'=some ⟨b,off,none⟩→w6.heap.size≤b)∧Below w6.heap.size w6 w7) :=by show∃a' c',_;rw[Kh.out];exact⟨aL,cL,rfl,hh,HE.out,fun b off e=>Nat.le_trans sJ.out.size (hbase b off e).1,gF.out⟩
             clear HE hh hbase jy gF F4 Kh hc;go_wp2_with fail;go_meet;case rel=>exact RR.out
            ·have HE:Hid (L= []∧C=dw (bs z) lo hi) :=by have h:=HG.out;rw[HST.out,F4.out,if_neg hc]at h;exact⟨(Prod.mk.inj h).1.symm,(Prod.mk.inj h).2.symm⟩
             have hcn:(dw (bs z) lo hi !=0)=true:=by rw[bne_iff_ne];exact hc
             have fZ:Hid (Below B w w7) :=WR.out.trans ((Ud.out.trans (gF.out.mono Ud.out.size)).mono (by have:=WR.out.size;omega));clear F4 Kh hc jy gF;generalize dw (bs z) lo hi=c7 at*;go_wp2_with fail;go_ret2;rw[HE.out.1,HE.out.2];try rw[hB]
             have hf:=fZ.out.size;exact⟨_,rfl,fQ (dJ w7 9) (by omega),fZ.out.alloc (by omega) _⟩
           ·have Kh:Hid (jf lo hi z= [z]) :=by show _=_;rw[YI.out,if_neg hlo]
            have F4:Hid (codeOf lo hi z=0) :=by show _=_;rw[EA.out,if_neg hlo]
            go_wp2_with fail;go_meet;case rel=>rw[Kh.out];obtain⟨aL,cL,e1,hh,hbase⟩ :=xw (l:=[z]) (World.ownsRow_lit (base:=w6.heap.size) (e:=9) (size:=1) w6 #[.string (bs z)] 1 (Nat.le_refl _) (by unfold maxLen;omega) (by simp));exact⟨aL,cL,e1,hh,F4.out,fun b off e=>(hbase b off e).1,sJ.out⟩
          case rest=>
           obtain⟨aL,cL,rfl,hhL,hc0,hbL,iV⟩ :=hcut;have pY:Hid (iK st ph lo hi (jD o (jf lo hi z)) (List.drop (m+1) R)=(L,C)) :=by show _=_;have h:=HG.out;rw[HST.out,if_pos hc0]at h;exact h
           have gF:=aa (Ud.out.trans (iV.mono Ud.out.size));have jy:=aa (own_below HOd.out iV);have qP:=aa (own_ne HOd.out hbL);have U1:=aa hhL;clear hhL hc0 hbL iV HST HG YI EA q5 HKe sJ HOd Ud HKd;generalize jf lo hi z=l at*;go_wp2_with fail;generalize wc=w7 at*;go_loopw [8,15](fun v i wx=>∃k:Nat,k≤l.length∧i= .int .i64 k∧wx.ownsRow w3.heap.size 9 1 v (jD o (l.take k)).length (bR (jD o (l.take k)))∧v≠ .slice none 0 0∧bE wx aL l∧(∀b off,aL=some ⟨b,off,none⟩→some b≠v.ownBlock)∧Below w3.heap.size w3 wx)(fun _ i _=>l.length-(intOf i).toNat);case atStart=>exact⟨0,by omega,rfl,jy.out,HN.out,U1.out,qP.out,gF.out⟩
           case round=>
            obtain⟨j,hj,rfl,hown,hnn,hh,hne,hby⟩ :=hrel;have iF:=aa hown;have ni:=aa hnn;have si:=aa hh;have uI:=aa hne;have jX:=aa hby;clear hown hnn hh hne hby jy HN U1 qP gF bq rY HO;have hrl:=HRl.out;by_cases hjl:j<l.length
            ·obtain⟨b,off,rfl,hbl,hc⟩ :=si.out.resolve_left (fun h=>by rw[h]at hjl;simp at hjl);have g1:=hc j hjl;have hal:=zg (l.take j) o;rw[List.length_take]at hal;have HAD:=aa (Sw o l j hjl);have h3r:=jX.out.size;clear hc;generalize l.getD j []=x at*;generalize jD o (l.take j)=A at*;obtain⟨gO,cO,rfl⟩ :=DY iF.out ni.out;by_cases h64:x.length≤64
             ·have hx1:(bs x).size≤64:=by rw[aK];exact h64
              have hx2:((bs x).size:Int)≤64:=by omega
              go_wp2_with fail;refine(NG (some ⟨gO,0,none⟩) cO A x _ (by omega) (Or.inr ⟨gO,0,rfl,K9 iF.out,fun t ht=>by rw[Nat.zero_add];exact uV iF.out t ht⟩)).mono ?_;rintro e w9⟨rfl,hw⟩;obtain rfl:=hw.symm;clear hw;cases hs:iR A x
              ·have HA2:Hid (jD o (l.take (j+1))=A++ [x]) :=by show _=_;rw[HAD.out,lU,hs,decide_eq_true h64];rfl
               clear HAD hs;go_wp2_with(at_builtin;refine wpList_append_own_at _ rfl _ _ 40 rfl w3.heap.size 9 i0 (.string ⟨#[]⟩) 1 16 Tryz.underlying40 hi0 hz0 hz1 hz2 rfl (by decide) _ _ _ rfl (iF.out.alloc _) ⟨wr.heap.size,0,none⟩ 1 1 [.string (bs x)] rfl rfl ?c1 ?c2 ?c3 ?c4 ?c5 ?_);case c1=>
                intro j x hj;match j,hj with
                |0,hj=>simp at hj;subst hj;simp[Addr.add]
               case c2=>intro x hu;simp at hu;subst hu;rfl
               case c3=>unfold maxLen;omega
               case c4=>omega
               case c5=>simp;omega
               intro v' lK hown' hgrow hne hat;have RR:Hid (lK.ownsRow w3.heap.size 9 1 v' (A++ [x]).length (bR (A++ [x]))∧v'≠ .slice none 0 0∧bE lK (some ⟨b,off,none⟩) l∧(∀b' off',some (⟨b,off,none⟩ :Addr)=some ⟨b',off',none⟩→some b'≠v'.ownBlock)∧Below w3.heap.size w3 lK) :=by
                refine⟨?_,hne,(si.out.below ((Below.refl _ _).alloc (Nat.le_refl _) _)).grown hgrow uI.out,?_,(jX.out.alloc h3r _).grown hgrow (by simp;omega) (iM iF.out)⟩;·rw[ow,List.length_append];exact hown'
                ·intro b' off' e1;rcases hat with h|h;·rw[h];exact uI.out b' off' e1
                 ·rw[h];cases e1;intro e2;have e3:=Option.some.inj e2;try simp at e3
                  omega
               clear hown' hgrow hne hat iF ni si uI jX;go_wp2_with fail;go_roundw;case rel=>exact⟨j+1,by omega,by go_num,by rw[HA2.out];exact RR.out.1,RR.out.2.1,RR.out.2.2.1,RR.out.2.2.2.1,RR.out.2.2.2.2⟩
               case measure=>simp[intOf];omega
              ·have HA2:Hid (jD o (l.take (j+1))=A) :=by show _=_;rw[HAD.out,lU,hs];simp
               clear HAD hs;go_wp2_with fail;go_roundw;case rel=>exact⟨j+1,by omega,by go_num,by rw[HA2.out];exact iF.out,ni.out,si.out,uI.out,jX.out⟩
               case measure=>simp[intOf];omega
             ·have hx1: ¬(bs x).size≤64:=by rw[aK];exact h64
              have hx2: ¬((bs x).size:Int)≤64:=by omega
              have HA2:Hid (jD o (l.take (j+1))=A) :=by show _=_;rw[HAD.out,lU,decide_eq_false h64];simp
              clear HAD;go_wp2_with fail;go_roundw;case rel=>exact⟨j+1,by omega,by go_num,by rw[HA2.out];exact iF.out,ni.out,si.out,uI.out,jX.out⟩
              case measure=>simp[intOf];omega
            ·have hal:=zg l o;have wH:=iF.out;rw[List.take_of_length_le (by omega)]at wH;have cu:=aa wH;clear wH iF si uI;go_wp2_with fail;go_roundw;case rel=>exact⟨m+1,jD o l,by omega,by go_num,cu.out,ni.out,by omega,pY.out,jX.out⟩
             case measure=>simp[intOf];omega
      ·have HE:Hid (L=o∧C=0) :=by have h:=HG.out;rw[List.drop_of_length_le (by omega),iK]at h;exact⟨(Prod.mk.inj h).1.symm,(Prod.mk.inj h).2.symm⟩
       go_wp2_with fail;go_ret2;rw[HE.out.1,HE.out.2];try rw[hB]
       exact⟨_,rfl,fQ HO.out (by omega),WR.out.trans (bq.out.mono (by omega))⟩
  ·have GR:Hid (L= []∧C=0) :=by have h:=IY.out;rw[hs,if_pos rfl]at h;exact⟨(Prod.mk.inj h).1.symm,(Prod.mk.inj h).2.symm⟩
   clear hs IY;go_wp2_with fail;go_ret2;rw[GR.out.1,GR.out.2,hB];exact⟨_,rfl,fQ (dJ wc 9) (by omega),aI.out.alloc (by omega) _⟩
theorem Tryz.infoU8:(Tryz.prog.info? 5).map (fun i=>(i.zero,i.size,i.bytes))=some (some (.int .u8 0),1,1) :=by kernel_rfl
theorem BK(r:Int)(h0:0≤r)(h1:r≤255) :Lib.byteCells [UInt8.ofNat r.toNat]= [.int .u8 r] :=by have:=byte_back r h0 h1;show[Value.int .u8 ((UInt8.ofNat r.toNat).toNat:Int)]=_;rw[this]
theorem WM(q:List UInt8)(j:Nat)(hj:j<((q++ [48,48,48]).take 4).length) :(Lib.byteCells q++Lib.strCells ⟨#[48,48,48]⟩)[j]?=some (.int .u8 (((q++ [48,48,48]).take 4)[j].toNat:Int)) :=by
 have e:Lib.byteCells q++Lib.strCells ⟨#[48,48,48]⟩=Lib.byteCells (q++ [48,48,48]) :=by rw[Lib.byteCells_append];rfl
 have hl:j<(q++ [48,48,48]).length:=by rw[List.length_take]at hj;omega
 rw[e,Lib.byteCells,List.getElem?_map,List.getElem?_eq_getElem hl,List.getElem_take];rfl
theorem FX(s:ByteArray)(w:World)(hs:s.size≤1048576)(hT:Tabs w)(hc:aJ s=0) :Calls Tryz.prog 142 #[.string s] w fun e w'=>e= .returned (.string (bs (jc (runes s))))∧Below w.heap.size w w':=by
 obtain⟨i0,hi,hz0,hz1,hz2⟩ :=info_parts Tryz.infoU8;have HT:=aa hT;have HC:=aa hc;have hsz:=(Dz s hc).2;clear hT hc;go_enter Tryz.func142,Tryz.ntmps142;go_wp2_with fail;refine(iZ s _ hs HT.out).mono ?_;rintro e w1⟨rfl,hb1⟩;rw[HC.out];have kY:=aa (World.iter_heap w1 s 0);have hb4:Below w.heap.size w (w1.iter s 0) :=hb1.alloc hb1.size _;have hI:w.heap.size≤w1.heap.size:=hb1.size;clear hb1;go_wp2_with fail;generalize w1.iter s 0=w4 at kY hb4⊢;generalize w1.heap.size=B at*;go_loopw [3,4](fun v d wr=>∃(p f k:Nat)(q:List UInt8)(z:Int)(zb:Int),wr.ownsRow w.heap.size 5 1 v q.length (Lib.byteCells q)∧wr.heap[B]?=some (.stringIter s p)∧Below w.heap.size w wr∧(runes s).drop k=runesFrom s f p∧s.size≤p+f∧k≤(runes s).length∧qO (runes s) k q z∧d= .int .u8 zb∧(q≠ []→zb=48+z))(fun _ _ wr=>s.size-wr.iterPos B);case atStart=>exact⟨0,s.size,0,[],0,0,World.ownsRow_nil _ _ _ _,kY.out,hb4,rfl,by omega,by omega,qO.zero _,rfl,fun h=>absurd rfl h⟩
 case round=>
  obtain⟨p,f,k,q,z,zb,hown,hit,hbel,hdr,hf,hk,hat,rfl,hzb⟩ :=hrel;have hrl:=mG s;have Li:=hat.len;have HO:=aa hown;have HA:=aa hat;have HZ:=aa hzb;have hzd:=hat.last;clear hown hat hzb hb4 kY;by_cases hlt:p<s.size
  ·have hnx: ∀ty,(Instr.next (.pointer (some ⟨B,0,none⟩)) true ty).run Tryz.prog wr=_:=fun ty=>Lib.run_next_any_at wr B s p ty hit hlt;have hw:=width_le s p hlt;have hr:=rune_le s p;have cu:=aa (own_iterAt HO.out hit (p+(Utf8.decode s p).2));have hit2:=Lib.iterAt_heap wr B s p (p+(Utf8.decode s p).2) hit;have eY:=Lib.below_iterAt hbel (k:=B) hI s (p+(Utf8.decode s p).2);have jS:Hid ((runes s).drop (k+1)=runesFrom s (f-1) (p+(Utf8.decode s p).2)∧k<(runes s).length∧(runes s).getD k 0=((Utf8.decode s p).1:Int)) :=by obtain⟨g,rfl⟩ : ∃g,f=g+1:=⟨f-1,by omega⟩;rw[eU s g p hlt]at hdr;exact Qi hdr
   have Hpos:=aa (iterPos_of hit);have iH:=aa hit2;have HB2:=aa eY;have lC:w.heap.size≤(wr.iterAt B s (p+(Utf8.decode s p).2)).heap.size:=eY.size;have Fg:B<(wr.iterAt B s (p+(Utf8.decode s p).2)).heap.size:=(Array.getElem?_eq_some_iff.1 hit2).1;have HS:Hid (∀q' d',iQ (q,z) (dG ((Utf8.decode s p).1:Int))=(q',d')→qO (runes s) (k+1) q' d') :=by intro q' d' h;exact HA.out.step jS.out.2.1 (by rw[jS.out.2.2];exact h)
   clear hdr HO hit2 eY hbel HA;generalize(Utf8.decode s p).1=r0 at*;generalize(Utf8.decode s p).2=n at*;generalize wr.iterAt B s (p+n)=wi at*;have hk1:k+1≤(runes s).length:=jS.out.2.1;go_wp2_with fail;refine(AP _ _).mono ?_;rintro e w'⟨rfl,hw'⟩;obtain rfl:=hw'.symm;clear hw';generalize dG (r0:Int)=r at*;by_cases hin:97≤r∧r≤122
   ·obtain⟨h97,h122⟩ :=hin;have HW:Hid ((decide ((97:Int)≤r) &&decide (r≤122))=true) :=by show _=_;rw[decide_eq_true h97,decide_eq_true h122];rfl
    have hsd:=F3 r;go_wp2_with fail;refine(dA _ _ _ _).mono ?_;rintro e w'⟨rfl,hw'⟩;obtain rfl:=hw'.symm;clear hw';rw[HW.out];go_wp2_with fail;refine(Tw r _ h97 h122).mono ?_;rintro e w'⟨rfl,hw'⟩;obtain rfl:=hw'.symm;clear hw';have hrc:=fO cu.out;by_cases hq0:q= []
    ·subst hq0;have HN:=aa (HS.out _ _ (Kr z r h97 h122));rcases hrc with⟨rfl,hl0⟩| ⟨g,cap,rfl,hgb,hgl⟩
     ·clear hl0;go_wp2_with(at_builtin;refine wpList_append_own _ rfl _ _ 22 rfl w.heap.size 5 i0 (.int .u8 0) 1 1 Tryz.underlying22 hi hz0 hz1 hz2 rfl (by decide) _ _ _ rfl (cu.out.alloc _) ⟨wi.heap.size,0,none⟩ 1 1 [.int .u8 (r)] rfl rfl ?c1 ?c2 ?c3 ?c4 ?c5 ?_);case c1=>
       intro j u hj;match j,hj with
       |0,hj=>simp at hj;subst hj;simp[Addr.add]
      case c2=>intro u hu;simp at hu;subst hu;rfl
      case c3=>(first| (unfold maxLen;omega)| (unfold maxLen;simp))
      case c4=>(first|omega|simp)
      case c5=>simp;omega
      intro v' w5 hown' hgrow hne;have R:Hid (w5.ownsRow w.heap.size 5 1 v' ([]++ [UInt8.ofNat r.toNat]).length (Lib.byteCells ([]++ [UInt8.ofNat r.toNat]))∧w5.heap[B]?=some (.stringIter s (p+n))∧Below w.heap.size w w5) :=by
       refine⟨?_,?_,(HB2.out.alloc lC _).grown hgrow (by simp;omega) (iM cu.out)⟩;·rw[List.length_append,Lib.byteCells_append,BK (r) (by omega) (by omega)];exact hown'
       ·rw[hgrow.block B (by simp;omega) (own_ne_iter cu.out iH.out),Below.heap_alloc _ _ _ Fg];exact iH.out
      clear hown' hgrow cu iH HB2;go_wp2_with fail;go_roundw;case rel=>exact⟨p+n,f-1,k+1,[]++ [UInt8.ofNat r.toNat],bC r,_,R.out.1,R.out.2.1,R.out.2.2,jS.out.1,by omega,hk1,HN.out,rfl,fun _=>rfl⟩
      case measure=>rw[iterPos_of R.out.2.1,Hpos.out];omega
     ·clear hgb hgl;go_wp2_with(at_builtin;refine wpList_append_own _ rfl _ _ 22 rfl w.heap.size 5 i0 (.int .u8 0) 1 1 Tryz.underlying22 hi hz0 hz1 hz2 rfl (by decide) _ _ _ rfl (cu.out.alloc _) ⟨wi.heap.size,0,none⟩ 1 1 [.int .u8 (r)] rfl rfl ?c1 ?c2 ?c3 ?c4 ?c5 ?_);case c1=>
       intro j u hj;match j,hj with
       |0,hj=>simp at hj;subst hj;simp[Addr.add]
      case c2=>intro u hu;simp at hu;subst hu;rfl
      case c3=>(first| (unfold maxLen;omega)| (unfold maxLen;simp))
      case c4=>(first|omega|simp)
      case c5=>simp;omega
      intro v' w5 hown' hgrow hne;have R:Hid (w5.ownsRow w.heap.size 5 1 v' ([]++ [UInt8.ofNat r.toNat]).length (Lib.byteCells ([]++ [UInt8.ofNat r.toNat]))∧w5.heap[B]?=some (.stringIter s (p+n))∧Below w.heap.size w w5) :=by
       refine⟨?_,?_,(HB2.out.alloc lC _).grown hgrow (by simp;omega) (iM cu.out)⟩;·rw[List.length_append,Lib.byteCells_append,BK (r) (by omega) (by omega)];exact hown'
       ·rw[hgrow.block B (by simp;omega) (own_ne_iter cu.out iH.out),Below.heap_alloc _ _ _ Fg];exact iH.out
      clear hown' hgrow cu iH HB2;go_wp2_with fail;go_roundw;case rel=>exact⟨p+n,f-1,k+1,[]++ [UInt8.ofNat r.toNat],bC r,_,R.out.1,R.out.2.1,R.out.2.2,jS.out.1,by omega,hk1,HN.out,rfl,fun _=>rfl⟩
      case measure=>rw[iterPos_of R.out.2.1,Hpos.out];omega
    ·have hq1:0<q.length:=List.length_pos_iff.2 hq0;rcases hrc with⟨rfl,hl0⟩| ⟨g,cap,rfl,hgb,hgl⟩;·omega
     ·have hqz:((q.length:Int)==0)=false:=beq_eq_false_iff_ne.2 (by omega);obtain rfl:zb=48+z:=HZ.out hq0;by_cases h1:r=104
      ·have HN:=aa (HS.out _ _ (Cy q z r h97 h122 hq0 (Or.inl h1)));clear HS;subst h1;go_wp2_with fail;go_roundw;case rel=>exact⟨p+n,f-1,k+1,q,z,_,cu.out,iH.out,HB2.out,jS.out.1,by omega,hk1,HN.out,rfl,fun _=>rfl⟩
       case measure=>rw[iterPos_of iH.out,Hpos.out];omega
      have h1b:(r==104)=false:=beq_eq_false_iff_ne.2 h1;by_cases h2:r=119
      ·have HN:=aa (HS.out _ _ (Cy q z r h97 h122 hq0 (Or.inr h2)));clear HS;subst h2;go_wp2_with fail;go_roundw;case rel=>exact⟨p+n,f-1,k+1,q,z,_,cu.out,iH.out,HB2.out,jS.out.1,by omega,hk1,HN.out,rfl,fun _=>rfl⟩
       case measure=>rw[iterPos_of iH.out,Hpos.out];omega
      have AQ:(r==119)=false:=beq_eq_false_iff_ne.2 h2;by_cases hd:bC r=0∨bC r=z
      ·have HN:=aa (HS.out _ _ (Ol q z r h97 h122 hq0 (by omega) hd));clear HS;by_cases hd0:bC r=0
       ·have HN0:Hid (qO (runes s) (k+1) q 0) :=by have h:=HN.out;rw[hd0]at h;exact h
        clear hd HN;go_wp2_with fail;go_roundw;case rel=>exact⟨p+n,f-1,k+1,q,0,_,cu.out,iH.out,HB2.out,jS.out.1,by omega,hk1,HN0.out,rfl,fun _=>rfl⟩
        case measure=>rw[iterPos_of iH.out,Hpos.out];omega
       ·have hdz:=hd.resolve_left hd0;clear hd;generalize bC r=d at*;subst hdz;have hdb:((48+d:Int)==48)=false:=beq_eq_false_iff_ne.2 (by omega);have hdn:((48+d:Int) !=48)=true:=bne_iff_ne.2 (by omega);go_wp2_with fail;go_roundw;case rel=>exact⟨p+n,f-1,k+1,q,d,_,cu.out,iH.out,HB2.out,jS.out.1,by omega,hk1,HN.out,rfl,fun _=>rfl⟩
        case measure=>rw[iterPos_of iH.out,Hpos.out];omega
      ·have HN:=aa (HS.out _ _ (UN q z r h97 h122 hq0 (by omega) (by omega) (by omega)));clear HS;generalize bC r=d at*;have hdn:((48+d:Int) !=48)=true:=bne_iff_ne.2 (by omega);have hdm:((48+d:Int) !=48+z)=true:=bne_iff_ne.2 (by omega);clear hd;go_wp2_with(at_builtin;refine wpList_append_own _ rfl _ _ 22 rfl w.heap.size 5 i0 (.int .u8 0) 1 1 Tryz.underlying22 hi hz0 hz1 hz2 rfl (by decide) _ _ _ rfl (cu.out.alloc _) ⟨wi.heap.size,0,none⟩ 1 1 [.int .u8 (48+d)] rfl rfl ?c1 ?c2 ?c3 ?c4 ?c5 ?_);case c1=>
        intro j u hj;match j,hj with
        |0,hj=>simp at hj;subst hj;simp[Addr.add]
       case c2=>intro u hu;simp at hu;subst hu;rfl
       case c3=>(first| (unfold maxLen;omega)| (unfold maxLen;simp))
       case c4=>(first|omega|simp)
       case c5=>simp;omega
       intro v' w5 hown' hgrow hne;have R:Hid (w5.ownsRow w.heap.size 5 1 v' (q++ [UInt8.ofNat (48+d).toNat]).length (Lib.byteCells (q++ [UInt8.ofNat (48+d).toNat]))∧w5.heap[B]?=some (.stringIter s (p+n))∧Below w.heap.size w w5) :=by
        refine⟨?_,?_,(HB2.out.alloc lC _).grown hgrow (by simp;omega) (iM cu.out)⟩;·rw[List.length_append,Lib.byteCells_append,BK (48+d) (by omega) (by omega)];exact hown'
        ·rw[hgrow.block B (by simp;omega) (own_ne_iter cu.out iH.out),Below.heap_alloc _ _ _ Fg];exact iH.out
       clear hown' hgrow cu iH HB2;go_wp2_with fail;go_roundw;case rel=>exact⟨p+n,f-1,k+1,q++ [UInt8.ofNat (48+d).toNat],d,_,R.out.1,R.out.2.1,R.out.2.2,jS.out.1,by omega,hk1,HN.out,rfl,fun _=>rfl⟩
       case measure=>rw[iterPos_of R.out.2.1,Hpos.out];omega
   ·have HW:Hid ((decide ((97:Int)≤r) &&decide (r≤122))=false) :=by
     show _=_;by_cases h97:97≤r;·rw[decide_eq_false (p:=r≤122) (by omega),Bool.and_false]
     ·rw[decide_eq_false h97,Bool.false_and]
    have HN:=aa (HS.out q z (Mx q z r (by omega)));go_wp2_with fail;refine(dA _ _ _ _).mono ?_;rintro e w'⟨rfl,hw'⟩;obtain rfl:=hw'.symm;clear hw';rw[HW.out];go_wp2_with fail;go_roundw;case rel=>exact⟨p+n,f-1,k+1,q,z,zb,cu.out,iH.out,HB2.out,jS.out.1,by omega,hk1,HN.out,rfl,HZ.out⟩
    case measure=>rw[iterPos_of iH.out,Hpos.out];omega
  ·have hnx: ∀ty,(Instr.next (.pointer (some ⟨B,0,none⟩)) true ty).run Tryz.prog wr=_:=fun ty=>Lib.run_next_end_at wr B s p ty hit hlt;have HL:Hid (jc (runes s)=if q= []then[]else(q++ [48,48,48]).take 4) :=by refine HA.out.done ?_;intro hlt2;rw[runesFrom_end s f p hlt]at hdr;have:=congrArg List.length hdr;rw[List.length_drop]at this;simp at this;omega
   clear hdr hit;by_cases hq0:q= []
   ·have HE:Hid (jc (runes s)= []) :=by show _=_;rw[HL.out,if_pos hq0]
    subst hq0;rcases fO HO.out with⟨rfl,hl0⟩| ⟨g,cap,rfl,hgb,hgl⟩;·go_wp2_with fail;go_ret;rw[HE.out];exact⟨rfl,hbel⟩
    ·go_wp2_with fail;go_ret;rw[HE.out];exact⟨rfl,hbel⟩
   ·have HE:Hid (jc (runes s)=(q++ [48,48,48]).take 4) :=by show _=_;rw[HL.out,if_neg hq0]
    have hq1:0<q.length:=List.length_pos_iff.2 hq0;rcases fO HO.out with⟨rfl,hl0⟩| ⟨g,cap,rfl,hgb,hgl⟩;·omega
    ·have hqz:((q.length:Int)==0)=false:=beq_eq_false_iff_ne.2 (by omega);have hbs:=hbel.size;go_wp2_with(at_builtin;refine Lib.wpList_append_own_string _ rfl _ _ 22 9 rfl w.heap.size 5 i0 Tryz.underlying22 Tryz.underlying9 hi hz0 hz1 hz2 _ _ _ rfl HO.out ⟨#[48,48,48]⟩ rfl ?c3 ?c4 ?c5 ?_);case c3=>unfold maxLen;rw[show(⟨#[48,48,48]⟩ :ByteArray).size=3 from rfl];omega
     case c4=>rw[show(⟨#[48,48,48]⟩ :ByteArray).size=3 from rfl];omega
     case c5=>omega
     intro v' w5 hown'' hgrow hne;have hown':w5.ownsRow w.heap.size 5 1 v' (q.length+3) (Lib.byteCells q++Lib.strCells ⟨#[48,48,48]⟩) :=hown'';clear hown'';have jH:=aa hown';have eG:Hid (Below w.heap.size w w5) :=hbel.grown hgrow hbs (iM HO.out);have hrow:=hown'.2;clear hown' hgrow;rcases hrow with⟨h1,h2⟩| ⟨g',cap',cur',h1,_,_,hcap,_⟩;·omega
     ·subst h1;have hcap4:4≤cap':=by omega
      have hcv:(convert 22 9 (.slice (some ⟨g',0,none⟩) 4 cap')).run Tryz.prog w5= .ok (.string (bs ((q++ [48,48,48]).take 4))) w5:=by
       have h4:((q++ [48,48,48]).take 4).length=4:=by simp;omega
       have hc:=run_convert_bytes_back (P:=Tryz.prog) w5 22 9 5 ⟨g',0,none⟩ cap' ((q++ [48,48,48]).take 4) Tryz.underlying22 Tryz.underlying5 Tryz.underlying9 (fun j hj=>by rw[ko,jH.out.cellAt j (by omega)];exact WM q j hj);rw[h4]at hc;exact hc
      clear jH;go_wp2_with fail;go_ret;rw[HE.out];exact⟨rfl,eG.out⟩
theorem Jl(s:ByteArray)(w:World)(hs:s.size≤1048576)(hT:Tabs w) :Calls Tryz.prog 142 #[.string s] w fun e w'=>e= .returned (.string (bs (jc (di s))))∧Below w.heap.size w w':=by
 by_cases hc:aJ s=0;·rw[(Dz s hc).1];exact FX s w hs hT hc
 ·have hcn:(aJ s !=0)=true:=by rw[bne_iff_ne];exact hc
  have HL:=aa (K8 s hc);have HT:=aa hT;clear hc hT;go_enter Tryz.func142,Tryz.ntmps142;go_wp2_with fail;refine(iZ s _ hs HT.out).mono ?_;rintro e w1⟨rfl,hb1⟩;generalize aJ s=c at*;go_wp2_with fail;go_ret;rw[HL.out];exact⟨rfl,hb1⟩
end Go.Proofs.YtcjiphknpagenaaGreatDoor
