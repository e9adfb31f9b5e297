import Derived.Test.YtcjiphknpagenaaGreatDoorDocsJ13
namespace Go.Proofs.YtcjiphknpagenaaGreatDoor
open Go Go.RowKit
set_option linter.unusedVariables false
set_option linter.unusedSimpArgs false
set_option maxRecDepth 100000
set_option maxHeartbeats 8000000
theorem Ae(s:ByteArray)(p:Nat)(h:p≤s.size) :(s.extract p s.size).data.toList=s.data.toList.drop p:=by rw[Lib.extract_to_end]
theorem decode_extract(s:ByteArray)(p t:Nat)(h:p≤s.size) :Utf8.decode (s.extract p s.size) t=Utf8.decode s (p+t) :=by rw[←Lib.decodeL_drop,←Lib.decodeL_drop,Ae s p h,List.drop_drop]
theorem extract_size(s:ByteArray)(p:Nat)(h:p≤s.size) :(s.extract p s.size).size=s.size-p:=by rw[←fP,Ae s p h,List.length_drop,fP]
def wL(s:ByteArray)(E P e:Nat) :Prop:=(e=P∧E=P+aM ((Rs s P).take (runK (Rs s P))))∨(e<P∧(oD (Rs s P)=true→E=P+aM ((Rs s P).take (runK (Rs s P))))∧(oD (Rs s P)=false→E=e))
theorem RJ(s:ByteArray)(E P e:Nat)(h:wL s E P e)(hp: ¬P<s.size) :E=e:=by
 rcases h with⟨rfl,h⟩| ⟨_,_,h⟩;·rw[rR s _ hp]at h;simpa[jg]using h
 ·exact h (by rw[rR s P hp];rfl)
theorem Sy(s:ByteArray)(E P e:Nat)(h:wL s E P e)(hp:P<s.size)(hg: ¬bad s P)(hi:fF ((Utf8.decode s P).1:Int)=true) :wL s E (P+(Utf8.decode s P).2) (P+(Utf8.decode s P).2) :=by
 have hE:E=P+aM ((Rs s P).take (runK (Rs s P))) :=by
  rcases h with⟨_,h⟩| ⟨_,h,_⟩;·exact h
  ·exact h (by rw[j3 s P hp];exact hi)
 rw[j3 s P hp,DK _ _ hi,List.take_succ_cons,jT,jL s P hp hg]at hE;exact Or.inl ⟨rfl,by omega⟩
theorem Qm(s:ByteArray)(E P:Nat)(h:wL s E P P)(hp:P<s.size)(hg: ¬bad s P)(hi:fF ((Utf8.decode s P).1:Int)=false)(hm:(dZ ((Utf8.decode s P).1:Int)==3)=true) :wL s E (P+(Utf8.decode s P).2) P:=by
 have hw:=width_le s P hp;have hE:E=P+aM ((Rs s P).take (runK (Rs s P))) :=by
  rcases h with⟨_,h⟩| ⟨h,_⟩;·exact h
  ·omega
 rw[j3 s P hp]at hE;refine Or.inr ⟨by omega,fun hh=> ?_,fun hh=> ?_⟩;·rw[GX _ _ hi hm hh,List.take_succ_cons,jT,jL s P hp hg]at hE;omega
 ·rw[Bh _ _ hi (Or.inr hh)]at hE;simpa[jg]using hE
theorem Px(s:ByteArray)(E P e:Nat)(h:wL s E P e)(hp:P<s.size)(hi:fF ((Utf8.decode s P).1:Int)=false)(hm:(dZ ((Utf8.decode s P).1:Int)==3)=false∨¬P=e) :E=e:=by
 rcases h with⟨rfl,h⟩| ⟨_,_,h⟩
 ·rcases hm with hm|hm;·rw[j3 s _ hp,Bh _ _ hi (Or.inl hm)]at h;simpa[jg]using h
  ·exact absurd rfl hm
 ·exact h (by rw[j3 s P hp];exact hi)
theorem O6(s:ByteArray)(p:Nat)(w:World)(hs:s.size≤65536)(hp:p<s.size)(hv:dW s p=true) :Calls Tryz.prog 108 #[.string s,.int .i64 p] w fun e w'=>e= .returned (.int .i64 ((p+aM ((Rs s p).take (runK (Rs s p))) :Nat) :Int))∧Below w.heap.size w w':=by
 obtain⟨E,hE⟩ : ∃E,E=p+aM ((Rs s p).take (runK (Rs s p))) :=⟨_,rfl⟩;have HE:=aa hE;have hle:E≤s.size:=by rw[hE];exact EY s _ p (by omega) hv
 have HS0:Hid (wL s E (p+0) p) :=Or.inl ⟨rfl,hE⟩;have AR:=aa hv;have hus:=extract_size s p (by omega);have agf:=aa (fun t=>decode_extract s p t (by omega));clear hE hv;go_enter Tryz.func108,Tryz.ntmps108;go_wp2;go_step3;go_wp2;go_step3;go_wp2;have kY:=aa (World.iter_heap w (s.extract p s.size) 0);have hb0:Below w.heap.size w (w.iter (s.extract p s.size) 0) :=(Below.refl _ _).alloc (Nat.le_refl _) _;generalize s.extract p s.size=u at*;generalize w.iter u 0=w1 at kY hb0⊢;go_loopw [5](fun v wr=>∃(t e:Nat),p+t≤s.size∧e≤s.size∧v= .int .i64 (e:Int)∧wr.heap[w.heap.size]?=some (.stringIter u t)∧Below w.heap.size w wr∧dW s (p+t)=true∧wL s E (p+t) e)(fun _ wr=>u.size-wr.iterPos w.heap.size);case atStart=>exact⟨0,p,by omega,by omega,rfl,kY.out,hb0,AR.out,HS0.out⟩
 case round=>
  obtain⟨t,e,hpt,hes,rfl,hit,hbel,hv,hR⟩ :=hrel;clear kY hb0;have aaL:w.heap.size<wr.heap.size:=(Array.getElem?_eq_some_iff.1 hit).1;by_cases hlt:p+t<s.size
  ·have htu:t<u.size:=by omega
   have hnx: ∀ty,(Instr.next (.pointer (some ⟨w.heap.size,0,none⟩)) true ty).run Tryz.prog wr=_:=fun ty=>Lib.run_next_any_at wr w.heap.size u t ty hit htu;have hw:=width_le s (p+t) hlt;have hr:=rune_le s (p+t);have hg:=pM s (p+t) hlt hv;have Hrl:=aa (yY _ (vW s (p+t) hg));have Yb:=aa (jL s (p+t) hlt hg);have Ba:Hid (dW s (p+t+(Utf8.decode s (p+t)).2)=true) :=by show _=_;rw[lZ s (p+t) hlt hg];exact hv
   have Uq:=aa (Sy s E (p+t) e hR hlt hg);have SA:=aa (fun(h:p+t=e)=>Qm s E (p+t) (by rw[←h]at hR;exact hR) hlt hg);have Ck:=aa (Px s E (p+t) e hR hlt);have hit2:=aa (Lib.iterAt_heap wr w.heap.size u t (t+(Utf8.decode u t).2) hit);have eY:=aa (Lib.below_iterAt hbel (k:=w.heap.size) (Nat.le_refl _) u (t+(Utf8.decode u t).2));have Hpos:=aa (iterPos_of hit);rw[agf.out t]at hnx hit2 eY;clear hR hg hv hbel;generalize(Utf8.decode s (p+t)).1=r at*;generalize(Utf8.decode s (p+t)).2=n at*;generalize wr.iterAt w.heap.size u (t+n)=wi at*;have hch:=aa (Ai (r:Int));by_cases hi:fF (r:Int)=true
   ·have hcl:=(Gj _).1 hi;have HR2:=aa (Uq.out hi);clear Uq SA Ck;generalize dZ (r:Int)=c at*;rcases hcl with rfl|rfl;all_goals
     go_wp2_with fail;refine(hch.out _).mono ?_;rintro e' w2⟨rfl,rfl⟩;go_wp2_with fail;refine(Tryz.utf8_RuneLen _ _).mono ?_;rintro e' w2⟨rfl,rfl⟩;rw[Hrl.out,Yb.out];go_wp2;go_roundw;case rel=>exact⟨t+n,p+t+n,by omega,by omega,by go_num,hit2.out,eY.out,by rw[←Nat.add_assoc];exact Ba.out,by rw[←Nat.add_assoc];exact HR2.out⟩
     case measure=>rw[iterPos_of hit2.out,Hpos.out];omega
   ·have hi':fF (r:Int)=false:=by simpa using hi
    have hcl:=(Nz _).1 hi';have hc1:(dZ (r:Int)==1)=false:=beq_eq_false_iff_ne.2 hcl.1;have hc2:(dZ (r:Int)==2)=false:=beq_eq_false_iff_ne.2 hcl.2;by_cases hm:(dZ (r:Int)==3)=true
    ·by_cases hpe:p+t=e
     ·have HR2:=aa (SA.out hpe hi' hm);have hpz:((p:Int)+(t:Int)==(e:Int))=true:=beq_iff_eq.2 (by omega);have Hpe:=aa hpe;clear Uq SA Ck hi hi' hcl hpe;generalize dZ (r:Int)=c at*;go_wp2_with fail;refine(hch.out _).mono ?_;rintro e' w2⟨rfl,rfl⟩;go_wp2;go_roundw;case rel=>exact⟨t+n,e,by omega,by omega,rfl,hit2.out,eY.out,by rw[←Nat.add_assoc];exact Ba.out,by rw[←Nat.add_assoc,←Hpe.out];exact HR2.out⟩
      case measure=>rw[iterPos_of hit2.out,Hpos.out];omega
     ·have UY:=aa (Ck.out hi' (Or.inr hpe));have hpz:((p:Int)+(t:Int)==(e:Int))=false:=beq_eq_false_iff_ne.2 (by omega);clear Uq SA Ck hi hi' hcl hpe;generalize dZ (r:Int)=c at*;go_wp2_with fail;refine(hch.out _).mono ?_;rintro e' w2⟨rfl,rfl⟩;go_wp2;rw[Exit.noGoto_ret];go_ret;rw[←HE.out,UY.out];exact⟨rfl,eY.out⟩
    ·have hm':(dZ (r:Int)==3)=false:=by simpa using hm
     have UY:=aa (Ck.out hi' (Or.inl hm'));clear Uq SA Ck hi hi' hcl hm;generalize dZ (r:Int)=c at*;go_wp2_with fail;refine(hch.out _).mono ?_;rintro e' w2⟨rfl,rfl⟩;go_wp2;rw[Exit.noGoto_ret];go_ret;rw[←HE.out,UY.out];exact⟨rfl,eY.out⟩
  ·have htu: ¬t<u.size:=by omega
   have hnx: ∀ty,(Instr.next (.pointer (some ⟨w.heap.size,0,none⟩)) true ty).run Tryz.prog wr=_:=fun ty=>Lib.run_next_end_at wr w.heap.size u t ty hit htu;have UY:=aa (RJ s E (p+t) e hR hlt);clear hit hR hv;go_wp2;rw[Exit.noGoto_ret];go_ret;rw[←HE.out,UY.out];exact⟨rfl,hbel⟩
def Tabs(w:World) :Prop:=Lib.Utf8Tabs (Tryz.laysValid_ren.g 3) (Tryz.laysValid_ren.g 4) w
theorem Tabs.below {w w':World}(h:Tabs w)(hb:Below w.heap.size w w') :Tabs w':=Utf8Tabs_below h hb
theorem A9(s:ByteArray)(w:World)(hs:s.size≤1048576)(hT:Tabs w) :Calls Tryz.prog 114 #[.string s] w fun e w'=>e= .returned (.bool (bM s))∧Below w.heap.size w w':=Any.utf8_ValidString Tryz.laysValid s w (by omega) hT
theorem iZ(s:ByteArray)(w:World)(hs:s.size≤1048576)(hT:Tabs w) :Calls Tryz.prog 105 #[.string s] w fun e w'=>e= .returned (.int .i64 (aJ s))∧Below w.heap.size w w':=by
 have HT:=aa hT;clear hT;by_cases hlong:65536<s.size
 ·have HC:Hid (aJ s=2) :=by show _=_;rw[aJ,if_pos hlong]
  have hlz:(65536:Int)<(s.size:Int) :=by omega
  go_enter Tryz.func105,Tryz.ntmps105;go_wp2;go_ret;rw[HC.out];exact⟨rfl,Below.refl _ _⟩
 ·have hlz: ¬(65536:Int)<(s.size:Int) :=by omega
  by_cases hv:bM s=true
  ·have HC:Hid (aJ s=0) :=by show _=_;rw[aJ,if_neg hlong,if_pos hv]
   go_enter Tryz.func105,Tryz.ntmps105;go_wp2_with fail;refine(A9 s _ hs HT.out).mono ?_;rintro e w1⟨rfl,hb1⟩;go_wp2;go_ret;rw[HC.out];exact⟨rfl,hb1⟩
  ·have hv':bM s=false:=by simpa using hv
   have HC:Hid (aJ s=3) :=by show _=_;rw[aJ,if_neg hlong,if_neg hv]
   clear hv;go_enter Tryz.func105,Tryz.ntmps105;go_wp2_with fail;refine(A9 s _ hs HT.out).mono ?_;rintro e w1⟨rfl,hb1⟩;go_wp2;go_ret;rw[HC.out];exact⟨rfl,hb1⟩
theorem Tryz.infoTok:(Tryz.prog.info? 46).map (fun i=>(i.zero,i.size,i.bytes))=some (some (.agg #[.string ⟨#[]⟩,.int .i64 0,.int .i64 0,.int .i64 0]),4,40) :=by kernel_rfl
theorem vw(s:ByteArray)(h:aJ s=0) :bM s=true∧s.size≤65536:=by
 unfold aJ at h;by_cases h1:65536<s.size;·rw[if_pos h1]at h;omega
 ·rw[if_neg h1]at h;by_cases h2:bM s=true;·exact⟨h2,by omega⟩
  ·rw[if_neg h2]at h;omega
theorem Vq(s:ByteArray)(p k:Nat)(hp:p≤s.size)(hv:dW s p=true) :s.extract p (p+aM ((Rs s p).take k))=⟨(encs ((Rs s p).take k)).toArray⟩ :=by
 have h1:=zP s k p hv;have h2:(s.extract p (p+aM ((Rs s p).take k))).data.toList=encs ((Rs s p).take k) :=by rw[Lib.extract_data,h1,Nat.add_sub_cancel_left]
 have h3:(s.extract p (p+aM ((Rs s p).take k))).data=(encs ((Rs s p).take k)).toArray:=by rw[←h2]
 cases hx:s.extract p (p+aM ((Rs s p).take k))with
 |mk d=>rw[hx]at h3;simp only at h3;rw[h3]
def uT(s:ByteArray)(p e:Nat)(acc:List Tk) :Prop:=∃(q j f:Nat),(e≤p→q=p)∧(p<e→q=e)∧q=p+aM ((Rs s p).take j)∧(Rs s q).length≤f∧acc++toks f (Rs s q) q acc.length=dh s
theorem I7(r:Int)(t:List Int)(j:Nat)(h:0<aM ((r::t).take j)) : ∃i,j=i+1:=by
 cases j with
 |zero=>simp[jg]at h
 |succ i=>exact⟨i,rfl⟩
theorem Pp(s:ByteArray)(p e:Nat)(acc:List Tk)(hp:p<s.size)(hg: ¬bad s p)(he:p<e)(h:uT s p e acc) :uT s (p+(Utf8.decode s p).2) e acc:=by obtain⟨q,j,f,h1,h2,h3,h4,h5⟩ :=h;obtain rfl:=h2 he;rw[j3 s p hp]at h3;obtain⟨i,rfl⟩ :=I7 ((Utf8.decode s p).1:Int) (Rs s (p+(Utf8.decode s p).2)) j (by omega);rw[List.take_succ_cons,jT,jL s p hp hg]at h3;refine⟨q,i,f,fun hh=> ?_,fun _=>rfl,by omega,h4,h5⟩;have:0≤aM (List.take i (Rs s (p+(Utf8.decode s p).2))) :=Nat.zero_le _;omega
theorem Pb(s:ByteArray)(p e:Nat)(acc:List Tk)(hp:p<s.size)(hg: ¬bad s p)(he:e≤p)(hi:fF ((Utf8.decode s p).1:Int)=false)(h4:dZ ((Utf8.decode s p).1:Int)≠4)(h:uT s p e acc) :uT s (p+(Utf8.decode s p).2) e acc:=by
 obtain⟨q,j,f,h1,h2,h3,h5,h6⟩ :=h;obtain rfl:=h1 he;have hw:=width_le s q hp;have hx:=h6;rw[j3 s q hp]at h5 hx;obtain⟨g,rfl⟩ : ∃g,f=g+1:=⟨f-1,by simp at h5;omega⟩;rw[Ct g _ _ _ _ (Ez _ _ hi h4)]at hx;have eb:aM [((Utf8.decode s q).1:Int)]=(Utf8.decode s q).2:=by rw[jT,jg,jL s q hp hg];rfl
 rw[eb]at hx;refine⟨q+(Utf8.decode s q).2,0,g,fun _=>rfl,fun hh=>by omega,by simp[jg],by simp at h5;omega,hx⟩
theorem PW(s:ByteArray)(p e k:Nat)(acc:List Tk)(hp:p<s.size)(hv:dW s p=true)(he:e≤p)(hk:fV (Rs s p)=k)(hk0: ¬k=0)(h:uT s p e acc) :(acc++ [(encs ((Rs s p).take k),acc.length,p,p+aM ((Rs s p).take k))]).length≤(dh s).length∧uT s (p+(Utf8.decode s p).2) (p+aM ((Rs s p).take k)) (acc++ [(encs ((Rs s p).take k),acc.length,p,p+aM ((Rs s p).take k))]) :=by
 obtain⟨q,j,f,h1,h2,h3,h5,h6⟩ :=h;obtain rfl:=h1 he;have hg:=pM s q hp hv;have hw:=width_le s q hp;have hd:=(F5 s k q hv).1;have hx:=h6;have hst:=j3 s q hp;rw[hst]at h5 hx hk;obtain⟨g,rfl⟩ : ∃g,f=g+1:=⟨f-1,by simp at h5;omega⟩;rw[BH g _ _ _ _ (by rw[hk];exact hk0),hk]at hx;rw[←hst]at hx h5;rw[←hd]at hx;have hx2:(acc++ [(encs ((Rs s q).take k),acc.length,q,q+aM ((Rs s q).take k))])++toks g (Rs s (q+aM ((Rs s q).take k))) (q+aM ((Rs s q).take k)) (acc++ [(encs ((Rs s q).take k),acc.length,q,q+aM ((Rs s q).take k))]).length=dh s:=by rw[←hx,List.length_append];simp
 refine⟨by have:=congrArg List.length hx2;rw[List.length_append]at this;omega,?_⟩;obtain⟨i,rfl⟩ : ∃i,k=i+1:=⟨k-1,by omega⟩;have hb:aM ((Rs s q).take (i+1))=(Utf8.decode s q).2+aM ((Rs s (q+(Utf8.decode s q).2)).take i) :=by rw[hst,List.take_succ_cons,jT,jL s q hp hg]
 refine⟨q+aM ((Rs s q).take (i+1)),i,g,fun hh=>by omega,fun _=>rfl,by omega,?_,hx2⟩;have hl:=congrArg List.length hd;rw[List.length_drop]at hl;omega
theorem UQ(s:ByteArray)(p e:Nat)(acc:List Tk)(hp: ¬p<s.size)(he:e≤s.size)(h:uT s p e acc) :dh s=acc:=by obtain⟨q,j,f,h1,h2,h3,h5,h6⟩ :=h;obtain rfl:=h1 (by omega);rw[rR s q hp,zD,List.append_nil]at h6;exact h6.symm
theorem Nh(s:ByteArray) :uT s 0 0 [] :=⟨0,0,(runes s).length,fun _=>rfl,fun h=>by omega,by simp[jg],by rw[vC];exact Nat.le_refl _,by rw[vC];rfl⟩
theorem lg(w:World)(t:Tk)(e:TypeId) : ∀j u,(eF t)[j]?=some u→(w.alloc (.cells (eF t).toArray e)).cell? ((⟨w.heap.size,0,none⟩ :Addr).add j)=some u:=by intro j u hj;rw[ko,World.cell?_alloc_at (hn:=rfl)];simpa using hj
theorem qK(t:Tk) : ∀u∈eF t,u.oneCell'=true:=by intro u hu;simp only[eF,List.mem_cons,List.mem_nil_iff,or_false]at hu;rcases hu with rfl|rfl|rfl|rfl<;>rfl
theorem M3 {w:World} {base e n k p:Nat} {s:ByteArray} {v:Value} {xs:List Value}(h:w.ownsRow base e 4 v n xs)(hk:w.heap[k]?=some (.stringIter s p))(p':Nat) :(w.iterAt k s p').ownsRow base e 4 v n xs:=by
 refine⟨h.1,?_⟩;rcases h.2 with h'| ⟨g,cap,cur,h1,h2,h3,h4⟩;·exact Or.inl h'
 ·refine Or.inr ⟨g,cap,cur,h1,h2,?_,h4⟩;have hne:g≠k:=by intro e;subst e;rw[hk]at h3;cases h3
  rw[Lib.iterAt_other w k g s p' hne];exact h3
theorem Cb {w:World} {base e n k p:Nat} {s:ByteArray} {v:Value} {xs:List Value}(h:w.ownsRow base e 4 v n xs)(hk:w.heap[k]?=some (.stringIter s p)) :some k≠v.ownBlock:=by
 intro hb;rcases h.2 with⟨rfl,_⟩| ⟨g,cap,cur,rfl,h2,h3,h4⟩;·cases hb
 ·have e:k=g:=Option.some.inj hb;subst e;rw[hk]at h3;cases h3
theorem bJ {w w':World} {base e n:Nat} {v:Value} {xs:List Value}(h:w.ownsRow base e 4 v n xs)(hb:Below w.heap.size w w') :w'.ownsRow base e 4 v n xs:=by
 refine⟨h.1,?_⟩;rcases h.2 with h'| ⟨g,cap,cur,h1,h2,h3,h4⟩;·exact Or.inl h'
 ·exact Or.inr ⟨g,cap,cur,h1,h2,by rw[hb.block g (Array.getElem?_eq_some_iff.1 h3).1];exact h3,h4⟩
theorem jd {w:World} {base e n:Nat} {v:Value} {xs:List Value}(h:w.ownsRow base e 4 v n xs) :(v= .slice none 0 0∧n=0)∨∃g cap,v= .slice (some ⟨g,0,none⟩) n cap∧base≤g∧g<w.heap.size:=by
 rcases h.2 with⟨h1,h2⟩| ⟨g,cap,cur,h1,hb,hg,_⟩;·exact Or.inl ⟨h1,h2⟩
 ·exact Or.inr ⟨g,cap,h1,hb,(Array.getElem?_eq_some_iff.1 hg).1⟩
theorem bW {w:World} {base e n:Nat} {v:Value} {xs:List Value}(h:w.ownsRow base e 4 v n xs) : ∀k,v.ownBlock=some k→base≤k:=by
 intro k hk;rcases jd h with⟨rfl,_⟩| ⟨g,cap,rfl,hb,_⟩;·cases hk
 ·cases hk;exact hb
theorem kr {w:World} {base e n:Nat} {v:Value} {xs:List Value}(h:w.ownsRow base e 4 v n xs) : ∃ao cap,v= .slice ao n cap:=by
 rcases jd h with⟨rfl,rfl⟩| ⟨g,cap,rfl,_,_⟩;·exact⟨_,_,rfl⟩
 ·exact⟨_,_,rfl⟩
theorem EL(l:List Tk)(k j:Nat)(hk:k<l.length)(hj:j<4) :(ak l)[k*4+j]?=(eF l[k])[j]?:=by
 induction l generalizing k with
 |nil=>simp at hk
 |cons x t ih=>
  have e:ak (x::t)=eF x++ak t:=by simp[ak]
  have hx:(eF x).length=4:=rfl;rw[e];cases k with
  |zero=>rw[List.getElem?_append_left (by omega)];simp
  |succ k=>rw[List.getElem?_append_right (by omega),hx,show(k+1)*4+j-4=k*4+j by omega,ih k (by simpa using hk)];simp
def jr(w:World)(a:Option Addr)(l:List Tk) :Prop:=l= []∨∃b off,a=some ⟨b,off,none⟩∧b<w.heap.size∧∀t,t<l.length→w.cell? ⟨b,off+t*4,none⟩=some (.string (bs (l.getD t bS).1))∧w.cell? ⟨b,off+t*4+1,none⟩=some (.int .i64 ((l.getD t bS).2.1:Int))∧w.cell? ⟨b,off+t*4+2,none⟩=some (.int .i64 ((l.getD t bS).2.2.1:Int))∧w.cell? ⟨b,off+t*4+3,none⟩=some (.int .i64 ((l.getD t bS).2.2.2:Int))
theorem kJ {w:World} {base e:Nat} {v:Value} {l:List Tk}(h:w.ownsRow base e 4 v l.length (ak l)) : ∃a cap,v= .slice a l.length cap∧jr w a l∧(∀b off,a=some ⟨b,off,none⟩→base≤b∧b<w.heap.size) :=by
 rcases jd h with⟨rfl,hz⟩| ⟨g,cap,rfl,hb,hl⟩;·exact⟨none,0,by rw[hz],Or.inl (List.length_eq_zero_iff.1 hz),fun b off e=>by cases e⟩
 ·refine⟨some ⟨g,0,none⟩,cap,rfl,Or.inr ⟨g,0,rfl,hl,fun t ht=> ?_⟩,fun b off e=>by cases e;exact⟨hb,hl⟩⟩;have e0:l.getD t bS=l[t] :=by simp[ht]
  rw[e0];simp only[Nat.zero_add];refine⟨?_,?_,?_,?_⟩;·rw[show t*4=t*4+0 by omega,h.cellAt (t*4+0) (by omega),EL l t 0 ht (by omega)];rfl
  ·rw[h.cellAt (t*4+1) (by omega),EL l t 1 ht (by omega)];rfl
  ·rw[h.cellAt (t*4+2) (by omega),EL l t 2 ht (by omega)];rfl
  ·rw[h.cellAt (t*4+3) (by omega),EL l t 3 ht (by omega)];rfl
theorem jr.cells {w w':World} {a:Option Addr} {l:List Tk}(h:jr w a l)(hz:w.heap.size≤w'.heap.size)(hc: ∀b off,a=some ⟨b,off,none⟩→b<w.heap.size→w'.heap[b]?=w.heap[b]?) :jr w' a l:=by
 rcases h with h| ⟨b,off,h1,h2,h3⟩;·exact Or.inl h
 ·refine Or.inr ⟨b,off,h1,Nat.lt_of_lt_of_le h2 hz,fun t ht=> ?_⟩;have hb:=hc b off h1 h2;have h4:=h3 t ht;simp only[World.cell?]at h4⊢;rw[hb];exact h4
theorem jr.below {w w':World} {a:Option Addr} {l:List Tk}(h:jr w a l)(hb:Below w.heap.size w w') :jr w' a l:=h.cells hb.size fun b off _ hl=>hb.block b hl
theorem jr.grown {w w':World} {a:Option Addr} {l:List Tk} {row:Option Nat}(h:jr w a l)(hg:w.grownBy w' row)(hne: ∀b off,a=some ⟨b,off,none⟩→some b≠row) :jr w' a l:=h.cells hg.size fun b off e hl=>hg.block b hl (hne b off e)
theorem sQ {w:World} {base e n:Nat} {v:Value} {xs:List Value} {a:Option Addr}(h:w.ownsRow base e 4 v n xs)(hb: ∀b off,a=some ⟨b,off,none⟩→w.heap.size≤b) : ∀b off,a=some ⟨b,off,none⟩→some b≠v.ownBlock:=by
 intro b off e1 e2;have h1:=hb b off e1;rcases jd h with⟨rfl,_⟩| ⟨g,cap,rfl,_,hl⟩;·cases e2
 ·have e3:b=g:=Option.some.inj e2;omega
theorem vF {w:World} {base e n b:Nat} {v:Value} {xs:List Value}(h:w.ownsRow base e 4 v n xs)(hb:b<base) :some b≠v.ownBlock:=fun e=>by have:=bW h b e.symm;omega
def fH(l:List (List UInt8))(k:Nat) :List Tk:=(List.range k).map fun i=>(l.getD i [],i,0,(l.getD i []).length)
def cZ(b:Nat)(l:List Tk) :List Tk:=l.map fun k=>(k.1,k.2.1+b,k.2.2)
def yl(f:Fd)(t:List UInt8) :List Tk:=(oU f.bf f.bA f.bp f.stops f.af f.lo f.hi (bs t)).1
def Dw(t:List UInt8) :Nat:=(bY (bs t)).length
def fC(f:Fd)(l:List (List UInt8)) :Nat→List Tk×Nat
 |0=>([],0)
 |k+1=>((fC f l k).1++cZ (fC f l k).2 (yl f (l.getD k [])),(fC f l k).2+(100+Dw (l.getD k [])))
def jQ(f:Fd)(tx:List (List UInt8)) :List Tk:=if f.kind=2 then fH tx tx.length else(fC f tx tx.length).1
def iq(V:List Vl)(n:List UInt8) :Vl:=V.getD (V.findIdx fun v=>v.1==n) aQ
def og(l:List Fd)(id:List UInt8)(V:List Vl)(n:List UInt8) :List Tk×Int:=if 65536<n.length then([],2)else if(jW l&&jG l id V)=false then([],1)else if¬dL l n<l.length then([],5)else if(l.getD (dL l n) fd0).kind=3 then([],6)else(jQ (l.getD (dL l n) fd0) (iq V n).2.1,0)
theorem Dj(l:List (List UInt8))(k:Nat) :fH l (k+1)=fH l k++ [(l.getD k [],k,0,(l.getD k []).length)] :=by rw[fH,List.range_succ,List.map_append];rfl
theorem EX(l:List (List UInt8))(k:Nat) :(fH l k).length=k:=by simp[fH]
theorem oq(b:Nat)(l:List Tk) :(cZ b l).length=l.length:=by simp[cZ]
theorem Ca(b:Nat)(l:List Tk) {j:Nat}(h:j<l.length) :cZ b (l.take (j+1))=cZ b (l.take j)++ [((l.getD j bS).1,(l.getD j bS).2.1+b,(l.getD j bS).2.2)] :=by rw[cZ,List.take_succ_eq_append_getElem h,List.map_append,List.getD_eq_getElem?_getD,List.getElem?_eq_getElem h];rfl
theorem Dx: ∀(f:Nat)(l:List Int)(a n:Nat),∀k∈toks f l a n,k.2.1<n+(toks f l a n).length
 |0,_,_,_=>by intro k hk;rw[toks]at hk;simp at hk
 |f+1,[],_,_=>by intro k hk;rw[zD]at hk;simp at hk
 |f+1,r::t,a,n=>by
  by_cases h:fV (r::t)=0;·rw[Ct _ _ _ _ _ h];exact Dx f t _ n
  ·rw[BH _ _ _ _ _ h];intro k hk;rw[List.length_cons];rcases List.mem_cons.1 hk with rfl|hk;·show n<_;omega
   ·have:=Dx f _ _ (n+1) k hk;omega
theorem Aw(s:ByteArray) :(bY s).length≤8192∧∀k∈bY s,k.2.1<8192:=by
 unfold bY;split
 ·split;·simp
  ·rename_i h;refine⟨by omega,fun k hk=> ?_⟩;have:=Dx _ _ _ _ k hk;unfold dh at h;omega
 ·simp
theorem LQ(F:List UInt8→List (List UInt8) ×Int)(B:Nat) : ∀(l o:List Tk),(∀k∈l,k.2.1<B)→(∀k∈o,k.2.1<B)→∀k∈(jE F o l).1,k.2.1<B
 | [],o,_,ho=>by rw[jE];exact ho
 |x::l,o,hl,ho=>by
  rw[jE];split
  ·split
   ·refine LQ F B l _ (fun k hk=>hl k (List.mem_cons_of_mem _ hk)) (fun k hk=> ?_);rcases List.mem_append.1 hk with hk|hk;·exact ho k hk
    ·obtain⟨t,_,rfl⟩ :=List.mem_map.1 hk;exact hl x List.mem_cons_self
   ·simp
  ·simp
theorem IG(F:List UInt8→List (List UInt8) ×Int) : ∀(l o:List Tk),o.length≤8192→(jE F o l).1.length≤8192
 | [],o,h=>by rw[jE];exact h
 |k::l,o,h=>by
  rw[jE];split
  ·split;·rename_i h2;exact IG F l _ h2
   ·simp
  ·simp
theorem wS(f:Fd)(t:List UInt8) :(yl f t).length≤8192∧∀k∈yl f t,k.2.1<8192:=by
 unfold yl oU;split;·simp
 ·split
  ·split;·exact⟨IG _ _ _ (by simp),LQ _ _ _ _ (Aw _).2 (by simp)⟩
   ·simp
  ·simp
theorem Ri(f:Fd)(t:List UInt8)(j:Nat) :((yl f t).getD j bS).2.1<8192:=by
 by_cases h:j<(yl f t).length;·exact(wS f t).2 _ (getD_in h)
 ·rw[List.getD_eq_getElem?_getD,List.getElem?_eq_none (by omega)];simp[bS]
theorem yO(t:List UInt8) :Dw t≤8192:=(Aw _).1
theorem vG(f:Fd)(l:List (List UInt8)) : ∀k,(fC f l k).2≤8292*k∧(fC f l k).1.length≤8192*k
 |0=>by simp[fC]
 |k+1=>by obtain⟨h1,h2⟩ :=vG f l k;have h3:=yO (l.getD k []);have h4:=(wS f (l.getD k [])).1;rw[fC,List.length_append,oq];dsimp only;omega
theorem xJ(a:Option Addr)(n c:Nat)(w:World)(hn:n≤1048576) :Calls Tryz.prog 72 #[.slice a n c] w fun e w'=>e= .returned (.int .i64 (n:Int))∧w'=w:=by go_enter Tryz.func72,Tryz.ntmps72;go_wp2_with fail;go_ret;exact⟨rfl,rfl⟩
theorem xP(a:Option Addr)(n c:Nat)(w:World)(hn:n≤1048576) :Calls Tryz.prog 75 #[.slice a n c] w fun e w'=>e= .returned (.int .i64 (n:Int))∧w'=w:=by go_enter Tryz.func75,Tryz.ntmps75;go_wp2_with fail;go_ret;exact⟨rfl,rfl⟩
theorem Er(a:Option Addr)(c:Nat)(l:List Int)(w:World)(hn:l.length≤1048576)(h:qD w a l) :Calls Tryz.prog 76 #[.slice a l.length c] w fun e w'=>e= .returned (.bool (l.all dU))∧w'=w:=by
 have HH:=aa h;clear h;go_enter Tryz.func76,Tryz.ntmps76;go_wp2_with fail;go_loopw [7](fun kv wr=>∃k:Nat,k≤l.length∧kv= .int .i64 (k:Int)∧(l.take k).all dU=true∧wr=w)(fun kv _=>l.length-(intOf kv).toNat);case atStart=>exact⟨0,Nat.zero_le _,rfl,by simp,rfl⟩
 case round=>
  obtain⟨k,hk,rfl,hal,jU⟩ :=hrel;have kg:=jU.symm;subst kg;clear jU;have r9:=aa hal;clear hal;by_cases hkt:k<l.length
  ·have zn:(k:Int)<(l.length:Int) :=by omega
   obtain⟨bt,ot,rfl,hbt,hct⟩ :=HH.out.resolve_left (fun e=>by rw[e]at hkt;simp at hkt);have t1:=hct k hkt;obtain⟨z,hz⟩ : ∃z,l.getD k 0=z:=⟨_,rfl⟩;rw[hz]at t1;have Hz:=aa hz;clear hz hct;have HW:Hid (Calls Tryz.prog 45 #[.int .i64 z,.int .i64 (-1000000000000),.int .i64 1000000000000] w fun e w'=>e= .returned (.bool (dU z))∧w'=w) :=(dA z (-1000000000000) 1000000000000 w).mono (fun e w' h=>⟨by rw[h.1,dU,Bool.decide_and],h.2⟩);go_wp2_with fail;refine HW.out.mono ?_;rintro e w'⟨rfl,hw'⟩;have hw2:=hw'.symm;subst hw2;clear hw';dsimp only;cases hnz:dU z with
   |false=>have HO:Hid (l.all dU=false) :=ou dU l 0 hkt (by rw[Hz.out];exact hnz);clear HW;go_wp2_with fail;go_ret;exact⟨by rw[HO.out];rfl,rfl⟩
   |true=>
    have HA2:=aa (nW dU l 0 hkt r9.out (by rw[Hz.out];exact hnz));clear HW;go_wp2_with fail;go_roundw;case rel=>exact⟨k+1,by omega,by go_num,HA2.out,by first|trivial|rfl⟩
    case measure=>simp[intOf];omega
  ·have zn: ¬(k:Int)<(l.length:Int) :=by omega
   have um:Hid (l.all dU=true) :=by show _=_;have:=r9.out;rwa [show k=l.length by omega,List.take_length]at this
   go_wp2_with fail;go_ret;exact⟨by rw[um.out];rfl,rfl⟩
theorem P6(s:ByteArray)(w:World)(hs:s.size≤1048576) :Calls Tryz.prog 47 #[.string s] w fun e w'=>e= .returned (.bool (sI (ai s)))∧w'=w:=by
 go_enter Tryz.func47,Tryz.ntmps47;have hll:=ay s;by_cases hin:1≤s.size∧s.size≤30
 ·have HW:Hid ((decide ((1:Int)≤(s.size:Int)) &&decide ((s.size:Int)≤30))=true) :=by show _=_;rw[decide_eq_true (by omega),decide_eq_true (by omega)];rfl
  obtain⟨h1,h30⟩ :=hin;have HI:Hid (sI (ai s)=(ai s).all wJ) :=by show _=_;rw[sI,decide_eq_true (by omega),decide_eq_true (by omega)];rfl
  go_wp2_with fail;refine(dA _ _ _ _).mono ?_;rintro e w'⟨rfl,hw⟩;obtain rfl:=hw.symm;rw[HW.out];clear HW hw;go_wp2_with fail;go_loopw [10](fun i wr=>∃k:Nat,k≤s.size∧i= .int .i64 k∧((ai s).take k).all wJ=true∧wr=w)(fun i _=>s.size-(intOf i).toNat);case atStart=>exact⟨0,Nat.zero_le _,rfl,rfl,rfl⟩
  case round=>
   obtain⟨k,hk,rfl,hall,jU⟩ :=hrel;have kg:=jU.symm;subst kg;clear jU;have HA:=aa hall;clear hall;by_cases hlt:k<s.size
   ·have hkl:k<(ai s).length:=by rw[ay];exact hlt
    have HG:=aa (qU s k hlt);have dY:((s[k]'hlt).toNat:Int)≤255:=by have:=UInt8.toNat_lt (s[k]'hlt);omega
    have HW1:Hid ((decide ((33:Int)≤((s[k]'hlt).toNat:Int)) &&decide (((s[k]'hlt).toNat:Int)≤126))=wJ ((ai s).getD k 0)) :=by show _=_;rw[wJ,HG.out]
    go_wp2_with fail;refine(dA _ _ _ _).mono ?_;rintro e w'⟨rfl,hw⟩;obtain rfl:=hw.symm;rw[HW1.out];cases hc1:wJ ((ai s).getD k 0)with
    |true=>
     have HN:Hid (((ai s).take (k+1)).all wJ=true) :=o9 _ _ hkl HA.out hc1;clear hc1 HW1 hw;go_wp2_with fail;go_roundw;case rel=>exact⟨k+1,by omega,by go_num,HN.out,by first|trivial|rfl⟩
     case measure=>simp[intOf];omega
    |false=>have HR:Hid ((ai s).all wJ=false) :=yX _ _ hkl hc1;clear hc1 HW1 hw;go_wp2_with fail;go_ret;rw[HI.out,HR.out];exact⟨rfl,rfl⟩
   ·have HR:Hid ((ai s).all wJ=true) :=by have:=HA.out;rw[List.take_of_length_le (by rw[ay];omega)]at this;exact this
    go_wp2_with fail;go_ret;rw[HI.out,HR.out];exact⟨rfl,rfl⟩
 ·have HW:Hid ((decide ((1:Int)≤(s.size:Int)) &&decide ((s.size:Int)≤30))=false) :=by
   show _=_;by_cases h1:1≤s.size;·rw[decide_eq_false (p:=(s.size:Int)≤30) (by omega),Bool.and_false]
   ·rw[decide_eq_false (p:=(1:Int)≤(s.size:Int)) (by omega),Bool.false_and]
  have HI:Hid (sI (ai s)=false) :=by
   show _=_;rw[sI];by_cases h1:1≤s.size;·rw[decide_eq_false (p:=(ai s).length≤30) (by omega)];simp
   ·rw[decide_eq_false (p:=1≤(ai s).length) (by omega)];simp
  clear hin;go_wp2_with fail;refine(dA _ _ _ _).mono ?_;rintro e w'⟨rfl,hw⟩;obtain rfl:=hw.symm;rw[HW.out];clear HW hw;go_wp2_with fail;go_ret;rw[HI.out];exact⟨rfl,rfl⟩
theorem KJ(id:List UInt8)(a:Option Addr)(cap:Nat)(V:List Vl)(w:World)(hn:V.length≤1048576)(hA: ∀i,(V.getD i aQ).1.length≤1048576∧(V.getD i aQ).2.1.length≤1048576∧(V.getD i aQ).2.2.length≤1048576)(hB:dR V≤1048576)(hS:gK w a V) :Calls Tryz.prog 48 #[.agg #[.string ⟨id.toArray⟩,.slice a V.length cap]] w fun e w'=>e= .returned (.int .i64 (dR V:Int))∧Below w.heap.size w w':=by
 have HS:=aa hS;have HA:=aa hA;clear hS hA;have ax:=aa ((Below.refl w.heap.size w).alloc (Nat.le_refl _) (.cells #[.string ⟨id.toArray⟩,.slice a V.length cap] 28));go_enter Tryz.func48,Tryz.ntmps48;go_wp2_with fail;obtain⟨wa,bN⟩ : ∃wa,w.alloc (.cells #[.string ⟨id.toArray⟩,.slice a V.length cap] 28)=wa:=⟨_,rfl⟩;rw[bN]at ax;try rw[bN]
 clear bN;go_loopw [3,11](fun sv iv wr=>∃k:Nat,k≤V.length∧iv= .int .i64 (k:Int)∧sv= .int .i64 (dR (V.take k) :Int)∧Below wa.heap.size wa wr)(fun _ iv _=>V.length-(intOf iv).toNat);case atStart=>exact⟨0,Nat.zero_le _,rfl,by simp[dR],Below.refl _ _⟩
 case round=>
  obtain⟨k,hk,rfl,rfl,hbel⟩ :=hrel;have HB:=aa hbel;clear hbel;by_cases hlt:k<V.length
  ·have hkz:(k:Int)<(V.length:Int) :=by omega
   obtain⟨b,off,rfl,hbl,hc⟩ :=((HS.out.below ax.out).below HB.out).resolve_left (fun h=>by rw[h]at hlt;simp at hlt);obtain⟨x0,⟨at_,ct,x1,hTx⟩,an,cn,x2,hZ⟩ :=hc k hlt;clear hc hZ;have hal:=HA.out k;have HT:=aa (Ex V hlt);have hle:=Ap V (k+1);rw[HT.out]at hle;obtain⟨Y,hY⟩ : ∃Y,dR (V.take k)=Y:=⟨_,rfl⟩;rw[hY]at HT hle;rw[hY];clear hY;generalize V.getD k aQ=s at*;obtain⟨f,tx,nz⟩ :=s;dsimp only at x0 x1 x2 hTx hal HT hle;have gP:=aa hTx;clear hTx;go_upto_region 5 with fail;obtain⟨wb,hwb⟩ : ∃wb,wr.alloc (.cells #[.string ⟨f.toArray⟩,.slice at_ tx.length ct,.slice an nz.length cn] 43)=wb:=⟨_,rfl⟩;have lX:=aa ((Below.refl wr.heap.size wr).alloc (Nat.le_refl _) (.cells #[.string ⟨f.toArray⟩,.slice at_ tx.length ct,.slice an nz.length cn] 43));have jl:=aa (heap_alloc_new wr (.cells #[.string ⟨f.toArray⟩,.slice at_ tx.length ct,.slice an nz.length cn] 43))
   rw[hwb]at lX jl;try rw[hwb]
   clear hwb;have v1:wb.cell? ⟨wr.heap.size,1,none⟩=some (.slice at_ tx.length ct) :=ah jl.out 1;have AZ:=aa (gP.out.below lX.out);clear gP;go_wp2_with fail;go_loopw [3,18](fun sv jv wz=>∃j:Nat,j≤tx.length∧jv= .int .i64 (j:Int)∧sv= .int .i64 ((Y+gJ (tx.take j) :Nat) :Int)∧wz=wb)(fun _ jv _=>tx.length-(intOf jv).toNat);case atStart=>exact⟨0,Nat.zero_le _,rfl,by simp[gJ],rfl⟩
   case round=>
    obtain⟨j,hj,rfl,rfl,jU⟩ :=hrel;have kg:=jU.symm;subst kg;clear jU;by_cases hjt:j<tx.length
    ·have hjz:(j:Int)<(tx.length:Int) :=by omega
     obtain⟨bt,ot,rfl,hbt,hct⟩ :=AZ.out.resolve_left (fun e=>by rw[e]at hjt;simp at hjt);have t1:=hct j hjt;clear hct;have HT2:=aa (zB tx hjt);have hle2:=uy tx (j+1);rw[HT2.out]at hle2;generalize tx.getD j []=t at*;generalize gJ (tx.take j)=Z at*;have hfl:(⟨t.toArray⟩ :ByteArray).size=t.length:=by rw[Lib.size_eq]
     go_wp2_with fail;go_roundw;case rel=>exact⟨j+1,by omega,by go_num,by rw[HT2.out];go_num,by first|trivial|rfl⟩
     case measure=>simp[intOf];omega
    ·have hjz: ¬(j:Int)<(tx.length:Int) :=by omega
     have HE:Hid (Y+gJ (tx.take j)=dR (V.take (k+1))) :=by show _=_;rw[HT.out,show j=tx.length by omega,List.take_length]
     generalize Y+gJ (tx.take j)=Z at*;go_wp2_with fail;go_roundw;case rel=>exact⟨k+1,by omega,by go_num,by rw[HE.out],HB.out.trans (lX.out.mono HB.out.size)⟩
     case measure=>simp[intOf];omega
  ·have hkz: ¬(k:Int)<(V.length:Int) :=by omega
   have HE:Hid (dR (V.take k)=dR V) :=by show _=_;rw[show k=V.length by omega,List.take_length]
   generalize dR (V.take k)=Z at*;go_wp2_with fail;go_ret;rw[HE.out];exact⟨rfl,ax.out.trans (HB.out.mono ax.out.size)⟩
def ry(at_ an:Option Addr)(n ct m cn:Nat) :Value:=if m=0∧0<n then .iface 90 (.slice at_ n ct)else if n=0∧0<m then .iface 91 (.slice an m cn)else .nilIface
theorem Nb(f:List UInt8)(at_ an:Option Addr)(n ct m cn:Nat)(w:World)(hn:n≤1048576)(hm:m≤1048576) :Calls Tryz.prog 50 #[.agg #[.string ⟨f.toArray⟩,.slice at_ n ct,.slice an m cn]] w fun e w'=>e= .returned (ry at_ an n ct m cn)∧Below w.heap.size w w':=by
 have ax:=aa ((Below.refl w.heap.size w).alloc (Nat.le_refl _) (.cells #[.string ⟨f.toArray⟩,.slice at_ n ct,.slice an m cn] 43));go_enter Tryz.func50,Tryz.ntmps50;by_cases hm0:m=0
 ·by_cases hn0:n=0
  ·have HE:Hid (ry at_ an n ct m cn= .nilIface) :=by show _=_;rw[ry,if_neg (by omega),if_neg (by omega)]
   subst hm0 hn0;go_wp2_with fail;go_ret;exact⟨HE.out.symm▸rfl,ax.out⟩
  ·have HE:Hid (ry at_ an n ct m cn= .iface 90 (.slice at_ n ct)) :=by show _=_;rw[ry,if_pos (by omega)]
   subst hm0;have hn1:(0:Int)<(n:Int) :=by omega
   go_wp2_with fail;go_ret;exact⟨HE.out.symm▸rfl,ax.out⟩
 ·by_cases hn0:n=0
  ·have HE:Hid (ry at_ an n ct m cn= .iface 91 (.slice an m cn)) :=by show _=_;rw[ry,if_neg (by omega),if_pos (by omega)]
   subst hn0;have hm1:(0:Int)<(m:Int) :=by omega
   have hm2: ¬(m:Int)=0:=by omega
   go_wp2_with fail;go_ret;exact⟨HE.out.symm▸rfl,ax.out⟩
  ·have HE:Hid (ry at_ an n ct m cn= .nilIface) :=by show _=_;rw[ry,if_neg (by omega),if_neg (by omega)]
   have hm2: ¬(m:Int)=0:=by omega
   have hn2: ¬(n:Int)=0:=by omega
   go_wp2_with fail;go_ret;exact⟨HE.out.symm▸rfl,ax.out⟩
def lG(l:List Fd)(n:List UInt8) :Int:=if dL l n<l.length then(dL l n:Int)else-1
theorem eT(x:List UInt8) :(bs x).toList=x:=by rw[Lib.toList_data];exact bH x
theorem I9(f:Fd)(aS aY:Option Addr)(cS cY:Nat)(n:List UInt8)(B:Nat)(w:World)(hB:w.heap[B]?=some (.cells #[.string (bs n)] 9)) :Calls Tryz.prog 60 #[.agg #[.string (bs f.name),.int .i64 f.kind,.bool f.bf,.bool f.bA,.bool f.bp,.slice aS f.stops.length cS,.slice aY f.af.length cY,.int .i64 f.lo,.int .i64 f.hi],.pointer (some ⟨B,0,none⟩)] w fun e w'=>e= .returned (.bool (f.name==n))∧Below w.heap.size w w':=by have HB:=aa ((Below.refl w.heap.size w).alloc (Nat.le_refl _) (.cells #[.string (bs f.name),.int .i64 f.kind,.bool f.bf,.bool f.bA,.bool f.bp,.slice aS f.stops.length cS,.slice aY f.af.length cY,.int .i64 f.lo,.int .i64 f.hi] 75));have hbl:B<w.heap.size:=(Array.getElem?_eq_some_iff.1 hB).1;have q0:(w.alloc (.cells #[.string (bs f.name),.int .i64 f.kind,.bool f.bf,.bool f.bA,.bool f.bp,.slice aS f.stops.length cS,.slice aY f.af.length cY,.int .i64 f.lo,.int .i64 f.hi] 75)).cell? ⟨B,0,none⟩=some (.string (bs n)) :=ah (aD hB HB.out) 0;go_enter Tryz.func60,Tryz.ntmps60;go_wp2_with fail;go_ret;refine⟨?_,HB.out⟩;show Ending.returned (Value.bool ((bs f.name).toList==(bs n).toList))=_;rw[eT,eT]
theorem yu(a:Option Addr)(cap:Nat)(l:List Fd)(n:List UInt8)(B:Nat)(w:World)(hn:l.length≤1048576)(hS:jK w a l)(hB:w.heap[B]?=some (.cells #[.string (bs n)] 9)) :Calls Tryz.prog 59 #[.slice a l.length cap,.func (.func 60) #[] #[.pointer (some ⟨B,0,none⟩)]] w fun e w'=>e= .returned (.int .i64 (lG l n))∧Below w.heap.size w w':=by
 have HS:=aa hS;have bq:=aa hB;clear hS hB;go_enter Tryz.func59,Tryz.ntmps59;go_wp2_with fail;go_loopw [8](fun i wx=>∃k:Nat,k≤l.length∧i= .int .i64 k∧(∀j,j<k→((l.getD j fd0).name==n)=false)∧Below w.heap.size w wx)(fun i _=>l.length-(intOf i).toNat);case atStart=>exact⟨0,by omega,rfl,fun j hj=>absurd hj (by omega),Below.refl _ _⟩
 case round=>
  obtain⟨k,hk,rfl,hno,hbx⟩ :=hrel;have HN:=aa hno;have HB:=aa hbx;clear hno hbx;by_cases hlt:k<l.length
  ·obtain⟨b,off,rfl,hbl,hc⟩ :=(HS.out.below HB.out).resolve_left (fun h=>by rw[h]at hlt;simp at hlt);obtain⟨q0,q1,q2,q3,q4,⟨aS,cS,q5,hSt⟩,⟨aY,cY,q6,rQ⟩,q7,q8⟩ :=hc k hlt;clear hc hSt rQ;have bg:=aa (aD bq.out HB.out);obtain⟨f,hf⟩ : ∃f,l.getD k fd0=f:=⟨_,rfl⟩;rw[hf]at q0 q1 q2 q3 q4 q5 q6 q7 q8;have HF:=aa hf;clear hf;have om:=aa (I9 f aS aY cS cY n B wr bg.out);cases hp:(f.name==n)with
   |false=>
    have sK:Hid (∀j,j<k+1→((l.getD j fd0).name==n)=false) :=fun j hj=>by
     by_cases h:j<k;·exact HN.out j h
     ·have:j=k:=by omega
      subst this;rw[HF.out];exact hp
    rw[hp]at om;clear hp;go_wp2_with(go_at_call 60;refine om.out.mono ?_;rintro e w2⟨rfl,hb2⟩);go_roundw;case rel=>exact⟨k+1,by omega,by go_num,sK.out,HB.out.trans (hb2.mono HB.out.size)⟩
    case measure=>simp[intOf];omega
   |true=>
    have HR:Hid (lG l n=(k:Int)) :=by
     show _=_;have h2:dL l n=k:=by
      unfold dL;rw[List.findIdx_eq hlt];have e: ∀j(hj:j<l.length),l.getD j fd0=l[j] :=fun j hj=>by simp[hj]
      refine⟨by rw[←e k hlt,HF.out];exact hp,fun j hj=> ?_⟩;rw[←e j (by omega)];exact HN.out j hj
     rw[lG,h2,if_pos hlt]
    rw[hp]at om;clear hp;go_wp2_with(go_at_call 60;refine om.out.mono ?_;rintro e w2⟨rfl,hb2⟩);go_ret;rw[HR.out];exact⟨rfl,HB.out.trans (hb2.mono HB.out.size)⟩
  ·have HR:Hid (lG l n= -1) :=by show _=_;rw[lG,if_neg];intro h;have:=HN.out (dL l n) (by omega);rw[uf h]at this;simp at this
   go_wp2_with fail;go_ret;rw[HR.out];exact⟨rfl,HB.out⟩
theorem BP (a : Option Addr) (cap : Nat) (l : List Fd) (n : List UInt8) (w : World) (hn : l.length ≤ 1048576) (hS : jK w a l) (hit : dL l n < l.length) (f : Fd) (hf : l.getD (dL l n) fd0 = f) :
    Calls Tryz.prog 33 #[.agg #[.slice a l.length cap], .string (bs n)] w fun e w' => ∃ aS cS aY cY, e = .returned (.tuple #[.agg #[.string (bs f.name), .int .i64 f.kind, .bool f.bf, .bool f.bA, .bool f.bp, .slice aS f.stops.length cS, .slice aY f.af.length cY, .int .i64 f.lo, .int .i64 f.hi], .bool true]) ∧ bE w' aS f.stops ∧ dB w' aY f.af ∧ Below w.heap.size w w' := by
  have HS := aa hS
  clear hS
  have hk := SK w (.cells #[.slice a l.length cap] 25) (.cells #[.string (bs n)] 9) (.cells #[.string ⟨#[]⟩, .int .i64 0, .bool false, .bool false, .bool false, .slice none 0 0, .slice none 0 0, .int .i64 0, .int .i64 0] 75)
  have HB3 : Hid (Below w.heap.size w (((w.alloc (.cells #[.slice a l.length cap] 25)).alloc (.cells #[.string (bs n)] 9)).alloc (.cells #[.string ⟨#[]⟩, .int .i64 0, .bool false, .bool false, .bool false, .slice none 0 0, .slice none 0 0, .int .i64 0, .int .i64 0] 75))) := (((Below.refl _ _).alloc (Nat.le_refl _) _).alloc (by simp) _).alloc (by simp; omega) _
  have XG : w.heap.size + 1 + 1 < (((w.alloc (.cells #[.slice a l.length cap] 25)).alloc (.cells #[.string (bs n)] 9)).alloc (.cells #[.string ⟨#[]⟩, .int .i64 0, .bool false, .bool false, .bool false, .slice none 0 0, .slice none 0 0, .int .i64 0, .int .i64 0] 75)).heap.size := by simp
  simp only [] at hk
  have HK := aa hk
  clear hk
  go_enter Tryz.func33, Tryz.ntmps33
  go_upto_region 1 with fail
  obtain ⟨W3, hW3⟩ : ∃ W3, (((w.alloc (.cells #[.slice a l.length cap] 25)).alloc (.cells #[.string (bs n)] 9)).alloc (.cells #[.string ⟨#[]⟩, .int .i64 0, .bool false, .bool false, .bool false, .slice none 0 0, .slice none 0 0, .int .i64 0, .int .i64 0] 75)) = W3 := ⟨_, rfl⟩
  rw [hW3] at HK HB3 XG
  try rw [hW3]
  clear hW3
  have x0 : W3.cell? ⟨w.heap.size, 0, none⟩ = some (.slice a l.length cap) := ah HK.out.1 0
  have HI := aa (yu a cap l n (w.heap.size + 1) W3 hn (HS.out.below HB3.out) HK.out.2.1)
  rw [show lG l n = (dL l n : Int) by rw [lG, if_pos hit]] at HI
  have Hf := aa hf
  clear hf
  generalize dL l n = k at *
  go_wp2_with fail
  refine HI.out.mono ?_
  rintro e w4 ⟨rfl, hb4⟩
  have bU : Hid (Below w.heap.size w w4) := HB3.out.trans (hb4.mono (by omega))
  have k0 := aD HK.out.1 hb4
  have k2 := aD HK.out.2.2 hb4
  have Aj := hb4.size
  clear hb4 HI x0
  have x0 : w4.cell? ⟨w.heap.size, 0, none⟩ = some (.slice a l.length cap) := ah k0 0
  obtain ⟨b, off, rfl, hbl, hc⟩ := HS.out.resolve_left (fun h => by rw [h] at hit; simp at hit)
  obtain ⟨p0, p1, p2, p3, p4, ⟨aS, cS, p5, hSt⟩, ⟨aY, cY, p6, rQ⟩, p7, p8⟩ := hc k hit
  rw [Hf.out] at p0 p1 p2 p3 p4 p5 p6 p7 p8 hSt rQ
  have pY := aa hSt
  have HYt := aa rQ
  clear hc hSt rQ HS
  have up : ∀ o u, w.cell? ⟨b, o, none⟩ = some u → w4.cell? ⟨b, o, none⟩ = some u := fun o u h => (bU.out.cell (p := ⟨b, o, none⟩) hbl).trans h
  have q0 := up _ _ p0
  have q1 := up _ _ p1
  have q2 := up _ _ p2
  have q3 := up _ _ p3
  have q4 := up _ _ p4
  have q5 := up _ _ p5
  have q6 := up _ _ p6
  have q7 := up _ _ p7
  have q8 := up _ _ p8
  clear up p0 p1 p2 p3 p4 p5 p6 p7 p8
  have d0 := ah k2 0
  have y0 := aC k2 0
  have d1 := ah k2 1
  have y1 := aC k2 1
  have d2 := ah k2 2
  have y2 := aC k2 2
  have d3 := ah k2 3
  have y3 := aC k2 3
  have d4 := ah k2 4
  have y4 := aC k2 4
  have d5 := ah k2 5
  have y5 := aC k2 5
  have d6 := ah k2 6
  have y6 := aC k2 6
  have d7 := ah k2 7
  have y7 := aC k2 7
  have d8 := ah k2 8
  have y8 := aC k2 8
  simp only [List.getElem?_toArray, List.getElem?_cons_zero, List.getElem?_cons_succ] at d0 d1 d2 d3 d4 d5 d6 d7 d8
  clear k0 k2 HK HB3
  go_wp2_with fail
  refine bodyPost_ret (v := .tuple #[.agg #[.string (bs f.name), .int .i64 f.kind, .bool f.bf, .bool f.bA, .bool f.bp, .slice aS f.stops.length cS, .slice aY f.af.length cY, .int .i64 f.lo, .int .i64 f.hi], .bool true]) (by simp [results, Tryz.results33, go_sem, *]) rfl ?_
  have dm : Below w.heap.size w (((((((((w4.setCell ⟨w.heap.size + 1 + 1, 0, none⟩ (.string (bs f.name))).setCell ⟨w.heap.size + 1 + 1, 1, none⟩ (.int .i64 f.kind)).setCell ⟨w.heap.size + 1 + 1, 2, none⟩ (.bool f.bf)).setCell ⟨w.heap.size + 1 + 1, 3, none⟩ (.bool f.bA)).setCell ⟨w.heap.size + 1 + 1, 4, none⟩ (.bool f.bp)).setCell ⟨w.heap.size + 1 + 1, 5, none⟩ (.slice aS f.stops.length cS)).setCell ⟨w.heap.size + 1 + 1, 6, none⟩ (.slice aY f.af.length cY)).setCell ⟨w.heap.size + 1 + 1, 7, none⟩ (.int .i64 f.lo)).setCell ⟨w.heap.size + 1 + 1, 8, none⟩ (.int .i64 f.hi)) := by
    iterate 9 refine Below.setCell ?_ (by dsimp only; omega) _
    exact bU.out
  exact ⟨aS, cS, aY, cY, rfl, pY.out.below dm, HYt.out.below dm, dm⟩
theorem zN (a : Option Addr) (cap : Nat) (l : List Fd) (n : List UInt8) (w : World) (hn : l.length ≤ 1048576) (hS : jK w a l) (hit : ¬ dL l n < l.length) :
    Calls Tryz.prog 33 #[.agg #[.slice a l.length cap], .string (bs n)] w fun e w' => e = .returned (.tuple #[.agg #[.string ⟨#[]⟩, .int .i64 0, .bool false, .bool false, .bool false, .slice none 0 0, .slice none 0 0, .int .i64 0, .int .i64 0], .bool false]) ∧ Below w.heap.size w w' := by
  have HS := aa hS
  clear hS
  have hk := SK w (.cells #[.slice a l.length cap] 25) (.cells #[.string (bs n)] 9) (.cells #[.string ⟨#[]⟩, .int .i64 0, .bool false, .bool false, .bool false, .slice none 0 0, .slice none 0 0, .int .i64 0, .int .i64 0] 75)
  have HB3 : Hid (Below w.heap.size w (((w.alloc (.cells #[.slice a l.length cap] 25)).alloc (.cells #[.string (bs n)] 9)).alloc (.cells #[.string ⟨#[]⟩, .int .i64 0, .bool false, .bool false, .bool false, .slice none 0 0, .slice none 0 0, .int .i64 0, .int .i64 0] 75))) := (((Below.refl _ _).alloc (Nat.le_refl _) _).alloc (by simp) _).alloc (by simp; omega) _
  have XG : w.heap.size + 1 + 1 < (((w.alloc (.cells #[.slice a l.length cap] 25)).alloc (.cells #[.string (bs n)] 9)).alloc (.cells #[.string ⟨#[]⟩, .int .i64 0, .bool false, .bool false, .bool false, .slice none 0 0, .slice none 0 0, .int .i64 0, .int .i64 0] 75)).heap.size := by simp
  simp only [] at hk
  have HK := aa hk
  clear hk
  go_enter Tryz.func33, Tryz.ntmps33
  go_upto_region 1 with fail
  obtain ⟨W3, hW3⟩ : ∃ W3, (((w.alloc (.cells #[.slice a l.length cap] 25)).alloc (.cells #[.string (bs n)] 9)).alloc (.cells #[.string ⟨#[]⟩, .int .i64 0, .bool false, .bool false, .bool false, .slice none 0 0, .slice none 0 0, .int .i64 0, .int .i64 0] 75)) = W3 := ⟨_, rfl⟩
  rw [hW3] at HK HB3 XG
  try rw [hW3]
  clear hW3
  have x0 : W3.cell? ⟨w.heap.size, 0, none⟩ = some (.slice a l.length cap) := ah HK.out.1 0
  have HI := aa (yu a cap l n (w.heap.size + 1) W3 hn (HS.out.below HB3.out) HK.out.2.1)
  rw [show lG l n = -1 by rw [lG, if_neg hit]] at HI
  clear hit
  go_wp2_with fail
  refine HI.out.mono ?_
  rintro e w4 ⟨rfl, hb4⟩
  have bU : Hid (Below w.heap.size w w4) := HB3.out.trans (hb4.mono (by omega))
  have k2 := aD HK.out.2.2 hb4
  have Aj := hb4.size
  clear hb4 HI x0
  have d0 := ah k2 0
  have y0 := aC k2 0
  have d1 := ah k2 1
  have y1 := aC k2 1
  have d2 := ah k2 2
  have y2 := aC k2 2
  have d3 := ah k2 3
  have y3 := aC k2 3
  have d4 := ah k2 4
  have y4 := aC k2 4
  have d5 := ah k2 5
  have y5 := aC k2 5
  have d6 := ah k2 6
  have y6 := aC k2 6
  have d7 := ah k2 7
  have y7 := aC k2 7
  have d8 := ah k2 8
  have y8 := aC k2 8
  simp only [List.getElem?_toArray, List.getElem?_cons_zero, List.getElem?_cons_succ] at d0 d1 d2 d3 d4 d5 d6 d7 d8
  clear k2 HK HB3
  go_wp2_with fail
  refine bodyPost_ret (v := .tuple #[.agg #[.string ⟨#[]⟩, .int .i64 0, .bool false, .bool false, .bool false, .slice none 0 0, .slice none 0 0, .int .i64 0, .int .i64 0], .bool false]) (by simp [results, Tryz.results33, go_sem, *]) rfl ?_
  have dm : Below w.heap.size w (((((((((w4.setCell ⟨w.heap.size + 1 + 1, 0, none⟩ (.string ⟨#[]⟩)).setCell ⟨w.heap.size + 1 + 1, 1, none⟩ (.int .i64 0)).setCell ⟨w.heap.size + 1 + 1, 2, none⟩ (.bool false)).setCell ⟨w.heap.size + 1 + 1, 3, none⟩ (.bool false)).setCell ⟨w.heap.size + 1 + 1, 4, none⟩ (.bool false)).setCell ⟨w.heap.size + 1 + 1, 5, none⟩ (.slice none 0 0)).setCell ⟨w.heap.size + 1 + 1, 6, none⟩ (.slice none 0 0)).setCell ⟨w.heap.size + 1 + 1, 7, none⟩ (.int .i64 0)).setCell ⟨w.heap.size + 1 + 1, 8, none⟩ (.int .i64 0)) := by
    iterate 9 refine Below.setCell ?_ (by dsimp only; omega) _
    exact bU.out
  exact ⟨rfl, dm⟩
theorem jr.but {X:Nat→Prop} {w w':World} {a:Option Addr} {l:List Tk}(h:jr w a l)(hb:But X w w')(hx: ∀b off,a=some ⟨b,off,none⟩→¬X b) :jr w' a l:=h.cells hb.size fun b off e hl=>hb.block b hl (hx b off e)
theorem J3 {X:Nat→Prop} {w w':World} {base e n:Nat} {v:Value} {xs:List Value}(h:w.ownsRow base e 4 v n xs)(hb:But X w w')(hx: ∀b,v.ownBlock=some b→¬X b) :w'.ownsRow base e 4 v n xs:=by
 refine⟨h.1,?_⟩;rcases h.2 with h'| ⟨g,cap,cur,rfl,h2,h3,h4⟩;·exact Or.inl h'
 ·exact Or.inr ⟨g,cap,cur,rfl,h2,(hb.block g (Array.getElem?_eq_some_iff.1 h3).1 (hx g rfl)).trans h3,h4⟩
theorem sN {w:World} {base e n g cap:Nat} {xs:List Value}(h:w.ownsRow base e 4 (.slice (some ⟨g,0,none⟩) n cap) n xs)(k:Nat)(u:Value)(hk:k<n*4) :(w.setCell ⟨g,k,none⟩ u).ownsRow base e 4 (.slice (some ⟨g,0,none⟩) n cap) n (xs.set k u) :=by
 refine⟨by rw[List.length_set];exact h.1,?_⟩;rcases h.2 with⟨h',_⟩| ⟨g',cap',cur,h1,h2,h3,h4,h5,h6,h7⟩;·cases h'
 ·simp only[Value.slice.injEq,Option.some.injEq,Addr.mk.injEq,and_true,true_and]at h1;obtain⟨rfl,rfl⟩ :=h1;refine Or.inr ⟨g,cap,cur.setIfInBounds k u,rfl,h2,aV h3 k u,h4,h5,by rw[Array.size_setIfInBounds];exact h6,?_⟩;rw[Array.toList_setIfInBounds,List.take_set,h7]
theorem VC {w:World} {base e n g cap i:Nat} {xs:List Value}(h:w.ownsRow base e 4 (.slice (some ⟨g,0,none⟩) n cap) n xs)(hi:i≤n) :w.ownsRow base e 4 (.slice (some ⟨g,0,none⟩) i cap) i (xs.take (i*4)) :=by
 refine⟨by rw[List.length_take,h.1];omega,?_⟩;rcases h.2 with⟨h',_⟩| ⟨g',cap',cur,h1,h2,h3,h4,h5,h6,h7⟩;·cases h'
 ·simp only[Value.slice.injEq,Option.some.injEq,Addr.mk.injEq,and_true,true_and]at h1;obtain⟨rfl,rfl⟩ :=h1;refine Or.inr ⟨g,cap,cur,rfl,h2,h3,by omega,h5,h6,?_⟩;rw[←h7,List.take_take,Nat.min_eq_left (by omega)]
theorem VS {w:World} {base e n g cap:Nat} {xs:List Value}(h:w.ownsRow base e 4 (.slice (some ⟨g,0,none⟩) n cap) n xs) :n≤cap∧cap≤maxLen:=by
 rcases h.2 with⟨h',_⟩| ⟨g',cap',cur,h1,h2,h3,h4,h5,h6,h7⟩;·cases h'
 ·simp only[Value.slice.injEq,Option.some.injEq,Addr.mk.injEq,and_true,true_and]at h1;obtain⟨rfl,rfl⟩ :=h1;exact⟨h4,h5⟩
theorem mo {w:World} {base e n g cap:Nat} {xs:List Value}(h:w.ownsRow base e 4 (.slice (some ⟨g,0,none⟩) n cap) n xs)(k:Nat) :w.frozen? ⟨g,k,none⟩=false:=by
 rcases h.2 with⟨h',_⟩| ⟨g',cap',cur,h1,h2,h3,h4,h5,h6,h7⟩;·cases h'
 ·simp only[Value.slice.injEq,Option.some.injEq,Addr.mk.injEq,and_true,true_and]at h1;obtain⟨rfl,rfl⟩ :=h1;exact frozen_of_row w g k _ _ h3
theorem Ju(l:List Tk)(k:Nat)(x:Tk)(h:k<l.length) :((((ak l).set (k*4) (.string (bs x.1))).set (k*4+1) (.int .i64 x.2.1)).set (k*4+2) (.int .i64 x.2.2.1)).set (k*4+3) (.int .i64 x.2.2.2)=ak (l.set k x) :=by
 induction l generalizing k with
 |nil=>simp at h
 |cons y t ih=>
  have e: ∀(z:Tk)(r:List Tk),ak (z::r)=(Value.string (bs z.1)) ::(.int .i64 z.2.1) ::(.int .i64 z.2.2.1) ::(.int .i64 z.2.2.2) ::ak r:=fun z r=>by simp[ak,eF,bs]
  cases k with
  |zero=>simp[e]
  |succ k=>rw[List.set_cons_succ,e,e,show(k+1)*4=k*4+4 by omega];simp only[show k*4+4+1=k*4+1+4 by omega,show k*4+4+2=k*4+2+4 by omega,show k*4+4+3=k*4+3+4 by omega,List.set_cons_succ];rw[ih k (by simpa using h)]
theorem Gc(l:List Tk)(k:Nat)(x:List UInt8)(h:k<l.length) :(ak l).set (k*4) (.string (bs x))=ak (l.set k (x,(l.getD k bS).2)) :=by
 induction l generalizing k with
 |nil=>simp at h
 |cons y t ih=>
  have e: ∀(z:Tk)(r:List Tk),ak (z::r)=(Value.string (bs z.1)) ::(.int .i64 z.2.1) ::(.int .i64 z.2.2.1) ::(.int .i64 z.2.2.2) ::ak r:=fun z r=>by simp[ak,eF,bs]
  cases k with
  |zero=>simp[e]
  |succ k=>rw[List.set_cons_succ,e,e,show(k+1)*4=k*4+4 by omega];simp only[List.set_cons_succ];rw[ih k (by simpa using h)];simp
theorem Gm(l:List Tk)(k:Nat) :(ak l).take (k*4)=ak (l.take k) :=by
 induction l generalizing k with
 |nil=>simp[ak]
 |cons y t ih=>
  have e: ∀(z:Tk)(r:List Tk),ak (z::r)=(Value.string (bs z.1)) ::(.int .i64 z.2.1) ::(.int .i64 z.2.2.1) ::(.int .i64 z.2.2.2) ::ak r:=fun z r=>by simp[ak,eF,bs]
  cases k with
  |zero=>simp[ak]
  |succ k=>rw[List.take_succ_cons,e,e,show(k+1)*4=k*4+4 by omega];simp only[List.take_succ_cons];rw[ih k]
theorem Rq {w:World} {base e g cap:Nat} {l:List Tk}(h:w.ownsRow base e 4 (.slice (some ⟨g,0,none⟩) l.length cap) l.length (ak l))(k:Nat)(x:List UInt8)(hk:k<l.length) :(w.setCell ⟨g,k*4,none⟩ (.string (bs x))).ownsRow base e 4 (.slice (some ⟨g,0,none⟩) l.length cap) l.length (ak (l.set k (x,(l.getD k bS).2))) :=by rw[←Gc l k x hk];exact sN h (k*4) _ (by omega)
theorem Nc {w:World} {base e g cap:Nat} {l:List Tk}(h:w.ownsRow base e 4 (.slice (some ⟨g,0,none⟩) l.length cap) l.length (ak l))(k:Nat)(x:Tk)(hk:k<l.length) :((((w.setCell ⟨g,k*4,none⟩ (.string (bs x.1))).setCell ⟨g,k*4+1,none⟩ (.int .i64 x.2.1)).setCell ⟨g,k*4+2,none⟩ (.int .i64 x.2.2.1)).setCell ⟨g,k*4+3,none⟩ (.int .i64 x.2.2.2)).ownsRow base e 4 (.slice (some ⟨g,0,none⟩) l.length cap) l.length (ak (l.set k x)) :=by rw[←Ju l k x hk];exact sN (sN (sN (sN h (k*4) _ (by omega)) (k*4+1) _ (by omega)) (k*4+2) _ (by omega)) (k*4+3) _ (by omega)
theorem zw {w:World} {base e g cap:Nat} {l:List Tk}(h:w.ownsRow base e 4 (.slice (some ⟨g,0,none⟩) l.length cap) l.length (ak l))(t:Nat)(ht:t<l.length) :w.cell? ⟨g,t*4,none⟩=some (.string (bs (l.getD t bS).1))∧w.cell? ⟨g,t*4+1,none⟩=some (.int .i64 ((l.getD t bS).2.1:Int))∧w.cell? ⟨g,t*4+2,none⟩=some (.int .i64 ((l.getD t bS).2.2.1:Int))∧w.cell? ⟨g,t*4+3,none⟩=some (.int .i64 ((l.getD t bS).2.2.2:Int)) :=by obtain⟨a,c,he,hH,_⟩ :=kJ h;simp only[Value.slice.injEq,true_and]at he;obtain⟨rfl,rfl⟩ :=he;obtain⟨b,off,hb,_,hc⟩ :=hH.resolve_left (fun h=>by rw[h]at ht;simp at ht);simp only[Option.some.injEq,Addr.mk.injEq,and_true]at hb;obtain⟨rfl,rfl⟩ :=hb;simpa using hc t ht
end Go.Proofs.YtcjiphknpagenaaGreatDoor
