import Derived.Test.YtcjiphknpagenaaGreatDoorDocsJ26
namespace Go.Proofs.YtcjiphknpagenaaGreatDoor
open Go Go.RowKit
set_option linter.unusedVariables false
set_option linter.unusedSimpArgs false
set_option maxRecDepth 100000
set_option maxHeartbeats 8000000
def fG {X:Type}(f:X→List UInt8)(M:List UInt8)(l:List X)(k:Nat) :List UInt8:=M++(l.take k).flatMap f
theorem qV {X:Type}(f:X→List UInt8)(M:List UInt8)(l:List X) :fG f M l 0=M:=by simp[fG]
theorem qL {X:Type}(f:X→List UInt8)(M:List UInt8)(l:List X)(d:X) {k:Nat}(hk:k<l.length) :fG f M l (k+1)=fG f M l k++f (l.getD k d) :=by rw[fG,List.take_succ_eq_append_getElem hk,List.flatMap_append,fG,List.getD_eq_getElem?_getD,List.getElem?_eq_getElem hk,←List.append_assoc];simp
theorem oZ {X:Type}(f:X→List UInt8)(M:List UInt8)(l:List X) :fG f M l l.length=M++l.flatMap f:=by rw[fG,List.take_length]
theorem D9 {X:Type}(f:X→List UInt8)(l:List X)(c:Nat)(h: ∀x∈l,(f x).length≤c) :(l.flatMap f).length≤l.length*c:=by
 induction l with
 |nil=>simp
 |cons x l ih=>rw[List.flatMap_cons,List.length_append,List.length_cons,Nat.succ_mul];have h1:=h x (List.mem_cons_self);have h2:=ih (fun y hy=>h y (List.mem_cons_of_mem _ hy));omega
theorem wC {X:Type}(f:X→List UInt8)(M:List UInt8)(l:List X)(c:Nat)(h: ∀x∈l,(f x).length≤c)(n:Nat)(hn:l.length≤n)(k:Nat) :(fG f M l k).length≤M.length+n*c:=by
 have h1:=D9 f (l.take k) c (fun x hx=>h x (List.mem_of_mem_take hx));have h2:(l.take k).length≤l.length:=by rw[List.length_take];exact Nat.min_le_right _ _
 have h3:(l.take k).length*c≤n*c:=Nat.mul_le_mul_right _ (by omega);rw[fG,List.length_append];omega
theorem sW {t:List UInt8}(h:t.length≤65536) :(dK t).length≤65545:=by have:=bO t.length (by omega);rw[dK,List.length_append];omega
theorem GG {z:Int}(h:dU z=true) :(mK z).length≤9:=bO _ (FM h)
theorem zF {v:Vl}(h:iU v=true) :(v.1.length≤65536∧v.2.1.length≤4096∧v.2.2.length≤4096)∧(∀t∈v.2.1,t.length≤65536)∧∀z∈v.2.2,dU z=true:=by simp only[iU,Bool.and_eq_true,decide_eq_true_eq,List.all_eq_true,mF]at h;exact⟨h.1.1,h.1.2,h.2⟩
theorem FC {d:Dc}(h:iT d=true) :(d.1.length≤65536∧d.2.length≤4096)∧∀v∈d.2,iU v=true:=by simp only[iT,Bool.and_eq_true,decide_eq_true_eq,List.all_eq_true]at h;exact h
theorem Zf {v:Vl}(h:iU v=true) :(lD v).length≤268600000:=by obtain⟨⟨h1,h2,h3⟩,h4,h5⟩ :=zF h;have a1:=sW h1;have a2:=bO v.2.1.length (by omega);have a3:=bO v.2.2.length (by omega);have a4:=D9 dK v.2.1 65545 (fun t ht=>sW (h4 t ht));have a5:=D9 mK v.2.2 9 (fun z hz=>GG (h5 z hz));simp only[lD,List.length_append];omega
theorem qR {X:Type} {l:List X} {d:X} {k:Nat}(hk:k<l.length) :l.getD k d∈l:=by rw[List.getD_eq_getElem?_getD,List.getElem?_eq_getElem hk];exact List.getElem_mem hk
theorem JW(id:List UInt8)(a:Option Addr)(c:Nat)(V:List Vl)(w:World)(hok:iT (id,V)=true)(h:gK w a V) :Calls Tryz.prog 26 #[.agg #[.string ⟨id.toArray⟩,.slice a V.length c]] w fun e w'=>∃v,e= .returned v∧w'.ownsRow w.heap.size 5 1 v (yg (id,V)).length (Lib.byteCells (yg (id,V)))∧Below w.heap.size w w':=by
 obtain⟨i1,hi1,hy0,hy1,hy2⟩ :=info_parts Tryz.infoByte;have HV:=aa h;obtain⟨⟨hid,En⟩,hvs⟩ :=FC hok;have NC:=aa hvs;dsimp only at hid En NC;clear h hok hvs;have ax:=aa ((Below.refl w.heap.size w).alloc (Nat.le_refl _) (.cells #[.string ⟨id.toArray⟩,.slice a V.length c] 28));have HX:=aa (heap_alloc_new w (.cells #[.string ⟨id.toArray⟩,.slice a V.length c] 28));have hti:=sW hid;have hpv:=bO V.length (by omega);have hpp:=nX V.length;have HE:Hid (yg (id,V)=fG lD (dK id++aZ V.length) V V.length) :=by show _=_;rw[oZ];rfl
 have HPt:=aa (MN);have sK:=aa (Jm);have Vn:=aa (fun(x:Nat)(hx:x≤1048576)(W:World)=>xR x W (by omega));go_enter Tryz.func26,Tryz.ntmps26;go_upto_region 1 with fail;obtain⟨wa,bN⟩ : ∃wa,w.alloc (.cells #[.string ⟨id.toArray⟩,.slice a V.length c] 28)=wa:=⟨_,rfl⟩;rw[bN]at ax HX;try rw[bN]
 clear bN;have lC:w.heap.size<wa.heap.size:=(Array.getElem?_eq_some_iff.1 HX.out).1;have x0:=ah HX.out 0;have x1:=ah HX.out 1;have ZO:=aa (HPt.out wa.heap.size 0 _ [] id _ rfl (by omega) hid (dJ wa 5) (by simp));go_wp2_with fail;refine ZO.out.mono ?_;rintro e w2⟨v2,rfl,hown2,hb2,hk2⟩;rw[List.nil_append]at hown2;obtain⟨av2,cv2,rfl⟩ :=o8 hown2;have cu:=aa hown2;have HB2:Hid (Below wa.heap.size wa w2) :=((Below.refl _ _).alloc (Nat.le_refl _) _).trans hb2;have hz2:=HB2.out.size;replace x0:=(HB2.out.cell (p:=⟨w.heap.size,0,none⟩) lC).trans x0;replace x1:=(HB2.out.cell (p:=⟨w.heap.size,1,none⟩) lC).trans x1;clear hown2 hb2 hk2 ZO;dsimp only;have qN:=aa (Vn.out V.length (by omega) w2);go_wp2_with fail;refine qN.out.mono ?_;rintro e w3⟨gp,cp,rfl,hown3,hb3⟩;have iO:=aa (nK hown3 rfl);have qb:=aa (own_below cu.out hb3);have HB3:=aa (HB2.out.trans (hb3.mono HB2.out.size))
 have hz3:=HB3.out.size;clear hown3 hb3 qN cu HB2 x0 x1;dsimp only;go_wp2_with(at_builtin;refine wpList_append_lies _ rfl _ _ 22 rfl wa.heap.size 5 i1 (.int .u8 0) 1 1 Tryz.underlying22 hi1 hy0 hy1 hy2 rfl (by decide) (.slice av2 (dK id).length cv2) (dK id).length (Lib.byteCells (dK id)) rfl qb.out ⟨gp,0,none⟩ (aZ V.length).length cp (Lib.byteCells (aZ V.length)) rfl (by simp[Lib.byteCells]) (nQ iO.out (Below.refl _ _)) (nT _) (by omega) (by unfold maxLen;omega) (by omega) hz3 _ rfl ?_);intro g4 cp4 w4 uZ UG agp afR;have bU:Hid (Below wa.heap.size wa w4) :=HB3.out.grown UG hz3 (fun b h=>(dH qb.out h).1);have iA:Hid (w4.ownsRow wa.heap.size 5 1 (.slice (some ⟨g4,0,none⟩) ((dK id).length+(aZ V.length).length) cp4) (fG lD (dK id++aZ V.length) V 0).length (Lib.byteCells (fG lD (dK id++aZ V.length) V 0))) :=by show World.ownsRow _ _ _ _ _ _ _;rw[qV,List.length_append,Lib.byteCells_append];exact uZ
 clear uZ UG agp afR qb iO;have HLen:=aa (fun k=>wC lD (dK id++aZ V.length) V 268600000 (fun v hv=>Zf (NC.out v hv)) 4096 En k);have pY:=aa (fun(k:Nat)(hk:k<V.length)=>qL lD (dK id++aZ V.length) V aQ hk);have hM0:(dK id++aZ V.length).length≤65554:=by rw[List.length_append];omega
 generalize(dK id++aZ V.length)=M0 at iA HE HLen pY hM0;go_wp2_with fail;go_loopw [3,4](fun v iv wr=>∃k:Nat,k≤V.length∧iv= .int .i64 (k:Int)∧wr.ownsRow wa.heap.size 5 1 v (fG lD M0 V k).length (Lib.byteCells (fG lD M0 V k))∧Below wa.heap.size wa wr)(fun _ iv _=>V.length-(intOf iv).toNat);case atStart=>exact⟨0,Nat.zero_le _,rfl,iA.out,bU.out⟩
 case round=>
  obtain⟨k,hk,rfl,hown,hbel⟩ :=hrel;clear iA bU;have ru:=aa hown;have tT:=aa hbel;obtain⟨av,cv,rfl⟩ :=o8 hown;clear hown hbel;have hpl:=HLen.out k;have hwz:=tT.out.size;have x0:=(tT.out.cell (p:=⟨w.heap.size,0,none⟩) lC).trans (ah HX.out 0);have x1:=(tT.out.cell (p:=⟨w.heap.size,1,none⟩) lC).trans (ah HX.out 1);by_cases hlt:k<V.length
  ·have hltz:(k:Int)<(V.length:Int) :=by omega
   obtain⟨b,off,rfl,hb,hc⟩ :=HV.out.resolve_left (fun e=>by rw[e]at hlt;simp at hlt);obtain⟨c0,⟨at_,ct,c1,hTx⟩,an,cn,c2,hZ⟩ :=hc k hlt;have hBw:=ax.out.trans (tT.out.mono ax.out.size);replace c0:=(hBw.cell (p:=⟨b,off+k*3,none⟩) hb).trans c0;replace c1:=(hBw.cell (p:=⟨b,off+k*3+1,none⟩) hb).trans c1;replace c2:=(hBw.cell (p:=⟨b,off+k*3+2,none⟩) hb).trans c2;clear hBw;have hvk:=zF (NC.out (V.getD k aQ) (qR hlt));have jS:=aa (pY.out k hlt);obtain⟨v,hv⟩ : ∃v,V.getD k aQ=v:=⟨_,rfl⟩;rw[hv]at c0 c1 c2 hTx hZ hvk jS;clear hv;obtain⟨f,tx,nz⟩ :=v;dsimp only at c0 c1 c2 hTx hZ hvk;obtain⟨⟨hf,hxl,hnl⟩,hxs,hns⟩ :=hvk;have wW:=aa hxs;have NR:=aa hns;have gP:=aa hTx;have HZ:=aa hZ;clear hc hTx hZ hxs hns;have jw:=aa ((Below.refl wr.heap.size wr).alloc (Nat.le_refl _) (.cells #[.string ⟨f.toArray⟩,.slice at_ tx.length ct,.slice an nz.length cn] 43))
   have kW:=aa (heap_alloc_new wr (.cells #[.string ⟨f.toArray⟩,.slice at_ tx.length ct,.slice an nz.length cn] 43));go_upto_region 7 with fail;obtain⟨wv,hwv⟩ : ∃wv,wr.alloc (.cells #[.string ⟨f.toArray⟩,.slice at_ tx.length ct,.slice an nz.length cn] 43)=wv:=⟨_,rfl⟩;rw[hwv]at jw kW;try rw[hwv]
   clear hwv;obtain⟨Q,hQ⟩ : ∃Q,wr.heap.size=Q:=⟨_,rfl⟩;rw[hQ]at kW;try rw[hQ]
   have Kg:=aa (own_below ru.out jw.out);have o6:Hid (Below wa.heap.size wa wv) :=tT.out.trans (jw.out.mono hwz);have v0:=ah kW.out 0;have FW:=o6.out.size;obtain⟨N,hN⟩ : ∃N,fG lD M0 V k=N:=⟨_,rfl⟩;rw[hN]at Kg hpl jS;try rw[hN]
   have zO:=aa (HPt.out wa.heap.size N.length _ N f wv rfl (by omega) hf Kg.out FW);have htf:=sW hf;clear c0 c1 c2 x0 x1 ru hQ jw hN;go_wp2_with fail;refine zO.out.mono ?_;rintro e w5⟨v5,rfl,hown5,hb5,hk5⟩;obtain⟨a5,c5,rfl⟩ :=o8 hown5;have jH:=aa hown5;have eG:Hid (Below wa.heap.size wa w5) :=o6.out.trans hb5;have vP:=aa (hk5 _ _ _ (by decide) kW.out);have Ak:=eG.out.size;have v1:=ah vP.out 1;clear hown5 hb5 hk5 zO v0 kW Kg o6;dsimp only;have HP5:=aa (Vn.out tx.length (by omega) w5);have hp5:=bO tx.length (by omega);have hq5:=nX tx.length;have hl5:(N++dK f).length≤1200000000000:=by rw[List.length_append];omega
   have qG:Hid (fG lD M0 V (k+1)=N++dK f++aZ tx.length++tx.flatMap dK++aZ nz.length++nz.flatMap mK) :=by show _=_;rw[jS.out];simp[lD]
   obtain⟨N5,Ih⟩ : ∃N5,N++dK f=N5:=⟨_,rfl⟩;rw[Ih]at jH hl5 qG;try rw[Ih]
   clear Ih jS;obtain⟨PR,TD⟩ : ∃PR,aZ tx.length=PR:=⟨_,rfl⟩;rw[TD]at HP5 hp5 hq5 qG;clear TD;go_wp2_with fail;refine HP5.out.mono ?_;rintro e w6⟨gp,cp,rfl,hown6,hb6⟩;have iO:=aa (nK hown6 rfl);have lQ:=aa (own_below jH.out hb6);have fu:=aa (eG.out.trans (hb6.mono eG.out.size));have uj:=aa (aD vP.out hb6);have Ad:=fu.out.size;clear hown6 hb6 HP5 jH eG vP v1;dsimp only;go_wp2_with(at_builtin;refine wpList_append_lies _ rfl _ _ 22 rfl wa.heap.size 5 i1 (.int .u8 0) 1 1 Tryz.underlying22 hi1 hy0 hy1 hy2 rfl (by decide) (.slice a5 N5.length c5) N5.length (Lib.byteCells N5) rfl lQ.out ⟨gp,0,none⟩ PR.length cp (Lib.byteCells PR) rfl (by simp[Lib.byteCells]) (nQ iO.out (Below.refl _ _)) (nT _) (by omega) (by unfold maxLen;omega) (by omega) Ad _ rfl ?_);intro g7 cp7 w7 fJ kZ Xf XM;have Hw:=aa (gG.grown lQ.out kZ _ _ _ (by decide) uj.out);have gF:Hid (Below wa.heap.size wa w7) :=fu.out.grown kZ Ad (fun b h=>(dH lQ.out h).1)
   have jy:Hid (w7.ownsRow wa.heap.size 5 1 (.slice (some ⟨g7,0,none⟩) (N5.length+PR.length) cp7) (fG dK (N5++PR) tx 0).length (Lib.byteCells (fG dK (N5++PR) tx 0))) :=by show World.ownsRow _ _ _ _ _ _ _;rw[qV,List.length_append,Lib.byteCells_append];exact fJ
   clear fJ kZ Xf XM lQ iO uj;have hl7:(N5++PR).length≤1210000000000:=by rw[List.length_append];omega
   obtain⟨N7,hN7⟩ : ∃N7,N5++PR=N7:=⟨_,rfl⟩;rw[hN7]at jy hl7 qG;clear hN7;have HLT:=aa (fun j=>wC dK N7 tx 65545 (fun t ht=>sW (wW.out t ht)) 4096 hxl j);go_wp2_with fail;go_loopw [3,6](fun v jv wx=>∃j:Nat,j≤tx.length∧jv= .int .i64 (j:Int)∧wx.ownsRow wa.heap.size 5 1 v (fG dK N7 tx j).length (Lib.byteCells (fG dK N7 tx j))∧Below wa.heap.size wa wx∧wx.heap[Q]?=some (.cells #[.string ⟨f.toArray⟩,.slice at_ tx.length ct,.slice an nz.length cn] 43))(fun _ jv _=>tx.length-(intOf jv).toNat);case atStart=>exact⟨0,Nat.zero_le _,rfl,jy.out,gF.out,Hw.out⟩
   case round=>
    obtain⟨j,hj,rfl,hown,hbel,hqq⟩ :=hrel;clear jy gF Hw;have Fa:=aa hown;have Fs:=aa hbel;have zQ:=aa hqq;obtain⟨aj,cj,rfl⟩ :=o8 hown;have v1:=ah hqq 1;have v2:=ah hqq 2;have hjz:=hbel.size;have hjl:=HLT.out j;clear hown hbel hqq;by_cases hjt:j<tx.length
    ·have J8:(j:Int)<(tx.length:Int) :=by omega
     obtain⟨bt,ot,rfl,hbt,hct⟩ :=gP.out.resolve_left (fun e=>by rw[e]at hjt;simp at hjt);have t1:=hct j hjt;have RI:=aa (qL dK N7 tx [] hjt);have htj:=wW.out (tx.getD j []) (qR hjt);obtain⟨ti,aaU⟩ : ∃ti,tx.getD j []=ti:=⟨_,rfl⟩;rw[aaU]at t1 RI htj;clear aaU hct;have htr:=((ax.out.trans (Fs.out.mono ax.out.size)).cell (p:=⟨bt,ot+j,none⟩) hbt).trans t1;have zO:=aa (HPt.out wa.heap.size _ _ _ ti wr rfl (by omega) htj Fa.out hjz);clear t1 v2;go_wp2_with fail;refine zO.out.mono ?_;rintro e w8⟨v8,rfl,nU,dY,uM⟩;rw[←RI.out]at nU;have uF:=aa nU;have jJ:=aa (Fs.out.trans dY);have Ce:=aa (uM _ _ _ (by decide) zQ.out);clear nU dY uM zO htr v1;dsimp only;go_wp2_with fail;go_roundw;case rel=>exact⟨j+1,by omega,by go_num,uF.out,jJ.out,Ce.out⟩
     case measure=>simp[intOf];omega
    ·have J8: ¬(j:Int)<(tx.length:Int) :=by omega
     obtain rfl:j=tx.length:=by omega
     rw[oZ]at Fa hjl;try rw[oZ]
     obtain⟨N8,hN8⟩ : ∃N8,N7++tx.flatMap dK=N8:=⟨_,rfl⟩;rw[hN8]at Fa hjl qG;try rw[hN8]
     clear hN8;have HP9:=aa (Vn.out nz.length (by omega) wr);have hp9:=bO nz.length (by omega);have hq9:=nX nz.length;obtain⟨PZ,hPZ⟩ : ∃PZ,aZ nz.length=PZ:=⟨_,rfl⟩;rw[hPZ]at HP9 hp9 hq9 qG;clear hPZ;go_wp2_with fail;refine HP9.out.mono ?_;rintro e w6⟨gq,cq,rfl,hown6,hb6⟩;have iO:=aa (nK hown6 rfl);have lQ:=aa (own_below Fa.out hb6);have fu:=aa (Fs.out.trans (hb6.mono Fs.out.size));have uj:=aa (aD zQ.out hb6);have Ad:=fu.out.size;clear hown6 hb6 HP9 Fa Fs zQ v1 v2;dsimp only;go_wp2_with(at_builtin;refine wpList_append_lies _ rfl _ _ 22 rfl wa.heap.size 5 i1 (.int .u8 0) 1 1 Tryz.underlying22 hi1 hy0 hy1 hy2 rfl (by decide) (.slice aj N8.length cj) N8.length (Lib.byteCells N8) rfl lQ.out ⟨gq,0,none⟩ PZ.length cq (Lib.byteCells PZ) rfl (by simp[Lib.byteCells]) (nQ iO.out (Below.refl _ _)) (nT _) (by omega) (by unfold maxLen;omega) (by omega) Ad _ rfl ?_)
     intro g7 cp7 w7 fJ kZ Xf XM;have Hw:=aa (gG.grown lQ.out kZ _ _ _ (by decide) uj.out);have gF:Hid (Below wa.heap.size wa w7) :=fu.out.grown kZ Ad (fun b h=>(dH lQ.out h).1);have jy:Hid (w7.ownsRow wa.heap.size 5 1 (.slice (some ⟨g7,0,none⟩) (N8.length+PZ.length) cp7) (fG mK (N8++PZ) nz 0).length (Lib.byteCells (fG mK (N8++PZ) nz 0))) :=by show World.ownsRow _ _ _ _ _ _ _;rw[qV,List.length_append,Lib.byteCells_append];exact fJ
     clear fJ kZ Xf XM lQ iO uj;have hl9:(N8++PZ).length≤1211000000000:=by rw[List.length_append];omega
     obtain⟨N9,hN9⟩ : ∃N9,N8++PZ=N9:=⟨_,rfl⟩;rw[hN9]at jy hl9 qG;clear hN9;have HLZ:=aa (fun j=>wC mK N9 nz 9 (fun z hz=>GG (NR.out z hz)) 4096 hnl j);go_wp2_with fail;go_loopw [3,7](fun v jv wx=>∃j:Nat,j≤nz.length∧jv= .int .i64 (j:Int)∧wx.ownsRow wa.heap.size 5 1 v (fG mK N9 nz j).length (Lib.byteCells (fG mK N9 nz j))∧Below wa.heap.size wa wx∧wx.heap[Q]?=some (.cells #[.string ⟨f.toArray⟩,.slice at_ tx.length ct,.slice an nz.length cn] 43))(fun _ jv _=>nz.length-(intOf jv).toNat);case atStart=>exact⟨0,Nat.zero_le _,rfl,jy.out,gF.out,Hw.out⟩
     case round=>
      obtain⟨j,hj,rfl,hown,hbel,hqq⟩ :=hrel;clear jy gF Hw;have Fa:=aa hown;have Fs:=aa hbel;have zQ:=aa hqq;obtain⟨an',cn',rfl⟩ :=o8 hown;have v2:=ah hqq 2;have hjz:=hbel.size;have hjl:=HLZ.out j;clear hown hbel hqq;by_cases hjt:j<nz.length
      ·have J8:(j:Int)<(nz.length:Int) :=by omega
       obtain⟨bt,ot,rfl,hbt,hct⟩ :=HZ.out.resolve_left (fun e=>by rw[e]at hjt;simp at hjt);have t1:=hct j hjt;have RI:=aa (qL mK N9 nz 0 hjt);have htj:=NR.out (nz.getD j 0) (qR hjt);obtain⟨z,hz'⟩ : ∃z,nz.getD j 0=z:=⟨_,rfl⟩;rw[hz']at t1 RI htj;clear hz' hct;have htr:=((ax.out.trans (Fs.out.mono ax.out.size)).cell (p:=⟨bt,ot+j,none⟩) hbt).trans t1;have zO:=aa (sK.out wa.heap.size _ _ _ z wr rfl (by omega) htj Fa.out hjz);clear t1;go_wp2_with fail;refine zO.out.mono ?_;rintro e w8⟨v8,rfl,nU,dY,uM⟩;rw[←RI.out]at nU;have uF:=aa nU;have jJ:=aa (Fs.out.trans dY);have Ce:=aa (uM _ _ _ (by decide) zQ.out);clear nU dY uM zO htr v2;dsimp only;go_wp2_with fail;go_roundw;case rel=>exact⟨j+1,by omega,by go_num,uF.out,jJ.out,Ce.out⟩
       case measure=>simp[intOf];omega
      ·have J8: ¬(j:Int)<(nz.length:Int) :=by omega
       obtain rfl:j=nz.length:=by omega
       rw[oZ,←qG.out]at Fa;rw[oZ,←qG.out];go_wp2_with fail;go_roundw;case rel=>exact⟨k+1,by omega,by go_num,Fa.out,Fs.out⟩
       case measure=>simp[intOf];omega
  ·have hltz: ¬(k:Int)<(V.length:Int) :=by omega
   obtain rfl:k=V.length:=by omega
   go_wp2_with fail;go_ret;exact⟨_,rfl,by rw[HE.out];exact fQ ru.out ax.out.size,ax.out.trans (tT.out.mono ax.out.size)⟩
def aga(f:Nat) :Prop:=∀(id:List UInt8)(a:Option Addr)(c:Nat)(V:List Vl)(w:World),id.length≤1048576→V.length≤1048576→(∀i,(V.getD i aQ).1.length≤1048576∧(V.getD i aQ).2.1.length≤1048576∧(V.getD i aQ).2.2.length≤1048576)→gK w a V→Calls Tryz.prog f #[.agg #[.string ⟨id.toArray⟩,.slice a V.length c]] w fun e w'=>∃v,e= .returned (.tuple #[v,.int .i64 (mh (id,V)).2])∧w'.ownsRow w.heap.size 5 1 v (mh (id,V)).1.length (Lib.byteCells (mh (id,V)).1)∧Below w.heap.size w w'
theorem Nt:aga 6:=by
 intro id a c V w hid hn hT hV;have HV:=aa hV;have HF:=aa (fun W(hW:Below w.heap.size w W)=>Jb id a c V W hn (fun i=>(hT i).2) (hV.below hW));clear hV hT;have ax:=aa ((Below.refl w.heap.size w).alloc (Nat.le_refl _) (.cells #[.string ⟨id.toArray⟩,.slice a V.length c] 28));have Hbx:=aa (heap_alloc_new w (.cells #[.string ⟨id.toArray⟩,.slice a V.length c] 28));go_enter Tryz.func6,Tryz.ntmps6;go_wp2_with fail;refine(HF.out _ ax.out).mono ?_;rintro e w1⟨rfl,hb1⟩;have HB1:=aa (ax.out.trans (hb1.mono ax.out.size));have ZV:=aa (aD Hbx.out hb1);clear hb1 Hbx;dsimp only;cases hok:iT (id,V)with
 |true=>
  have HO:Hid (mh (id,V)=(yg (id,V),0)) :=by show _=_;rw[mh,hok];rfl
  have HL:=aa (JW id a c V w1 hok (HV.out.below HB1.out));clear hok;have b0:=ah ZV.out 0;have b1:=ah ZV.out 1;go_wp2_with fail;refine HL.out.mono ?_;rintro e w2⟨v2,rfl,hown2,hb2⟩;have HB2:=aa (HB1.out.trans (hb2.mono HB1.out.size));have cu:=aa hown2;clear hown2 hb2 HL;dsimp only;go_wp2_with fail;go_ret2;exact⟨_,by rw[HO.out];rfl,by rw[HO.out];exact fQ cu.out HB1.out.size,HB2.out⟩
 |false=>
  have HO:Hid (mh (id,V)=([],12)) :=by show _=_;rw[mh,hok];rfl
  clear hok;have hz:=HB1.out.size;go_wp2_with fail;go_ret2;exact⟨_,by rw[HO.out];rfl,by rw[HO.out];exact fQ (dJ w1 5) hz,HB1.out.alloc hz _⟩
def qY(base:Nat)(M B:List UInt8)(w:World)(e:Ending)(w':World) :Prop:=∃v',e= .returned v'∧w'.ownsRow base 5 1 v' (M++B).length (Lib.byteCells (M++B))∧Below base w w'∧gG w w'
theorem rV(base:Nat)(v:Value)(M:List UInt8)(x:Nat)(w:World)(hx:x<4611686018427387904)(hn:M.length≤1000000000000)(hb:base≤w.heap.size)(h:w.ownsRow base 5 1 v M.length (Lib.byteCells M)) :Calls Tryz.prog 23 #[v,.int .i64 (x:Int)] w (qY base M (aZ x) w) :=by refine(Jg base M.length v M x w hx rfl (by omega) hb h).mono ?_;rintro e w'⟨v',rfl,h1,h2,_⟩;exact⟨v',rfl,by rw[List.length_append];exact h1,(Below.refl _ _).grown h2.1 hb (fun b hb'=>(dH h hb').1),.grown h h2.1⟩
theorem xO(base:Nat)(v:Value)(M t:List UInt8)(w:World)(ht:t.length≤65536)(hn:M.length≤900000000000)(hb:base≤w.heap.size)(h:w.ownsRow base 5 1 v M.length (Lib.byteCells M)) :Calls Tryz.prog 22 #[v,.string ⟨t.toArray⟩] w (qY base M (dK t) w) :=by
 obtain⟨i1,hi1,hy0,hy1,hy2⟩ :=info_parts Tryz.infoByte;have HI:=aa (rV base v M t.length w (by omega) (by omega) hb h);have hsl:(⟨t.toArray⟩ :ByteArray).size=t.length:=by rw[Lib.size_eq]
 have hpl:=bO t.length (by omega);have HE:Hid (M++dK t=M++aZ t.length++t) :=by show _=_;simp[dK]
 have hL:(M++aZ t.length).length≤900000000009:=by rw[List.length_append];omega
 clear h;unfold qY at HI;generalize M++aZ t.length=N at HE hL HI;go_enter Tryz.func22,Tryz.ntmps22;go_wp2_with fail;refine HI.out.mono ?_;rintro e w1⟨v1,rfl,ho1,hb1,hk1⟩;have lY:=aa ho1;have HB1:=aa hb1;have Ey:=aa hk1;have hz1:=hb1.size;clear ho1 hb1 hk1 HI;dsimp only;go_wp2_with(at_builtin;refine Lib.wpList_append_own_string _ rfl _ _ 22 9 rfl base 5 i1 Tryz.underlying22 Tryz.underlying9 hi1 hy0 hy1 hy2 v1 N.length (Lib.byteCells N) rfl lY.out ⟨t.toArray⟩ rfl (by rw[hsl];unfold maxLen;omega) (by rw[hsl];omega) (by omega) ?_);intro v7 w7 fJ kZ Qn;rw[strCells_eq]at fJ;have jy:=aa fJ;have gF:Hid (Below base w w7) :=HB1.out.grown kZ (by omega) (fun k hk=>(dH lY.out hk).1);have HK7:Hid (gG w w7) :=Ey.out.trans (.grown lY.out kZ);clear fJ kZ Qn;go_wp2_with fail;go_ret;exact⟨v7,rfl,by rw[HE.out,List.length_append,Lib.byteCells_append];exact jy.out,gF.out,HK7.out⟩
theorem Jc(z:Int)(w:World)(hz:dU z=true) :Calls Tryz.prog 82 #[.int .i64 z] w fun e w'=>e= .returned (.int .i64 (rG z:Int))∧w'=w:=by
 simp[dU]at hz;have hU:((rG z:Nat) :Int)=if z<0 then-2*z-1 else 2*z:=by unfold rG;split<;>omega
 go_enter Tryz.func82,Tryz.ntmps82;by_cases hz0:z<0;·rw[if_pos hz0]at hU;have HU:=aa hU;clear hU;go_wp2_with fail;go_ret;exact⟨by rw[HU.out];go_num,rfl⟩
 ·rw[if_neg hz0]at hU;have HU:=aa hU;clear hU;go_wp2_with fail;go_ret;exact⟨by rw[HU.out];go_num,rfl⟩
theorem PE(a:Option Addr)(c:Nat)(l:List (List UInt8))(w:World)(hn:l.length≤1048576)(h:gN w a l) :Calls Tryz.prog 199 #[.slice a l.length c] w fun e w'=>e= .returned (.bool (l.all mF))∧w'=w:=by
 have HH:=aa h;clear h;go_enter Tryz.func199,Tryz.ntmps199;go_wp2_with fail;go_loopw [7](fun kv wr=>∃k:Nat,k≤l.length∧kv= .int .i64 (k:Int)∧(l.take k).all mF=true∧wr=w)(fun kv _=>l.length-(intOf kv).toNat);case atStart=>exact⟨0,Nat.zero_le _,rfl,by simp,rfl⟩
 case round=>
  obtain⟨k,hk,rfl,hal,jU⟩ :=hrel;have kg:=jU.symm;subst kg;clear jU;have r9:=aa hal;clear hal;by_cases hkt:k<l.length
  ·have zn:(k:Int)<(l.length:Int) :=by omega
   obtain⟨bt,ot,rfl,hbt,hct⟩ :=HH.out.resolve_left (fun e=>by rw[e]at hkt;simp at hkt);have t1:=hct k hkt;obtain⟨ti,hti⟩ : ∃ti,l.getD k []=ti:=⟨_,rfl⟩;rw[hti]at t1;have Tx:=aa hti;have htl:(⟨ti.toArray⟩ :ByteArray).size=ti.length:=by rw[Lib.size_eq]
   clear hti hct;by_cases hlong:65536<ti.length
   ·have hlz:(ti.length:Int)>65536:=by omega
    have HO:Hid (l.all mF=false) :=ou mF l [] hkt (by rw[Tx.out];unfold mF;exact decide_eq_false (by omega));go_wp2_with fail;go_ret;exact⟨by rw[HO.out];rfl,rfl⟩
   ·have hlz: ¬(ti.length:Int)>65536:=by omega
    have HA2:=aa (nW mF l [] hkt r9.out (by rw[Tx.out];unfold mF;exact decide_eq_true (by omega)));go_wp2_with fail;go_roundw;case rel=>exact⟨k+1,by omega,by go_num,HA2.out,by first|trivial|rfl⟩
    case measure=>simp[intOf];omega
  ·have zn: ¬(k:Int)<(l.length:Int) :=by omega
   have um:Hid (l.all mF=true) :=by show _=_;have:=r9.out;rwa [show k=l.length by omega,List.take_length]at this
   go_wp2_with fail;go_ret;exact⟨by rw[um.out];rfl,rfl⟩
theorem Uy(base:Nat)(v:Value)(M:List UInt8)(a:Option Addr)(c:Nat)(l:List (List UInt8))(w:World)(hn:l.length≤4096)(ht: ∀t∈l,t.length≤65536)(hm:M.length≤800000000)(hb:base≤w.heap.size)(w0:World)(h0:w0.heap.size≤base)(hB0:Below w0.heap.size w0 w)(hH:gN w0 a l)(h:w.ownsRow base 5 1 v M.length (Lib.byteCells M)) :Calls Tryz.prog 198 #[.slice a l.length c,v] w (qY base M (l.flatMap dK) w) :=by
 have HH:=aa hH;have HO:=aa h;have HT:=aa ht;have HA:=aa hB0;have HLen:=aa (fun k=>wC dK M l 65545 (fun t ht'=>sW (HT.out t ht')) 4096 hn k);clear h hH ht hB0;go_enter Tryz.func198,Tryz.ntmps198;go_wp2_with fail;go_loopw [1,9](fun u kv wr=>∃k:Nat,k≤l.length∧kv= .int .i64 (k:Int)∧wr.ownsRow base 5 1 u (fG dK M l k).length (Lib.byteCells (fG dK M l k))∧Below base w wr∧gG w wr)(fun _ kv _=>l.length-(intOf kv).toNat);case atStart=>exact⟨0,Nat.zero_le _,rfl,by rw[qV];exact HO.out,Below.refl _ _,gG.refl _⟩
 case round=>
  obtain⟨k,hk,rfl,hown,hbel,hkp⟩ :=hrel;clear HO;have ru:=aa hown;have HB:=aa hbel;have HK:=aa hkp;have hwz:=hbel.size;have hpl:=HLen.out k;clear hown hbel hkp;by_cases hkt:k<l.length
  ·have zn:(k:Int)<(l.length:Int) :=by omega
   obtain⟨bt,ot,rfl,hbt,hct⟩ :=HH.out.resolve_left (fun e=>by rw[e]at hkt;simp at hkt);have t1:=((HA.out.trans (HB.out.mono h0)).cell (p:=⟨bt,ot+k,none⟩) hbt).trans (hct k hkt);have HS:=aa (qL dK M l [] hkt);have htj:=HT.out (l.getD k []) (qR hkt);obtain⟨t,hte⟩ : ∃t,l.getD k []=t:=⟨_,rfl⟩;rw[hte]at t1 HS htj;clear hte hct;have HP:=aa (xO base u1 _ t wr htj (by omega) (by omega) ru.out);unfold qY at HP;go_wp2_with fail;refine HP.out.mono ?_;rintro e w8⟨v8,rfl,nU,dY,uM⟩;rw[←HS.out]at nU;have uF:=aa nU;have jJ:=aa (HB.out.trans dY);have HK8:=aa (HK.out.trans uM);clear nU dY uM HP t1 ru;dsimp only;go_wp2_with fail;go_roundw;case rel=>exact⟨k+1,by omega,by go_num,uF.out,jJ.out,HK8.out⟩
   case measure=>simp[intOf];omega
  ·have zn: ¬(k:Int)<(l.length:Int) :=by omega
   obtain rfl:k=l.length:=by omega
   have HE:=aa (oZ dK M l);go_wp2_with fail;go_ret;exact⟨_,rfl,by rw[←HE.out];exact ru.out,HB.out,HK.out⟩
theorem Y8(M:List UInt8)(z:Int) :M++aZ (rG z)=M++mK z:=rfl
theorem QX(base:Nat)(v:Value)(M:List UInt8)(a:Option Addr)(c:Nat)(l:List Int)(w:World)(hn:l.length≤4096)(ht: ∀t∈l,dU t=true)(hm:M.length≤800000000)(hb:base≤w.heap.size)(w0:World)(h0:w0.heap.size≤base)(hB0:Below w0.heap.size w0 w)(hH:qD w0 a l)(h:w.ownsRow base 5 1 v M.length (Lib.byteCells M)) :Calls Tryz.prog 200 #[.slice a l.length c,v] w (qY base M (l.flatMap mK) w) :=by
 have HH:=aa hH;have HO:=aa h;have HT:=aa ht;have HA:=aa hB0;have HLen:=aa (fun k=>wC mK M l 9 (fun t ht'=>GG (HT.out t ht')) 4096 hn k);clear h hH ht hB0;go_enter Tryz.func200,Tryz.ntmps200;go_wp2_with fail;go_loopw [1,9](fun u kv wr=>∃k:Nat,k≤l.length∧kv= .int .i64 (k:Int)∧wr.ownsRow base 5 1 u (fG mK M l k).length (Lib.byteCells (fG mK M l k))∧Below base w wr∧gG w wr)(fun _ kv _=>l.length-(intOf kv).toNat);case atStart=>exact⟨0,Nat.zero_le _,rfl,by rw[qV];exact HO.out,Below.refl _ _,gG.refl _⟩
 case round=>
  obtain⟨k,hk,rfl,hown,hbel,hkp⟩ :=hrel;clear HO;have ru:=aa hown;have HB:=aa hbel;have HK:=aa hkp;have hwz:=hbel.size;have hpl:=HLen.out k;clear hown hbel hkp;by_cases hkt:k<l.length
  ·have zn:(k:Int)<(l.length:Int) :=by omega
   obtain⟨bt,ot,rfl,hbt,hct⟩ :=HH.out.resolve_left (fun e=>by rw[e]at hkt;simp at hkt);have t1:=((HA.out.trans (HB.out.mono h0)).cell (p:=⟨bt,ot+k,none⟩) hbt).trans (hct k hkt);have HS:=aa (qL mK M l 0 hkt);have htj:=HT.out (l.getD k 0) (qR hkt);obtain⟨t,hte⟩ : ∃t,l.getD k 0=t:=⟨_,rfl⟩;rw[hte]at t1 HS htj;clear hte hct;have HP:=aa (rV base u1 _ (rG t) wr (FM htj) (by omega) (by omega) ru.out);have HU:=aa (Jc t wr htj);unfold qY at HP;go_wp2_with(go_at_call 82;refine HU.out.mono ?_;rintro e w'⟨rfl,hw'⟩;have hw2:=hw'.symm;subst hw2;clear hw');refine HP.out.mono ?_;rintro e w8⟨v8,rfl,nU,dY,uM⟩;rw[Y8,←HS.out]at nU;have uF:=aa nU;have jJ:=aa (HB.out.trans dY);have HK8:=aa (HK.out.trans uM);clear nU dY uM HP t1 ru;dsimp only;go_wp2_with fail;go_roundw;case rel=>exact⟨k+1,by omega,by go_num,uF.out,jJ.out,HK8.out⟩
   case measure=>simp[intOf];omega
  ·have zn: ¬(k:Int)<(l.length:Int) :=by omega
   obtain rfl:k=l.length:=by omega
   have HE:=aa (oZ mK M l);go_wp2_with fail;go_ret;exact⟨_,rfl,by rw[←HE.out];exact ru.out,HB.out,HK.out⟩
theorem Cj (f : List UInt8) (at_ an : Option Addr) (n ct m cn : Nat) (w : World) : Calls Tryz.prog 24 #[.agg #[.string ⟨f.toArray⟩, .slice at_ n ct, .slice an m cn]] w fun e w' => e = .returned (.agg #[.iface 90 (.slice at_ n ct), .iface 91 (.slice an m cn)]) ∧ Below w.heap.size w w' := by
  go_enter Tryz.func24, Tryz.ntmps24
  go_wp2_with fail
  refine bodyPost_ret (v := .agg #[.iface 90 (.slice at_ n ct), .iface 91 (.slice an m cn)]) (by simp [results, Tryz.results24, go_sem, *]) rfl ?_
  exact ⟨rfl, ((Below.refl _ _).alloc (Nat.le_refl _) _).alloc (by simp) _⟩
theorem ack(x y:Value)(w:World) :(Instr.index 61 (.agg #[x,y]) (.int .i64 0)).run Tryz.prog w= .ok x w:=by simp[Instr.index,go_sem]
theorem abB(x y:Value)(w:World) :(Instr.index 61 (.agg #[x,y]) (.int .i64 1)).run Tryz.prog w= .ok y w:=by simp[Instr.index,go_sem]
theorem Mt(a:Option Addr)(n c:Nat)(w:World) :(method 302 90 (.slice a n c) "loop.example/g00018/impl.count").run Tryz.prog w= .ok (72,.slice a n c) w:=by kernel_rfl
theorem MO(a:Option Addr)(n c:Nat)(w:World) :(method 302 90 (.slice a n c) "loop.example/g00018/impl.storable").run Tryz.prog w= .ok (199,.slice a n c) w:=by kernel_rfl
theorem M5(a:Option Addr)(n c:Nat)(w:World) :(method 302 90 (.slice a n c) "loop.example/g00018/impl.appendTo").run Tryz.prog w= .ok (198,.slice a n c) w:=by kernel_rfl
theorem KL(a:Option Addr)(n c:Nat)(w:World) :(method 302 91 (.slice a n c) "loop.example/g00018/impl.count").run Tryz.prog w= .ok (75,.slice a n c) w:=by kernel_rfl
theorem M6(a:Option Addr)(n c:Nat)(w:World) :(method 302 91 (.slice a n c) "loop.example/g00018/impl.storable").run Tryz.prog w= .ok (76,.slice a n c) w:=by kernel_rfl
theorem MM(a:Option Addr)(n c:Nat)(w:World) :(method 302 91 (.slice a n c) "loop.example/g00018/impl.appendTo").run Tryz.prog w= .ok (200,.slice a n c) w:=by kernel_rfl
theorem Kw(id:List UInt8)(a:Option Addr)(c:Nat)(V:List Vl)(w:World)(hn:V.length≤1048576)(hT: ∀i,(V.getD i aQ).2.1.length≤1048576∧(V.getD i aQ).2.2.length≤1048576)(h:gK w a V) :Calls Tryz.prog 21 #[.agg #[.string ⟨id.toArray⟩,.slice a V.length c]] w fun e w'=>e= .returned (.bool (iT (id,V)))∧Below w.heap.size w w':=by
 have HV:=aa h;have HT:=aa hT;clear h hT;have ax:=aa ((Below.refl w.heap.size w).alloc (Nat.le_refl _) (.cells #[.string ⟨id.toArray⟩,.slice a V.length c] 28));have HX:=aa (heap_alloc_new w (.cells #[.string ⟨id.toArray⟩,.slice a V.length c] 28));have hsl:(⟨id.toArray⟩ :ByteArray).size=id.length:=by rw[Lib.size_eq]
 have ix0: ∀(x y:Value)(w:World),(Instr.index 61 (.agg #[x,y]) (.int .i64 0)).run Tryz.prog w= .ok x w:=ack;have ix1: ∀(x y:Value)(w:World),(Instr.index 61 (.agg #[x,y]) (.int .i64 1)).run Tryz.prog w= .ok y w:=abB;have m1:=Mt;have m2:=MO;have m3:=KL;have m4:=M6;go_enter Tryz.func21,Tryz.ntmps21;go_upto_region 1 with fail;obtain⟨wa,bN⟩ : ∃wa,w.alloc (.cells #[.string ⟨id.toArray⟩,.slice a V.length c] 28)=wa:=⟨_,rfl⟩;rw[bN]at ax HX;try rw[bN]
 clear bN;have x0:=ah HX.out 0;have x1:=ah HX.out 1;by_cases hid:65536<id.length
 ·have WE:(id.length:Int)>65536:=by omega
  have HO:Hid (iT (id,V)=false) :=by show _=_;unfold iT;rw[decide_eq_false (by dsimp only;omega)];rfl
  go_wp2_with fail;go_ret;exact⟨by rw[HO.out];rfl,ax.out⟩
 have WE: ¬(id.length:Int)>65536:=by omega
 by_cases En:4096<V.length
 ·have Yx:(V.length:Int)>4096:=by omega
  have HO:Hid (iT (id,V)=false) :=by show _=_;unfold iT;rw[decide_eq_false (by dsimp only;omega)];rfl
  go_wp2_with fail;go_ret;exact⟨by rw[HO.out];rfl,ax.out⟩
 have Yx: ¬(V.length:Int)>4096:=by omega
 clear x0 x1;have x0:=ah HX.out 0;have x1:=ah HX.out 1;go_wp2_with fail;go_loopw [20](fun iv wr=>∃i:Nat,i≤V.length∧iv= .int .i64 (i:Int)∧(V.take i).all iU=true∧Below wa.heap.size wa wr)(fun iv _=>V.length-(intOf iv).toNat);case atStart=>exact⟨0,Nat.zero_le _,rfl,by simp,Below.refl _ _⟩
 case round=>
  obtain⟨i,hi,rfl,hall,hbel⟩ :=hrel;clear x0 x1;have HB:=aa hbel;have oQ:=aa hall;clear hbel hall;by_cases hlt:i<V.length
  ·have hltz:(i:Int)<(V.length:Int) :=by omega
   obtain⟨b,off,rfl,hb,hc⟩ :=(HV.out.below (ax.out.trans (HB.out.mono ax.out.size))).resolve_left (fun e=>by rw[e]at hlt;simp at hlt);obtain⟨c0,⟨at_,ct,c1,hTx⟩,an,cn,c2,hZ⟩ :=hc i hlt;have yA:=HT.out i;obtain⟨v,hv⟩ : ∃v,V.getD i aQ=v:=⟨_,rfl⟩;rw[hv]at c0 c1 c2 hTx hZ yA;have Hv:=aa hv;obtain⟨f,tx,nz⟩ :=v;dsimp only at c0 c1 c2 hTx hZ yA;have gP:=aa hTx;have HZ:=aa hZ;clear hc hTx hZ hv;have hfl:(⟨f.toArray⟩ :ByteArray).size=f.length:=by rw[Lib.size_eq]
   have jw:=aa ((Below.refl wr.heap.size wr).alloc (Nat.le_refl _) (.cells #[.string ⟨f.toArray⟩,.slice at_ tx.length ct,.slice an nz.length cn] 43));have kW:=aa (heap_alloc_new wr (.cells #[.string ⟨f.toArray⟩,.slice at_ tx.length ct,.slice an nz.length cn] 43));have fB:Hid (iU (f,tx,nz)=false→iT (id,V)=false) :=fun h=>Km (d:=(id,V)) hlt (by show iU (V.getD i aQ)=false;rw[Hv.out];exact h);go_upto_region 6 with fail;obtain⟨wv,hwv⟩ : ∃wv,wr.alloc (.cells #[.string ⟨f.toArray⟩,.slice at_ tx.length ct,.slice an nz.length cn] 43)=wv:=⟨_,rfl⟩;rw[hwv]at jw kW;try rw[hwv]
   clear hwv c0 c1 c2;have o6:=aa (ax.out.trans ((HB.out.trans (jw.out.mono HB.out.size)).mono ax.out.size));have v0:=ah kW.out 0;have v1:=ah kW.out 1;have v2:=ah kW.out 2;by_cases hf:65536<f.length
   ·have hfz:(f.length:Int)>65536:=by omega
    have HO:=aa (fB.out (by unfold iU;rw[decide_eq_false (by dsimp only;omega)];rfl));go_wp2_with fail;go_ret;exact⟨by rw[HO.out];rfl,o6.out⟩
   have hfz: ¬(f.length:Int)>65536:=by omega
   have HC:=aa (Cj f at_ an tx.length ct nz.length cn wv);go_wp2_with fail;refine HC.out.mono ?_;rintro e w5⟨rfl,hb5⟩;have eG:=aa hb5;have Ir:=aa (o6.out.trans (hb5.mono o6.out.size));clear hb5 HC v0 v1 v2;dsimp only;go_wp2_with fail;go_loopw [30](fun kv wx=>∃k:Nat,k≤2∧kv= .int .i64 (k:Int)∧(1≤k→tx.length≤4096∧tx.all mF=true)∧(2≤k→nz.length≤4096∧nz.all dU=true)∧Below w5.heap.size w5 wx)(fun kv _=>2-(intOf kv).toNat);case atStart=>exact⟨0,by omega,rfl,fun h=>absurd h (by omega),fun h=>absurd h (by omega),Below.refl _ _⟩
   case round=>
    obtain⟨k,hk,rfl,h1,h2,hbx⟩ :=hrel;have bq:=aa hbx;clear hbx;have hk3:k=0∨k=1∨k=2:=by omega
    rcases hk3 with rfl|rfl|rfl
    ·clear h1 h2;have tK:=aa (xJ at_ tx.length ct wr yA.1);have j5:=aa (PE at_ ct tx wr yA.1 (gP.out.below (jw.out.trans ((eG.out.trans (bq.out.mono eG.out.size)).mono jw.out.size))));go_wp2_with fail;refine tK.out.mono ?_;rintro e w6⟨rfl,qj⟩;have hw7:=qj.symm;subst hw7;clear qj tK;dsimp only;by_cases hxl:4096<tx.length
     ·have hxz:(tx.length:Int)>4096:=by omega
      have HO:=aa (fB.out (by unfold iU;rw[decide_eq_false (by dsimp only;omega)];rfl));clear j5;go_wp2_with fail;go_ret;exact⟨by rw[HO.out];rfl,Ir.out.trans (bq.out.mono Ir.out.size)⟩
     have hxz: ¬(tx.length:Int)>4096:=by omega
     go_wp2_with fail;refine j5.out.mono ?_;rintro e w6⟨rfl,qj⟩;have hw7:=qj.symm;subst hw7;clear qj j5;dsimp only;cases hal:tx.all mF with
     |false=>have HO:=aa (fB.out (by unfold iU;dsimp only;rw[hal];simp));clear hal;go_wp2_with fail;go_ret;exact⟨by rw[HO.out];rfl,Ir.out.trans (bq.out.mono Ir.out.size)⟩
     |true=>
      have Z9:=aa hal;clear hal;go_wp2_with fail;go_roundw;case rel=>exact⟨1,by omega,by go_num,fun _=>⟨by omega,Z9.out⟩,fun h=>absurd h (by omega),bq.out⟩
      case measure=>simp[intOf]
    ·have H1:=aa (h1 (by omega));clear h1 h2;have tK:=aa (xP an nz.length cn wr yA.2);have j5:=aa (Er an cn nz wr yA.2 (HZ.out.below (jw.out.trans ((eG.out.trans (bq.out.mono eG.out.size)).mono jw.out.size))));go_wp2_with fail;refine tK.out.mono ?_;rintro e w6⟨rfl,qj⟩;have hw7:=qj.symm;subst hw7;clear qj tK;dsimp only;by_cases hxl:4096<nz.length
     ·have hxz:(nz.length:Int)>4096:=by omega
      have HO:=aa (fB.out (by unfold iU;rw[decide_eq_false (by dsimp only;omega)];rfl));clear j5;go_wp2_with fail;go_ret;exact⟨by rw[HO.out];rfl,Ir.out.trans (bq.out.mono Ir.out.size)⟩
     have hxz: ¬(nz.length:Int)>4096:=by omega
     go_wp2_with fail;refine j5.out.mono ?_;rintro e w6⟨rfl,qj⟩;have hw7:=qj.symm;subst hw7;clear qj j5;dsimp only;cases hal:nz.all dU with
     |false=>have HO:=aa (fB.out (by unfold iU;dsimp only;rw[hal];simp));clear hal;go_wp2_with fail;go_ret;exact⟨by rw[HO.out];rfl,Ir.out.trans (bq.out.mono Ir.out.size)⟩
     |true=>
      have Z9:=aa hal;clear hal;go_wp2_with fail;go_roundw;case rel=>exact⟨2,by omega,by go_num,fun _=>H1.out,fun _=>⟨by omega,Z9.out⟩,bq.out⟩
      case measure=>simp[intOf]
    ·have h1:=h1 (by omega);have h2:=h2 (by omega);have HA3:=aa (nW iU V aQ hlt oQ.out (by rw[Hv.out];unfold iU;dsimp only;rw[h1.2,h2.2,decide_eq_true (by omega)];rfl));clear h1 h2;go_wp2_with fail;go_roundw;case rel=>exact⟨i+1,by omega,by go_num,HA3.out,HB.out.trans ((jw.out.trans ((eG.out.trans (bq.out.mono eG.out.size)).mono jw.out.size)).mono HB.out.size)⟩
     case measure=>simp[intOf];omega
  ·have hltz: ¬(i:Int)<(V.length:Int) :=by omega
   have HO:Hid (iT (id,V)=true) :=by show _=_;have:=oQ.out;rw[show i=V.length by omega,List.take_length]at this;unfold iT;rw[decide_eq_true (by dsimp only;omega),this];rfl
   go_wp2_with fail;go_ret;exact⟨by rw[HO.out];rfl,ax.out.trans (HB.out.mono ax.out.size)⟩
theorem V5 {X:Type}(f:X→List UInt8)(M:List UInt8)(l:List X)(k:Nat) :(fG f M l k).length≤(M++l.flatMap f).length:=by
 have e:M++l.flatMap f=fG f M l k++(l.drop k).flatMap f:=by rw[fG,List.append_assoc,←List.flatMap_append,List.take_append_drop]
 rw[e,List.length_append];omega
def cB(N:List UInt8)(tx:List (List UInt8))(nz:List Int) :Nat→List UInt8
 |0=>N
 |1=>N++aZ tx.length++tx.flatMap dK
 |_=>N++aZ tx.length++tx.flatMap dK++aZ nz.length++nz.flatMap mK
theorem MX(id:List UInt8)(a:Option Addr)(c:Nat)(V:List Vl)(w:World)(aiG:id.length≤1048576)(hn:V.length≤1048576)(hT: ∀i,(V.getD i aQ).1.length≤1048576∧(V.getD i aQ).2.1.length≤1048576∧(V.getD i aQ).2.2.length≤1048576)(hSz:iT (id,V)=true→(yg (id,V)).length≤500000000)(h:gK w a V) :Calls Tryz.prog 5 #[.agg #[.string ⟨id.toArray⟩,.slice a V.length c]] w fun e w'=>∃v,e= .returned (.tuple #[v,.int .i64 (mh (id,V)).2])∧w'.ownsRow w.heap.size 5 1 v (mh (id,V)).1.length (Lib.byteCells (mh (id,V)).1)∧Below w.heap.size w w':=by
 have HV:=aa h;have HF:=aa (fun W(hW:Below w.heap.size w W)=>Kw id a c V W hn (fun i=>(hT i).2) (h.below hW));clear h hT;have ax:=aa ((Below.refl w.heap.size w).alloc (Nat.le_refl _) (.cells #[.string ⟨id.toArray⟩,.slice a V.length c] 28));have HX:=aa (heap_alloc_new w (.cells #[.string ⟨id.toArray⟩,.slice a V.length c] 28));have ix0: ∀(x y:Value)(w:World),(Instr.index 61 (.agg #[x,y]) (.int .i64 0)).run Tryz.prog w= .ok x w:=ack;have ix1: ∀(x y:Value)(w:World),(Instr.index 61 (.agg #[x,y]) (.int .i64 1)).run Tryz.prog w= .ok y w:=abB;have m1:=Mt;have m2:=M5;have m3:=KL;have m4:=MM;go_enter Tryz.func5,Tryz.ntmps5;go_wp2_with fail;refine(HF.out _ ax.out).mono ?_;rintro e w1⟨rfl,hb1⟩;have HB1:=aa (ax.out.trans (hb1.mono ax.out.size));have mR:=aa (aD HX.out hb1);clear hb1 HX HF ax;dsimp only;cases hok:iT (id,V)with
 |false=>
  have HO:Hid (mh (id,V)=([],12)) :=by show _=_;rw[mh,hok];rfl
  clear hok;have hz:=HB1.out.size;go_wp2_with fail;go_ret2;exact⟨_,by rw[HO.out];rfl,by rw[HO.out];exact World.ownsRow_nil _ _ _ _,HB1.out⟩
 |true=>
  have HO:Hid (mh (id,V)=(yg (id,V),0)) :=by show _=_;rw[mh,hok];rfl
  obtain⟨⟨hid,En⟩,hvs⟩ :=FC hok;have NC:=aa hvs;replace hSz:=hSz hok;dsimp only at hid En NC;clear hok hvs;have HE:Hid (yg (id,V)=fG lD (dK id++aZ V.length) V V.length) :=by show _=_;rw[oZ];rfl
  have hti:=sW hid;have hpv:=bO V.length (by omega);have lC:w.heap.size<w1.heap.size:=(Array.getElem?_eq_some_iff.1 mR.out).1;have x0:=ah mR.out 0;have x1:=ah mR.out 1;have ZU:=aa (xO w1.heap.size (.slice none 0 0) [] id w1 hid (by simp) (Nat.le_refl _) (World.ownsRow_nil _ _ _ _));unfold qY at ZU;go_wp2_with fail;refine ZU.out.mono ?_;rintro e w2⟨v2,rfl,hown2,hb2,hk2⟩;rw[List.nil_append]at hown2;have cu:=aa hown2;have HB2:=aa hb2;have hz2:=hb2.size;replace x0:=(hb2.cell (p:=⟨w.heap.size,0,none⟩) lC).trans x0;replace x1:=(hb2.cell (p:=⟨w.heap.size,1,none⟩) lC).trans x1;clear hown2 hb2 hk2 ZU;dsimp only;have qN:=aa (rV w1.heap.size v2 _ V.length w2 (by omega) (by omega) hz2 cu.out);unfold qY at qN;go_wp2_with fail;refine qN.out.mono ?_;rintro e w4⟨v4,rfl,uZ,hb4,hk4⟩;have bU:=aa (HB2.out.trans hb4);have iA:Hid (w4.ownsRow w1.heap.size 5 1 v4 (fG lD (dK id++aZ V.length) V 0).length (Lib.byteCells (fG lD (dK id++aZ V.length) V 0))) :=by show World.ownsRow _ _ _ _ _ _ _;rw[qV];exact uZ
  replace x0:=(hb4.cell (p:=⟨w.heap.size,0,none⟩) lC).trans x0;replace x1:=(hb4.cell (p:=⟨w.heap.size,1,none⟩) lC).trans x1;clear uZ hb4 hk4 qN cu HB2;have acW:(dK id++aZ V.length++V.flatMap lD).length≤500000000:=hSz;have HLen:=aa (fun k=>Nat.le_trans (V5 lD (dK id++aZ V.length) V k) acW);have pY:=aa (fun(k:Nat)(hk:k<V.length)=>qL lD (dK id++aZ V.length) V aQ hk);clear hSz acW;generalize(dK id++aZ V.length)=M0 at iA HE HLen pY;dsimp only;go_wp2_with fail;go_loopw [4,23](fun v iv wr=>∃k:Nat,k≤V.length∧iv= .int .i64 (k:Int)∧wr.ownsRow w1.heap.size 5 1 v (fG lD M0 V k).length (Lib.byteCells (fG lD M0 V k))∧Below w1.heap.size w1 wr)(fun _ iv _=>V.length-(intOf iv).toNat);case atStart=>exact⟨0,Nat.zero_le _,rfl,iA.out,bU.out⟩
  case round=>
   obtain⟨k,hk,rfl,hown,hbel⟩ :=hrel;clear iA bU x0 x1;have ru:=aa hown;have tT:=aa hbel;clear hown hbel;have hpl:=HLen.out k;have hwz:=tT.out.size;by_cases hlt:k<V.length
   ·have hltz:(k:Int)<(V.length:Int) :=by omega
    obtain⟨b,off,rfl,hb,hc⟩ :=HV.out.resolve_left (fun e=>by rw[e]at hlt;simp at hlt);obtain⟨c0,⟨at_,ct,c1,hTx⟩,an,cn,c2,hZ⟩ :=hc k hlt;have hBw:=HB1.out.trans (tT.out.mono HB1.out.size);replace c0:=(hBw.cell (p:=⟨b,off+k*3,none⟩) hb).trans c0;replace c1:=(hBw.cell (p:=⟨b,off+k*3+1,none⟩) hb).trans c1;replace c2:=(hBw.cell (p:=⟨b,off+k*3+2,none⟩) hb).trans c2;clear hBw;have hvk:=zF (NC.out (V.getD k aQ) (qR hlt));have jS:=aa (pY.out k hlt);have Pg:=HLen.out (k+1);obtain⟨v,hv⟩ : ∃v,V.getD k aQ=v:=⟨_,rfl⟩;rw[hv]at c0 c1 c2 hTx hZ hvk jS;clear hv;obtain⟨f,tx,nz⟩ :=v;dsimp only at c0 c1 c2 hTx hZ hvk;obtain⟨⟨hf,hxl,hnl⟩,hxs,hns⟩ :=hvk;have wW:=aa hxs;have NR:=aa hns;have gP:=aa hTx;have HZ:=aa hZ;clear hc hTx hZ hxs hns;have jw:=aa ((Below.refl wr.heap.size wr).alloc (Nat.le_refl _) (.cells #[.string ⟨f.toArray⟩,.slice at_ tx.length ct,.slice an nz.length cn] 43))
    have kW:=aa (heap_alloc_new wr (.cells #[.string ⟨f.toArray⟩,.slice at_ tx.length ct,.slice an nz.length cn] 43));go_upto_region 8 with fail;obtain⟨wv,hwv⟩ : ∃wv,wr.alloc (.cells #[.string ⟨f.toArray⟩,.slice at_ tx.length ct,.slice an nz.length cn] 43)=wv:=⟨_,rfl⟩;rw[hwv]at jw kW;try rw[hwv]
    clear hwv;obtain⟨Q,hQ⟩ : ∃Q,wr.heap.size=Q:=⟨_,rfl⟩;rw[hQ]at kW;try rw[hQ]
    have Kg:=aa (own_below ru.out jw.out);have o6:Hid (Below w1.heap.size w1 wv) :=tT.out.trans (jw.out.mono hwz);have v0:=ah kW.out 0;have FW:=o6.out.size;obtain⟨N,hN⟩ : ∃N,fG lD M0 V k=N:=⟨_,rfl⟩;rw[hN]at Kg hpl jS;have zO:=aa (xO w1.heap.size _ N f wv hf (by omega) FW Kg.out);unfold qY at zO;clear c0 c1 c2 ru hQ jw hN;go_wp2_with fail;refine zO.out.mono ?_;rintro e w5⟨v5,rfl,hown5,hb5,hk5⟩;have jH:=aa hown5;have eG:Hid (Below w1.heap.size w1 w5) :=o6.out.trans hb5;have vP:=aa (hk5 _ _ _ (by decide) kW.out);have Ak:=eG.out.size;have y0:=ah vP.out 0;have y1:=ah vP.out 1;have y2:=ah vP.out 2;clear hown5 hb5 hk5 zO v0 kW Kg o6;have qG:Hid (fG lD M0 V (k+1)=cB (N++dK f) tx nz 2) :=by show _=_;rw[jS.out];simp[lD,cB]
    rw[qG.out]at Pg;obtain⟨N5,Ih⟩ : ∃N5,N++dK f=N5:=⟨_,rfl⟩;rw[Ih]at jH qG Pg;try rw[Ih]
    clear Ih jS;have HLc:Hid (∀j,(cB N5 tx nz j).length≤500000000) :=by
     intro j;simp only[cB,List.length_append]at Pg;match j with
     |0=>simp only[cB];omega
     |1=>simp only[cB,List.length_append];omega
     |_+2=>simp only[cB,List.length_append];omega
    clear Pg;have HC:=aa (Cj f at_ an tx.length ct nz.length cn w5);dsimp only;go_wp2_with fail;refine HC.out.mono ?_;rintro e w6⟨rfl,hb6⟩;have lQ:=aa (own_below jH.out hb6);have fu:=aa (eG.out.trans (hb6.mono eG.out.size));clear hb6 HC y0 y1 y2 jH eG vP;dsimp only;go_wp2_with fail;go_loopw [4,33](fun v jv wx=>∃j:Nat,j≤2∧jv= .int .i64 (j:Int)∧wx.ownsRow w1.heap.size 5 1 v (cB N5 tx nz j).length (Lib.byteCells (cB N5 tx nz j))∧Below w1.heap.size w1 wx)(fun _ jv _=>2-(intOf jv).toNat);case atStart=>exact⟨0,by omega,rfl,lQ.out,fu.out⟩
    case round=>
     obtain⟨j,hj,rfl,hown,hbel⟩ :=hrel;clear lQ fu;have oM:=aa hown;have bq:=aa hbel;have hzx:=hbel.size;clear hown hbel;have hj3:j=0∨j=1∨j=2:=by omega
     rcases hj3 with rfl|rfl|rfl
     ·have Lj:cB N5 tx nz 0=N5:=rfl;rw[Lj]at oM;have hl0:(N5).length≤500000000:=by rw[←Lj];exact HLc.out 0
      have hl1:(N5++aZ tx.length).length≤500000009:=by rw[List.length_append];have:=bO tx.length (by omega);omega
      have Uf:Hid (cB N5 tx nz 1=N5++aZ tx.length++tx.flatMap dK) :=rfl;clear Lj;generalize N5=NK at oM hl0 hl1 Uf;have tK:=aa (xJ at_ tx.length ct wr (by omega));have HI1:=aa (rV w1.heap.size u4 NK tx.length wr (by omega) (by omega) hzx oM.out);unfold qY at HI1;go_wp2_with(go_at_call 72;refine tK.out.mono ?_;rintro e w6⟨rfl,qj⟩;have hw7:=qj.symm;subst hw7;clear qj);refine HI1.out.mono ?_;rintro e w6⟨v6,rfl,hown6,hb6,hk6⟩;have fu:=aa (bq.out.trans hb6);have Ad:=fu.out.size;have JJ:=aa (Uy w1.heap.size v6 _ at_ ct tx w6 (by omega) wW.out (by omega) Ad w HB1.out.size (HB1.out.trans (fu.out.mono HB1.out.size)) gP.out hown6);unfold qY at JJ;clear hown6 hb6 hk6 HI1 tK oM;dsimp only;go_wp2_with fail;refine JJ.out.mono ?_;rintro e w7⟨v7,rfl,fJ,iV,hk7⟩;rw[←Uf.out]at fJ;have jy:=aa fJ;have gF:=aa (fu.out.trans iV);clear fJ iV hk7 JJ;dsimp only
      go_wp2_with fail;go_roundw;case rel=>exact⟨1,by omega,by go_num,jy.out,gF.out⟩
      case measure=>simp[intOf]
     ·have Lj:cB N5 tx nz 1=(N5++aZ tx.length++tx.flatMap dK) :=rfl;rw[Lj]at oM;have hl0:((N5++aZ tx.length++tx.flatMap dK)).length≤500000000:=by rw[←Lj];exact HLc.out 1
      have hl1:((N5++aZ tx.length++tx.flatMap dK)++aZ nz.length).length≤500000009:=by rw[List.length_append];have:=bO nz.length (by omega);omega
      have Uf:Hid (cB N5 tx nz 2=(N5++aZ tx.length++tx.flatMap dK)++aZ nz.length++nz.flatMap mK) :=rfl;clear Lj;generalize(N5++aZ tx.length++tx.flatMap dK)=NK at oM hl0 hl1 Uf;have tK:=aa (xP an nz.length cn wr (by omega));have HI1:=aa (rV w1.heap.size u4 NK nz.length wr (by omega) (by omega) hzx oM.out);unfold qY at HI1;go_wp2_with(go_at_call 75;refine tK.out.mono ?_;rintro e w6⟨rfl,qj⟩;have hw7:=qj.symm;subst hw7;clear qj);refine HI1.out.mono ?_;rintro e w6⟨v6,rfl,hown6,hb6,hk6⟩;have fu:=aa (bq.out.trans hb6);have Ad:=fu.out.size;have JJ:=aa (QX w1.heap.size v6 _ an cn nz w6 (by omega) NR.out (by omega) Ad w HB1.out.size (HB1.out.trans (fu.out.mono HB1.out.size)) HZ.out hown6);unfold qY at JJ;clear hown6 hb6 hk6 HI1 tK oM;dsimp only;go_wp2_with fail;refine JJ.out.mono ?_;rintro e w7⟨v7,rfl,fJ,iV,hk7⟩;rw[←Uf.out]at fJ;have jy:=aa fJ
      have gF:=aa (fu.out.trans iV);clear fJ iV hk7 JJ;dsimp only;go_wp2_with fail;go_roundw;case rel=>exact⟨2,by omega,by go_num,jy.out,gF.out⟩
      case measure=>simp[intOf]
     ·rw[←qG.out]at oM;go_wp2_with fail;go_roundw;case rel=>exact⟨k+1,by omega,by go_num,oM.out,bq.out⟩
      case measure=>simp[intOf];omega
   ·have hltz: ¬(k:Int)<(V.length:Int) :=by omega
    obtain rfl:k=V.length:=by omega
    go_wp2_with fail;go_ret2;exact⟨_,by rw[HO.out];rfl,by rw[HO.out,HE.out];exact fQ ru.out HB1.out.size,HB1.out.trans (tT.out.mono HB1.out.size)⟩
end Go.Proofs.YtcjiphknpagenaaGreatDoor
