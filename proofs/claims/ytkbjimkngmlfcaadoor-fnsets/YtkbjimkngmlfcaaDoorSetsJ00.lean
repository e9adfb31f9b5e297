import Derived.Lib.RuneBytes
import Derived.Lib.Small
import Derived.Test.YtkbjimkngmlfcaaDoorProg
import Derived.Handy
import Derived.WalkLawsBesides
import Derived.WalkSpells
import Derived.BigQuiet
import Derived.Deep.Heap
import Derived.Deep.CutBlock
import Derived.OrdersHeld
import Derived.Deep.AppendLies
import Derived.Deep.RegionLaw
import Derived.Deep.DeepCutAuto
namespace Go.Proofs.YtkbjimkngmlfcaaDoor
open Go Go.RowKit
open Go renaming World→aaa,Value→aab,TypeId→aaw,heap_alloc_new→aaR,wpAnyH→aax
open Go.Region renaming Mode→aa9,ready→aa8,wanted→aaV
open Go.Value.slice renaming injEq→aaU
open Go.World renaming cell?→aaT,drewN_drewN→aa7
open List renaming map_map→aa1,take_succ_eq_append_getElem→abf,take_of_length_le→abk,append_assoc→aa5,getElem?_eq_none→abw,mem_of_getElem?→aaK,range→aau,nodup_range→abn,getElem?_eq_getElem→abx,idxOf_append→abu,map_cons→aa3,idxOf_cons→abt,filter_congr→aa4,map_append→abp,map_congr_left→aaL,foldl_cons→abz,cons_eq_cons→abC,range_succ→abl,cons_append→abE
open Nat renaming zero_add→abd,le_refl→aap,le_trans→aaF,lt_of_lt_of_le→aaE
open Option.some renaming injEq→aaY,inj→aa'
open Or renaming inl→aal,inr→aah
set_option linter.unusedVariables false
set_option linter.unusedSimpArgs false
set_option maxRecDepth 100000
set_option maxHeartbeats 2000000
theorem xV {P:Prop}(h:P:=by
 have h1:(0:Int)≤(X:Int) :=by omega
 have h2:(X:Int)<(len:Int) :=by omega
 exact BN) :P:=h
theorem Z7 {P:Prop}(h:P:=by refine⟨h2.os,h2.tape,h2.output,by have:=h2.size;simp at this;omega,fun b hb hn=> ?_⟩;rw[h2.block b (by simp;omega) (fun e=>hn e.symm),Below.heap_alloc _ _ _ hb]) :P:=h
theorem Zi {P:Prop}(h:P:=by
 refine List.mem_filter.2 ⟨?_,by simp[bS,he]⟩;by_cases e:kL K a=kL K m;·rw[e];exact List.mem_append_right _ (by simp[bS])
 ·exact ahj) :P:=h
theorem GI {P:Prop}(h:P:=by exact(Array.getElem?_eq_some_iff.1 h2).1) :P:=h
theorem Zq {P:Prop}(h:P:=by
 have h1:(l.map (·.2))[q]?=some rs:=by rw[List.getElem?_map,hq];rfl
 rw[hL,List.getElem?_map]at h1;exact aiV) :P:=h
theorem Qh {P:Prop}(h:P:=by have:=(List.getElem?_eq_some_iff.1 h2).1;simp at this;omega) :P:=h
theorem ZN {P:Prop}(h:P:=by refine aG h.fin (fun b hbb=> ?_);obtain⟨_,cur,h2⟩ :=aA h.fin hbb;exact WK) :P:=h
theorem ZG {P:Prop}(h:P:=by rw[List.length_append,List.length_singleton,List.map_append,List.map_singleton];exact Xh) :P:=h
theorem aaD {P:Prop}(h:P:=by refine aG h.nx (fun b hbb=> ?_);obtain⟨_,cur,h2⟩ :=aA h.nx hbb;exact WK) :P:=h
theorem abm {P:Prop}(h:P:=by rw[hh]at h1;simp only[Option.some.injEq,Obj.cells.injEq]at h1;exact Or.inl h1.2.1) :P:=h
theorem Z8 {P:Prop}(h:P:=by
 rcases h2 with⟨h3,_⟩| ⟨_,_,_,h3,_⟩;·rw[h3];rfl
 ·rw[h3];rfl) :P:=h
theorem vG {P:Prop}(h:P:=by unfold execOp;simp only[ho,Instr.loadAt,Instr.sureAddr,hx,Sem.run_bind,Sem.run_pure,Result.andThen_ok];go_simp) :P:=h
theorem BN {P:Prop}(h:P:=by unfold execOp;simp only[ho,hx,hy,Sem.run_bind,Sem.run_pure,Result.andThen_ok];go_simp) :P:=h
theorem af1 {P:Prop}(h:P:=by
 refine⟨h.rows.hold h.mE,?_,?_,hl,hp,hf,⟨by omega,hw⟩,hr⟩
 ·rcases bH h.fin with⟨_,h0⟩| ⟨g,c,rfl,hg,hc⟩;·omega
  ·refine⟨_,c,rfl,Or.inr ⟨g,0,rfl,?_,fun t ht=> ?_⟩⟩;·obtain⟨_,cur,h2⟩ :=aA h.fin (b:=g) rfl;exact GI
   ·have:=h.fin.cellAt t (by omega);rw[Nat.zero_add,this,List.getElem?_map,List.getElem?_eq_getElem ht,List.getD_eq_getElem?_getD,List.getElem?_eq_getElem ht];rfl
 ·have AY:ns.length=aB.length:=by have:=h.nx.1;omega
  rcases bH h.nx with⟨_,h0⟩| ⟨g,c,rfl,hg,hc⟩;·omega
  ·refine⟨_,c,rfl,Or.inr ⟨g,0,rfl,?_,fun t ht=> ?_⟩⟩;·obtain⟨_,cur,h2⟩ :=aA h.nx (b:=g) rfl;exact GI
   ·have:=h.nx.cellAt t (by omega);have h1:ns[t]?=some (ns[t]'(by omega)) :=List.getElem?_eq_getElem (by omega);refine⟨_,by rw[Nat.zero_add,this,h1],?_⟩;refine h.rows.hold (h.zu t _ _ h1 ?_);rw[List.getElem?_eq_getElem ht,List.getD_eq_getElem?_getD,List.getElem?_eq_getElem ht];rfl) :P:=h
theorem acQ {P:Prop}(h:P:=by
 have far: ∀a u xs,a≠i→R a=some (u,xs)→u.ownBlock=none∨u.ownBlock≠v'.ownBlock:=by
  intro a u xs ha hr;cases hu:u.ownBlock with
  |none=>exact Or.inl rfl
  |some l=>
   refine Or.inr ?_;intro e;rcases hat l e.symm with h1|h1
   ·rcases h.apart a i u xs v zs ha hr hi with h2|h2;·rw[hu]at h2;cases h2
    ·exact h2 (hu.trans h1.symm)
   ·have:=h.lt hr hu;omega
 refine⟨fun a u xs ha=> ?_,fun a b u xs x' ws hab ha hb=> ?_⟩
 ·by_cases e:a=i;·subst e;rw[upd_same]at ha;cases ha;exact hv
  ·rw[aD _ _ e]at ha;exact keep a u xs e ha
 ·by_cases ea:a=i
  ·subst ea;rw[upd_same]at ha;cases ha;rw[aD _ _ (Ne.symm hab)]at hb;rcases far b x' ws (Ne.symm hab) hb with h1|h1
   ·cases hu:v'.ownBlock with
    |none=>exact Or.inl rfl
    |some l=>exact Or.inr (by rw[h1];simp)
   ·exact Or.inr (Ne.symm h1)
  ·rw[aD _ _ ea]at ha;by_cases eb:b=i;·subst eb;rw[upd_same]at hb;cases hb;exact far a u xs ea ha
   ·rw[aD _ _ eb]at hb;exact h.apart a b u xs x' ws hab ha hb) :P:=h
theorem yu {P:Prop}(h:P:=by unfold execOp;simp only[ho,Instr.storeAt,Instr.sureAddr,hx,hy,Sem.run_bind,Sem.run_pure,Result.andThen_ok];go_simp) :P:=h
theorem uA {P:Prop}(h:P:=by unfold execOp;simp only[ho,hx,Sem.run_bind,Sem.run_pure,Result.andThen_ok];go_simp) :P:=h
theorem QJ {P:Prop}(h:P:=by
 rcases(h.blk hB).2 with⟨c,h1⟩| ⟨es,c,h1⟩| ⟨c,h1⟩;·exact abm
 ·rw[hh]at h1;cases h1
 ·rw[hh]at h1;simp only[Option.some.injEq,Obj.cells.injEq]at h1;exact Or.inr h1.2.1) :P:=h
theorem ahA {P:Prop}(h:P:=by exact⟨⟨k+1,by omega,by go_num,by rw[HE.out]⟩,by simp[intOf];omega⟩) :P:=h
theorem Xg {P:Prop}(h:P:=by
 refine hc.bZ.congr fun b cs t ht hkk hh=> ?_;rw[hk b (by
  rintro rfl;rcases hkk with hkk| ⟨s,hs,hkk⟩;·exact hc.off hkk
  ·obtain⟨_,c1,h3⟩ :=aA (hc.bZ.aR s hs) hkk;exact aN h3 hc.box (by decide) rfl)];exact hh) :P:=h
theorem ai0 {P:Prop}(h:P:=by
 by_cases hj:j=aB.length
 ·subst hj;rw[aD _ _ (by omega),upd_same];have e1:vt=u:=by rw[←AY]at h1;simpa using h1
  have e2:s=t:=by simpa using h2
  rw[e1,e2]
 ·have hj':j<aB.length:=by exact Qh
  rw[hR _ (by omega) (by omega)];exact h.zu j u t (by rw[List.getElem?_append_left (by omega)]at h1;exact h1) (by rw[List.getElem?_append_left hj']at h2;exact h2)) :P:=h
theorem ahj {P:Prop}(h:P:=by
 refine List.mem_append_left _ (List.mem_map.2 ⟨a,List.mem_filter.2 ⟨List.mem_range.2 ?_,decide_eq_true e⟩,rfl⟩);rcases Nat.lt_or_eq_of_le ha with h1|h1;·exact h1
 ·exact absurd (by rw[h1]) e) :P:=h
theorem afF {P:Prop}(h:P:=by
 intro v' w' h1 h2 h3 h4;refine h v' w' h1 ?_ ?_ ?_;·exact Z7
 ·intro b hb;rcases h4 with h5|h5;·exact Or.inl (h5▸hb)
  ·rw[h5]at hb;cases hb;exact Or.inr (by simp)
 ·intro e;have:=(h3.1 e).2;cases this) :P:=h
theorem Xh {P:Prop}(h:P:=by refine aG ho (fun b hbb=> ?_);obtain⟨_,cur,h2⟩ :=aA ho hbb;rw[hset b cur _ (by decide) h2,h2]) :P:=h
theorem aeW {P:Prop}(h:P:=by
 show∀_,_;intro u;refine(Sw.mono hwz).congr fun b cs t ht _ hh=> ?_;rw[ay AR w.heap.size 0 _ b (by
  rintro rfl;rw[HRs.out]at hh;simp only[Option.some.injEq,Obj.cells.injEq]at hh;rcases ht with rfl|rfl;·exact absurd hh.2.1 (by decide)
  ·exact absurd hh.2.1 (by decide))];exact hh) :P:=h
theorem aiI {P:Prop}(h:P:=by
 have h1:w.all (fun a=>decide (a<sg.length+1))=true:=List.all_eq_true.2 fun a ha=>by simpa using hw a ha
 have h2:(w.map (jU sg S)).all (fun a=>decide (a<S))=true:=List.all_eq_true.2 fun a ha=>by obtain⟨b,_,rfl⟩ :=List.mem_map.1 ha;simpa using h.lt b
 rw[h1,h2]) :P:=h
theorem Wn {P:Prop}(h:P:=by show List.Nodup _;rw[List.nodup_append];exact⟨hnd,by simp,fun a ha b hb' e=>hx (by rw[List.mem_singleton.1 hb']at e;rw[←e];exact ha)⟩) :P:=h
theorem YQ {P:Prop}(h:P:=by rw[hg.block b (Array.getElem?_eq_some_iff.1 hh).1 (fun e=>by obtain⟨_,c2,k2⟩ :=aA ho e;exact bU hh k2 ht rfl)];exact hh) :P:=h
theorem WR {P:Prop}(h:P:=by rw[Bool.eq_false_iff];intro hc;exact hw fun a ha=>by simpa using List.all_eq_true.1 hc a ha) :P:=h
theorem aiV {P:Prop}(h:P:=by
 rw[List.getD_eq_getElem?_getD];cases hx:aB[q]? with
 |none=>rw[hx]at h1;cases h1
 |some r=>rw[hx]at h1;simpa using h1.symm) :P:=h
theorem adC {P:Prop}(h:P:=by
 obtain⟨ad,cap,rfl,h| ⟨g,off,rfl,hg,hc⟩⟩ :=h;·exact⟨ad,cap,rfl,Or.inl h⟩
 ·exact⟨_,cap,rfl,Or.inr ⟨g,off,rfl,Nat.lt_of_lt_of_le hg hb.size,fun t ht=>(hb.cell (p:=⟨g,off+t,none⟩) hg).trans (hc t ht)⟩⟩) :P:=h
theorem WE {P:Prop}(h:P:=by
 rcases h0.row.2 with⟨h1,h2⟩| ⟨g,cap,cur,h1,_⟩;·exact⟨none,0,by rw[h1,h2]⟩
 ·exact⟨_,cap,h1⟩) :P:=h
theorem Po {P:Prop}(h:P:=by simp only[Option.some.injEq,Obj.cells.injEq]at h2;exact absurd h2.2.1 (by decide)) :P:=h
theorem Wy {P:Prop}(h:P:=by
 unfold iy;cases s.1.ownBlock with
 |none=>exact Or.inl rfl
 |some k=>exact Or.inr (by simp[Value.ownBlock])) :P:=h
theorem V7 {P:Prop}(h:P:=by rw[ay _ sb 0 _ _ H7,Below.heap_alloc _ _ _ (Array.getElem?_eq_some_iff.1 jT.out).1];exact jT.out) :P:=h
theorem WK {P:Prop}(h:P:=by rw[hset b cur _ (by decide) (ht b cur _ (by decide) h2),h2]) :P:=h
theorem agF {P:Prop}(h:P:=by
 obtain⟨h1,h2⟩ :=i2 i s hs;refine⟨by omega,fun p hp hu hl=> ?_⟩;cases p with
 |zero=>omega
 |succ p=>exact h2 p (by omega) (fun u hu'=>by have:=hu u hu';omega) (by simpa using hl)) :P:=h
theorem WX {P:Prop}(h:P:=by
 rcases List.mem_append.1 hy with h1|h1;·exact jO y h1
 ·rw[List.mem_singleton.1 h1];exact hok) :P:=h
theorem aei {P:Prop}(h:P:=by
 have hv:(va:Value).oneCell'=true:=by exact Z8
 simp at hy;rcases hy with rfl|rfl|rfl;·rfl
 ·exact hv
 ·rfl) :P:=h
theorem XR {P:Prop}(h:P:=by rw[Bool.eq_false_iff];intro hc;exact hv fun a ha=>by simpa using List.all_eq_true.1 hc a ha) :P:=h
theorem XD {P:Prop}(h:P:=by show jy _ _ _ _;rw[HL.out];exact(Kr W1).keep (ay _ sb 0 _ _ (by omega))) :P:=h
theorem WI {P:Prop}(h:P:=by unfold execOp;simp only[ho,h1,h2,h3,h,Sem.run_bind,Sem.run_pure,Result.andThen_ok]) :P:=h
theorem ae5 {P:Prop}(h:P:=by intro b cs t hn hh;rw[hb.block b (Array.getElem?_eq_some_iff.1 hh).1 (fun e=>by obtain⟨_,c2,k2⟩ :=aA h.fin e;exact bU hh k2 hn rfl)];exact hh) :P:=h
theorem Y0 {P:Prop}(h:P:=by show _≠_;rintro rfl;obtain⟨es,c,h3,_⟩ :=gW.out;rw[h3]at hb2;cases hb2) :P:=h
theorem aeH {P:Prop}(h:P:=by
 have h1:Z≠ [] :=by rw[←HG.out.bf];obtain⟨r,hr⟩ :=rX (K.nexts (ls.length+1)) Z.length 0 [x0];rw[hr];simp
 exact List.length_pos_iff.2 h1) :P:=h
theorem Xd {P:Prop}(h:P:=by unfold execOp;simp only[ho,Sem.run_bind,Sem.run_pure,Result.andThen_ok];go_simp) :P:=h
theorem Wx {P:Prop}(h:P:=by intro b cs t hn hh;rw[hb.block b (Array.getElem?_eq_some_iff.1 hh).1 hn];exact hh) :P:=h
theorem age {P:Prop}(h:P:=by rw[e0]at hc4;have e1:=congrArg (fun l=>l[h]?) hc4;rw[List.take_of_length_le (by simp;omega),List.getElem?_replicate,if_pos hh]at e1;simpa using e1) :P:=h
theorem Ww {P:Prop}(h:P:=by unfold wpOp;simp only[hi,hw,if_true,Oper.wp,ho,Oper.upon];exact .inl h) :P:=h
theorem ah0 {P:Prop}(h:P:=by
 go_roundw;case rel=>exact⟨k+1,by omega,by go_num,yT.out,HB.out.trans (hb2.mono HB.out.size)⟩
 case measure=>simp[intOf];omega) :P:=h
theorem ado {P:Prop}(h:P:=by refine aG hc.aR (fun b hb=>hk b ?_);rintro rfl;obtain⟨_,c1,h3⟩ :=aA hc.aR hb;exact aN h3 hc.box (by decide) rfl) :P:=h
theorem aiP {P:Prop}(h:P:=by have hfn:a.eval (.func f)= .func (.func f) #[] #[] :=rfl;unfold execOp;simp[ho,resolve,invoke,Deferred.ofValue,hfn,hx,hy,hf]) :P:=h
theorem afy {P:Prop}(h:P:=by intro j hj;have hj':=List.mem_range.1 hj;rw[List.getD_eq_getElem?_getD,List.getD_eq_getElem?_getD,List.getElem?_append_left hj']) :P:=h
theorem ahT {P:Prop}(h:P:=by show _=_;obtain⟨g,rfl⟩ : ∃g,f=g+1:=⟨f-1,by omega⟩;rw[zi s g p hlt]at hacc;rw[←hacc];simp) :P:=h
theorem Xw {P:Prop}(h:P:=by have:=aL uC 0 (.map (some W1.heap.size));simpa using this) :P:=h
theorem adh {P:Prop}(h:P:=by intro b cs t hn hh;refine hk b cs t (fun e=> ?_) hh;obtain⟨_,c2,k2⟩ :=aA h.nx e;exact bU hh k2 hn rfl) :P:=h
theorem afj {P:Prop}(h:P:=by
 rw[List.getD_eq_getElem?_getD];cases hx:D[i]? with
 |none=>simp[ps0]
 |some s=>exact h s (List.mem_of_getElem? hx)) :P:=h
theorem agh {P:Prop}(h:P:=by
 rcases bH sO with⟨h,h0⟩| ⟨g,c,h,_,_⟩;·exact⟨none,0,by rw[h,h0]⟩
 ·exact⟨_,c,h⟩) :P:=h
theorem ain {P:Prop}(h:P:=by
 rcases Sw.row.2 with⟨h,h0⟩| ⟨g7,c7,wm,h,_⟩;·exact⟨none,0,by rw[h,h0]⟩
 ·exact⟨_,c7,h⟩) :P:=h
theorem ZK {P:Prop}(h:P:=by rw[Below.heap_alloc _ _ _ (by rw[hz2];omega),Below.heap_alloc _ _ _ (by rw[hz1];omega)];exact heap_alloc_new w _) :P:=h
theorem aaN {P:Prop}(h:P:=by refine aG h.fin (fun b hb=> ?_);obtain⟨_,cur,h2⟩ :=aA h.fin hb;rw[hk b cur _ (by decide) h2,h2]) :P:=h
theorem ZX {P:Prop}(h:P:=by refine aG ho (fun b hkb=> ?_);obtain⟨_,gH,h2⟩ :=aA ho hkb;rw[hot b gH _ (by decide) h2,h2]) :P:=h
theorem ZZ {P:Prop}(h:P:=by refine aG h.fin (fun b hk=> ?_);obtain⟨_,cur,h2⟩ :=aA h.fin hk;rw[at_ b cur _ (by simp) h2,h2]) :P:=h
theorem aam {P:Prop}(h:P:=by refine aG h.nx (fun b hb=> ?_);obtain⟨_,cur,h2⟩ :=aA h.nx hb;rw[hk b cur _ (by decide) h2,h2]) :P:=h
theorem QX {P:Prop}(h:P:=by
 rcases h0.map with⟨_,rfl⟩|h1;·simp at hx
 ·exact h1) :P:=h
theorem aae {P:Prop}(h:P:=by
 cases hb;cases hv:v.ownBlock with
 |none=>exact Or.inl rfl
 |some k=>exact Or.inr (by simp[Value.ownBlock])) :P:=h
theorem aa2 {P:Prop}(h:P:=by
 rcases bH oZ with⟨h,h0⟩| ⟨g,c,h,_,_⟩;·exact absurd h zZ
 ·exact⟨g,c,h⟩) :P:=h
theorem aaP {P:Prop}(h:P:=by
 rcases uR.2 with⟨e9,_⟩| ⟨g7,c7,wm,e9,_⟩;·exact absurd e9 EE
 ·exact⟨g7,c7,e9⟩) :P:=h
theorem JR {P:Prop}(h:P:=by exact absurd (List.mem_of_getElem? h4) hx) :P:=h
theorem aba {P:Prop}(h:P:=by refine⟨List.mem_cons_of_mem _ this.1,?_⟩;have:=this.2;simp only[List.length_cons];omega) :P:=h
theorem Z5 {P:Prop}(h:P:=by simp only[Option.some.injEq,Addr.mk.injEq,and_true]at e;obtain⟨rfl,rfl⟩ :=e;exact hc) :P:=h
theorem abb {P:Prop}(h:P:=by obtain⟨k,hk,rfl⟩ :=List.mem_map.1 h2;exact hP x hx k (by have:=MG x k hk;omega)) :P:=h
theorem Y9 {P:Prop}(h:P:=by exact⟨⟨k+1,by omega,by go_num,by rw[HE.out];go_num⟩,by simp[intOf];omega⟩) :P:=h
theorem Rv {P:Prop}(h:P:=by rw[CJ.out]at this;exact absurd this (by decide)) :P:=h
theorem Zr {P:Prop}(h:P:=by obtain⟨_,cur,h2⟩ :=aA h.row hk;rw[hb b cur _ (Or.inl rfl) (Or.inl hk) h2,h2]) :P:=h
theorem abe {P:Prop}(h:P:=by
 rcases h.apart s hs with h2|h2;·rw[hu]at h2;cases h2
 ·exact h2 (hu.trans h1.symm)) :P:=h
theorem abj {P:Prop}(h:P:=by rw[h2]at hh;simp only[Option.some.injEq,Obj.cells.injEq]at hh;rw[←hh.2.1];decide) :P:=h
theorem aa0 {P:Prop}(h:P:=by simp only[Option.some.injEq,Obj.cells.injEq]at h3;exact absurd h3.2.1 (by decide)) :P:=h
theorem aaH {P:Prop}(h:P:=by rw[Below.heap_alloc _ _ _ (by rw[hz2];omega),←hz1];exact heap_alloc_new _ _) :P:=h
theorem aaz {P:Prop}(h:P:=by intro b cs t hn hh;rw[ay W' rb 2 _ b (bU hh hr1 hn)];exact hh) :P:=h
theorem ZW {P:Prop}(h:P:=by intro b cs t hn hh;rw[ay W' rb 1 _ b (bU hh hr1 hn)];exact hh) :P:=h
theorem aaO {P:Prop}(h:P:=by simp only[Option.some.injEq,Obj.cells.injEq]at e;exact absurd e.2.1 (by decide)) :P:=h
theorem abB {P:Prop}(h:P:=by intro j u hj;rw[wS,aj (heap_alloc_new W (.cells ys e)) j];simpa using hj) :P:=h
theorem ZE {P:Prop}(h:P:=by have:=Ad (A:=A) (S:=S) (κ:=κ) hq;simp[List.getD,this,iT]) :P:=h
theorem Zf {P:Prop}(h:P:=by rw[List.length_map];exact Nat.le_trans (List.length_filter_le _ _) (by simp)) :P:=h
def ig(r:Int) :Bool:=decide (0≤r∧r≤1114111∧(r<55296∨57343<r))
theorem jH(r:Int) :ig r=true↔(0≤r∧r≤1114111∧(r<55296∨57343<r)) :=by simp[ig]
theorem ab9(r:Int) :ig r=false↔¬(0≤r∧r≤1114111∧(r<55296∨57343<r)) :=by simp[ig]
theorem ah {p:Prop}(h:p) :Hid p:=h
theorem wS(g j:Nat) :(⟨g,0,none⟩ :Addr).add j=⟨g,j,none⟩ :=by
 unfold Addr.add;by_cases h:j=0;·subst h;simp
 ·simp[h]
theorem Km {w:aaa} {base e g n cap:Nat} {xs:List aab}(h:w.ownsRow base e 1 (.slice (some ⟨g,0,none⟩) n cap) n xs) :g<w.heap.size:=by
 rcases h.2 with⟨h',_⟩| ⟨g',cap',cur,h',_,hg,_⟩;·simp at h'
 ·simp only[aaU,aaY,Addr.mk.injEq,and_true,true_and]at h';obtain⟨rfl,rfl⟩ :=h';exact(Array.getElem?_eq_some_iff.1 hg).1
theorem cell_lt {w:aaa} {b off:Nat} {v:aab}(h:w.cell? ⟨b,off,none⟩=some v) :b<w.heap.size:=by
 by_cases hb:b<w.heap.size;·exact hb
 ·have:w.heap[b]?=none:=Array.getElem?_eq_none (by omega);simp[aaT,this]at h
theorem Sn {w:aaa} {base e g n cap:Nat} {zs:List Int}(h:w.ownsRow base e 1 (.slice (some ⟨g,0,none⟩) n cap) n (zs.map (Value.int .i64)))(hl:zs.length=n) : ∀t,t<n→w.cell? ⟨g,0+t,none⟩=some (.int .i64 (zs.getD t 0)) :=by intro t ht;rw[abd,h.cellAt t (by omega)];simp[hl,ht]
theorem own_below {w w':aaa} {base e n:Nat} {v:aab} {xs:List aab}(h:w.ownsRow base e 1 v n xs)(hb:Below w.heap.size w w') :w'.ownsRow base e 1 v n xs:=by
 refine⟨h.1,?_⟩;rcases h.2 with h'| ⟨g,cap,cur,h1,h2,h3,h4⟩;·exact aal h'
 ·exact aah ⟨g,cap,cur,h1,h2,by rw[hb.block g (Array.getElem?_eq_some_iff.1 h3).1];exact h3,h4⟩
theorem bH {w:aaa} {base e n:Nat} {v:aab} {xs:List aab}(h:w.ownsRow base e 1 v n xs) :(v= .slice none 0 0∧n=0)∨∃g cap,v= .slice (some ⟨g,0,none⟩) n cap∧base≤g∧g<w.heap.size:=by
 rcases h.2 with⟨h1,h2⟩| ⟨g,cap,cur,h1,hb,hg,_⟩;·exact aal ⟨h1,h2⟩
 ·exact aah ⟨g,cap,h1,hb,(Array.getElem?_eq_some_iff.1 hg).1⟩
theorem own_drewN {w:aaa} {base e n:Nat} {v:aab} {xs:List aab}(h:w.ownsRow base e 1 v n xs) : ∀m,(w.drewN m).ownsRow base e 1 v n xs
 |0=>h
 |m+1=>(own_drewN h m).drew
theorem Ff(w:aaa)(row:Option Nat) :w.grownBy w row:=⟨rfl,rfl,rfl,aap _,fun _ _ _=>rfl⟩
theorem bR {a b c:aaa} {row:Option Nat}(h:a.grownBy b row)(k:b.grownBy c row) :a.grownBy c row:=⟨k.os.trans h.os,k.tape.trans h.tape,k.output.trans h.output,aaF h.size k.size,fun i hi hne=>(k.block i (aaE hi h.size) hne).trans (h.block i hi hne)⟩
theorem gF(w:aaa)(e:aaw) :(w.alloc (.cells #[] e)).ownsRow w.heap.size e 1 (.slice (some ⟨w.heap.size,0,none⟩) 0 0) 0 [] :=by have:=World.ownsRow_lit (base:=w.heap.size) (e:=e) (size:=1) w #[] 0 (aap _) (by unfold maxLen;omega) (by simp);simpa using this
theorem jM {w:aaa} {base base' e n:Nat} {v:aab} {xs:List aab}(h:w.ownsRow base e 1 v n xs)(hb:base'≤base) :w.ownsRow base' e 1 v n xs:=by
 refine⟨h.1,?_⟩;rcases h.2 with h'| ⟨g,cap,cur,h1,h2,h3⟩;·exact aal h'
 ·exact aah ⟨g,cap,cur,h1,aaF hb h2,h3⟩
theorem fF {w:aaa} {base e n:Nat} {v:aab} {xs:List aab}(h:w.ownsRow base e 1 v n xs) : ∀k,v.ownBlock=some k→base≤k:=by
 intro k hk;rcases bH h with⟨rfl,_⟩| ⟨g,cap,rfl,hb,_⟩;·cases hk
 ·cases hk;exact hb
theorem aj {w:aaa} {b:Nat} {cs:Array aab} {t:aaw}(h:w.heap[b]?=some (.cells cs t))(k:Nat) :w.cell? ⟨b,k,none⟩=cs[k]?:=by simp[aaT,h]
theorem aC {w w':aaa} {b:Nat} {o:Obj}(h:w.heap[b]?=some o)(hb:Below w.heap.size w w') :w'.heap[b]?=some o:=(hb.block b (Array.getElem?_eq_some_iff.1 h).1).trans h
theorem bL {w:aaa} {b:Nat} {cs:Array aab} {t:aaw}(h:w.heap[b]?=some (.cells cs t))(k:Nat) :w.frozen? ⟨b,k,none⟩=false:=by simp[World.frozen?,h]
theorem H9(w:aaa)(o1 o2:Obj) :((w.alloc o1).alloc o2).heap[w.heap.size]?=some o1∧((w.alloc o1).alloc o2).heap[w.heap.size+1]?=some o2:=by
 refine⟨?_,?_⟩;·rw[Below.heap_alloc _ _ _ (by simp)];exact aaR _ _
 ·have:=aaR (w.alloc o1) o2;rw[World.size_alloc]at this;exact this
theorem ay(w:aaa)(b k:Nat)(u:aab)(x:Nat)(hx:x≠b) :(w.setCell ⟨b,k,none⟩ u).heap[x]?=w.heap[x]?:=heap_setCell_other w ⟨b,k,none⟩ x u hx
theorem aL {w:aaa} {b:Nat} {cs:Array aab} {t:aaw}(h:w.heap[b]?=some (.cells cs t))(k:Nat)(u:aab) :(w.setCell ⟨b,k,none⟩ u).heap[b]?=some (.cells (cs.setIfInBounds k u) t) :=by obtain⟨hlt,hk⟩ :=Array.getElem?_eq_some_iff.1 h;show(w.heap.modify b _)[b]?=_;rw[Array.getElem?_eq_getElem (by rw[Array.size_modify];exact hlt),Array.getElem_modify_self,hk];rfl
theorem aN {w:aaa} {a b:Nat} {c1 c2:Array aab} {t1 t2:aaw}(h1:w.heap[a]?=some (Obj.cells c1 t1))(h2:w.heap[b]?=some (Obj.cells c2 t2))(hne:t1≠t2) :a≠b:=by rintro rfl;rw[h1]at h2;simp only[aaY,Obj.cells.injEq]at h2;exact hne h2.2.1
theorem aG {w w':aaa} {base e size n:Nat} {v:aab} {xs:List aab}(h:w.ownsRow base e size v n xs)(hb: ∀b,v.ownBlock=some b→w'.heap[b]?=w.heap[b]?) :w'.ownsRow base e size v n xs:=by
 refine⟨h.1,?_⟩;rcases h.2 with h'| ⟨g,cap,cur,rfl,h2,h3,h4⟩;·exact aal h'
 ·exact aah ⟨g,cap,cur,rfl,h2,by rw[hb g rfl];exact h3,h4⟩
theorem aA {w:aaa} {base e size n:Nat} {v:aab} {xs:List aab}(h:w.ownsRow base e size v n xs) {b:Nat}(hb:v.ownBlock=some b) :base≤b∧∃cur,w.heap[b]?=some (.cells cur e) :=by
 rcases h.2 with⟨h',_⟩| ⟨g,cap,cur,rfl,h2,h3,_⟩;·rw[h']at hb;cases hb
 ·cases hb;exact⟨h2,cur,h3⟩
structure But(X:Nat→Prop)(w w':aaa) :Prop where
 os:w'.os=w.os
 tape:w'.tape=w.tape
 output:w'.output=w.output
 size:w.heap.size≤w'.heap.size
 block: ∀b,b<w.heap.size→¬X b→w'.heap[b]?=w.heap[b]?
theorem But.refl(X:Nat→Prop)(w:aaa) :But X w w:=⟨rfl,rfl,rfl,aap _,fun _ _ _=>rfl⟩
theorem But.trans {X Y Z:Nat→Prop} {a b c:aaa}(h:But X a b)(k:But Y b c)(hx: ∀i,i<a.heap.size→X i→Z i)(hy: ∀i,i<a.heap.size→Y i→Z i) :But Z a c:=⟨k.os.trans h.os,k.tape.trans h.tape,k.output.trans h.output,aaF h.size k.size,fun i hi hn=>(k.block i (aaE hi h.size) fun e=>hn (hy i hi e)).trans (h.block i hi fun e=>hn (hx i hi e))⟩
theorem But.mono {X Z:Nat→Prop} {a b:aaa}(h:But X a b)(hx: ∀i,i<a.heap.size→X i→Z i) :But Z a b:=⟨h.os,h.tape,h.output,h.size,fun i hi hn=>h.block i hi fun e=>hn (hx i hi e)⟩
theorem But.of_below {X:Nat→Prop} {a b:aaa}(h:Below a.heap.size a b) :But X a b:=⟨h.os,h.tape,h.output,h.size,fun i hi _=>h.block i hi⟩
theorem But.below {X:Nat→Prop} {n:Nat} {a b:aaa}(h:But X a b)(hn:n≤a.heap.size)(hx: ∀i,i<n→¬X i) :Below n a b:=⟨h.os,h.tape,h.output,h.size,fun i hi=>h.block i (by omega) (hx i hi)⟩
theorem But.set {X:Nat→Prop} {a b:aaa}(h:But X a b)(g k:Nat)(u:aab)(hg:X g) :But X a (b.setCell ⟨g,k,none⟩ u) :=⟨h.os,h.tape,h.output,by simpa using h.size,fun i hi hn=>(ay b g k u i (fun e=>hn (e▸hg))).trans (h.block i hi hn)⟩
theorem But.alloc {X:Nat→Prop} {a b:aaa}(h:But X a b)(o:Obj) :But X a (b.alloc o) :=⟨h.os,h.tape,h.output,by have:=h.size;simp;omega,fun i hi hn=>(Below.heap_alloc b o i (aaE hi h.size)).trans (h.block i hi hn)⟩
theorem But.drewN {X:Nat→Prop} {a b:aaa}(h:But X a b)(q:Nat) :But X a (b.drewN q) :=⟨h.os,h.tape,h.output,h.size,fun i hi hn=>h.block i hi hn⟩
theorem But.cell {X:Nat→Prop} {a b:aaa}(h:But X a b) {p:Addr}(hp:p.block<a.heap.size)(hx: ¬X p.block) :b.cell? p=a.cell? p:=by simp only[aaT];rw[h.block p.block hp hx]
section
variable {ops:Array Oper} {Q:Exit→Act→aaa→Prop} {S:aaa→Prop} {md:aa9} {fuel:Nat} {listed:Array Bool} {a:Act} {w:aaa}
theorem Di(i:Nat) {oi:Oper} {v:Value}(hi:ops[i]?=some oi:=by rfl)(hs:Region.noSelect ops=true:=by kernel_rfl)(hf:Region.free md ops listed i=true:=by kernel_rfl)(hr:(Region.ready md ops listed).contains i=true:=by kernel_rfl)(hQ: ∀c a w,Q (.panic c) (a.put oi.dst v) w→Q (.panic c) a w:=by exact fun _ _ _ h=>h)(hw:Region.wanted oi (yielded ops a.tmps)=true:=by kernel_rfl)(hx: ∀w,S w→(execOp a.eval oi).run Tryd.prog w= .ok (.value v) w:=by(intro w hSw;(try dsimp only at hSw);go_simp<;>with_reducible rfl))(hS:S w:=by assumption)(h:wpAnyH Tryd.prog md ops Q S fuel (listed.setIfInBounds i true) (a.put oi.dst v) w) :wpAnyH Tryd.prog md ops Q S (fuel+1) listed a w:=wpAnyH_take hi hs hf hr hQ (Or.inl ⟨hw,hx⟩) hS h
theorem tkS(i:Nat) {oi:Oper}(hi:ops[i]?=some oi:=by rfl)(hs:Region.noSelect ops=true:=by kernel_rfl)(hf:Region.free md ops listed i=true:=by kernel_rfl)(hr:(Region.ready md ops listed).contains i=true:=by kernel_rfl)(hQ: ∀c a w,Q (.panic c) (a.put oi.dst undef) w→Q (.panic c) a w:=by exact fun _ _ _ h=>h)(hw:Region.wanted oi (yielded ops a.tmps)=false:=by kernel_rfl)(hS:S w:=by assumption)(h:wpAnyH Tryd.prog md ops Q S fuel (listed.setIfInBounds i true) (a.put oi.dst undef) w) :wpAnyH Tryd.prog md ops Q S (fuel+1) listed a w:=wpAnyH_take hi hs hf hr hQ (Or.inr ⟨hw,rfl⟩) hS h
end
section
variable {ops:Array Oper} {Q:Exit→Act→aaa→Prop} {S:aaa→Prop} {md:aa9} {a:Act} {w:aaa}
theorem aF(i:Nat) {fuel:Nat} {listed:Array Bool}(hr:aa8 md ops listed= [i])(h:wpOp Tryd.prog ops Q i (fun a' w'=>S w'∧aax Tryd.prog md ops Q S fuel (listed.setIfInBounds i true) a' w') a w) :aax Tryd.prog md ops Q S (fuel+1) listed a w:=wpAnyH_all hr (by simp) (fun j hj=>by
 have e:j=i:=by simpa using hj
 subst e;exact h)
theorem bX(i j:Nat) {fuel:Nat} {listed:Array Bool}(hr:aa8 md ops listed= [i,j])(h1:wpOp Tryd.prog ops Q i (fun a' w'=>S w'∧aax Tryd.prog md ops Q S fuel (listed.setIfInBounds i true) a' w') a w)(h2:wpOp Tryd.prog ops Q j (fun a' w'=>S w'∧aax Tryd.prog md ops Q S fuel (listed.setIfInBounds j true) a' w') a w) :aax Tryd.prog md ops Q S (fuel+1) listed a w:=wpAnyH_all hr (by simp) (fun k hk=>by
 have e:k=i∨k=j:=by simpa using hk
 rcases e with rfl|rfl;·exact h1
 ·exact h2)
theorem aP {K:Act→aaa→Prop} {i:Nat} {o:Oper}(v:aab)(w':aaa)(hi:ops[i]?=some o)(hw:aaV o (yielded ops a.tmps)=true)(ho:(execOp a.eval o).run Tryd.prog w= .ok (.value v) w')(h:K (a.put o.dst v) w') :wpOp Tryd.prog ops Q i K a w:=by exact Ww
theorem bI {K:Act→aaa→Prop} {i:Nat} {o:Oper}(w':aaa)(hi:ops[i]?=some o)(hw:aaV o (yielded ops a.tmps)=true)(ho:(execOp a.eval o).run Tryd.prog w= .ok .skip w')(h:K (a.put o.dst undef) w') :wpOp Tryd.prog ops Q i K a w:=by exact Ww
theorem mo {K:Act→aaa→Prop} {i:Nat} {o:Oper}(hi:ops[i]?=some o)(hw:aaV o (yielded ops a.tmps)=true)(h:o.wp Tryd.prog a w K Q) :wpOp Tryd.prog ops Q i K a w:=by unfold wpOp;simp only[hi,hw,if_true];exact .inl h
end
def zI(l:List Int) :List aab:=l.map (Value.int .i64)
theorem mh(l:List Int)(x:Int) :zI (l++ [x])=zI l++ [.int .i64 x] :=by simp[zI]
theorem nD(l k:List Int) :zI (l++k)=zI l++zI k:=by simp[zI]
def aH(l:List Nat) :List Int:=l.map fun(x:Nat)=>(x:Int)
theorem aK(l:List Nat) :(aH l).length=l.length:=by simp[aH]
theorem iL(l k:List Nat) :aH (l++k)=aH l++aH k:=by simp[aH]
theorem iO(l:List Nat)(i:Nat)(h:i<l.length) :(aH l).getD i 0=((l.getD i 0:Nat) :Int) :=by simp[aH,h]
theorem Mr {l k:List Nat}(h:aH l=aH k) :l=k:=by
 have:(aH l).map Int.toNat=(aH k).map Int.toNat:=by rw[h]
 simpa[aH,aa1,Function.comp_def]using this
def bD(w:aaa)(v:aab)(zs:List Int) :Prop:=∃ad cap,v= .slice ad zs.length cap∧(zs= []∨∃g off,ad=some ⟨g,off,none⟩∧g<w.heap.size∧∀t,t<zs.length→w.cell? ⟨g,off+t,none⟩=some (.int .i64 (zs.getD t 0)))
theorem bD.own {w:aaa} {base:Nat} {v:aab} {zs:List Int}(h:w.ownsRow base 3 1 v zs.length (zI zs)) :bD w v zs:=by
 rcases bH h with⟨rfl,h0⟩| ⟨g,cap,rfl,_,hg⟩;·exact⟨none,0,by rw[h0],aal (List.length_eq_zero_iff.1 h0)⟩
 ·exact⟨_,cap,rfl,aah ⟨g,0,rfl,hg,Sn h rfl⟩⟩
theorem bD.below {w w':aaa} {v:aab} {zs:List Int}(h:bD w v zs)(hb:Below w.heap.size w w') :bD w' v zs:=by exact adC
theorem bD.cells {w:aaa} {ad:Option Addr} {n cap:Nat} {zs:List Int}(h:bD w (.slice ad n cap) zs) {i:Nat}(hi:i<zs.length) : ∃g off,ad=some ⟨g,off,none⟩∧g<w.heap.size∧w.cell? ⟨g,off+i,none⟩=some (.int .i64 (zs.getD i 0)) :=by
 obtain⟨UY,cap',e,h'⟩ :=h;simp only[aaU]at e;obtain⟨rfl,_,_⟩ :=e;rcases h' with rfl| ⟨g,off,rfl,hg,hc⟩;·simp at hi
 ·exact⟨g,off,rfl,hg,hc i hi⟩
theorem Tryd.infoIntL:(Tryd.prog.info? 3).map (fun i=>(i.zero,i.size,i.bytes))=some (some (.int .i64 0),1,8) :=by kernel_rfl
theorem YA {a b:List Int} {k:Nat}(ha:k<a.length)(hb:k<b.length)(h:a.take k=b.take k)(e:a.getD k 0=b.getD k 0) :a.take (k+1)=b.take (k+1) :=by
 rw[abf ha,abf hb,h];have e':a[k]=b[k] :=by simpa[List.getD_eq_getElem?_getD,ha,hb]using e
 rw[e']
theorem Lh(a b:List Int)(va vb:aab)(w:aaa)(hn:a.length≤1099511627776)(hm:b.length≤1099511627776)(ha:bD w va a)(hb:bD w vb b) :Calls Tryd.prog 67 #[va,vb] w fun e w'=>e= .returned (.bool (decide (a=b)))∧∃q,w'=w.drewN q:=by
 obtain⟨aa,ca,rfl,haa⟩ :=ha;obtain⟨ab,cb,rfl,hab⟩ :=hb;have HA:=ah haa;have HB:=ah hab;clear haa hab;by_cases hl:a.length=b.length
 ·have hlb:((a.length:Int) !=(b.length:Int))=false:=by simp[hl]
  have HL:=ah hl;clear hl;go_enter Tryd.func67,Tryd.ntmps67;go_wp2;go_loopw [5](fun iv wx=>∃k q:Nat,k≤a.length∧iv= .int .i64 (k:Int)∧a.take k=b.take k∧wx=w.drewN q)(fun iv _=>a.length-(intOf iv).toNat);case atStart=>exact⟨0,0,Nat.zero_le _,rfl,by simp,rfl⟩
  case round=>
   obtain⟨k,q,hk,rfl,heq,hwq⟩ :=hrel;have HE:=ah heq;have HW:=ah hwq;clear heq hwq;by_cases hlt:k<a.length
   ·have hltz:(k:Int)<(a.length:Int) :=by omega
    have PO:k<b.length:=by have:=HL.out;omega
    have arh:(k:Int)<(b.length:Int) :=by omega
    obtain⟨ga,oa,rfl,hga,hca⟩ :=HA.out.resolve_left (fun h=>by rw[h]at hlt;simp at hlt);obtain⟨gb,ob,rfl,hgb,hcb⟩ :=HB.out.resolve_left (fun h=>by rw[h]at PO;simp at PO);have c1:wr.cell? ⟨ga,oa+k,none⟩=some (.int .i64 (a.getD k 0)) :=by rw[HW.out];simpa using hca k hlt
    have c2:wr.cell? ⟨gb,ob+k,none⟩=some (.int .i64 (b.getD k 0)) :=by rw[HW.out];simpa using hcb k PO
    have HT:=ah (YA (a:=a) (b:=b) hlt PO HE.out);have HX:Hid (a=b→a.getD k 0=b.getD k 0) :=by show _→_;intro e;rw[e]
    clear hca hcb;generalize a.getD k 0=x at*;generalize b.getD k 0=y at*;by_cases hxy:x=y
    ·have hb:(x !=y)=false:=by simp[hxy]
     have HT2:=ah (HT.out hxy);clear hxy HT HX;go_wp2;go_quiet(fail);go_wp2;go_roundw;case rel=>exact⟨k+1,q+nq,by omega,by go_num,HT2.out,by rw[HW.out,aa7]⟩
     case measure=>simp[intOf];omega
    ·have hb:(x !=y)=true:=by simp[hxy]
     have HR:Hid (decide (a=b)=false) :=by show _=_;rw[decide_eq_false_iff_not];exact fun e=>hxy (HX.out e)
     clear hxy HT HX;go_wp2;go_quiet(fail);go_wp2;go_ret;rw[HR.out];exact⟨rfl,q+nq,by rw[HW.out,aa7]⟩
   ·have hltz: ¬(k:Int)<(a.length:Int) :=by omega
    have HR:Hid (decide (a=b)=true) :=by show _=_;rw[decide_eq_true_iff];have h:=HE.out;have:=HL.out;rw[abk (by omega),abk (by omega)]at h;exact h
    go_wp2;go_ret;rw[HR.out];exact⟨rfl,q,HW.out⟩
 ·have hlb:((a.length:Int) !=(b.length:Int))=true:=by simp;omega
  have HR:Hid (decide (a=b)=false) :=by show _=_;rw[decide_eq_false_iff_not];exact fun e=>hl (by rw[e])
  clear hl;go_enter Tryd.func67,Tryd.ntmps67;go_wp2;go_ret;rw[HR.out];exact⟨rfl,0,rfl⟩
abbrev aU:=Nat→Option (aab×List Int)
def upd(R:aU)(i:Nat)(x:Option (aab×List Int)) :aU:=fun a=>if a=i then x else R a
theorem upd_same(R:aU)(i:Nat)(x:Option (aab×List Int)) :upd R i x i=x:=by simp[upd]
theorem aD(R:aU) {i a:Nat}(x:Option (aab×List Int))(h:a≠i) :upd R i x a=R a:=by simp[upd,h]
structure aY(W:aaa)(base:Nat)(R:aU) :Prop where
 own: ∀a v zs,R a=some (v,zs)→W.ownsRow base 3 1 v zs.length (zI zs)
 apart: ∀a b v zs u ys,a≠b→R a=some (v,zs)→R b=some (u,ys)→v.ownBlock=none∨v.ownBlock≠u.ownBlock
theorem aY.empty(W:aaa)(base:Nat) :aY W base (fun _=>none) :=⟨fun a v zs h=>by simp at h,fun a b v zs u ys _ h=>by simp at h⟩
theorem aY.below {W W':aaa} {base:Nat} {R:aU}(h:aY W base R)(hb:Below W.heap.size W W') :aY W' base R:=⟨fun a v zs ha=>own_below (h.own a v zs ha) hb,h.apart⟩
theorem aY.lt {W:aaa} {base:Nat} {R:aU}(h:aY W base R) {a:Nat} {v:aab} {zs:List Int}(ha:R a=some (v,zs)) {b:Nat}(hb:v.ownBlock=some b) :base≤b∧b<W.heap.size:=by obtain⟨h1,cur,h2⟩ :=aA (h.own a v zs ha) hb;exact⟨h1,(Array.getElem?_eq_some_iff.1 h2).1⟩
theorem aY.new {W W':aaa} {base:Nat} {R:aU}(h:aY W base R)(hb:Below W.heap.size W W')(hbase:base≤W.heap.size) {i:Nat} {v:aab} {zs:List Int}(hv:W'.ownsRow W.heap.size 3 1 v zs.length (zI zs)) :aY W' base (upd R i (some (v,zs))) :=by
 have h':=h.below hb;refine⟨fun a u ys ha=> ?_,fun a b u ys x xs hab ha hb'=> ?_⟩
 ·by_cases e:a=i;·subst e;rw[upd_same]at ha;cases ha;exact jM hv hbase
  ·rw[aD _ _ e]at ha;exact h'.own a u ys ha
 ·by_cases ea:a=i
  ·subst ea;rw[upd_same]at ha;cases ha;rw[aD _ _ (Ne.symm hab)]at hb';cases hx:x.ownBlock with
   |none=>
    cases hu:v.ownBlock with
    |none=>exact aal rfl
    |some k=>exact aah (by simp)
   |some k=>
    cases hu:v.ownBlock with
    |none=>exact aal rfl
    |some l=>have h1:=h.lt hb' hx;have h2:=fF hv l hu;exact aah (by simp;omega)
  ·rw[aD _ _ ea]at ha;by_cases eb:b=i
   ·subst eb;rw[upd_same]at hb';cases hb';cases hu:u.ownBlock with
    |none=>exact aal rfl
    |some l=>refine aah ?_;intro e;have h1:=h.lt ha hu;have h2:=fF hv l e.symm;omega
   ·rw[aD _ _ eb]at hb';exact h.apart a b u ys x xs hab ha hb'
theorem aY.rename {W:aaa} {base:Nat} {R:aU}(h:aY W base R) {i j:Nat} {x:aab×List Int}(hi:R i=some x)(hij:i≠j) :aY W base (upd (upd R j (some x)) i Option.none) :=by
 refine⟨fun a u ys ha=> ?_,fun a b u ys x' xs hab ha hb=> ?_⟩
 ·by_cases e:a=i;·subst e;rw[upd_same]at ha;cases ha
  ·rw[aD _ _ e]at ha;by_cases e2:a=j;·subst e2;rw[upd_same]at ha;exact h.own i u ys (hi.trans ha)
   ·rw[aD _ _ e2]at ha;exact h.own a u ys ha
 ·have key: ∀a u ys,upd (upd R j (some x)) i Option.none a=some (u,ys)→∃a',R a'=some (u,ys)∧a'≠j∨(a=j∧R i=some (u,ys)) :=by
   intro a u ys ha;by_cases e:a=i;·subst e;rw[upd_same]at ha;cases ha
   ·rw[aD _ _ e]at ha;by_cases e2:a=j;·subst e2;rw[upd_same]at ha;exact⟨0,aah ⟨rfl,hi.trans ha⟩⟩
    ·rw[aD _ _ e2]at ha;exact⟨a,aal ⟨ha,e2⟩⟩
  by_cases ea:a=i;·subst ea;rw[upd_same]at ha;cases ha
  by_cases eb:b=i;·subst eb;rw[upd_same]at hb;cases hb
  rw[aD _ _ ea]at ha;rw[aD _ _ eb]at hb;by_cases ea2:a=j;·subst ea2;rw[upd_same]at ha;rw[aD _ _ (Ne.symm hab)]at hb;exact h.apart i b u ys x' xs (Ne.symm eb) (hi.trans ha) hb
  ·rw[aD _ _ ea2]at ha;by_cases eb2:b=j;·subst eb2;rw[upd_same]at hb;exact h.apart a i u ys x' xs ea ha (hi.trans hb)
   ·rw[aD _ _ eb2]at hb;exact h.apart a b u ys x' xs hab ha hb
theorem aY.grow {W W':aaa} {base:Nat} {R:aU}(h:aY W base R) {i:Nat} {v v':aab} {zs ys:List Int}(hi:R i=some (v,zs))(hg:W.grownBy W' v.ownBlock)(hv:W'.ownsRow base 3 1 v' ys.length (zI ys))(hat: ∀b,v'.ownBlock=some b→v.ownBlock=some b∨W.heap.size≤b) :aY W' base (upd R i (some (v',ys))) :=by
 have keep: ∀a u xs,a≠i→R a=some (u,xs)→W'.ownsRow base 3 1 u xs.length (zI xs) :=by
  intro a u xs ha hr;refine(h.own a u xs hr).kept hg ?_;rcases h.apart a i u xs v zs ha hr hi with h1|h1;·exact aal h1
  ·exact aah h1
 exact acQ
theorem sJ {W:aaa} {base g n cap:Nat} {zs:List Int}(h:W.ownsRow base 3 1 (.slice (some ⟨g,0,none⟩) n cap) n (zI zs)) {k:Nat}(hk:k<n)(x:Int) :(W.setCell ⟨g,k,none⟩ (.int .i64 x)).ownsRow base 3 1 (.slice (some ⟨g,0,none⟩) n cap) n (zI (zs.set k x)) :=by
 have hl:(zI zs).length=n*1:=h.1;refine⟨by simp[zI]at hl⊢;exact hl,?_⟩;rcases h.2 with⟨h',_⟩| ⟨g',c',cur,h1,h2,h3,h4,h5,h6,h7⟩;·simp at h'
 ·simp only[aaU,aaY,Addr.mk.injEq,and_true,true_and]at h1;obtain⟨rfl,rfl⟩ :=h1;refine aah ⟨g,cap,cur.setIfInBounds k (.int .i64 x),rfl,h2,aL h3 k _,h4,h5,by simpa using h6,?_⟩;rw[Array.toList_setIfInBounds,List.take_set,h7];simp[zI,List.map_set]
theorem aY.set {W:aaa} {base:Nat} {R:aU}(h:aY W base R) {i g cap:Nat} {zs:List Int}(hi:R i=some (.slice (some ⟨g,0,none⟩) zs.length cap,zs)) {k:Nat}(hk:k<zs.length)(x:Int) :aY (W.setCell ⟨g,k,none⟩ (.int .i64 x)) base (upd R i (some (.slice (some ⟨g,0,none⟩) zs.length cap,zs.set k x))) :=by
 have hown:=h.own i _ _ hi;refine⟨fun a u xs ha=> ?_,fun a b u xs x' ws hab ha hb=> ?_⟩
 ·by_cases e:a=i;·subst e;rw[upd_same]at ha;cases ha;rw[List.length_set];exact sJ hown hk x
  ·rw[aD _ _ e]at ha;refine aG (h.own a u xs ha) (fun b hb=>ay W g k _ b ?_);rintro rfl;rcases h.apart a i u xs _ zs e ha hi with h1|h1;·rw[hb]at h1;cases h1
   ·exact h1 hb
 ·by_cases ea:a=i;·subst ea;rw[upd_same]at ha;cases ha;rw[aD _ _ (Ne.symm hab)]at hb;exact h.apart a b _ _ x' ws hab hi hb
  ·rw[aD _ _ ea]at ha;by_cases eb:b=i;·subst eb;rw[upd_same]at hb;cases hb;exact h.apart a b u xs _ _ hab ha hi
   ·rw[aD _ _ eb]at hb;exact h.apart a b u xs x' ws hab ha hb
theorem aY.but {W W':aaa} {base:Nat} {R:aU} {X:Nat→Prop}(h:aY W base R)(hb:But X W W')(hx: ∀b,X b→∀cur,W.heap[b]?≠some (.cells cur 3)) :aY W' base R:=by refine⟨fun a v zs ha=>aG (h.own a v zs ha) (fun b hbk=> ?_),h.apart⟩;obtain⟨h1,cur,h2⟩ :=aA (h.own a v zs ha) hbk;exact hb.block b (Array.getElem?_eq_some_iff.1 h2).1 (fun hX=>hx b hX cur h2)
theorem aY.hold {W:aaa} {base:Nat} {R:aU}(h:aY W base R) {a:Nat} {v:aab} {zs:List Int}(ha:R a=some (v,zs)) :bD W v zs:=bD.own (h.own a v zs ha)
theorem But.grown {X:Nat→Prop} {a b c:aaa}(h:But X a b) {row:Option Nat}(hg:b.grownBy c row)(hx: ∀k,row=some k→X k∨a.heap.size≤k) :But X a c:=⟨hg.os.trans h.os,hg.tape.trans h.tape,hg.output.trans h.output,aaF h.size hg.size,fun i hi hn=>(hg.block i (aaE hi h.size) (fun e=>by
 rcases hx i e.symm with h1|h1;·exact hn h1
 ·omega)).trans (h.block i hi hn)⟩
section
variable {X Y:Type} [DecidableEq X] [DecidableEq Y]
def meet(o:List X)(y:X) :List X:=if y∈o then o else o++ [y]
def meets(o:List X)(l:List X) :List X:=l.foldl meet o
def eB(nx:X→List X) :Nat→Nat→List X→List X
 |0,_,o=>o
 |f+1,i,o=>match o[i]? with
 |none=>o
 |some x=>eB nx f (i+1) (meets o (nx x))
theorem jQ {o:List X} {y z:X} :z∈meet o y↔z∈o∨z=y:=by
 unfold meet;split
 ·rename_i h;constructor;·exact aal
  ·rintro(h1|rfl);·exact h1
   ·exact h
 ·simp
theorem GL {o:List X} {y:X}(h:o.Nodup) :(meet o y).Nodup:=by
 unfold meet;split;·exact h
 ·rename_i hn;rw[List.nodup_append];refine⟨h,by simp,?_⟩;intro a ha b hb;have e:b=y:=by simpa using hb
  subst e;intro e2;subst e2;exact hn ha
theorem ql(o:List X)(y:X) : ∃r,meet o y=o++r:=by
 unfold meet;split;·exact⟨[],by simp⟩
 ·exact⟨[y],rfl⟩
theorem jC {l:List X} : ∀ {o:List X} {z:X},z∈meets o l↔z∈o∨z∈l:=by
 induction l with
 |nil=>intro o z;simp[meets]
 |cons y t ih=>intro o z;show z∈meets (meet o y) t↔_;rw[ih,jQ,List.mem_cons,or_assoc]
theorem iW {l:List X} : ∀ {o:List X},o.Nodup→(meets o l).Nodup:=by
 induction l with
 |nil=>intro o h;exact h
 |cons y t ih=>intro o h;exact ih (GL h)
theorem xD(l:List X) : ∀(o:List X),∃r,meets o l=o++r:=by
 induction l with
 |nil=>intro o;exact⟨[],by simp[meets]⟩
 |cons y t ih=>intro o;obtain⟨r1,h1⟩ :=ql o y;obtain⟨r2,h2⟩ :=ih (meet o y);exact⟨r1++r2,by show meets (meet o y) t=_;rw[h2,h1,aa5]⟩
theorem zQ(o l:List X)(y:X) :meets o (l++ [y])=meet (meets o l) y:=by simp[meets]
theorem rX(nx:X→List X) : ∀(f i:Nat)(o:List X),∃r,eB nx f i o=o++r
 |0,i,o=>⟨[],by simp[eB]⟩
 |f+1,i,o=>by
  cases h:o[i]? with
  |none=>exact⟨[],by simp[eB,h]⟩
  |some x=>obtain⟨r1,h1⟩ :=xD (nx x) o;obtain⟨r2,h2⟩ :=rX nx f (i+1) (meets o (nx x));exact⟨r1++r2,by simp only[eB,h];rw[h2,h1,aa5]⟩
theorem I4(nx:X→List X) : ∀(f i:Nat)(o:List X),o.Nodup→(eB nx f i o).Nodup
 |0,i,o,h=>h
 |f+1,i,o,h=>by
  cases hx:o[i]? with
  |none=>simpa[eB,hx]using h
  |some x=>simp only[eB,hx];exact I4 nx f _ _ (iW h)
theorem ET(nx:X→List X) : ∀(f i:Nat)(o:List X),(eB nx f i o).length≤i+f→∀k,eB nx (f+k) i o=eB nx f i o
 |0,i,o,h,k=>by
  have h':o.length≤i:=by simpa[eB]using h
  cases k with
  |zero=>rfl
  |succ k=>simp[eB,abw h']
 |f+1,i,o,h,k=>by
  rw[show f+1+k=(f+k)+1 from by omega];cases hx:o[i]? with
  |none=>simp[eB,hx]
  |some x=>simp only[eB,hx]at h⊢;exact ET nx f (i+1) _ (by omega) k
theorem Mg(nx:X→List X) : ∀(f i:Nat)(o:List X),eB nx (f+1) i o=match(eB nx f i o)[i+f]? with
    |none=>eB nx f i o
    |some x=>meets (eB nx f i o) (nx x)
  |0,i,o=>by simp only[eB,Nat.add_zero]
  |f+1,i,o=>by
    cases hx:o[i]? with
    |none=>
      have e1:eB nx (f+1+1) i o=o:=by rw[eB,hx]
      have e2:eB nx (f+1) i o=o:=by rw[eB,hx]
      have h3:o[i+(f+1)]?=none:=by
        have:o.length≤i:=List.getElem?_eq_none_iff.1 hx
        exact abw (by omega)
      rw[e1,e2,h3]
    |some x=>
      have e1:eB nx (f+1+1) i o=eB nx (f+1) (i+1) (meets o (nx x)) :=by rw[eB,hx]
      have e2:eB nx (f+1) i o=eB nx f (i+1) (meets o (nx x)) :=by rw[eB,hx]
      rw[e1,e2,Mg nx f (i+1),show i+1+f=i+(f+1)from by omega]
theorem EC {nx:X→List X} {r x:X} {o:List X} {i:Nat}(h:eB nx i 0 [r]=o)(hx:o[i]?=some x) :eB nx (i+1) 0 [r]=meets o (nx x) :=by rw[Mg,h,abd,hx]
def fM(nx:X→List X)(r:X)(o:List X) :Prop:=∃f,eB nx f 0 [r]=o∧o.length≤f
theorem fM.uniq {nx:X→List X} {r:X} {o o':List X}(h:fM nx r o)(h':fM nx r o') :o=o':=by obtain⟨f,h1,h2⟩ :=h;obtain⟨g,h3,h4⟩ :=h';have e1:=ET nx f 0 [r] (by rw[h1];omega) g;have e2:=ET nx g 0 [r] (by rw[h3];omega) f;rw[←h1,←h3,←e1,←e2,Nat.add_comm]
theorem fM.head {nx:X→List X} {r:X} {o:List X}(h:fM nx r o) :o[0]?=some r:=by obtain⟨f,h1,_⟩ :=h;obtain⟨q,hq⟩ :=rX nx f 0 [r];rw[←h1,hq];rfl
theorem NT(nx:X→List X)(P:X→Prop)(hP: ∀x,P x→∀y∈nx x,P y) : ∀(f i:Nat)(o:List X),(∀x∈o,P x)→∀x∈eB nx f i o,P x
 |0,i,o,h=>h
 |f+1,i,o,h=>by
  cases hx:o[i]? with
  |none=>simpa[eB,hx]using h
  |some x=>
   simp only[eB,hx];refine NT nx P hP f _ _ ?_;intro z hz;rcases jC.1 hz with h1|h1;·exact h z h1
   ·exact hP x (h x (aaK hx)) z h1
theorem fM.all {nx:X→List X} {r:X} {o:List X}(h:fM nx r o)(P:X→Prop)(hr:P r)(hP: ∀x,P x→∀y∈nx x,P y) : ∀x∈o,P x:=by obtain⟨f,h1,_⟩ :=h;rw[←h1];exact NT nx P hP f 0 [r] (by simpa using hr)
theorem F5(nx:X→List X) : ∀(f i:Nat)(o:List X),(eB nx f i o).length≤i+f→(∀j x,j<i→o[j]?=some x→∀y∈nx x,y∈o)→∀x∈eB nx f i o,∀y∈nx x,y∈eB nx f i o
 |0,i,o,h,hc=>by
  intro x hx y hy;have h':o.length≤i:=by simpa[eB]using h
  obtain⟨j,hj⟩ :=List.mem_iff_getElem?.1 (show x∈o from hx);have hjl:j<o.length:=(List.getElem?_eq_some_iff.1 hj).1;exact hc j x (by omega) hj y hy
 |f+1,i,o,h,hc=>by
  cases hx:o[i]? with
  |none=>simp only[eB,hx];intro x hxm y hy;obtain⟨j,hj⟩ :=List.mem_iff_getElem?.1 hxm;have hjl:j<o.length:=(List.getElem?_eq_some_iff.1 hj).1;have:o.length≤i:=List.getElem?_eq_none_iff.1 hx;exact hc j x (by omega) hj y hy
  |some x=>
   simp only[eB,hx]at h⊢;refine F5 nx f (i+1) _ (by omega) ?_;intro j z hj hz y hy;obtain⟨r,hr⟩ :=xD (nx x) o;have hil:i<o.length:=(List.getElem?_eq_some_iff.1 hx).1;have hz':o[j]?=some z:=by rw[hr,List.getElem?_append_left (by omega)]at hz;exact hz
   by_cases hji:j=i;·subst hji;rw[hx]at hz';cases hz';exact jC.2 (aah hy)
   ·exact jC.2 (aal (hc j z (by omega) hz' y hy))
theorem fM.closed {nx:X→List X} {r:X} {o:List X}(h:fM nx r o) : ∀x∈o,∀y∈nx x,y∈o:=by obtain⟨f,h1,h2⟩ :=h;have:=F5 nx f 0 [r] (by rw[h1];omega) (fun j x hj=>absurd hj (by omega));rw[h1]at this;exact this
theorem Uw(φ:X→Y)(P:X→Prop)(inj: ∀x y,P x→P y→φ x=φ y→x=y)(l:List X) : ∀(o:List X),(∀x∈o,P x)→(∀x∈l,P x)→meets (o.map φ) (l.map φ)=(meets o l).map φ:=by
 induction l with
 |nil=>intro o _ _;rfl
 |cons y t ih=>
  intro o ho hl;have hy:=hl y (by simp);have e:meet (o.map φ) (φ y)=(meet o y).map φ:=by
   unfold meet;by_cases h:y∈o;·rw[if_pos h,if_pos (List.mem_map_of_mem h)]
   ·have h':φ y∉o.map φ:=by intro hc;obtain⟨x,hx,he⟩ :=List.mem_map.1 hc;have:=inj x y (ho x hx) hy he;subst this;exact h hx
    rw[if_neg h,if_neg h'];simp
  show meets (meet (o.map φ) (φ y)) (t.map φ)=_;rw[e,ih (meet o y) (fun x hx=>(jQ.1 hx).elim (ho x) (fun h=>h▸hy)) (fun x hx=>hl x (by simp[hx]))];rfl
theorem O1(nx:X→List X)(ny:Y→List Y)(φ:X→Y)(P:X→Prop)(inj: ∀x y,P x→P y→φ x=φ y→x=y)(hP: ∀x,P x→∀y∈nx x,P y)(hn: ∀x,P x→ny (φ x)=(nx x).map φ) : ∀(f i:Nat)(o:List X),(∀x∈o,P x)→eB ny f i (o.map φ)=(eB nx f i o).map φ
 |0,i,o,h=>rfl
 |f+1,i,o,h=>by
  cases hx:o[i]? with
  |none=>simp[eB,hx]
  |some x=>
   have hpx:=h x (aaK hx);have e:(o.map φ)[i]?=some (φ x) :=by simp[hx]
   simp only[eB,hx,e];rw[hn x hpx,Uw φ P inj _ o h (hP x hpx)];exact O1 nx ny φ P inj hP hn f (i+1) _ (fun z hz=>(jC.1 hz).elim (h z) (hP x hpx z))
theorem fM.map {nx:X→List X} {r:X} {o:List X}(h:fM nx r o)(ny:Y→List Y)(φ:X→Y)(P:X→Prop)(hr:P r)(inj: ∀x y,P x→P y→φ x=φ y→x=y)(hP: ∀x,P x→∀y∈nx x,P y)(hn: ∀x,P x→ny (φ x)=(nx x).map φ) :fM ny (φ r) (o.map φ) :=by obtain⟨f,h1,h2⟩ :=h;refine⟨f,?_,by simpa using h2⟩;rw[←h1,←O1 nx ny φ P inj hP hn f 0 [r] (by simpa using hr)];rfl
end
theorem iA: ∀(N:Nat)(l:List Nat),l.Nodup→(∀x∈l,x<N)→l.length≤N
 |0,l,_,h=>by
  cases l with
  |nil=>simp
  |cons a t=>exact absurd (h a (by simp)) (by omega)
 |N+1,l,hn,h=>by
  have h1:=iA N (l.erase N) (hn.erase N) (fun x hx=>by
   have h2:=h x (List.mem_of_mem_erase hx);have h3:x≠N:=by rintro rfl;exact absurd hx (by rw[hn.mem_erase_iff];simp)
   omega);have h4:=List.length_erase (a:=N) (l:=l);by_cases hm:N∈l;·rw[if_pos hm]at h4;have:=List.length_pos_of_mem hm;omega
  ·rw[if_neg hm]at h4;omega
theorem uY {X:Type}(l:List X)(hn:l.Nodup)(N:Nat)(dec:Nat→X)(h: ∀x∈l,∃c,c<N∧dec c=x) :l.length≤N:=by
 have hx: ∃f:X→Nat,∀x∈l,f x<N∧dec (f x)=x:=by refine⟨fun x=>open Classical in if hh: ∃c,c<N∧dec c=x then Classical.choose hh else 0,fun x hx=> ?_⟩;have hh:=h x hx;simp only[dif_pos hh];exact Classical.choose_spec hh
 obtain⟨f,hf⟩ :=hx;have h1:(l.map f).Nodup:=by rw[List.Nodup,List.pairwise_map];refine List.Pairwise.imp_of_mem ?_ hn;intro a b ha hb hab e;exact hab (by rw[←(hf a ha).2,←(hf b hb).2,e])
 have h2:=iA N (l.map f) h1 (fun y hy=>by obtain⟨x,hx,rfl⟩ :=List.mem_map.1 hy;exact(hf x hx).1);simpa using h2
theorem zh {X:Type}(l o:List X)(hn:l.Nodup)(h: ∀x∈l,x∈o) :l.length≤o.length:=by
 by_cases ho:o= []
 ·subst ho;cases l with
  |nil=>simp
  |cons a t=>exact absurd (h a (by simp)) (by simp)
 ·obtain⟨d,ho'⟩ :=List.exists_mem_of_ne_nil o ho;refine uY l hn o.length (fun c=>o.getD c d) (fun x hx=> ?_);obtain⟨c,hc⟩ :=List.mem_iff_getElem?.1 (h x hx);exact⟨c,(List.getElem?_eq_some_iff.1 hc).1,by simp[List.getD,hc]⟩
theorem YS(f:Nat→Nat)(c:Nat)(h: ∀y,y<c→∃x,x<c∧f x=y) : ∀i j,i<c→j<c→f i=f j→i=j:=by
 have key: ∀i j,i<j→j<c→f i=f j→False:=by
  intro i j hij hj he;have:=uY (aau c) abn (c-1) (fun d=>f (if d<j then d else d+1)) (fun y hy=>by
   obtain⟨x,hx,rfl⟩ :=h y (List.mem_range.1 hy);by_cases h1:x<j;·exact⟨x,by omega,by rw[if_pos h1]⟩
   ·by_cases h2:x=j;·subst h2;exact⟨i,by omega,by rw[if_pos hij,he]⟩
    ·refine⟨x-1,by omega,?_⟩;rw[if_neg (by omega)];congr 1;omega);simp at this;omega
 intro i j hi hj he;rcases Nat.lt_trichotomy i j with h1|h1|h1;·exact(key i j h1 hj he).elim
 ·exact h1
 ·exact(key j i h1 hi he.symm).elim
structure bK where
 fin:Nat→Bool
 nx:Nat→Nat→Nat
def bK.acc(A:bK) :Nat→List Nat→Bool
 |q,[]=>A.fin q
 |q,a::w=>A.acc (A.nx q a) w
abbrev jA:=List Nat→Bool
def bK.aW(A:bK)(S q:Nat) :jA:=fun w=>w.all (fun a=>decide (a<S)) &&A.acc q w
def kL(L:jA)(a:Nat) :jA:=fun w=>L (a::w)
theorem lG(A:bK)(S q:Nat) :A.aW S q []=A.fin q:=by simp[bK.aW,bK.acc]
theorem qA(A:bK) {S a:Nat}(q:Nat)(ha:a<S) :kL (A.aW S q) a=A.aW S (A.nx q a) :=by funext w;simp[kL,bK.aW,bK.acc,ha]
theorem ajC(A B:bK)(S:Nat)(R:Nat→Nat→Prop)(hf: ∀q r,R q r→A.fin q=B.fin r)(hn: ∀q r,R q r→∀a,a<S→R (A.nx q a) (B.nx r a)) : ∀q r,R q r→A.aW S q=B.aW S r:=by
 intro q r h;funext w;induction w generalizing q r with
 |nil=>rw[lG,lG,hf q r h]
 |cons a w ih=>
  by_cases ha:a<S;·have h1:=ih _ _ (hn q r h a ha);rw[←qA A q ha,←qA B r ha]at h1;exact h1
  ·simp[bK.aW,ha]
def bM:jA:=fun _=>false
structure Sys(X:Type)where
 fin:X→Bool
 aZ:X→Nat→X
 dead:X→Bool
abbrev aT:=Bool×List (Int×Int) ×Int
section
variable {X Y:Type} [DecidableEq X] [DecidableEq Y]
def ix(o:List X)(x:X) :Nat:=o.idxOf x
theorem lK {o:List X} {x:X}(h:x∈o) :o[ix o x]?=some x:=by have h1:=List.idxOf_lt_length_iff.2 h;unfold ix;rw[abx h1,List.getElem_idxOf]
theorem lM {o:List X} {x:X}(h:x∈o) :ix o x<o.length:=List.idxOf_lt_length_iff.2 h
theorem uP {o:List X}(hn:o.Nodup) {x:X} {i:Nat}(h:o[i]?=some x) :ix o x=i:=by have hx:x∈o:=aaK h;obtain⟨h2,h3⟩ :=List.getElem?_eq_some_iff.1 h;obtain⟨h4,h5⟩ :=List.getElem?_eq_some_iff.1 (lK hx);exact(List.getElem_inj (h₀:=h4) (h₁:=h2) hn).1 (h5.trans h3.symm)
theorem jr {o:List X} {x:X}(h:x∉o) :ix (o++ [x]) x=o.length:=by unfold ix;rw[abu,if_neg h];simp
theorem vL {o r:List X} {x:X}(h:x∈o) :ix (o++r) x=ix o x:=by unfold ix;rw[abu,if_pos h]
def Sys.told(T:Sys X)(m:Nat)(x:X) :List Nat:=(aau m).filter fun k=>decide (T.aZ x k≠T.aZ x m)
def Sys.nexts(T:Sys X)(m:Nat)(x:X) :List X:=((T.told m x).map (T.aZ x)++ [T.aZ x m]).filter fun y=> !T.dead y
def Sys.num(T:Sys X)(o:List X)(y:X) :Int:=if T.dead y=true then-1 else(ix o y:Int)
def Sys.state(T:Sys X)(m:Nat)(ls:List Int)(o:List X)(x:X) :aT:=(T.fin x,(T.told m x).map (fun k=>(ls.getD k 0,T.num o (T.aZ x k))),T.num o (T.aZ x m))
def Sys.dx(T:Sys X)(m:Nat)(ls:List Int)(r:X)(D:List aT) :Prop:=∃o,fM (T.nexts m) r o∧D=o.map (T.state m ls o)
theorem Sys.dx.uniq {T:Sys X} {m:Nat} {ls:List Int} {r:X} {D E:List aT}(h:T.dx m ls r D)(k:T.dx m ls r E) :D=E:=by obtain⟨o,h1,rfl⟩ :=h;obtain⟨p,k1,rfl⟩ :=k;rw[h1.uniq k1]
theorem BP(φ:X→Y)(P:X→Prop)(inj: ∀x y,P x→P y→φ x=φ y→x=y)(y:X)(hy:P y) : ∀(o:List X),(∀x∈o,P x)→ix (o.map φ) (φ y)=ix o y
 | [],_=>rfl
 |x::o,h=>by
  have ih:=BP φ P inj y hy o (fun z hz=>h z (by simp[hz]));unfold ix at ih⊢;rw[aa3,abt,abt,ih];by_cases e:x=y;·subst e;simp
  ·have e':φ x≠φ y:=fun he=>e (inj x y (h x (by simp)) hy he);have b1:(φ x==φ y)=false:=by simpa using e'
   have b2:(x==y)=false:=by simpa using e
   rw[b1,b2]
theorem Sys.dx.map {T:Sys X} {U:Sys Y} {m:Nat} {ls:List Int} {r:X} {D:List aT}(h:T.dx m ls r D)(φ:X→Y)(P:X→Prop)(hr:P r)(inj: ∀x y,P x→P y→φ x=φ y→x=y)(hP: ∀x,P x→∀k,k≤m→P (T.aZ x k))(hf: ∀x,P x→U.fin (φ x)=T.fin x)(ht: ∀x,P x→∀k,k≤m→φ (T.aZ x k)=U.aZ (φ x) k)(hd: ∀x,P x→U.dead (φ x)=T.dead x) :U.dx m ls (φ r) D:=by
 obtain⟨o,h1,rfl⟩ :=h;have told: ∀x,P x→U.told m (φ x)=T.told m x:=by intro x hx;unfold Sys.told;refine aa4 fun k hk=> ?_;have hk':k<m:=List.mem_range.1 hk;rw[←ht x hx k (by omega),←ht x hx m (aap m)];have:(φ (T.aZ x k)=φ (T.aZ x m))↔(T.aZ x k=T.aZ x m) :=⟨inj _ _ (hP x hx k (by omega)) (hP x hx m (aap m)),fun e=>by rw[e]⟩;simp[this]
 have MG: ∀x,∀k∈T.told m x,k<m:=fun x k hk=>List.mem_range.1 (List.mem_filter.1 hk).1;have Zd: ∀x,P x→∀y∈T.nexts m x,P y:=by
  intro x hx y hy;have:=(List.mem_filter.1 hy).1;rcases List.mem_append.1 this with h2|h2;·exact abb
  ·rw[List.mem_singleton.1 h2];exact hP x hx m (aap m)
 have nexts: ∀x,P x→U.nexts m (φ x)=(T.nexts m x).map φ:=by
  intro x hx;have e:(U.told m (φ x)).map (U.aZ (φ x))++ [U.aZ (φ x) m]=((T.told m x).map (T.aZ x)++ [T.aZ x m]).map φ:=by rw[told x hx,abp,aa1,←ht x hx m (aap m)];congr 1;refine aaL fun k hk=> ?_;rw[Function.comp_apply,ht x hx k (by have:=MG x k hk;omega)]
  unfold Sys.nexts;rw[e,List.filter_map];congr 1;refine aa4 fun y hy=> ?_;have hy':P y:=by
   rcases List.mem_append.1 hy with h2|h2;·exact abb
   ·rw[List.mem_singleton.1 h2];exact hP x hx m (aap m)
  simp[hd y hy']
 have hall:=h1.all P hr Zd;have num: ∀y,P y→U.num (o.map φ) (φ y)=T.num o y:=by intro y hy;unfold Sys.num;rw[hd y hy,BP φ P inj y hy o hall]
 refine⟨o.map φ,h1.map (U.nexts m) φ P hr inj Zd nexts,?_⟩;rw[aa1];refine aaL fun x hx=> ?_;have hx':=hall x hx;simp only[Function.comp_apply,Sys.state];rw[told x hx',hf x hx',←ht x hx' m (aap m),num _ (hP x hx' m (aap m))];congr 2;refine aaL fun k hk=> ?_;have hk':=MG x k hk;rw[←ht x hx' k (by omega),num _ (hP x hx' k (by omega))]
end
noncomputable instance aoq:DecidableEq jA:=fun a b=>Classical.propDecidable _
noncomputable def bS:Sys jA:=⟨fun L=>L [],kL,fun L=>decide (L=bM)⟩
theorem MK {m:Nat} {L:jA} {o:List jA}(h:fM (bS.nexts m) L o) : ∀(w:List Nat),(∀a∈w,a≤m)→∀K,(K∈o∨K=bM)→(w.foldl kL K∈o∨w.foldl kL K=bM) :=by
 intro w;induction w with
 |nil=>intro _ K hK;exact hK
 |cons a w ih=>
  intro hw K hK;refine ih (fun b hb=>hw b (by simp[hb])) (kL K a) ?_;have ha:=hw a (by simp);rcases hK with hK|rfl
  ·by_cases he:kL K a=bM;·exact aah he
   ·refine aal (h.closed K hK _ ?_);exact Zi
  ·exact aah rfl
theorem P8 {m:Nat} {ls:List Int} {L:jA} {D:List aT}(h:bS.dx m ls L D)(l:List jA)(hn:l.Nodup)(hl: ∀K∈l,∃w:List Nat,(∀a∈w,a≤m)∧K=w.foldl kL L) :l.length≤D.length+1:=by
 obtain⟨o,h1,rfl⟩ :=h;have:=zh l (o++ [bM]) hn (fun K hK=>by
  obtain⟨w,hw,rfl⟩ :=hl K hK;have h0:L∈o:=aaK h1.head;rcases MK h1 w hw L (aal h0)with h2|h2;·exact List.mem_append_left _ h2
  ·exact List.mem_append_right _ (by rw[h2];simp));simpa using this
def Shut(A:bK)(S n:Nat) :Prop:=∀q a,q<n→a<S→A.nx q a<n
def kY(A:bK)(S n:Nat)(κ:Nat→Nat) :Prop:=∀q r,q<n→r<n→A.aW S q=A.aW S r→κ q=κ r
def Stable(A:bK)(S n:Nat)(κ:Nat→Nat) :Prop:=∀q r,q<n→r<n→κ q=κ r→A.fin q=A.fin r∧∀a,a<S→κ (A.nx q a)=κ (A.nx r a)
def Parts(A:bK)(S n:Nat)(κ:Nat→Nat) :Prop:=∀q r,q<n→r<n→(κ q=κ r↔A.aW S q=A.aW S r)
theorem Stable.parts {A:bK} {S n:Nat} {κ:Nat→Nat}(hs:Shut A S n)(h:Stable A S n κ)(hc:kY A S n κ) :Parts A S n κ:=by intro q r hq hr;refine⟨fun e=> ?_,hc q r hq hr⟩;refine ajC A A S (fun x y=>x<n∧y<n∧κ x=κ y) (fun x y hh=>(h x y hh.1 hh.2.1 hh.2.2).1) (fun x y hh a ha=>⟨hs x a hh.1 ha,hs y a hh.2.1 ha,(h x y hh.1 hh.2.1 hh.2.2).2 a ha⟩) q r ⟨hq,hr,e⟩
theorem kY.step {A:bK} {S n:Nat} {κ:Nat→Nat}(hs:Shut A S n)(h:kY A S n κ) {q r:Nat}(hq:q<n)(hr:r<n)(e:A.aW S q=A.aW S r) :A.fin q=A.fin r∧∀a,a<S→κ (A.nx q a)=κ (A.nx r a) :=by refine⟨by rw[←lG A S q,←lG A S r,e],fun a ha=>h _ _ (hs q a hq ha) (hs r a hr ha) ?_⟩;rw[←qA A q ha,←qA A r ha,e]
def XW(A:bK)(κ rep:Nat→Nat)(dead:Nat→Bool) :Sys Nat:=⟨fun c=>A.fin (rep c),fun c k=>κ (A.nx (rep c) k),dead⟩
theorem Parts.least {A:bK} {m n:Nat} {κ rep:Nat→Nat} {dead:Nat→Bool} {ls:List Int} {D:List aT}(hs:Shut A (m+1) n)(h:Parts A (m+1) n κ)(h0:0<n)(hrep: ∀q,q<n→rep (κ q)<n∧κ (rep (κ q))=κ q)(ajL: ∀q,q<n→(dead (κ q)=true↔A.aW (m+1) q=bM))(hD:(XW A κ rep dead).dx m ls (κ 0) D) :bS.dx m ls (A.aW (m+1) 0) D:=by
 have iw: ∀q,q<n→A.aW (m+1) (rep (κ q))=A.aW (m+1) q:=fun q hq=>(h _ _ (hrep q hq).1 hq).1 (hrep q hq).2;rw[←iw 0 h0];refine Sys.dx.map hD (fun c=>A.aW (m+1) (rep c)) (fun c=>∃q,q<n∧c=κ q) ⟨0,h0,rfl⟩ ?_ ?_ ?_ ?_ ?_;·rintro x y⟨q,hq,rfl⟩⟨r,hr,rfl⟩e;rw[iw q hq,iw r hr]at e;exact(h q r hq hr).2 e
 ·rintro x⟨q,hq,rfl⟩k hk;exact⟨A.nx (rep (κ q)) k,hs _ k (hrep q hq).1 (by omega),rfl⟩
 ·intro x _;exact lG A (m+1) (rep x)
 ·rintro x⟨q,hq,rfl⟩k hk;have h1:A.nx (rep (κ q)) k<n:=hs _ k (hrep q hq).1 (by omega);show A.aW (m+1) (rep (κ (A.nx (rep (κ q)) k)))=kL (A.aW (m+1) (rep (κ q))) k;rw[qA A _ (show k<m+1 by omega),iw _ h1]
 ·rintro x⟨q,hq,rfl⟩;show decide (A.aW (m+1) (rep (κ q))=bM)=dead (κ q);rw[iw q hq];have:=ajL q hq;cases hd:dead (κ q)with
  |true=>simpa using this.1 hd
  |false=>simp only[decide_eq_false_iff_not];intro e;rw[this.2 e]at hd;cases hd
theorem Parts.dead {A:bK} {S n:Nat} {κ:Nat→Nat}(hs:Shut A S n)(h:Parts A S n κ) {q:Nat}(hq:q<n) :(A.fin q=false∧∀a,a<S→κ (A.nx q a)=κ q)↔A.aW S q=bM:=by
 constructor
 ·rintro⟨hf,hn⟩;have: ∀w r,r<n→κ r=κ q→A.aW S r w=false:=by
   intro w;induction w with
   |nil=>intro r hr e;have:=congrFun ((h r q hr hq).1 e) [];rw[this,lG,hf]
   |cons a w ih=>
    intro r hr e;by_cases ha:a<S
    ·have e2:=(h r q hr hq).1 e;have h3:A.aW S r (a::w)=A.aW S (A.nx q a) w:=by rw[e2,←qA A q ha];rfl
     rw[h3];exact ih _ (hs q a hq ha) (hn a ha)
    ·simp[bK.aW,ha]
  funext w;exact this w q hq rfl
 ·intro e;refine⟨by rw[←lG A S q,e];rfl,fun a ha=>(h _ _ (hs q a hq ha) hq).2 ?_⟩;rw[←qA A q ha,e];rfl
theorem Aa(A:bK) {m:Nat} : ∀(w:List Nat)(q:Nat),(∀a∈w,a≤m)→A.aW (m+1) (w.foldl A.nx q)=w.foldl kL (A.aW (m+1) q)
 | [],q,_=>rfl
 |a::w,q,h=>by rw[abz,abz,Aa A w _ (fun b hb=>h b (by simp[hb])),qA A q (show a<m+1 by have:=h a (by simp);omega)]
def iT(A:bK)(S:Nat)(κ:Nat→Nat)(q:Nat) :List Nat:=κ q::(aau S).map fun a=>κ (A.nx q a)
theorem EI {A:bK} {S:Nat} {κ:Nat→Nat} {q r:Nat} :iT A S κ q=iT A S κ r↔κ q=κ r∧∀a,a<S→κ (A.nx q a)=κ (A.nx r a) :=by unfold iT;rw[abC];refine and_congr_right fun _=>⟨fun h a ha=> ?_,fun h=>aaL fun a ha=>h a (List.mem_range.1 ha)⟩;have:=congrArg (fun l=>l[a]?) h;simpa[ha]using this
def bO(A:bK)(S:Nat)(κ:Nat→Nat)(i:Nat) :List (List Nat) :=meets [] ((aau i).map (iT A S κ))
theorem sQ(A:bK)(S:Nat)(κ:Nat→Nat)(i:Nat) :bO A S κ (i+1)=meet (bO A S κ i) (iT A S κ i) :=by unfold bO;rw[abl,abp,aa3,List.map_nil,zQ]
theorem BG(A:bK)(S:Nat)(κ:Nat→Nat)(i:Nat) :(bO A S κ i).Nodup:=iW (by simp)
theorem oF {A:bK} {S:Nat} {κ:Nat→Nat} {i:Nat} {s:List Nat} :s∈bO A S κ i↔∃q,q<i∧iT A S κ q=s:=by unfold bO;rw[jC];simp
theorem BZ(A:bK)(S:Nat)(κ:Nat→Nat) : ∀i,(bO A S κ i).length≤i
 |0=>by simp[bO,meets]
 |i+1=>by
  rw[sQ];have:=BZ A S κ i;unfold meet;split;·omega
  ·simp;omega
theorem PK(A:bK)(S:Nat)(κ:Nat→Nat) {i j:Nat}(h:i≤j) : ∃r,bO A S κ j=bO A S κ i++r:=by
 obtain⟨d,rfl⟩ : ∃d,j=i+d:=⟨j-i,by omega⟩;clear h;induction d with
 |zero=>exact⟨[],by simp⟩
 |succ d ih=>obtain⟨r,hr⟩ :=ih;obtain⟨r2,hr2⟩ :=ql (bO A S κ (i+d)) (iT A S κ (i+d));exact⟨r++r2,by rw[show i+(d+1)=i+d+1 from rfl,sQ,hr2,hr,aa5]⟩
def roundOf(A:bK)(S n:Nat)(κ:Nat→Nat)(q:Nat) :Nat:=ix (bO A S κ n) (iT A S κ q)
theorem uQ {A:bK} {S n:Nat} {κ:Nat→Nat} {q:Nat}(hq:q<n) :roundOf A S n κ q<(bO A S κ n).length:=lM (oF.2 ⟨q,hq,rfl⟩)
theorem Ad {A:bK} {S n:Nat} {κ:Nat→Nat} {q:Nat}(hq:q<n) :(bO A S κ n)[roundOf A S n κ q]?=some (iT A S κ q) :=lK (oF.2 ⟨q,hq,rfl⟩)
theorem Ab {A:bK} {S n:Nat} {κ:Nat→Nat} {q r:Nat}(hq:q<n)(hr:r<n) :roundOf A S n κ q=roundOf A S n κ r↔iT A S κ q=iT A S κ r:=by refine⟨fun h=> ?_,fun h=>by unfold roundOf;rw[h]⟩;have h1:=Ad (A:=A) (S:=S) (κ:=κ) hq;have h2:=Ad (A:=A) (S:=S) (κ:=κ) hr;rw[h,h2]at h1;exact(aa' h1).symm
theorem Kj {A:bK} {S n:Nat} {κ:Nat→Nat} {c:Nat}(hc:c<(bO A S κ n).length) : ∃q,q<n∧roundOf A S n κ q=c:=by have h1:=abx hc;obtain⟨q,hq,he⟩ :=oF.1 (List.getElem_mem hc);refine⟨q,hq,?_⟩;unfold roundOf;rw[he];exact uP (BG A S κ n) h1
def Onto(n:Nat)(κ:Nat→Nat)(c:Nat) :Prop:=(∀q,q<n→κ q<c)∧∀y,y<c→∃q,q<n∧κ q=y
def xC(A:bK)(n:Nat)(κ:Nat→Nat) :Prop:=∀q r,q<n→r<n→κ q=κ r→A.fin q=A.fin r
theorem QC(A:bK)(S n:Nat)(κ:Nat→Nat) :Onto n (roundOf A S n κ) (bO A S κ n).length:=⟨fun _ hq=>uQ hq,fun _ hy=>Kj hy⟩
theorem Lt {A:bK} {S n:Nat} {κ:Nat→Nat}(hs:Shut A S n)(h:kY A S n κ) :kY A S n (roundOf A S n κ) :=by intro q r hq hr e;exact(Ab hq hr).2 (EI.2 ⟨h q r hq hr e,(h.step hs hq hr e).2⟩)
theorem IA {A:bK} {S n:Nat} {κ:Nat→Nat}(h:xC A n κ) :xC A n (roundOf A S n κ) :=by intro q r hq hr e;exact h q r hq hr (EI.1 ((Ab hq hr).1 e)).1
theorem Gl {A:bK} {S n c:Nat} {κ:Nat→Nat}(h:Onto n κ c) : ∃f:Nat→Nat,(∀q,q<n→f (roundOf A S n κ q)=κ q)∧∀y,y<c→∃x,x<(bO A S κ n).length∧f x=y:=by
 refine⟨fun x=>((bO A S κ n).getD x []).headD 0,fun q hq=> ?_,fun y hy=> ?_⟩;·exact ZE
 ·obtain⟨q,hq,rfl⟩ :=h.2 y hy;refine⟨roundOf A S n κ q,uQ hq,?_⟩;exact ZE
theorem MC {A:bK} {S n c:Nat} {κ:Nat→Nat}(hs:Shut A S n)(ho:Onto n κ c)(hf:xC A n κ)(he:(bO A S κ n).length=c) :Stable A S n (roundOf A S n κ) :=by obtain⟨f,h1,h2⟩ :=Gl (A:=A) (S:=S) ho;rw[he]at h2;have inj:=YS f c h2;intro q r hq hr e;refine⟨IA hf q r hq hr e,fun a ha=> ?_⟩;have h3:=(EI.1 ((Ab hq hr).1 e)).2 a ha;have hqa:=hs q a hq ha;have hra:=hs r a hr ha;refine inj _ _ (by have:=uQ (A:=A) (S:=S) (κ:=κ) hqa;omega) (by have:=uQ (A:=A) (S:=S) (κ:=κ) hra;omega) ?_;rw[h1 _ hqa,h1 _ hra,h3]
theorem Ru {A:bK} {S n c:Nat} {κ:Nat→Nat}(ho:Onto n κ c) :c≤(bO A S κ n).length:=by obtain⟨f,h1,h2⟩ :=Gl (A:=A) (S:=S) ho;have:=uY (aau c) abn (bO A S κ n).length f (fun x hx=>h2 x (List.mem_range.1 hx));simpa using this
theorem Q9(A:bK)(S n:Nat) :kY A S n (fun q=>if A.fin q=true then 1 else 0)∧xC A n (fun q=>if A.fin q=true then 1 else 0) :=by
 constructor
 ·intro q r _ _ e;have:A.fin q=A.fin r:=by rw[←lG A S q,←lG A S r,e]
  simp[this]
 ·intro q r _ _ e;cases h1:A.fin q<;>cases h2:A.fin r<;>simp[h1,h2]at e⊢
def bF(last:Option Nat) :Nat→List Nat→List (Nat×Nat)
 |_,[]=>[]
 |k,v::t=>if last=some v then bF last (k+1) t else(k,v) ::bF (some v) (k+1) t
def runs(l:List Nat) :List (Nat×Nat) :=bF none 0 l
theorem Jy(l:List Nat)(v:Nat) : ∀(last:Option Nat)(k:Nat),bF last k (l++ [v])=bF last k l++(if l.getLast?.or last=some v then[]else[(k+l.length,v)]) :=by
 induction l with
 |nil=>intro last k;by_cases h:last=some v<;>simp[bF,h]
 |cons a t ih=>
  intro last k;have hl:(a::t).getLast?.or last=t.getLast?.or (some a) :=by rw[List.getLast?_cons];cases t.getLast?<;>simp
  rw[hl];simp only[abE,bF];by_cases h:last=some a;·rw[if_pos h,if_pos h,ih,h,show k+1+t.length=k+(a::t).length from by simp;omega]
  ·rw[if_neg h,if_neg h,ih,abE,show k+1+t.length=k+(a::t).length from by simp;omega]
theorem BL(l:List Nat)(v:Nat) :runs (l++ [v])=runs l++(if l.getLast?=some v then[]else[(l.length,v)]) :=by unfold runs;rw[Jy];cases l.getLast?<;>simp
theorem pV: ∀(l:List Nat)(last:Option Nat)(k:Nat)(p:Nat×Nat),p∈bF last k l→k≤p.1
 | [],_,_,p,h=>by simp[bF]at h
 |v::t,last,k,p,h=>by
  unfold bF at h;split at h;·have:=pV t last (k+1) p h;omega
  ·rcases List.mem_cons.1 h with rfl|h1;·exact aap _
   ·have:=pV t (some v) (k+1) p h1;omega
theorem wW: ∀(l l':List Nat)(last:Option Nat)(k:Nat),l.length=l'.length→bF last k l=bF last k l'→l=l'
 | [],[],_,_,_,_=>rfl
 | [],_::_,_,_,h,_=>by simp at h
 |_::_,[],_,_,h,_=>by simp at h
 |a::t,b::u,last,k,hl,h=>by
  have hl':t.length=u.length:=by simpa using hl
  unfold bF at h;by_cases h1:last=some a
  ·by_cases h2:last=some b;·rw[if_pos h1,if_pos h2]at h;have e:a=b:=aa' (h1.symm.trans h2);rw[e,wW t u last (k+1) hl' h]
   ·rw[if_pos h1,if_neg h2]at h;have:=pV t last (k+1) (k,b) (by rw[h];simp);exact absurd this (by simp)
  ·by_cases h2:last=some b;·rw[if_neg h1,if_pos h2]at h;have:=pV u last (k+1) (k,a) (by rw[←h];simp);exact absurd this (by simp)
   ·rw[if_neg h1,if_neg h2,abC]at h;obtain⟨h3,h4⟩ :=h;have e:a=b:=(Prod.mk.inj h3).2;subst e;rw[wW t u (some a) (k+1) hl' h4]
theorem XA {l l':List Nat}(hl:l.length=l'.length)(h:runs l=runs l') :l=l':=wW l l' none 0 hl h
def dJ(f:Nat→Nat)(last:Option Nat) :List (Nat×Nat)→List (Nat×Nat)
 | []=>[]
 | (k,v) ::t=>if last=some (f v)then dJ f last t else(k,f v) ::dJ f (some (f v)) t
theorem qY(f:Nat→Nat) : ∀(l:List Nat)(last:Option Nat)(k:Nat),dJ f (last.map f) (bF last k l)=bF (last.map f) k (l.map f)
 | [],_,_=>rfl
 |v::t,last,k=>by
  simp only[bF,aa3];by_cases h:last=some v;·rw[if_pos h,qY f t last (k+1),if_pos (by rw[h];rfl)]
  ·rw[if_neg h,dJ];by_cases h2:last.map f=some (f v);·rw[if_pos h2,if_pos h2,h2];exact qY f t (some v) (k+1)
   ·rw[if_neg h2,if_neg h2];have:=qY f t (some v) (k+1);rw[Option.map_some]at this;rw[this]
theorem JD(f:Nat→Nat)(l:List Nat) :dJ f none (runs l)=runs (l.map f) :=qY f l none 0
theorem vD: ∀(l:List Nat)(last:Option Nat)(k:Nat)(p:Nat×Nat),p∈bF last k l→p.2∈l∧p.1<k+l.length
 | [],_,_,p,h=>by simp[bF]at h
 |v::t,last,k,p,h=>by
  unfold bF at h;split at h;·have:=vD t last (k+1) p h;exact aba
  ·rcases List.mem_cons.1 h with rfl|h1;·simp
   ·have:=vD t (some v) (k+1) p h1;exact aba
theorem yA: ∀(l:List Nat)(last:Option Nat)(k:Nat),(∀p:Nat,(∀s,(bF last k l)[0]?=some s→p+k<s.1)→p<l.length→last=l[p]?)∧∀(i:Nat)(s:Nat×Nat),(bF last k l)[i]?=some s→k≤s.1∧∀p:Nat,s.1≤p+k→(∀u,(bF last k l)[i+1]?=some u→p+k<u.1)→p<l.length→l[p]?=some s.2
 | [],last,k=>by refine⟨fun p _ h=>by simp at h,fun i s h=>by simp[bF]at h⟩
 |v::t,last,k=>by
  by_cases hv:last=some v
  ·obtain⟨i1,i2⟩ :=yA t last (k+1);have e:bF last k (v::t)=bF last (k+1) t:=by rw[bF,if_pos hv]
   rw[e];refine⟨fun p hp hl=> ?_,fun i s hs=> ?_⟩
   ·cases p with
    |zero=>simpa using hv
    |succ p=>exact i1 p (fun s hs=>by have:=hp s hs;omega) (by simpa using hl)
   ·exact agF
  ·obtain⟨i1,i2⟩ :=yA t (some v) (k+1);have e:bF last k (v::t)=(k,v) ::bF (some v) (k+1) t:=by rw[bF,if_neg hv]
   rw[e];refine⟨fun p hp hl=> ?_,fun i s hs=> ?_⟩;·have:=hp (k,v) rfl;dsimp only at this;omega
   ·cases i with
    |zero=>
     have es:s=(k,v) :=by simpa using hs.symm
     subst es;refine⟨aap _,fun p hp hu hl=> ?_⟩;cases p with
     |zero=>rfl
     |succ p=>exact(i1 p (fun s hs=>by have:=hu s hs;omega) (by simpa using hl)).symm
    |succ i=>exact agF
theorem abY {l:List Nat} {i:Nat} {s:Nat×Nat}(h:(runs l)[i]?=some s) {p:Nat}(hp:s.1≤p)(hu: ∀u,(runs l)[i+1]?=some u→p<u.1)(hl:p<l.length) :l[p]?=some s.2:=((yA l none 0).2 i s h).2 p (by omega) (fun u hu'=>by have:=hu u hu';omega) hl
theorem sj {l:List Nat} {s:Nat×Nat}(h:s∈runs l) :s.2∈l∧s.1<l.length:=by have:=vD l none 0 s h;simpa using this
theorem Su {l:List Nat}(h:l≠ []) : ∃v t,runs l=(0,v) ::t:=by
 cases l with
 |nil=>exact absurd rfl h
 |cons a t=>exact⟨a,bF (some a) 1 t,by simp[runs,bF]⟩
theorem uG: ∀(l:List Nat)(last:Option Nat)(k:Nat),(bF last k l).Pairwise fun s u=>s.1<u.1
 | [],_,_=>by simp[bF]
 |v::t,last,k=>by
  unfold bF;split;·exact uG t last (k+1)
  ·refine List.pairwise_cons.2 ⟨fun u hu=> ?_,uG t (some v) (k+1)⟩;have:=pV t (some v) (k+1) u hu;dsimp only;omega
theorem SN {l:List Nat} {i:Nat} {s u:Nat×Nat}(h:(runs l)[i]?=some s)(hu:(runs l)[i+1]?=some u) :s.1<u.1:=by obtain⟨h1,h2⟩ :=List.getElem?_eq_some_iff.1 h;obtain⟨h3,h4⟩ :=List.getElem?_eq_some_iff.1 hu;rw[←h2,←h4];exact List.pairwise_iff_getElem.1 (uG l none 0) i (i+1) h1 h3 (by omega)
theorem WH {l:List Nat} {P:Nat→Prop}(h: ∀s∈runs l,P s.2) : ∀v∈l,P v:=by
 have key: ∀(l:List Nat)(last:Option Nat)(k:Nat),(∀v,last=some v→P v)→(∀s∈bF last k l,P s.2)→∀v∈l,P v:=by
  intro l;induction l with
  |nil=>intro _ _ _ _ v hv;simp at hv
  |cons a t ih=>
   intro last k hl hs v hv;unfold bF at hs;by_cases ha:last=some a
   ·rw[if_pos ha]at hs;rcases List.mem_cons.1 hv with rfl|hv;·exact hl _ ha
    ·exact ih last (k+1) hl hs v hv
   ·rw[if_neg ha]at hs;have h0:=hs (k,a) (by simp);rcases List.mem_cons.1 hv with rfl|hv;·exact h0
    ·exact ih (some a) (k+1) (fun w hw=>by cases hw;exact h0) (fun s hs'=>hs s (by simp[hs'])) v hv
 exact key l none 0 (fun v hv=>by cases hv) h
theorem Dj {l:List Nat}(h:l≠ []) :runs l≠ [] :=by
 cases l with
 |nil=>exact absurd rfl h
 |cons a t=>simp[runs,bF]
theorem aY.uS {W W':aaa} {base:Nat} {R:aU}(h:aY W base R) {i:Nat} {v v':aab} {zs ys:List Int}(hi:R i=some (v,zs))(hg:But (fun b=>v.ownBlock=some b) W W')(hv:W'.ownsRow base 3 1 v' ys.length (zI ys))(hat: ∀b,v'.ownBlock=some b→v.ownBlock=some b∨W.heap.size≤b) :aY W' base (upd R i (some (v',ys))) :=h.grow hi ⟨hg.os,hg.tape,hg.output,hg.size,fun b hb hn=>hg.block b hb (fun e=>hn e.symm)⟩ hv hat
theorem dm {W:aaa} {ops:Array Oper} {rest:List Oper} {o:Oper} {a:Act} {Q:Exit→Act→aaa→Prop}(hgd:o.guard=none)(s x:Operand)(t e:aaw)(ho:o.op= .call {callee:= .builtin .append,args:=#[s,x],argTypes:=#[t,t]})(i:TypeInfo)(z:aab)(bytes:Nat)(ht:Tryd.prog.underlying t=some (.slice e))(hi:Tryd.prog.info? e=some i)(hz:i.zero=some z)(hsize:i.size=1)(hby:i.bytes=bytes)(hzs:z.cells.size=1)(base:Nat)(v:aab)(n:Nat)(xs:List aab)(hs:a.eval s=v)(hown:W.ownsRow base e 1 v n xs)(y:aab)(hy:y.oneCell'=true)(hx:a.eval x= .slice (some ⟨W.heap.size,0,none⟩) 1 1)(hb:(n+1)*bytes≤140737488355328)(KA:0<bytes)(hbase:base≤W.heap.size)(h: ∀v' w',w'.ownsRow base e 1 v' (n+1) (xs++ [y])→But (fun b=>v.ownBlock=some b) W w'→(∀b,v'.ownBlock=some b→v.ownBlock=some b∨W.heap.size≤b)→v'≠ .slice none 0 0→wpList Tryd.prog ops Q rest (a.put o.dst v') w') :wpList Tryd.prog ops Q (o::rest) a (W.alloc (.cells #[y] e)) :=by
 have hn:n+1≤140737488355328:=aaF (Nat.le_mul_of_pos_right (n+1) KA) hb;refine wpList_append_own_at _ hgd s x t ho base e i z 1 bytes ht hi hz hsize hby hzs (by decide) v n xs hs (hown.alloc _) ⟨W.heap.size,0,none⟩ 1 1 [y] hx rfl ?_ ?_ (by unfold maxLen;omega) hb (by simp;omega) ?_
 ·intro j u hj;match j,hj with
  |0,hj=>simp at hj;subst hj;have:=aaR W (.cells #[y] e);rw[wS];exact aj this 0
  |j+1,hj=>simp at hj
 ·intro u hu;rw[List.mem_singleton.1 hu];exact hy
 ·exact afF
def JP(w:aaa)(v:aab)(bs:List Bool) :Prop:=∃ad cap,v= .slice ad bs.length cap∧(bs= []∨∃g off,ad=some ⟨g,off,none⟩∧g<w.heap.size∧∀t,t<bs.length→w.cell? ⟨g,off+t,none⟩=some (.bool (bs.getD t false)))
theorem JP.below {w w':aaa} {v:aab} {bs:List Bool}(h:JP w v bs)(hb:Below w.heap.size w w') :JP w' v bs:=by exact adC
def JK(w:aaa)(v:aab)(rs:List (List Nat)) :Prop:=∃ad cap,v= .slice ad rs.length cap∧(rs= []∨∃g off,ad=some ⟨g,off,none⟩∧g<w.heap.size∧∀t,t<rs.length→∃u,w.cell? ⟨g,off+t,none⟩=some u∧bD w u (aH (rs.getD t [])))
theorem JK.below {w w':aaa} {v:aab} {rs:List (List Nat)}(h:JK w v rs)(hb:Below w.heap.size w w') :JK w' v rs:=by
 obtain⟨ad,cap,rfl,h| ⟨g,off,rfl,hg,hc⟩⟩ :=h;·exact⟨ad,cap,rfl,aal h⟩
 ·refine⟨_,cap,rfl,aah ⟨g,off,rfl,aaE hg hb.size,fun t ht=> ?_⟩⟩;obtain⟨u,h1,h2⟩ :=hc t ht;exact⟨u,(hb.cell (p:=⟨g,off+t,none⟩) hg).trans h1,h2.below hb⟩
structure nV(w:aaa)(vf vn:aab)(ak:List Bool)(aB:List (List Nat))(S:Nat) :Prop where
 fin:JP w vf ak
 nx:JK w vn aB
 len:aB.length=ak.length
 pos:0<ak.length
 few:ak.length≤4294967296
 wide:0<S∧S≤1048577
 rows: ∀q,q<ak.length→(aB.getD q []).length=S∧∀a,a<S→(aB.getD q []).getD a 0<ak.length
def aM(ak:List Bool)(aB:List (List Nat)) :bK:=⟨fun q=>ak.getD q false,fun q a=>(aB.getD q []).getD a 0⟩
theorem nV.shut {w:aaa} {vf vn:aab} {ak:List Bool} {aB:List (List Nat)} {S:Nat}(h:nV w vf vn ak aB S) :Shut (aM ak aB) S ak.length:=fun q a hq ha=>(h.rows q hq).2 a ha
theorem nV.below {w w':aaa} {vf vn:aab} {ak:List Bool} {aB:List (List Nat)} {S:Nat}(h:nV w vf vn ak aB S)(hb:Below w.heap.size w w') :nV w' vf vn ak aB S:=⟨h.fin.below hb,h.nx.below hb,h.len,h.pos,h.few,h.wide,h.rows⟩
def WW(h c:Nat) :Nat:=(h*31+c) %1000003
def nP(s:List Nat) :Nat:=(s.tail.foldl WW (s.headD 0)) %1024
def rq(L:List (List Nat))(h:Nat) :List Nat:=(aau L.length).filter fun j=>decide (nP (L.getD j [])=h)
theorem acj {L:List (List Nat)} {h j:Nat} :j∈rq L h↔j<L.length∧nP (L.getD j [])=h:=by simp[rq]
theorem Ei(L:List (List Nat))(s:List Nat)(h:Nat) :rq (L++ [s]) h=if nP s=h then rq L h++ [L.length]else rq L h:=by
 have e: ∀j∈aau L.length,decide (nP ((L++ [s]).getD j [])=h)=decide (nP (L.getD j [])=h) :=by exact afy
 unfold rq;rw[List.length_append,List.length_singleton,abl,List.filter_append,aa4 e];by_cases hh:nP s=h;·simp[hh]
 ·simp[hh]
theorem acf(L:List (List Nat))(h:Nat) :(rq L h).length≤L.length:=by have:=List.length_filter_le (fun j=>decide (nP (L.getD j [])=h)) (aau L.length);simpa[rq]using this
end Go.Proofs.YtkbjimkngmlfcaaDoor
