import Derived.Test.YtkbjimkngmlfcaaDoorSetsJ09
open Array renaming getElem?_eq_none→abk,setIfInBounds_comm→aa8
open Go renaming World→aaa,Operand→aax,Value→aab,Oper→aar,wp_region_held→aaE,wpAnyH_done→aaU,frozen_of_row→aa4,wpOp_mono→aa3,ready_mono→aaR,getD_set_ne→aaV
open Go.Instr renaming makeMap→aa7,lookup→aaA
open Go.Region renaming Mode→aaT,ready→aau,binds→aaF
open Go.RowKit renaming Below→aat
open Go.RowKit.Below renaming refl→aaL,heap_alloc→aaw
open Go.WalkArith renaming wf_i64→aa5
open List renaming mem_cons_self→abd,mem_cons_of_mem→abf
open Nat renaming le_trans→aaK,lt_of_lt_of_le→aas,lt_or_ge→aa'
open Or renaming inl→aav,inr→aap
namespace Go.Proofs.YtkbjimkngmlfcaaDoor
open Go Go.RowKit
set_option linter.unusedVariables false
set_option linter.unusedSimpArgs false
set_option maxRecDepth 100000
set_option maxHeartbeats 4000000
theorem ahz {P:Prop}(h:P:=by
 have h1:=hall e he hb;have h0:=(mem_ready.1 hr).1;rw[heq]at h1;rcases Nat.lt_or_ge i listed.size with h'|h';·simp[h']at h0 h1;rw[h0]at h1;cases h1
 ·simp[Array.getElem?_eq_none h']at h1) :P:=h
theorem acz {P:Prop}(h:P:=by
 refine hfree k ok hk hki ?_ hno;by_cases hjk:j=k;·subst hjk;exact hjun
 ·rw[getD_set_ne true hjk]at hun;exact hun) :P:=h
theorem Tryd.infoG:(Tryd.prog.info? 103).map (fun i=>(i.zero,i.size,i.bytes))=some (some (.agg #[.int .i64 0,.int .i64 0,.int .i64 0]),3,24) :=by kernel_rfl
def ji:uz (Int×Int×Int) :=⟨103,98,101,3,(fun x=>Value.agg #[.int .i64 x.1,.int .i64 x.2.1,.int .i64 x.2.2]),fun x=>#[Value.int .i64 x.1,.int .i64 x.2.1,.int .i64 x.2.2],(fun x=>(-9223372036854775808≤x.1∧x.1≤9223372036854775807)∧(-9223372036854775808≤x.2.1∧x.2.1≤9223372036854775807)∧(-9223372036854775808≤x.2.2∧x.2.2≤9223372036854775807))⟩
theorem ajK:laidOutB Tryd.prog=true:=by kernel_rfl
theorem anc:WideMaps.KeyLaw Tryd.prog 103:=deep_law_laid ajK (m:=2) (by omega) (of_decide_eq_true (by kernel_rfl)) (by kernel_rfl) (by kernel_rfl)
theorem adO:Maps.Keyed Tryd.prog 103:=Maps.Keyed.of_law anc
theorem VM:Tryd.prog.cellsOf 103=3:=by kernel_rfl
theorem ajs:Tryd.prog.keyType 103=true:=by kernel_rfl
theorem Ud:Tryd.prog.cellsOf 3=1:=by kernel_rfl
theorem Vu:(ji).Ok:=by
 refine⟨Tryd.underlying98,adO,fun l h=> ?_,fun x y h=> ?_⟩
 ·obtain⟨a,b,c⟩ :=l;obtain⟨⟨la,ua⟩,⟨lb,ub⟩,⟨lc,uc⟩⟩ :=h;dsimp only at la ua lb ub lc uc;have wa:(Lit.int .i64 a).wf=true:=aa5 (by omega);have wb:(Lit.int .i64 b).wf=true:=aa5 (by omega);have wc:(Lit.int .i64 c).wf=true:=aa5 (by omega);obtain⟨m,hm⟩ : ∃m,Tryd.prog.types.size=m+1:=⟨Tryd.prog.types.size-1,by kernel_rfl⟩;have hf:(Value.agg #[.int .i64 a,.int .i64 b,.int .i64 c]).formed Tryd.prog 103=true:=by simp[Value.formed,Tryd.underlying103,VM]
  have hk:Tryd.prog.keyLits (Tryd.prog.types.size+1) 103 (Value.agg #[.int .i64 a,.int .i64 b,.int .i64 c]).cells.toList=some [.int .i64 a,.int .i64 b,.int .i64 c] :=by rw[hm];simp[Program.keyLits,Tryd.underlying103,Tryd.underlying3,VM,Ud,Value.cells,List.range,List.range.loop,wa,wb,wc]
  refine⟨.string (keyBytes [.int .i64 a,.int .i64 b,.int .i64 c]),?_⟩;show keyOf Tryd.prog 103 (Value.agg #[.int .i64 a,.int .i64 b,.int .i64 c])=_;unfold keyOf;rw[Tryd.underlying103];simp only[ajs,hf,Bool.and_self,if_true,hk,Option.map_some]
 ·obtain⟨a,b,c⟩ :=x;obtain⟨a',b',c'⟩ :=y;simpa[ji]using h
theorem agM(W W':aaa)(ρ:aax→aab)(o:aar)(m k v:aax)(ho:o.op= .mapUpdate 98 m k v)(vm vk vv:aab)(h1:ρ m=vm)(h2:ρ k=vk)(h3:ρ v=vv)(h:(Instr.mapUpdate 98 vm vk vv).run Tryd.prog W= .ok () W') :(execOp ρ o).run Tryd.prog W= .ok .skip W':=by exact WI
theorem FZ(W:aaa)(ρ:aax→aab)(o:aar)(y:aax)(ho:o.op= .buildSlice 99 1 #[(0,y)])(x:(Int×Int×Int))(hx:ρ y= .agg #[.int .i64 x.1,.int .i64 x.2.1,.int .i64 x.2.2]) :(execOp ρ o).run Tryd.prog W= .ok (.value (.slice (some ⟨W.heap.size,0,none⟩) 1 1)) (W.alloc (.cells #[.int .i64 x.1,.int .i64 x.2.1,.int .i64 x.2.2] 103)) :=by exact uA
theorem Fa(W:aaa)(ρ:aax→aab)(o:aar)(x:aax)(ho:o.op= .load 99 x)(b off n c:Nat)(ad:Option Addr)(hx:ρ x= .pointer (some ⟨b,off,none⟩))(h0:W.cell? ⟨b,off,none⟩=some (.slice ad n c)) :(execOp ρ o).run Tryd.prog W= .ok (.value (.slice ad n c)) W:=by exact vG
theorem NA(W:aaa)(ρ:aax→aab)(o:aar)(x y:aax)(ho:o.op= .store 99 x y)(b off g n c:Nat)(u:aab)(hx:ρ x= .pointer (some ⟨b,off,none⟩))(hy:ρ y= .slice (some ⟨g,0,none⟩) n c)(hc:W.cell? ⟨b,off,none⟩=some u)(hf:W.frozen? ⟨b,off,none⟩=false) :(execOp ρ o).run Tryd.prog W= .ok .skip (W.setCell ⟨b,off,none⟩ (.slice (some ⟨g,0,none⟩) n c)) :=by exact yu
theorem Dv {W:aaa} {ops:Array aar} {i:Nat} {o:aar} {a:Act} {K:Act→aaa→Prop} {Q:Exit→Act→aaa→Prop}(vP:ops[i]?=some o)(hw:Region.wanted o (yielded ops a.tmps)=true)(hgd:o.guard=none)(s x:aax)
    (ho:o.op= .call {callee:= .builtin .append,args:=#[s,x],argTypes:=#[99,99]})(i0:TypeInfo)(hi:Tryd.prog.info? 103=some i0)(hz:i0.zero=some (.agg #[.int .i64 0,.int .i64 0,.int .i64 0]))(hsize:i0.size=3)(hby:i0.bytes=24)
    (base:Nat)(v:aab)(n:Nat)(xs:List aab)(hs:a.eval s=v)(hown:W.ownsRow base 103 3 v n xs)(k:(Int×Int×Int))(ad:Nat)(had:ad=W.heap.size)(hx:a.eval x= .slice (some ⟨ad,0,none⟩) 1 1)(hb:(n+1)*24≤140737488355328)(hbase:base≤W.heap.size)
    (h: ∀g cap w',w'.ownsRow base 103 3 (.slice (some ⟨g,0,none⟩) (n+1) cap) (n+1) (xs++((ji).cells k).toList)→But (fun b=>v.ownBlock=some b) W w'→(∀b,(Value.slice (some ⟨g,0,none⟩) (n+1) cap).ownBlock=some b→v.ownBlock=some b∨W.heap.size≤b)→K (a.put o.dst (.slice (some ⟨g,0,none⟩) (n+1) cap)) w') :
    wpOp Tryd.prog ops Q i K a (W.alloc (.cells ((ji).cells k) 103)) :=by
  refine mo vP hw ?_
  have:=lN (ops:=ops) (E:=True) (Q:=Q) hgd s x 99 103 ho i0 (.agg #[.int .i64 0,.int .i64 0,.int .i64 0]) 3 24 Tryd.underlying99 hi hz hsize hby rfl (by decide) base v n xs hs hown ((ji).cells k) rfl (by intro y hy;simp[ji]at hy;rcases hy with rfl|rfl|rfl<;>rfl) ad had hx hb (by decide) hbase h
  rwa [if_pos hw]at this
theorem abX(w:aaa) :(binOp BinOp.eql 98 (.map none) (.map none)).run Tryd.prog w= .ok (.bool true) w:=by first|kernel_rfl|simp[binOp,Tryd.underlying98]|go_simp
theorem YR(w:aaa)(mb:Nat) :(binOp BinOp.eql 98 (.map (some mb)) (.map none)).run Tryd.prog w= .ok (.bool false) w:=by first|kernel_rfl|simp[binOp,Tryd.underlying98]|go_simp
theorem YJ(w:aaa) :(aa7 98 none).run Tryd.prog w= .ok (.map (some w.heap.size)) (w.alloc (.map #[] 0)) :=by first|kernel_rfl|simp[aa7,Tryd.underlying98]|go_simp
theorem Qu(base sb:Nat)(vm vs:aab)(L:List (Int×Int×Int))(x:(Int×Int×Int))(W:aaa)(hok:(ji).ok x)(hb:(L.length+1)*24≤140737488355328)(hbase:base≤W.heap.size)(h:bA ji W base sb vm vs L) :Calls Tryd.prog 59 #[.pointer (some ⟨sb,0,none⟩),(ji).enc x] W (Gd ji W base sb vm vs L x) :=by
 obtain⟨i0,hi0,hz0,hz1,hz2⟩ :=info_parts Tryd.infoG;have hW:aat W.heap.size W (W.alloc (.cells #[.int .i64 x.1,.int .i64 x.2.1,.int .i64 x.2.2] 103)) :=(aaL _ _).alloc (Nat.le_refl _) _;have hbx:(W.alloc (.cells #[.int .i64 x.1,.int .i64 x.2.1,.int .i64 x.2.2] 103)).heap[W.heap.size]?=some (.cells #[.int .i64 x.1,.int .i64 x.2.1,.int .i64 x.2.2] 103) :=heap_alloc_new _ _;have hz:(W.alloc (.cells #[.int .i64 x.1,.int .i64 x.2.1,.int .i64 x.2.2] 103)).heap.size=W.heap.size+1:=by simp
 have h0:=h.below hW;have hmn:=abX;have hms:=YR;have lT:Hid (∀b,bB sb vm vs b→b≠W.heap.size) :=fun b hb' e=>by have:=(h.blk hb').1;omega
 have jO:=h.oks;have hnd:=h.nodup;show Calls Tryd.prog 59 #[.pointer (some ⟨sb,0,none⟩),.agg #[.int .i64 x.1,.int .i64 x.2.1,.int .i64 x.2.2]] W _;go_enter Tryd.func59,Tryd.ntmps59;go_wp2_with fail;clear h;generalize hW0:W.alloc (.cells #[.int .i64 x.1,.int .i64 x.2.1,.int .i64 x.2.2] 103)=W0 at*;clear hW0;generalize hn0:W.heap.size=n0 at*;have wD:=ah hn0;have HW:=ah hW;have HZ:=ah hz;have uN:=ah hbx;have H0:=ah h0;have c0:W0.cell? ⟨sb,0,none⟩=some vm:=aj h0.box 0;have b0:W0.cell? ⟨n0,0,none⟩=some (.int .i64 x.1) :=aj hbx 0;have b1:W0.cell? ⟨n0,1,none⟩=some (.int .i64 x.2.1) :=aj hbx 1;have b2:W0.cell? ⟨n0,2,none⟩=some (.int .i64 x.2.2) :=aj hbx 2;clear hn0 hW hz hbx;obtain⟨ad,cp,rfl⟩ : ∃ad cp,vs= .slice ad L.length cp:=by exact WE
 by_cases hx:x∈L
 ·obtain⟨mb,rfl,hm1,hm2⟩ : ∃mb,vm= .map (some mb)∧base≤mb∧jy ji W0 mb L:=by exact QX
  obtain⟨j,h1,h2⟩ : ∃j:Nat,L[j]?=some x∧(aaA 98 (.map (some mb)) (.agg #[.int .i64 x.1,.int .i64 x.2.1,.int .i64 x.2.2]) true).run Tryd.prog W0.drew= .ok (.tuple #[.int .i64 (j:Int),.bool true]) W0.drew:=by
   rcases(hm2.keep (w':=W0.drew) rfl).look Vu jO x hok with⟨h1,_⟩| ⟨j,h1,h2⟩;·exact absurd hx h1
   ·exact⟨j,h1,h2⟩
  have HJ:Hid (ix L x=j) :=uP hnd h1;have HM:=ah (dZ hx);clear h0 h1 hm2 hx hnd jO;refine aaE (S:=fun u=>u.cell? ⟨sb,0,none⟩=some (.map (some mb))∧u.cell? ⟨n0,0,none⟩=some (.int .i64 x.1)∧u.cell? ⟨n0,1,none⟩=some (.int .i64 x.2.1)∧u.cell? ⟨n0,2,none⟩=some (.int .i64 x.2.2)∧(aaA 98 (.map (some mb)) (.agg #[.int .i64 x.1,.int .i64 x.2.1,.int .i64 x.2.2]) true).run Tryd.prog u= .ok (.tuple #[.int .i64 (j:Int),.bool true]) u) (by kernel_rfl) ?_;have hS:(fun u=>u.cell? ⟨sb,0,none⟩=some (.map (some mb))∧u.cell? ⟨n0,0,none⟩=some (.int .i64 x.1)∧u.cell? ⟨n0,1,none⟩=some (.int .i64 x.2.1)∧u.cell? ⟨n0,2,none⟩=some (.int .i64 x.2.2)∧(aaA 98 (.map (some mb)) (.agg #[.int .i64 x.1,.int .i64 x.2.1,.int .i64 x.2.2]) true).run Tryd.prog u= .ok (.tuple #[.int .i64 (j:Int),.bool true]) u) ({heap:=W0.heap,tape:=W0.tape,drawn:=W0.drawn+1,os:=W0.os,output:=W0.output} :aaa) :=⟨c0,b0,b1,b2,h2⟩
  exact aiy
 ·have HI:Hid (ix (meet L x) x=L.length) :=by show _=_;rw[cK hx,jr hx]
  have HM:=ah (cK hx);have HX:=ah hx;have j4:=ah jO;have wI:Hid (∀y∈L++ [x],(ji).ok y) :=fun y hy=>by exact WX
  have Cb:Hid ((L++ [x]).Nodup) :=by exact Wn
  have hln:((L.length:Nat) :Int)≤140737488355328:=by omega
  rcases h0.map with⟨rfl,hl⟩| ⟨mb,rfl,hmb,hmk⟩
  ·have h2:=look_nil Vu W0.drew x hok;have HL:=ah hl;clear h0 hl hx hnd jO;refine aaE (S:=fun u=>u.cell? ⟨sb,0,none⟩=some (.map none)∧u.cell? ⟨n0,0,none⟩=some (.int .i64 x.1)∧u.cell? ⟨n0,1,none⟩=some (.int .i64 x.2.1)∧u.cell? ⟨n0,2,none⟩=some (.int .i64 x.2.2)∧(aaA 98 (.map none) (.agg #[.int .i64 x.1,.int .i64 x.2.1,.int .i64 x.2.2]) true).run Tryd.prog u= .ok (.tuple #[.int .i64 0,.bool false]) u) (by kernel_rfl) ?_;have hS:(fun u=>u.cell? ⟨sb,0,none⟩=some (.map none)∧u.cell? ⟨n0,0,none⟩=some (.int .i64 x.1)∧u.cell? ⟨n0,1,none⟩=some (.int .i64 x.2.1)∧u.cell? ⟨n0,2,none⟩=some (.int .i64 x.2.2)∧(aaA 98 (.map none) (.agg #[.int .i64 x.1,.int .i64 x.2.1,.int .i64 x.2.2]) true).run Tryd.prog u= .ok (.tuple #[.int .i64 0,.bool false]) u) ({heap:=W0.heap,tape:=W0.tape,drawn:=W0.drawn+1,os:=W0.os,output:=W0.output} :aaa) :=⟨c0,b0,b1,b2,h2⟩
   have hBd:aat W0.heap.size W0 ({heap:=W0.heap,tape:=W0.tape,drawn:=W0.drawn+1,os:=W0.os,output:=W0.output} :aaa) :=(aaL _ _).drew;generalize({heap:=W0.heap,tape:=W0.tape,drawn:=W0.drawn+1,os:=W0.os,output:=W0.output} :aaa)=W1 at*;try refine tn ?_
   refine tx 0 ?_ (hS:=hS);refine tx 1 ?_ (hS:=hS);refine tx 2 ?_ (hS:=hS);refine tx 3 ?_ (hS:=hS);refine tx 4 ?_ (v:= .agg #[.int .i64 x.1,.int .i64 x.2.1,.int .i64 x.2.2]) (hS:=hS);refine tx 5 ?_ (v:= .tuple #[.int .i64 0,.bool false]) (hS:=hS);refine tx 6 ?_ (hS:=hS);refine tx 7 ?_ (hS:=hS);refine tx 8 ?_ (hS:=hS);refine tx 9 ?_ (hS:=hS);refine tx 10 ?_ (hS:=hS);refine aaU (by kernel_rfl) ?_ _;have H1:=ah (H0.out.below hBd);have jT:=ah (aC uN.out hBd);have jX:=ah hBd;have KY:(aa7 98 none).run Tryd.prog W1= .ok (.map (some W1.heap.size)) (W1.alloc (.map #[] 0)) :=YJ W1;have hsb:=H1.out.lt;have uC:(W1.alloc (.map #[] 0)).heap[sb]?=some (.cells #[.map none,.slice ad L.length cp] 101) :=(aaw _ _ _ hsb).trans H1.out.box;have hb2:((W1.alloc (.map #[] 0)).setCell ⟨sb,0,none⟩ (.map (some W1.heap.size))).heap[sb]?=some (.cells #[.map (some W1.heap.size),.slice ad L.length cp] 101) :=by exact Xw
   have gW:Hid (jy ji ((W1.alloc (.map #[] 0)).setCell ⟨sb,0,none⟩ (.map (some W1.heap.size))) W1.heap.size L) :=by exact XD
   have H7:n0≠sb:=fun e=>lT.out sb (aav rfl) e.symm;have jw:((W1.alloc (.map #[] 0)).setCell ⟨sb,0,none⟩ (.map (some W1.heap.size))).heap[n0]?=some (.cells #[.int .i64 x.1,.int .i64 x.2.1,.int .i64 x.2.2] 103) :=by exact V7
   have dO:Hid (((W1.alloc (.map #[] 0)).setCell ⟨sb,0,none⟩ (.map (some W1.heap.size))).ownsRow base 103 3 (.slice ad L.length cp) L.length (gV ji L)) :=aG H1.out.row (fun b hk=>by obtain⟨_,cur,h2⟩ :=aA H1.out.row hk;rw[ay _ sb 0 _ b (aN h2 H1.out.box (by decide)),aaw _ _ _ (Array.getElem?_eq_some_iff.1 h2).1]);have xQ:Hid (W1.heap.size≠sb) :=by show _≠_;omega
   have Cy:Hid (W1.heap.size≠n0) :=by have:=(Array.getElem?_eq_some_iff.1 jT.out).1;show _≠_;omega
   have hB1:aat n0 W W1:=HW.out.trans (hBd.mono (by rw[HZ.out];omega));have kT:Hid (But (bB sb (.map none) (.slice ad L.length cp)) W ((W1.alloc (.map #[] 0)).setCell ⟨sb,0,none⟩ (.map (some W1.heap.size)))) :=((But.of_below (by rw[wD.out];exact hB1)).alloc _).set sb 0 _ (aav rfl);have yD:Hid (Value.map none= .map (some W1.heap.size)∨W.heap.size≤W1.heap.size) :=aap hB1.size;have wP:Hid (bB sb (.map none) (.slice ad L.length cp) W1.heap.size∨W.heap.size≤W1.heap.size) :=aap hB1.size;have mF:Hid (base≤W1.heap.size) :=aaK hbase (by rw[←wD.out];exact hB1.size);have hcap2:base≤((W1.alloc (.map #[] 0)).setCell ⟨sb,0,none⟩ (.map (some W1.heap.size))).heap.size:=by have:=mF.out;simp;omega
   have OG: ∀j,(W1.alloc (.map #[] 0)).frozen? ⟨sb,j,none⟩=false:=fun j=>aa4 _ sb j _ _ uC;have cA:(W1.alloc (.map #[] 0)).cell? ⟨sb,0,none⟩=some (.map none) :=aj uC 0;have cB:W1.cell? ⟨sb,0,none⟩=some (.map none) :=aj H1.out.box 0;have cC:((W1.alloc (.map #[] 0)).setCell ⟨sb,0,none⟩ (.map (some W1.heap.size))).cell? ⟨sb,1,none⟩=some (.slice ad L.length cp) :=aj hb2 1;clear hS h2 c0 b0 b1 b2 hBd hsb H7 uC hB1;go_wp2_with fail;clear cA cB cC OG KY;generalize(W1.alloc (.map #[] 0)).setCell ⟨sb,0,none⟩ (.map (some W1.heap.size))=W2 at*;generalize W1.heap.size=mb at*;have d0:W2.cell? ⟨sb,0,none⟩=some (.map (some mb)) :=aj hb2 0;have e0:W2.cell? ⟨n0,0,none⟩=some (.int .i64 x.1) :=aj jw 0;have e1:W2.cell? ⟨n0,1,none⟩=some (.int .i64 x.2.1) :=aj jw 1;have e2:W2.cell? ⟨n0,2,none⟩=some (.int .i64 x.2.2) :=aj jw 2;refine aaE (S:=fun u=>u.cell? ⟨sb,0,none⟩=some (.map (some mb))∧u.cell? ⟨n0,0,none⟩=some (.int .i64 x.1)∧u.cell? ⟨n0,1,none⟩=some (.int .i64 x.2.1)∧u.cell? ⟨n0,2,none⟩=some (.int .i64 x.2.2)) (by kernel_rfl) ?_
   have dV:(fun u=>u.cell? ⟨sb,0,none⟩=some (.map (some mb))∧u.cell? ⟨n0,0,none⟩=some (.int .i64 x.1)∧u.cell? ⟨n0,1,none⟩=some (.int .i64 x.2.1)∧u.cell? ⟨n0,2,none⟩=some (.int .i64 x.2.2)) ({heap:=W2.heap,tape:=W2.tape,drawn:=W2.drawn+1,os:=W2.os,output:=W2.output} :aaa) :=⟨d0,e0,e1,e2⟩;have cO:aat W2.heap.size W2 ({heap:=W2.heap,tape:=W2.tape,drawn:=W2.drawn+1,os:=W2.os,output:=W2.output} :aaa) :=(aaL _ _).drew;generalize({heap:=W2.heap,tape:=W2.tape,drawn:=W2.drawn+1,os:=W2.os,output:=W2.output} :aaa)=Wd at*;try refine tn ?_
   refine tx 0 ?_ (hS:=dV);refine tx 1 ?_ (hS:=dV);refine tx 2 ?_ (hS:=dV);refine tx 3 ?_ (hS:=dV);refine tx 4 ?_ (v:= .agg #[.int .i64 x.1,.int .i64 x.2.1,.int .i64 x.2.2]) (hS:=dV);refine tx 5 ?_ (hS:=dV);obtain⟨W3,hput,mU,hg3,hz3⟩ :=(gW.out.keep (cO.block _ gW.out.lt)).put Vu j4.out x hok HX.out;try refine tn ?_
   refine aF 6 (by kernel_rfl) ?_;refine bI W3 rfl (by kernel_rfl) (agM _ _ _ _ _ _ _ rfl _ _ _ (by kernel_rfl) (by kernel_rfl) (by kernel_rfl) hput) ?_;have hb3:W3.heap[sb]?=some (.cells #[.map (some mb),.slice ad L.length cp] 101) :=(hg3.block sb (aas (Array.getElem?_eq_some_iff.1 hb2).1 cO.size) (fun e=>xQ.out (by simpa using e.symm))).trans (aC hb2 cO);have gJ:W3.heap[n0]?=some (.cells #[.int .i64 x.1,.int .i64 x.2.1,.int .i64 x.2.2] 103) :=(hg3.block n0 (aas (Array.getElem?_eq_some_iff.1 jw).1 cO.size) (fun e=>Cy.out (by simpa using e.symm))).trans (aC jw cO);refine⟨⟨aj hb3 0,aj gJ 0,aj gJ 1,aj gJ 2⟩,?_⟩;try refine tn ?_
   refine aaU (by kernel_rfl) ?_ _;have iC:Hid (W3.ownsRow base 103 3 (.slice ad L.length cp) L.length (gV ji L)) :=aG dO.out (fun b hk=>(hg3.block b (aas (Array.getElem?_eq_some_iff.1 (aA dO.out hk).2.choose_spec).1 cO.size) (fun e=>by
    obtain⟨_,cur,h2⟩ :=aA dO.out hk;obtain⟨es,c,h3,_⟩ :=gW.out;have e':b=mb:=by simpa using e
    rw[e',h3]at h2;cases h2)).trans (cO.block b (Array.getElem?_eq_some_iff.1 (aA dO.out hk).2.choose_spec).1));have jJ:Hid (But (bB sb (.map none) (.slice ad L.length cp)) W W3) :=(kT.out.trans (But.of_below (X:=fun _=>False) cO) (fun _ _ h=>h) (fun _ _ h=>h.elim)).grown hg3 (fun k hk=>by
    have:mb=k:=by simpa using hk
    subst this;exact wP.out);have qP:base≤W3.heap.size:=by rw[hz3];exact aaK hcap2 cO.size
   have uu:=ah mU;have HB3:=ah hb3;have dR:=ah gJ;have f1:W3.cell? ⟨sb,1,none⟩=some (.slice ad L.length cp) :=aj hb3 1;clear hput mU hg3 hz3 dV cO d0;go_wp2_with fail;refine aaE (S:=fun u=>u.cell? ⟨n0,0,none⟩=some (.int .i64 x.1)∧u.cell? ⟨n0,1,none⟩=some (.int .i64 x.2.1)∧u.cell? ⟨n0,2,none⟩=some (.int .i64 x.2.2)) (by kernel_rfl) ?_;have fI:(fun u=>u.cell? ⟨n0,0,none⟩=some (.int .i64 x.1)∧u.cell? ⟨n0,1,none⟩=some (.int .i64 x.2.1)∧u.cell? ⟨n0,2,none⟩=some (.int .i64 x.2.2)) ({heap:=W3.heap,tape:=W3.tape,drawn:=W3.drawn+1,os:=W3.os,output:=W3.output} :aaa) :=⟨aj gJ 0,aj gJ 1,aj gJ 2⟩;have bT:aat W3.heap.size W3 ({heap:=W3.heap,tape:=W3.tape,drawn:=W3.drawn+1,os:=W3.os,output:=W3.output} :aaa) :=(aaL _ _).drew;generalize({heap:=W3.heap,tape:=W3.tape,drawn:=W3.drawn+1,os:=W3.os,output:=W3.output} :aaa)=We at*
   have hb4:We.heap[sb]?=some (.cells #[.map (some mb),.slice ad L.length cp] 101) :=aC HB3.out bT;try refine tn ?_
   refine tx 0 ?_ (hS:=fI);refine tx 1 ?_ (hS:=fI);refine tx 2 ?_ (hS:=fI);refine tx 3 ?_ (hS:=fI);refine tx 5 ?_ (v:= .agg #[.int .i64 x.1,.int .i64 x.2.1,.int .i64 x.2.2]) (hS:=fI);have lY:(fun u=>u.cell? ⟨n0,0,none⟩=some (.int .i64 x.1)∧u.cell? ⟨n0,1,none⟩=some (.int .i64 x.2.1)∧u.cell? ⟨n0,2,none⟩=some (.int .i64 x.2.2)) (We.alloc (.cells #[.int .i64 x.1,.int .i64 x.2.1,.int .i64 x.2.2] 103)) :=⟨(aj ((aaw We (.cells #[.int .i64 x.1,.int .i64 x.2.1,.int .i64 x.2.2] 103) n0 (aas (Array.getElem?_eq_some_iff.1 dR.out).1 bT.size)).trans (aC dR.out bT)) 0),(aj ((aaw We (.cells #[.int .i64 x.1,.int .i64 x.2.1,.int .i64 x.2.2] 103) n0 (aas (Array.getElem?_eq_some_iff.1 dR.out).1 bT.size)).trans (aC dR.out bT)) 1),(aj ((aaw We (.cells #[.int .i64 x.1,.int .i64 x.2.1,.int .i64 x.2.2] 103) n0 (aas (Array.getElem?_eq_some_iff.1 dR.out).1 bT.size)).trans (aC dR.out bT)) 2)⟩
   have dD:(We.alloc (.cells #[.int .i64 x.1,.int .i64 x.2.1,.int .i64 x.2.2] 103)).heap[sb]?=some (.cells #[.map (some mb),.slice ad L.length cp] 101) :=(aaw _ _ _ (Array.getElem?_eq_some_iff.1 hb4).1).trans hb4;refine bX 4 6 (by kernel_rfl) ?VA ?Tt;case' VA=>
    refine aP _ _ rfl (by kernel_rfl) (Fa _ _ _ _ rfl sb 1 L.length cp ad (by kernel_rfl) (aj hb4 1)) ?_;refine⟨fI,?_⟩;try refine tn ?_
    refine aF 6 (by kernel_rfl) ?_;refine aP _ _ rfl (by kernel_rfl) (FZ _ _ _ _ rfl x (by kernel_rfl)) ?_;refine⟨lY,?_⟩;try refine tn ?_
   case' Tt=>
    refine aP _ _ rfl (by kernel_rfl) (FZ _ _ _ _ rfl x (by kernel_rfl)) ?_;refine⟨lY,?_⟩;try refine tn ?_
    refine aF 4 (by kernel_rfl) ?_;refine aP _ _ rfl (by kernel_rfl) (Fa _ _ _ _ rfl sb 1 L.length cp ad (by kernel_rfl) (aj dD 1)) ?_;refine⟨lY,?_⟩;try refine tn ?_
   all_goals
    refine aF 7 (by kernel_rfl) ?_;refine Dv rfl (by kernel_rfl) rfl _ _ rfl i0 hi0 hz0 hz1 hz2 base _ L.length (gV ji L) (by kernel_rfl) (aG iC.out (fun b hk=>bT.block b (Array.getElem?_eq_some_iff.1 (aA iC.out hk).2.choose_spec).1)) x We.heap.size rfl (by kernel_rfl) hb (aaK qP bT.size) ?_;intro g c W4 gY dH fD;have HP:=bA.pushed (K:=ji) (by decide) hb4 (uu.out.keep (bT.block _ uu.out.lt)) mF.out (aG iC.out (fun b hk=>bT.block b (Array.getElem?_eq_some_iff.1 (aA iC.out hk).2.choose_spec).1)) dH gY Cb.out wI.out;have hb5:W4.heap[sb]?=some (.cells #[.map (some mb),.slice ad L.length cp] 101) :=HP.2;have dM:W4.heap[n0]?=some (.cells #[.int .i64 x.1,.int .i64 x.2.1,.int .i64 x.2.2] 103) :=(dH.block n0 (aas (Array.getElem?_eq_some_iff.1 dR.out).1 bT.size) (fun e=>lT.out n0 (aap (aap e)) rfl)).trans (aC dR.out bT)
    refine⟨⟨aj dM 0,aj dM 1,aj dM 2⟩,?_⟩;try refine tn ?_
    refine tx 8 ?_ (hS:=⟨aj dM 0,aj dM 1,aj dM 2⟩);refine tx 9 ?_ (hS:=⟨aj dM 0,aj dM 1,aj dM 2⟩);refine aF 10 (by kernel_rfl) ?_;refine bI _ rfl (by kernel_rfl) (NA _ _ _ _ _ rfl sb 1 g (L.length+1) c _ (by kernel_rfl) (by kernel_rfl) (aj hb5 1) (aa4 _ sb 1 _ _ hb5)) ?_;have nG:(W4.setCell ⟨sb,1,none⟩ (.slice (some ⟨g,0,none⟩) (L.length+1) c)).heap[n0]?=some (.cells #[.int .i64 x.1,.int .i64 x.2.1,.int .i64 x.2.2] 103) :=(ay W4 sb 1 _ n0 (fun e=>lT.out sb (aav rfl) e.symm)).trans dM;refine⟨⟨aj nG 0,aj nG 1,aj nG 2⟩,?_⟩;exact zc5
  ·have h2:(aaA 98 (.map (some mb)) (.agg #[.int .i64 x.1,.int .i64 x.2.1,.int .i64 x.2.2]) true).run Tryd.prog W0.drew= .ok (.tuple #[.int .i64 0,.bool false]) W0.drew:=by
    rcases(hmk.keep (w':=W0.drew) rfl).look Vu jO x hok with⟨_,h4⟩| ⟨j,h4,_⟩;·exact h4
    ·exact JR
   clear h0 hx hnd jO;refine aaE (S:=fun u=>u.cell? ⟨sb,0,none⟩=some (.map (some mb))∧u.cell? ⟨n0,0,none⟩=some (.int .i64 x.1)∧u.cell? ⟨n0,1,none⟩=some (.int .i64 x.2.1)∧u.cell? ⟨n0,2,none⟩=some (.int .i64 x.2.2)∧(aaA 98 (.map (some mb)) (.agg #[.int .i64 x.1,.int .i64 x.2.1,.int .i64 x.2.2]) true).run Tryd.prog u= .ok (.tuple #[.int .i64 0,.bool false]) u) (by kernel_rfl) ?_;have hS:(fun u=>u.cell? ⟨sb,0,none⟩=some (.map (some mb))∧u.cell? ⟨n0,0,none⟩=some (.int .i64 x.1)∧u.cell? ⟨n0,1,none⟩=some (.int .i64 x.2.1)∧u.cell? ⟨n0,2,none⟩=some (.int .i64 x.2.2)∧(aaA 98 (.map (some mb)) (.agg #[.int .i64 x.1,.int .i64 x.2.1,.int .i64 x.2.2]) true).run Tryd.prog u= .ok (.tuple #[.int .i64 0,.bool false]) u) ({heap:=W0.heap,tape:=W0.tape,drawn:=W0.drawn+1,os:=W0.os,output:=W0.output} :aaa) :=⟨c0,b0,b1,b2,h2⟩
   have hBd:aat W0.heap.size W0 ({heap:=W0.heap,tape:=W0.tape,drawn:=W0.drawn+1,os:=W0.os,output:=W0.output} :aaa) :=(aaL _ _).drew;generalize({heap:=W0.heap,tape:=W0.tape,drawn:=W0.drawn+1,os:=W0.os,output:=W0.output} :aaa)=W1 at*;try refine tn ?_
   refine tx 0 ?_ (hS:=hS);refine tx 1 ?_ (hS:=hS);refine tx 2 ?_ (hS:=hS);refine tx 3 ?_ (hS:=hS);refine tx 4 ?_ (v:= .agg #[.int .i64 x.1,.int .i64 x.2.1,.int .i64 x.2.2]) (hS:=hS);refine tx 5 ?_ (v:= .tuple #[.int .i64 0,.bool false]) (hS:=hS);refine tx 6 ?_ (hS:=hS);refine tx 7 ?_ (hS:=hS);refine tx 8 ?_ (hS:=hS);refine tx 9 ?_ (hS:=hS);refine tx 10 ?_ (hS:=hS);refine aaU (by kernel_rfl) ?_ _;have H1:=ah (H0.out.below hBd);have hb2:=H1.out.box;have jw:=aC uN.out hBd;have gW:=ah (hmk.keep (hBd.block _ hmk.lt));have dO:=ah H1.out.row;have xQ:Hid (mb≠sb) :=by exact Y0
   have Cy:Hid (mb≠n0) :=lT.out mb (aap (aav rfl));have kT:Hid (But (bB sb (.map (some mb)) (.slice ad L.length cp)) W W1) :=But.of_below (by rw[wD.out];exact HW.out.trans (hBd.mono (by rw[HZ.out];omega)));have yD:Hid (Value.map (some mb)= .map (some mb)∨W.heap.size≤mb) :=aav rfl;have wP:Hid (bB sb (.map (some mb)) (.slice ad L.length cp) mb∨W.heap.size≤mb) :=aav (aap (aav rfl));have mF:=ah hmb;have hcap2:base≤W1.heap.size:=aaK hbase (aaK (by rw[HZ.out];omega) hBd.size);have cB:W1.cell? ⟨sb,0,none⟩=some (.map (some mb)) :=aj hb2 0;have cC:W1.cell? ⟨sb,1,none⟩=some (.slice ad L.length cp) :=aj hb2 1;clear hS h2 c0 b0 b1 b2 hBd hmk hmb;go_wp2_with fail;clear cB cC;generalize W1=W2 at*;have d0:W2.cell? ⟨sb,0,none⟩=some (.map (some mb)) :=aj hb2 0;have e0:W2.cell? ⟨n0,0,none⟩=some (.int .i64 x.1) :=aj jw 0
   have e1:W2.cell? ⟨n0,1,none⟩=some (.int .i64 x.2.1) :=aj jw 1;have e2:W2.cell? ⟨n0,2,none⟩=some (.int .i64 x.2.2) :=aj jw 2;refine aaE (S:=fun u=>u.cell? ⟨sb,0,none⟩=some (.map (some mb))∧u.cell? ⟨n0,0,none⟩=some (.int .i64 x.1)∧u.cell? ⟨n0,1,none⟩=some (.int .i64 x.2.1)∧u.cell? ⟨n0,2,none⟩=some (.int .i64 x.2.2)) (by kernel_rfl) ?_;have dV:(fun u=>u.cell? ⟨sb,0,none⟩=some (.map (some mb))∧u.cell? ⟨n0,0,none⟩=some (.int .i64 x.1)∧u.cell? ⟨n0,1,none⟩=some (.int .i64 x.2.1)∧u.cell? ⟨n0,2,none⟩=some (.int .i64 x.2.2)) ({heap:=W2.heap,tape:=W2.tape,drawn:=W2.drawn+1,os:=W2.os,output:=W2.output} :aaa) :=⟨d0,e0,e1,e2⟩;have cO:aat W2.heap.size W2 ({heap:=W2.heap,tape:=W2.tape,drawn:=W2.drawn+1,os:=W2.os,output:=W2.output} :aaa) :=(aaL _ _).drew;generalize({heap:=W2.heap,tape:=W2.tape,drawn:=W2.drawn+1,os:=W2.os,output:=W2.output} :aaa)=Wd at*
   try refine tn ?_
   refine tx 0 ?_ (hS:=dV);refine tx 1 ?_ (hS:=dV);refine tx 2 ?_ (hS:=dV);refine tx 3 ?_ (hS:=dV);refine tx 4 ?_ (v:= .agg #[.int .i64 x.1,.int .i64 x.2.1,.int .i64 x.2.2]) (hS:=dV);refine tx 5 ?_ (hS:=dV);obtain⟨W3,hput,mU,hg3,hz3⟩ :=(gW.out.keep (cO.block _ gW.out.lt)).put Vu j4.out x hok HX.out;try refine tn ?_
   refine aF 6 (by kernel_rfl) ?_;refine bI W3 rfl (by kernel_rfl) (agM _ _ _ _ _ _ _ rfl _ _ _ (by kernel_rfl) (by kernel_rfl) (by kernel_rfl) hput) ?_;have hb3:W3.heap[sb]?=some (.cells #[.map (some mb),.slice ad L.length cp] 101) :=(hg3.block sb (aas (Array.getElem?_eq_some_iff.1 hb2).1 cO.size) (fun e=>xQ.out (by simpa using e.symm))).trans (aC hb2 cO);have gJ:W3.heap[n0]?=some (.cells #[.int .i64 x.1,.int .i64 x.2.1,.int .i64 x.2.2] 103) :=(hg3.block n0 (aas (Array.getElem?_eq_some_iff.1 jw).1 cO.size) (fun e=>Cy.out (by simpa using e.symm))).trans (aC jw cO);refine⟨⟨aj hb3 0,aj gJ 0,aj gJ 1,aj gJ 2⟩,?_⟩;try refine tn ?_
   refine aaU (by kernel_rfl) ?_ _;have iC:Hid (W3.ownsRow base 103 3 (.slice ad L.length cp) L.length (gV ji L)) :=aG dO.out (fun b hk=>(hg3.block b (aas (Array.getElem?_eq_some_iff.1 (aA dO.out hk).2.choose_spec).1 cO.size) (fun e=>by
    obtain⟨_,cur,h2⟩ :=aA dO.out hk;obtain⟨es,c,h3,_⟩ :=gW.out;have e':b=mb:=by simpa using e
    rw[e',h3]at h2;cases h2)).trans (cO.block b (Array.getElem?_eq_some_iff.1 (aA dO.out hk).2.choose_spec).1));have jJ:Hid (But (bB sb (.map (some mb)) (.slice ad L.length cp)) W W3) :=(kT.out.trans (But.of_below (X:=fun _=>False) cO) (fun _ _ h=>h) (fun _ _ h=>h.elim)).grown hg3 (fun k hk=>by
    have:mb=k:=by simpa using hk
    subst this;exact wP.out);have qP:base≤W3.heap.size:=by rw[hz3];exact aaK hcap2 cO.size
   have uu:=ah mU;have HB3:=ah hb3;have dR:=ah gJ;have f1:W3.cell? ⟨sb,1,none⟩=some (.slice ad L.length cp) :=aj hb3 1;clear hput mU hg3 hz3 dV cO d0;go_wp2_with fail;refine aaE (S:=fun u=>u.cell? ⟨n0,0,none⟩=some (.int .i64 x.1)∧u.cell? ⟨n0,1,none⟩=some (.int .i64 x.2.1)∧u.cell? ⟨n0,2,none⟩=some (.int .i64 x.2.2)) (by kernel_rfl) ?_;have fI:(fun u=>u.cell? ⟨n0,0,none⟩=some (.int .i64 x.1)∧u.cell? ⟨n0,1,none⟩=some (.int .i64 x.2.1)∧u.cell? ⟨n0,2,none⟩=some (.int .i64 x.2.2)) ({heap:=W3.heap,tape:=W3.tape,drawn:=W3.drawn+1,os:=W3.os,output:=W3.output} :aaa) :=⟨aj gJ 0,aj gJ 1,aj gJ 2⟩;have bT:aat W3.heap.size W3 ({heap:=W3.heap,tape:=W3.tape,drawn:=W3.drawn+1,os:=W3.os,output:=W3.output} :aaa) :=(aaL _ _).drew;generalize({heap:=W3.heap,tape:=W3.tape,drawn:=W3.drawn+1,os:=W3.os,output:=W3.output} :aaa)=We at*
   have hb4:We.heap[sb]?=some (.cells #[.map (some mb),.slice ad L.length cp] 101) :=aC HB3.out bT;try refine tn ?_
   refine tx 0 ?_ (hS:=fI);refine tx 1 ?_ (hS:=fI);refine tx 2 ?_ (hS:=fI);refine tx 3 ?_ (hS:=fI);refine tx 5 ?_ (v:= .agg #[.int .i64 x.1,.int .i64 x.2.1,.int .i64 x.2.2]) (hS:=fI);have lY:(fun u=>u.cell? ⟨n0,0,none⟩=some (.int .i64 x.1)∧u.cell? ⟨n0,1,none⟩=some (.int .i64 x.2.1)∧u.cell? ⟨n0,2,none⟩=some (.int .i64 x.2.2)) (We.alloc (.cells #[.int .i64 x.1,.int .i64 x.2.1,.int .i64 x.2.2] 103)) :=⟨(aj ((aaw We (.cells #[.int .i64 x.1,.int .i64 x.2.1,.int .i64 x.2.2] 103) n0 (aas (Array.getElem?_eq_some_iff.1 dR.out).1 bT.size)).trans (aC dR.out bT)) 0),(aj ((aaw We (.cells #[.int .i64 x.1,.int .i64 x.2.1,.int .i64 x.2.2] 103) n0 (aas (Array.getElem?_eq_some_iff.1 dR.out).1 bT.size)).trans (aC dR.out bT)) 1),(aj ((aaw We (.cells #[.int .i64 x.1,.int .i64 x.2.1,.int .i64 x.2.2] 103) n0 (aas (Array.getElem?_eq_some_iff.1 dR.out).1 bT.size)).trans (aC dR.out bT)) 2)⟩
   have dD:(We.alloc (.cells #[.int .i64 x.1,.int .i64 x.2.1,.int .i64 x.2.2] 103)).heap[sb]?=some (.cells #[.map (some mb),.slice ad L.length cp] 101) :=(aaw _ _ _ (Array.getElem?_eq_some_iff.1 hb4).1).trans hb4;refine bX 4 6 (by kernel_rfl) ?Us ?UX;case' Us=>
    refine aP _ _ rfl (by kernel_rfl) (Fa _ _ _ _ rfl sb 1 L.length cp ad (by kernel_rfl) (aj hb4 1)) ?_;refine⟨fI,?_⟩;try refine tn ?_
    refine aF 6 (by kernel_rfl) ?_;refine aP _ _ rfl (by kernel_rfl) (FZ _ _ _ _ rfl x (by kernel_rfl)) ?_;refine⟨lY,?_⟩;try refine tn ?_
   case' UX=>
    refine aP _ _ rfl (by kernel_rfl) (FZ _ _ _ _ rfl x (by kernel_rfl)) ?_;refine⟨lY,?_⟩;try refine tn ?_
    refine aF 4 (by kernel_rfl) ?_;refine aP _ _ rfl (by kernel_rfl) (Fa _ _ _ _ rfl sb 1 L.length cp ad (by kernel_rfl) (aj dD 1)) ?_;refine⟨lY,?_⟩;try refine tn ?_
   all_goals
    refine aF 7 (by kernel_rfl) ?_;refine Dv rfl (by kernel_rfl) rfl _ _ rfl i0 hi0 hz0 hz1 hz2 base _ L.length (gV ji L) (by kernel_rfl) (aG iC.out (fun b hk=>bT.block b (Array.getElem?_eq_some_iff.1 (aA iC.out hk).2.choose_spec).1)) x We.heap.size rfl (by kernel_rfl) hb (aaK qP bT.size) ?_;intro g c W4 gY dH fD;have HP:=bA.pushed (K:=ji) (by decide) hb4 (uu.out.keep (bT.block _ uu.out.lt)) mF.out (aG iC.out (fun b hk=>bT.block b (Array.getElem?_eq_some_iff.1 (aA iC.out hk).2.choose_spec).1)) dH gY Cb.out wI.out;have hb5:W4.heap[sb]?=some (.cells #[.map (some mb),.slice ad L.length cp] 101) :=HP.2;have dM:W4.heap[n0]?=some (.cells #[.int .i64 x.1,.int .i64 x.2.1,.int .i64 x.2.2] 103) :=(dH.block n0 (aas (Array.getElem?_eq_some_iff.1 dR.out).1 bT.size) (fun e=>lT.out n0 (aap (aap e)) rfl)).trans (aC dR.out bT)
    refine⟨⟨aj dM 0,aj dM 1,aj dM 2⟩,?_⟩;try refine tn ?_
    refine tx 8 ?_ (hS:=⟨aj dM 0,aj dM 1,aj dM 2⟩);refine tx 9 ?_ (hS:=⟨aj dM 0,aj dM 1,aj dM 2⟩);refine aF 10 (by kernel_rfl) ?_;refine bI _ rfl (by kernel_rfl) (NA _ _ _ _ _ rfl sb 1 g (L.length+1) c _ (by kernel_rfl) (by kernel_rfl) (aj hb5 1) (aa4 _ sb 1 _ _ hb5)) ?_;have nG:(W4.setCell ⟨sb,1,none⟩ (.slice (some ⟨g,0,none⟩) (L.length+1) c)).heap[n0]?=some (.cells #[.int .i64 x.1,.int .i64 x.2.1,.int .i64 x.2.2] 103) :=(ay W4 sb 1 _ n0 (fun e=>lT.out sb (aav rfl) e.symm)).trans dM;refine⟨⟨aj nG 0,aj nG 1,aj nG 2⟩,?_⟩;exact zc4
section
variable {P:Program} {md:aaT} {ops:Array aar} {Q:Exit→Act→aaa→Prop} {S:aaa→Prop} {z:Nat}
def dL(P:Program)(md:aaT)(ops:Array aar)(Q:Exit→Act→aaa→Prop)(S:aaa→Prop)(z:Nat) :Nat→Array Bool→Act→aaa→Prop
 |0,listed,a,w=>aau md ops listed= []∧Q .normal a w
 |fuel+1,listed,a,w=>(aau md ops listed= []→Q .normal a w)∧∀i∈aau md ops listed,wpOp P ops Q i (fun a' w'=>((listed.setIfInBounds i true).getD z false=true∨S w')∧dL P md ops Q S z fuel (listed.setIfInBounds i true) a' w') a w
theorem GA: ∀(fuel:Nat)(listed:Array Bool)(a:Act)(w:aaa),dL P md ops Q S z fuel listed a w→wpAny P md ops Q fuel listed a w
 |0,_,_,_,h=>h
 |fuel+1,_,_,_,h=>⟨h.1,fun i hi=>aa3 (fun a' w' h'=>GA fuel _ a' w' h'.2) (h.2 i hi)⟩
def waits(md:aaT)(ops:Array aar)(i j:Nat) :Bool:=((ops[j]?).map fun o=>o.after.any fun e=>aaF md e&&e.on==i).getD false
def Da(md:aaT)(ops:Array aar)(z:Nat) :Nat→List Nat→Bool
 |i,[]=>i==z
 |i,j::l=>waits md ops i j&&Da md ops z j l
theorem RY {i j:Nat} {listed:Array Bool}(h:waits md ops i j=true)(hi:listed.getD i true=false) :j∉aau md ops listed:=fun hj=>by
 obtain⟨_,o,ho,hall⟩ :=mem_ready.1 hj;simp only[waits,ho,Option.map_some,Option.getD_some,Array.any_eq_true]at h;obtain⟨k,hk,he⟩ :=h;simp only[Bool.and_eq_true,beq_iff_eq]at he;have h1:=hall o.after[k] (Array.getElem_mem hk) he.1;rw[he.2]at h1;rcases aa' i listed.size with h'|h';·simp[h']at hi h1;rw[hi]at h1;cases h1
 ·simp[abk h']at h1
theorem MH {listed:Array Bool} : ∀(i:Nat)(l:List Nat),Da md ops z i l=true→listed.getD i true=false→(∀j∈l,listed.getD j true=false)→(∀j∈l,j∉aau md ops listed)∧(z=i∨z∈l)
 |i,[],h,_,_=>⟨fun j hj=>absurd hj (by simp),aav (by have h':(i==z)=true:=h;exact(eq_of_beq h').symm)⟩
 |i,j::l,h,hi,hl=>by
  simp only[Da,Bool.and_eq_true]at h;have h1:=RY h.1 hi;obtain⟨h2,h3⟩ :=MH j l h.2 (hl j (abd ..)) fun k hk=>hl k (abf _ hk);refine⟨fun k hk=> ?_,?_⟩
  ·rcases List.mem_cons.1 hk with rfl|hk;·exact h1
   ·exact h2 k hk
  ·rcases h3 with rfl|h3;·exact aap (abd ..)
   ·exact aap (abf _ h3)
theorem LY {i:Nat} {oi:aar} {v:aab} {l:List Nat}(hi:ops[i]?=some oi)(hsel: ∀(j:Nat)(o:aar)cs b,ops[j]?=some o→o.op≠ .select cs b)(hQ: ∀c a w,Q (.panic c) (a.put oi.dst v) w→Q (.panic c) a w)(hp:Da md ops z i l=true)(hiz:i≠z) : ∀(fuel:Nat)(listed:Array Bool)(a:Act)(w:aaa),(∀j oj,ops[j]?=some oj→j≠i→listed.getD j true=false→(∀e∈oj.after,aaF md e=true→e.on≠i)→oi.apart ops oj=true)→i∈aau md ops listed→(∀j∈l,listed.getD j true=false)→YieldsIf P ops S oi v a→S w→dL P md ops Q S z fuel (listed.setIfInBounds i true) (a.put oi.dst v) w→dL P md ops Q S z (fuel+1) listed a w:=by
 intro fuel;induction fuel with
 |zero=>
  intro listed a w _ hr hl hy hS H;refine⟨fun h=>(by rw[h]at hr;cases hr),fun j hj=> ?_⟩;by_cases hji:j=i;·subst hji;exact hy.wpOp hi hS ⟨aap hS,H⟩
  ·have:=aaR hj hji;rw[H.1]at this;cases this
 |succ fuel ih=>
  intro listed a w hfree hr hl hy hS H;refine⟨fun h=>(by rw[h]at hr;cases hr),fun j hj=> ?_⟩;by_cases hji:j=i;·subst hji;exact hy.wpOp hi hS ⟨aap hS,H⟩
  ·have h1:=H.2 j (aaR hj hji);obtain⟨hjun,oj,hoj,hall⟩ :=mem_ready.1 hj;obtain⟨hnp,hzp⟩ :=MH i l hp (mem_ready.1 hr).1 hl;have hjz:j≠z:=fun e=>by
    rcases hzp with h|h;·exact hji (e.trans h)
    ·exact hnp z h (e▸hj)
   have hjl: ∀k∈l,j≠k:=fun k hk e=>hnp k hk (e▸hj);have hnot: ∀e∈oj.after,aaF md e=true→e.on≠i:=fun e he hb heq=>by exact ahz
   have h2:=wpOp_putIf hoj (hfree j oj hoj hji hjun hnot) (fun cs b=>hsel i oi cs b hi) (fun cs b=>hsel j oj cs b hoj) hQ hy h1;have hfree': ∀k ok,ops[k]?=some ok→k≠i→(listed.setIfInBounds j true).getD k true=false→(∀e∈ok.after,aaF md e=true→e.on≠i)→oi.apart ops ok=true:=fun k ok hk hki hun hno=>by exact acz
   have hl': ∀k∈l,(listed.setIfInBounds j true).getD k true=false:=fun k hk=>by rw[aaV true (hjl k hk)];exact hl k hk
   refine aa3 (fun a' w' h3=> ?_) h2;have hzl:listed.getD z false=false:=by
    have h0:listed.getD z true=false:=by
     rcases hzp with h|h;·exact absurd h.symm hiz
     ·exact hl z h
    rcases aa' z listed.size with h'|h';·simp[h']at h0⊢;exact h0
    ·simp[abk h']at h0
   have hS':S w':=h3.2.1.resolve_left (fun h=>by rw[aaV false hjz,aaV false hiz,hzl]at h;cases h);refine⟨aap hS',ih (listed.setIfInBounds j true) a' w' hfree' (aaR hr (Ne.symm hji)) hl' h3.1 hS' ?_⟩;rw[aa8 _ _ hji];exact h3.2.2
theorem JG {i:Nat} {oi:aar} {v:aab}(hi:ops[i]?=some oi)(hsel: ∀(j:Nat)(o:aar)cs b,ops[j]?=some o→o.op≠ .select cs b)(hQ: ∀c a w,Q (.panic c) (a.put oi.dst v) w→Q (.panic c) a w)(hiz:i≠z) : ∀(fuel:Nat)(listed:Array Bool)(a:Act)(w:aaa),(∀j oj,ops[j]?=some oj→j≠i→listed.getD j true=false→(∀e∈oj.after,aaF md e=true→e.on≠i)→oi.apart ops oj=true)→i∈aau md ops listed→YieldsIf P ops (fun _=>True) oi v a→(listed.getD z false=true∨S w)→dL P md ops Q S z fuel (listed.setIfInBounds i true) (a.put oi.dst v) w→dL P md ops Q S z (fuel+1) listed a w:=by
 intro fuel;induction fuel with
 |zero=>
  intro listed a w _ hr hy hS H;refine⟨fun h=>(by rw[h]at hr;cases hr),fun j hj=> ?_⟩;by_cases hji:j=i;·subst hji;exact hy.wpOp hi trivial ⟨hS.imp getD_set_true id,H⟩
  ·have:=aaR hj hji;rw[H.1]at this;cases this
 |succ fuel ih=>
  intro listed a w hfree hr hy hS H;refine⟨fun h=>(by rw[h]at hr;cases hr),fun j hj=> ?_⟩;by_cases hji:j=i;·subst hji;exact hy.wpOp hi trivial ⟨hS.imp getD_set_true id,H⟩
  ·have h1:=H.2 j (aaR hj hji);obtain⟨hjun,oj,hoj,hall⟩ :=mem_ready.1 hj;have hnot: ∀e∈oj.after,aaF md e=true→e.on≠i:=fun e he hb heq=>by exact ahz
   have h2:=wpOp_putIf hoj (hfree j oj hoj hji hjun hnot) (fun cs b=>hsel i oi cs b hi) (fun cs b=>hsel j oj cs b hoj) hQ hy h1;have hfree': ∀k ok,ops[k]?=some ok→k≠i→(listed.setIfInBounds j true).getD k true=false→(∀e∈ok.after,aaF md e=true→e.on≠i)→oi.apart ops ok=true:=fun k ok hk hki hun hno=>by exact acz
   refine aa3 (fun a' w' h3=> ?_) h2;have hC:(listed.setIfInBounds j true).getD z false=true∨S w':=h3.2.1.imp (fun h=>by rw[aa8 _ _ (Ne.symm hji),aaV false hiz]at h;exact h) id;refine⟨hC,ih (listed.setIfInBounds j true) a' w' hfree' (aaR hr (Ne.symm hji)) h3.1 hC ?_⟩;rw[aa8 _ _ hji];exact h3.2.2
theorem Fh {rs:List Nat} {fuel:Nat} {listed:Array Bool} {a:Act} {w:aaa}(hr:aau md ops listed=rs)(hne:rs≠ [])(h: ∀i∈rs,wpOp P ops Q i (fun a' w'=>((listed.setIfInBounds i true).getD z false=true∨S w')∧dL P md ops Q S z fuel (listed.setIfInBounds i true) a' w') a w) :dL P md ops Q S z (fuel+1) listed a w:=⟨fun h0=>absurd (hr▸h0) hne,hr▸h⟩
theorem tH {listed:Array Bool} {a:Act} {w:aaa}(hr:aau md ops listed= [])(h:Q .normal a w) : ∀fuel,dL P md ops Q S z fuel listed a w
 |0=>⟨hr,h⟩
 |_+1=>⟨fun _=>h,by rw[hr];simp⟩
theorem sN(S:aaa→Prop)(z:Nat) {id:Nat} {a:Act} {w:aaa}(hm:P.follows .mixedOrders=true)(h:dL P .any ops Q S z ops.size (Array.replicate ops.size false) a {w with drawn:=w.drawn+1}) :(Code.region id ops true).wp P Q a w:=wp_region_any hm (GA _ _ _ _ h)
theorem gL(i:Nat) {fuel:Nat} {listed:Array Bool} {a:Act} {w:aaa}(hr:aau md ops listed= [i])(h:wpOp P ops Q i (fun a' w'=>((listed.setIfInBounds i true).getD z false=true∨S w')∧dL P md ops Q S z fuel (listed.setIfInBounds i true) a' w') a w) :dL P md ops Q S z (fuel+1) listed a w:=Fh hr (by simp) (fun j hj=>by
 have e:j=i:=by simpa using hj
 subst e;exact h)
theorem EZ(i j:Nat) {fuel:Nat} {listed:Array Bool} {a:Act} {w:aaa}(hr:aau md ops listed= [i,j])(h1:wpOp P ops Q i (fun a' w'=>((listed.setIfInBounds i true).getD z false=true∨S w')∧dL P md ops Q S z fuel (listed.setIfInBounds i true) a' w') a w)(h2:wpOp P ops Q j (fun a' w'=>((listed.setIfInBounds j true).getD z false=true∨S w')∧dL P md ops Q S z fuel (listed.setIfInBounds j true) a' w') a w) :dL P md ops Q S z (fuel+1) listed a w:=Fh hr (by simp) (fun k hk=>by
 have e:k=i∨k=j:=by simpa using hk
 rcases e with rfl|rfl;·exact h1
 ·exact h2)
theorem ekL(i:Nat)(l:List Nat) {fuel:Nat} {listed:Array Bool} {a:Act} {w:World} {oi:Oper} {v:Value}(hi:ops[i]?=some oi:=by rfl)(hs:Region.noSelect ops=true:=by kernel_rfl)(hf:Region.free md ops listed i=true:=by kernel_rfl)(hr:(Region.ready md ops listed).contains i=true:=by kernel_rfl)(hp:Da md ops z i l=true:=by kernel_rfl)(hl:(l.all fun j=> !listed.getD j true)=true:=by kernel_rfl)(hiz:i≠z:=by decide)(hQ: ∀c a w,Q (.panic c) (a.put oi.dst v) w→Q (.panic c) a w:=by exact fun _ _ _ h=>h)(hw:Region.wanted oi (yielded ops a.tmps)=true:=by kernel_rfl)(hx: ∀w,S w→(execOp a.eval oi).run P w= .ok (.value v) w)(hS:S w)(h:dL P md ops Q S z fuel (listed.setIfInBounds i true) (a.put oi.dst v) w) :dL P md ops Q S z (fuel+1) listed a w:=LY hi (Region.noSelect_spec hs) hQ hp hiz fuel listed a w (Region.free_spec hi hf) (by simpa using hr) (fun j hj=>by have:=List.all_eq_true.1 hl j hj;simpa using this) (Or.inl ⟨hw,hx⟩) hS h
end
section
variable {md:aaT} {ops:Array aar} {Q:Exit→Act→aaa→Prop} {S:aaa→Prop} {z:Nat}
theorem ekP(i:Nat) {fuel:Nat} {listed:Array Bool} {a:Act} {w:World} {oi:Oper} {v:Value}(hi:ops[i]?=some oi:=by rfl)(hs:Region.noSelect ops=true:=by kernel_rfl)(hf:Region.free md ops listed i=true:=by kernel_rfl)(hr:(Region.ready md ops listed).contains i=true:=by kernel_rfl)(hiz:i≠z:=by decide)(hQ: ∀c a w,Q (.panic c) (a.put oi.dst v) w→Q (.panic c) a w:=by exact fun _ _ _ h=>h)(hw:Region.wanted oi (yielded ops a.tmps)=true:=by kernel_rfl)(hx: ∀w,(execOp a.eval oi).run Tryd.prog w= .ok (.value v) w:=by(intro w;go_simp<;>with_reducible rfl))(hS:S w)(h:dL Tryd.prog md ops Q S z fuel (listed.setIfInBounds i true) (a.put oi.dst v) w) :dL Tryd.prog md ops Q S z (fuel+1) listed a w:=JG hi (Region.noSelect_spec hs) hQ hiz fuel listed a w (Region.free_spec hi hf) (by simpa using hr) (Or.inl ⟨hw,fun w _=>hx w⟩) (Or.inr hS) h
end
section
variable {ops:Array aar} {Q:Exit→Act→aaa→Prop} {S:aaa→Prop} {md:aaT} {fuel z:Nat} {listed:Array Bool} {a:Act} {w:aaa}
theorem te {a':Act} {fuel:Nat}(h:dL Tryd.prog md ops Q S z fuel listed a' w)(ha:a=a':=by(first| (simp only[Act.put,List.getElem_toArray,List.getElem_cons_succ,List.getElem_cons_zero,List.setIfInBounds_toArray,List.set_cons_zero,List.set_cons_succ];rfl)|rfl)) :dL Tryd.prog md ops Q S z fuel listed a w:=ha▸h
theorem ep(i:Nat) {oi:Oper} {v:Value} {a':Act}(hS:S w)(h:dL Tryd.prog md ops Q S z fuel (listed.setIfInBounds i true) a' w)(hi:ops[i]?=some oi:=by rfl)(hs:Region.noSelect ops=true:=by kernel_rfl)(hf:Region.free md ops listed i=true:=by kernel_rfl)(hr:(Region.ready md ops listed).contains i=true:=by kernel_rfl)(hiz:i≠z:=by decide)(hx: ∀w,(execOp a.eval oi).run Tryd.prog w= .ok (.value v) w:=by(intro w;go_simp<;>with_reducible rfl))(hQ: ∀c a w,Q (.panic c) (a.put oi.dst v) w→Q (.panic c) a w:=by exact fun _ _ _ h=>h)(hw:Region.wanted oi (yielded ops a.tmps)=true:=by kernel_rfl)(ha:a.put oi.dst v=a':=by(first| (simp only[Act.put,List.getElem_toArray,List.getElem_cons_succ,List.getElem_cons_zero,List.setIfInBounds_toArray,List.set_cons_zero,List.set_cons_succ];rfl)|rfl)) :dL Tryd.prog md ops Q S z (fuel+1) listed a w:=ekP i hi hs hf hr hiz hQ hw hx hS (ha▸h)
theorem el(i:Nat)(l:List Nat) {oi:Oper} {v:Value} {a':Act}(hS:S w)(hx: ∀w,S w→(execOp a.eval oi).run Tryd.prog w= .ok (.value v) w)(h:dL Tryd.prog md ops Q S z fuel (listed.setIfInBounds i true) a' w)(hi:ops[i]?=some oi:=by rfl)(hs:Region.noSelect ops=true:=by kernel_rfl)(hf:Region.free md ops listed i=true:=by kernel_rfl)(hr:(Region.ready md ops listed).contains i=true:=by kernel_rfl)(hp:Da md ops z i l=true:=by kernel_rfl)(hl:(l.all fun j=> !listed.getD j true)=true:=by kernel_rfl)(hiz:i≠z:=by decide)(hQ: ∀c a w,Q (.panic c) (a.put oi.dst v) w→Q (.panic c) a w:=by exact fun _ _ _ h=>h)(hw:Region.wanted oi (yielded ops a.tmps)=true:=by kernel_rfl)(ha:a.put oi.dst v=a':=by(first| (simp only[Act.put,List.getElem_toArray,List.getElem_cons_succ,List.getElem_cons_zero,List.setIfInBounds_toArray,List.set_cons_zero,List.set_cons_succ];rfl)|rfl)) :dL Tryd.prog md ops Q S z (fuel+1) listed a w:=ekL i l hi hs hf hr hp hl hiz hQ hw hx hS (ha▸h)
theorem e1(i:Nat) {oi:Oper} {v:Value} {a':Act} {w':World}(ho:(execOp a.eval oi).run Tryd.prog w= .ok (.value v) w')(hS:S w')(h:dL Tryd.prog md ops Q S z fuel (listed.setIfInBounds i true) a' w')(hi:ops[i]?=some oi:=by rfl)(hr:Region.ready md ops listed= [i] :=by kernel_rfl)(hw:Region.wanted oi (yielded ops a.tmps)=true:=by kernel_rfl)(ha:a.put oi.dst v=a':=by(first| (simp only[Act.put,List.getElem_toArray,List.getElem_cons_succ,List.getElem_cons_zero,List.setIfInBounds_toArray,List.set_cons_zero,List.set_cons_succ];rfl)|rfl)) :dL Tryd.prog md ops Q S z (fuel+1) listed a w:=gL i hr (by unfold wpOp;simp only[hi,hw,if_true,Oper.wp,ho,Oper.upon];exact .inl ⟨.inr hS,ha▸h⟩)
theorem e1z(i:Nat) {oi:Oper} {a':Act} {w':World}(ho:(execOp a.eval oi).run Tryd.prog w= .ok .skip w')(h:dL Tryd.prog md ops Q S z fuel (listed.setIfInBounds i true) a' w')(hi:ops[i]?=some oi:=by rfl)(hr:Region.ready md ops listed= [i] :=by kernel_rfl)(hw:Region.wanted oi (yielded ops a.tmps)=true:=by kernel_rfl)(hz:(listed.setIfInBounds i true).getD z false=true:=by kernel_rfl)(ha:a.put oi.dst undef=a':=by(first| (simp only[Act.put,List.getElem_toArray,List.getElem_cons_succ,List.getElem_cons_zero,List.setIfInBounds_toArray,List.set_cons_zero,List.set_cons_succ];rfl)|rfl)) :dL Tryd.prog md ops Q S z (fuel+1) listed a w:=gL i hr (by unfold wpOp;simp only[hi,hw,if_true,Oper.wp,ho,Oper.upon];exact .inl ⟨.inl hz,ha▸h⟩)
end
structure Tk(w1 W:aaa)(gk m sb:Nat)(kd:List Int)(vm aI:aab)(Ps:List (Int×Int×Int)) :Prop where
 bel:aat w1.heap.size w1 W
 kd:W.ownsRow w1.heap.size 3 1 (.slice (some ⟨gk,0,none⟩) m m) m (zI kd)
 set:bA ji W w1.heap.size sb vm aI Ps
 sl:w1.heap.size≤sb
section
variable {w1 W W1:aaa} {gk m sb:Nat} {kd:List Int} {vm aI:aab} {Ps:List (Int×Int×Int)}
theorem Tk.below(h:Tk w1 W gk m sb kd vm aI Ps)(hb:aat W.heap.size W W1) :Tk w1 W1 gk m sb kd vm aI Ps:=⟨h.bel.trans (hb.mono h.bel.size),own_below h.kd hb,h.set.below hb,h.sl⟩
theorem zP(h:bA ji W w1.heap.size sb vm aI Ps) {b:Nat} {cs:Array aab} {t:TypeId}(hB:bB sb vm aI b)(hh:W.heap[b]?=some (.cells cs t)) :t=101∨t=103:=by exact QJ
theorem Tk.put(h:Tk w1 W gk m sb kd vm aI Ps)(hk:kd.length=m) {t:Nat}(ht:t<m)(x:Int) :Tk w1 (W.setCell ⟨gk,t,none⟩ (.int .i64 x)) gk m sb (kd.set t x) vm aI Ps:=by obtain⟨hge,cur,hg⟩ :=aA h.kd (b:=gk) rfl;refine⟨h.bel.setCell (p:=⟨gk,t,none⟩) hge _,sJ h.kd ht x,h.set.keep fun b hB=>ay _ _ _ _ _ ?_,h.sl⟩;rintro rfl;rcases zP h.set hB hg with e|e<;>exact absurd e (by decide)
theorem Tk.placed(h:Tk w1 W gk m sb kd vm aI Ps) {dF bG:aab} {Ps':List (Int×Int×Int)}(hs:bA ji W1 w1.heap.size sb dF bG Ps')(hb:But (bB sb vm aI) W W1) :Tk w1 W1 gk m sb kd dF bG Ps':=by refine⟨h.bel.trans (hb.below h.bel.size fun k hk hB=>by rcases h.set.from_ hB with e|e<;>have:=h.sl<;>omega),aG h.kd (fun b hk=> ?_),hs,h.sl⟩;obtain⟨_,cur,h2⟩ :=aA h.kd hk;rw[hb.block b (Array.getElem?_eq_some_iff.1 h2).1 (fun hB=>by rcases zP h.set hB h2 with e|e<;>exact absurd e (by decide))]
abbrev KC(p:Int×Int×Int) :Array aab:=#[.int .i64 p.1,.int .i64 p.2.1,.int .i64 p.2.2]
structure Tl(w1 W:aaa)(gk m sb b7 b8:Nat)(kd:List Int)(vm aI:aab)(Ps:List (Int×Int×Int))(c7:Array aab)(kR:Int×Int×Int) :Prop where
 k:Tk w1 W gk m sb kd vm aI Ps
 x7:W.heap[b7]?=some (.cells c7 42)
 x8:W.heap[b8]?=some (.cells (KC kR) 103)
 n8: ∀b,bB sb vm aI b→b≠b8
 g8:w1.heap.size≤b8
variable {b7 b8:Nat} {c7:Array aab} {kR:Int×Int×Int}
theorem Tl.below(h:Tl w1 W gk m sb b7 b8 kd vm aI Ps c7 kR)(hb:aat W.heap.size W W1) :Tl w1 W1 gk m sb b7 b8 kd vm aI Ps c7 kR:=⟨h.k.below hb,aC h.x7 hb,aC h.x8 hb,h.n8,h.g8⟩
theorem Tl.put(h:Tl w1 W gk m sb b7 b8 kd vm aI Ps c7 kR)(hk:kd.length=m) {t:Nat}(ht:t<m)(x:Int) :Tl w1 (W.setCell ⟨gk,t,none⟩ (.int .i64 x)) gk m sb b7 b8 (kd.set t x) vm aI Ps c7 kR:=by obtain⟨hge,cur,hg⟩ :=aA h.k.kd (b:=gk) rfl;exact⟨h.k.put hk ht x,(ay _ _ _ _ _ (aN h.x7 hg (by decide))).trans h.x7,(ay _ _ _ _ _ (aN h.x8 hg (by decide))).trans h.x8,h.n8,h.g8⟩
theorem Tl.placed(h:Tl w1 W gk m sb b7 b8 kd vm aI Ps c7 kR) {dF bG:aab} {Ps':List (Int×Int×Int)}(hs:bA ji W1 w1.heap.size sb dF bG Ps')(hb:But (bB sb vm aI) W W1)(hat: ∀b,bG.ownBlock=some b→aI.ownBlock=some b∨W.heap.size≤b)(ni: ∀b,dF= .map (some b)→vm= .map (some b)∨W.heap.size≤b) :Tl w1 W1 gk m sb b7 b8 kd dF bG Ps' c7 kR:=by
 have hl:=(Array.getElem?_eq_some_iff.1 h.x8).1;refine⟨h.k.placed hs hb,?_,?_,fun b hB=> ?_,h.g8⟩;·rw[hb.block b7 (Array.getElem?_eq_some_iff.1 h.x7).1 (fun hB=>by rcases zP h.k.set hB h.x7 with e|e<;>exact absurd e (by decide))];exact h.x7
 ·rw[hb.block b8 hl (fun hB=>h.n8 b8 hB rfl)];exact h.x8
 ·rcases hB with e|e|e;·exact h.n8 b (aav e)
  ·rcases ni b e with h1|h1;·exact h.n8 b (aap (aav h1))
   ·omega
  ·rcases hat b e with h1|h1;·exact h.n8 b (aap (aap h1))
   ·omega
theorem OB {W:aaa} {b:Nat} {x0 x1 x2:aab} {t:TypeId}(h:W.heap[b]?=some (.cells #[x0,x1,x2] t))(y0 y1 y2:aab) :(((W.setCell ⟨b,0,none⟩ y0).setCell ⟨b,1,none⟩ y1).setCell ⟨b,2,none⟩ y2).heap[b]?=some (.cells #[y0,y1,y2] t) :=by have h1:=aL (aL (aL h 0 y0) 1 y1) 2 y2;simpa using h1
theorem Tl.last(h:Tl w1 W gk m sb b7 b8 kd vm aI Ps c7 kR)(p:Int×Int×Int) :Tl w1 (((W.setCell ⟨b8,0,none⟩ (.int .i64 p.1)).setCell ⟨b8,1,none⟩ (.int .i64 p.2.1)).setCell ⟨b8,2,none⟩ (.int .i64 p.2.2)) gk m sb b7 b8 kd vm aI Ps c7 p:=by
 have ho: ∀b,b≠b8→(((W.setCell ⟨b8,0,none⟩ (.int .i64 p.1)).setCell ⟨b8,1,none⟩ (.int .i64 p.2.1)).setCell ⟨b8,2,none⟩ (.int .i64 p.2.2)).heap[b]?=W.heap[b]?:=fun b hb=>by rw[ay _ _ _ _ _ hb,ay _ _ _ _ _ hb,ay _ _ _ _ _ hb]
 refine⟨⟨((h.k.bel.setCell (p:=⟨b8,0,none⟩) h.g8 _).setCell (p:=⟨b8,1,none⟩) h.g8 _).setCell (p:=⟨b8,2,none⟩) h.g8 _,aG h.k.kd (fun b hk=>ho b ?_),h.k.set.keep fun b hB=>ho b (h.n8 b hB),h.k.sl⟩,(ho _ (aN h.x7 h.x8 (by decide))).trans h.x7,OB h.x8 _ _ _,h.n8,h.g8⟩;obtain⟨_,cur,h2⟩ :=aA h.k.kd hk;exact aN h2 h.x8 (by decide)
end
def Kn(D:List aT)(w:aaa)(e:Ending)(w':aaa) :Prop:=∃ad c ls,e= .returned (.slice ad ls.length c)∧bD w' (.slice ad ls.length c) ls∧aat w.heap.size w w'∧iG ls∧(∀r∈ls,0≤r∧r<128)∧ls.length≤128∧∀r,r∈ls↔∃s∈D,∃a∈s.2.1,a.1=r
end Go.Proofs.YtkbjimkngmlfcaaDoor
