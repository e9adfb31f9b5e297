import Derived.Test.YtkbjimkngmlfcaaDoorSetsJ04
namespace Go.Proofs.YtkbjimkngmlfcaaDoor
open Go Go.RowKit
open Go renaming World→aaa,Operand→aaw,Value→aah,heap_alloc_new→aa8,wp_region_held→aaA,wpAnyH_done→aaQ,frozen_of_row→aaY
open Go.Instr renaming makeMap→aa7,lookup→aax
open Go.RowKit renaming Below→aat
open Go.RowKit.Below renaming refl→aau,heap_alloc→aav
open Go.WalkArith renaming wf_i64→aa1
open List renaming cons_append→abk,take_succ_eq_append_getElem→aa9,mem_of_getElem?→aa3,getElem?_map→aa4,getD_eq_getElem?_getD→aa5,getElem?_eq_getElem→aaL,length_append→aaK,length_singleton→aa',getElem?_append_left→abf,length_set→aaV,getElem?_set_self→abd
open Nat renaming le_refl→aaE,le_trans→aas,lt_of_lt_of_le→aar
open Option.some renaming injEq→aaU
open Or renaming inl→aap,inr→aal
set_option linter.unusedVariables false
set_option linter.unusedSimpArgs false
set_option maxRecDepth 100000
set_option maxHeartbeats 8000000
theorem Mj {P:Prop}(h:P:=by go_wp2;go_meet;case rel=>exact⟨rfl,rfl⟩) :P:=h
theorem PS {P:Prop}(h:P:=by go_meet;case rel=>exact⟨by rw[hle],rfl⟩) :P:=h
theorem Tryd.infoT:(Tryd.prog.info? 155).map (fun i=>(i.zero,i.size,i.bytes))=some (some (.agg #[.int .i64 0,.int .i64 0,.int .i64 0]),3,24) :=by kernel_rfl
def fT:uz (Int×Nat×Nat) :=⟨155,131,134,3,(fun x=>Value.agg #[.int .i64 x.1,.int .i64 x.2.1,.int .i64 x.2.2]),fun x=>#[Value.int .i64 x.1,.int .i64 x.2.1,.int .i64 x.2.2],(fun x=>(-9223372036854775808≤x.1∧x.1≤9223372036854775807)∧x.2.1≤9223372036854775807∧x.2.2≤9223372036854775807)⟩
theorem ajy:laidOutB Tryd.prog=true:=by kernel_rfl
theorem amz:WideMaps.KeyLaw Tryd.prog 155:=deep_law_laid ajy (m:=2) (by omega) (of_decide_eq_true (by kernel_rfl)) (by kernel_rfl) (by kernel_rfl)
theorem agB:Maps.Keyed Tryd.prog 155:=Maps.Keyed.of_law amz
theorem Te:Tryd.prog.cellsOf 155=3:=by kernel_rfl
theorem ajR:Tryd.prog.keyType 155=true:=by kernel_rfl
theorem TA:Tryd.prog.cellsOf 3=1:=by kernel_rfl
theorem Vy:(fT).Ok:=by
 refine⟨Tryd.underlying131,agB,fun l h=> ?_,fun x y h=> ?_⟩
 ·obtain⟨a,b,c⟩ :=l;obtain⟨⟨h1,h2⟩,h3,h4⟩ :=h;dsimp only at h1 h2 h3 h4;have w1:(Lit.int .i64 a).wf=true:=aa1 (by omega);have w2:(Lit.int .i64 (b:Int)).wf=true:=aa1 (by omega);have w3:(Lit.int .i64 (c:Int)).wf=true:=aa1 (by omega);obtain⟨m,hm⟩ : ∃m,Tryd.prog.types.size=m+1:=⟨Tryd.prog.types.size-1,by kernel_rfl⟩;have hf:(Value.agg #[.int .i64 a,.int .i64 (b:Int),.int .i64 (c:Int)]).formed Tryd.prog 155=true:=by simp[Value.formed,Tryd.underlying155,Te]
  have hk:Tryd.prog.keyLits (Tryd.prog.types.size+1) 155 (Value.agg #[.int .i64 a,.int .i64 (b:Int),.int .i64 (c:Int)]).cells.toList=some [.int .i64 a,.int .i64 (b:Int),.int .i64 (c:Int)] :=by rw[hm];simp[Program.keyLits,Tryd.underlying155,Tryd.underlying3,Te,TA,Value.cells,List.range,List.range.loop,w1,w2,w3]
  refine⟨.string (keyBytes [.int .i64 a,.int .i64 (b:Int),.int .i64 (c:Int)]),?_⟩;show keyOf Tryd.prog 155 (Value.agg #[.int .i64 a,.int .i64 (b:Int),.int .i64 (c:Int)])=_;unfold keyOf;rw[Tryd.underlying155];simp only[ajR,hf,Bool.and_self,if_true,hk,Option.map_some]
 ·obtain⟨a,b,c⟩ :=x;obtain⟨a',b',c'⟩ :=y;simp[fT]at h;obtain⟨h1,h2,h3⟩ :=h;subst h1;rw[show b=b' by omega,show c=c' by omega]
theorem afh(W W':aaa)(ρ:aaw→aah)(o:Oper)(m k v:aaw)(ho:o.op= .mapUpdate 131 m k v)(vm vk vv:aah)(h1:ρ m=vm)(h2:ρ k=vk)(h3:ρ v=vv)(h:(Instr.mapUpdate 131 vm vk vv).run Tryd.prog W= .ok () W') :(execOp ρ o).run Tryd.prog W= .ok .skip W':=by exact WI
theorem GM(W:aaa)(ρ:aaw→aah)(o:Oper)(y:aaw)(ho:o.op= .buildSlice 132 1 #[(0,y)])(x:(Int×Nat×Nat))(hx:ρ y= .agg #[.int .i64 x.1,.int .i64 x.2.1,.int .i64 x.2.2]) :(execOp ρ o).run Tryd.prog W= .ok (.value (.slice (some ⟨W.heap.size,0,none⟩) 1 1)) (W.alloc (.cells #[.int .i64 x.1,.int .i64 x.2.1,.int .i64 x.2.2] 155)) :=by exact uA
theorem Fq(W:aaa)(ρ:aaw→aah)(o:Oper)(x:aaw)(ho:o.op= .load 132 x)(b off n c:Nat)(ad:Option Addr)(hx:ρ x= .pointer (some ⟨b,off,none⟩))(h0:W.cell? ⟨b,off,none⟩=some (.slice ad n c)) :(execOp ρ o).run Tryd.prog W= .ok (.value (.slice ad n c)) W:=by exact vG
theorem NH(W:aaa)(ρ:aaw→aah)(o:Oper)(x y:aaw)(ho:o.op= .store 132 x y)(b off g n c:Nat)(u:aah)(hx:ρ x= .pointer (some ⟨b,off,none⟩))(hy:ρ y= .slice (some ⟨g,0,none⟩) n c)(hc:W.cell? ⟨b,off,none⟩=some u)(hf:W.frozen? ⟨b,off,none⟩=false) :(execOp ρ o).run Tryd.prog W= .ok .skip (W.setCell ⟨b,off,none⟩ (.slice (some ⟨g,0,none⟩) n c)) :=by exact yu
theorem DT {W:aaa} {ops:Array Oper} {i:Nat} {o:Oper} {a:Act} {K:Act→aaa→Prop} {Q:Exit→Act→aaa→Prop}(vP:ops[i]?=some o)(hw:Region.wanted o (yielded ops a.tmps)=true)(hgd:o.guard=none)(s x:aaw)
    (ho:o.op= .call {callee:= .builtin .append,args:=#[s,x],argTypes:=#[132,132]})(i0:TypeInfo)(hi:Tryd.prog.info? 155=some i0)(hz:i0.zero=some (.agg #[.int .i64 0,.int .i64 0,.int .i64 0]))(hsize:i0.size=3)(hby:i0.bytes=24)
    (base:Nat)(v:aah)(n:Nat)(xs:List aah)(hs:a.eval s=v)(hown:W.ownsRow base 155 3 v n xs)(k:(Int×Nat×Nat))(ad:Nat)(had:ad=W.heap.size)(hx:a.eval x= .slice (some ⟨ad,0,none⟩) 1 1)(hb:(n+1)*24≤140737488355328)(hbase:base≤W.heap.size)
    (h: ∀g cap w',w'.ownsRow base 155 3 (.slice (some ⟨g,0,none⟩) (n+1) cap) (n+1) (xs++((fT).cells k).toList)→But (fun b=>v.ownBlock=some b) W w'→(∀b,(Value.slice (some ⟨g,0,none⟩) (n+1) cap).ownBlock=some b→v.ownBlock=some b∨W.heap.size≤b)→K (a.put o.dst (.slice (some ⟨g,0,none⟩) (n+1) cap)) w') :
    wpOp Tryd.prog ops Q i K a (W.alloc (.cells ((fT).cells k) 155)) :=by
  refine mo vP hw ?_
  have:=lN (ops:=ops) (E:=True) (Q:=Q) hgd s x 132 155 ho i0 (.agg #[.int .i64 0,.int .i64 0,.int .i64 0]) 3 24 Tryd.underlying132 hi hz hsize hby rfl (by decide) base v n xs hs hown ((fT).cells k) rfl (by intro y hy;simp[fT]at hy;rcases hy with rfl|rfl|rfl<;>rfl) ad had hx hb (by decide) hbase h
  rwa [if_pos hw]at this
theorem ab1(w:aaa) :(binOp BinOp.eql 131 (.map none) (.map none)).run Tryd.prog w= .ok (.bool true) w:=by first|kernel_rfl|simp[binOp,Tryd.underlying131]|go_simp
theorem WA(w:aaa)(mb:Nat) :(binOp BinOp.eql 131 (.map (some mb)) (.map none)).run Tryd.prog w= .ok (.bool false) w:=by first|kernel_rfl|simp[binOp,Tryd.underlying131]|go_simp
theorem Wq(w:aaa) :(aa7 131 none).run Tryd.prog w= .ok (.map (some w.heap.size)) (w.alloc (.map #[] 0)) :=by first|kernel_rfl|simp[aa7,Tryd.underlying131]|go_simp
theorem PZ(base sb:Nat)(vm vs:aah)(L:List (Int×Nat×Nat))(x:(Int×Nat×Nat))(W:aaa)(hok:(fT).ok x)(hb:(L.length+1)*24≤140737488355328)(hbase:base≤W.heap.size)(h:bA fT W base sb vm vs L) :Calls Tryd.prog 86 #[.pointer (some ⟨sb,0,none⟩),(fT).enc x] W (Gd fT W base sb vm vs L x) :=by
 obtain⟨i0,hi0,hz0,hz1,hz2⟩ :=info_parts Tryd.infoT;have hW:aat W.heap.size W (W.alloc (.cells #[.int .i64 x.1,.int .i64 x.2.1,.int .i64 x.2.2] 155)) :=(aau _ _).alloc (aaE _) _;have hbx:(W.alloc (.cells #[.int .i64 x.1,.int .i64 x.2.1,.int .i64 x.2.2] 155)).heap[W.heap.size]?=some (.cells #[.int .i64 x.1,.int .i64 x.2.1,.int .i64 x.2.2] 155) :=aa8 _ _;have hz:(W.alloc (.cells #[.int .i64 x.1,.int .i64 x.2.1,.int .i64 x.2.2] 155)).heap.size=W.heap.size+1:=by simp
 have h0:=h.below hW;have hmn:=ab1;have hms:=WA;have lT:Hid (∀b,bB sb vm vs b→b≠W.heap.size) :=fun b hb' e=>by have:=(h.blk hb').1;omega
 have jO:=h.oks;have hnd:=h.nodup;show Calls Tryd.prog 86 #[.pointer (some ⟨sb,0,none⟩),.agg #[.int .i64 x.1,.int .i64 x.2.1,.int .i64 x.2.2]] W _;go_enter Tryd.func86,Tryd.ntmps86;go_wp2_with fail;clear h;generalize hW0:W.alloc (.cells #[.int .i64 x.1,.int .i64 x.2.1,.int .i64 x.2.2] 155)=W0 at*;clear hW0;generalize hn0:W.heap.size=n0 at*;have wD:=ah hn0;have HW:=ah hW;have HZ:=ah hz;have uN:=ah hbx;have H0:=ah h0;have c0:W0.cell? ⟨sb,0,none⟩=some vm:=aj h0.box 0;have b0:W0.cell? ⟨n0,0,none⟩=some (.int .i64 x.1) :=aj hbx 0;have b1:W0.cell? ⟨n0,1,none⟩=some (.int .i64 x.2.1) :=aj hbx 1;have b2:W0.cell? ⟨n0,2,none⟩=some (.int .i64 x.2.2) :=aj hbx 2;clear hn0 hW hz hbx;obtain⟨ad,cp,rfl⟩ : ∃ad cp,vs= .slice ad L.length cp:=by exact WE
 by_cases hx:x∈L
 ·obtain⟨mb,rfl,hm1,hm2⟩ : ∃mb,vm= .map (some mb)∧base≤mb∧jy fT W0 mb L:=by exact QX
  obtain⟨j,h1,h2⟩ : ∃j:Nat,L[j]?=some x∧(aax 131 (.map (some mb)) (.agg #[.int .i64 x.1,.int .i64 x.2.1,.int .i64 x.2.2]) true).run Tryd.prog W0.drew= .ok (.tuple #[.int .i64 (j:Int),.bool true]) W0.drew:=by
   rcases(hm2.keep (w':=W0.drew) rfl).look Vy jO x hok with⟨h1,_⟩| ⟨j,h1,h2⟩;·exact absurd hx h1
   ·exact⟨j,h1,h2⟩
  have HJ:Hid (ix L x=j) :=uP hnd h1;have HM:=ah (dZ hx);clear h0 h1 hm2 hx hnd jO;refine aaA (S:=fun u=>u.cell? ⟨sb,0,none⟩=some (.map (some mb))∧u.cell? ⟨n0,0,none⟩=some (.int .i64 x.1)∧u.cell? ⟨n0,1,none⟩=some (.int .i64 x.2.1)∧u.cell? ⟨n0,2,none⟩=some (.int .i64 x.2.2)∧(aax 131 (.map (some mb)) (.agg #[.int .i64 x.1,.int .i64 x.2.1,.int .i64 x.2.2]) true).run Tryd.prog u= .ok (.tuple #[.int .i64 (j:Int),.bool true]) u) (by kernel_rfl) ?_;have hS:(fun u=>u.cell? ⟨sb,0,none⟩=some (.map (some mb))∧u.cell? ⟨n0,0,none⟩=some (.int .i64 x.1)∧u.cell? ⟨n0,1,none⟩=some (.int .i64 x.2.1)∧u.cell? ⟨n0,2,none⟩=some (.int .i64 x.2.2)∧(aax 131 (.map (some mb)) (.agg #[.int .i64 x.1,.int .i64 x.2.1,.int .i64 x.2.2]) true).run Tryd.prog u= .ok (.tuple #[.int .i64 (j:Int),.bool true]) u) ({heap:=W0.heap,tape:=W0.tape,drawn:=W0.drawn+1,os:=W0.os,output:=W0.output} :aaa) :=⟨c0,b0,b1,b2,h2⟩
  exact aiy
 ·have HI:Hid (ix (meet L x) x=L.length) :=by show _=_;rw[cK hx,jr hx]
  have HM:=ah (cK hx);have HX:=ah hx;have j4:=ah jO;have wI:Hid (∀y∈L++ [x],(fT).ok y) :=fun y hy=>by exact WX
  have Cb:Hid ((L++ [x]).Nodup) :=by exact Wn
  have hln:((L.length:Nat) :Int)≤140737488355328:=by omega
  rcases h0.map with⟨rfl,hl⟩| ⟨mb,rfl,hmb,hmk⟩
  ·have h2:=look_nil Vy W0.drew x hok;have HL:=ah hl;clear h0 hl hx hnd jO;refine aaA (S:=fun u=>u.cell? ⟨sb,0,none⟩=some (.map none)∧u.cell? ⟨n0,0,none⟩=some (.int .i64 x.1)∧u.cell? ⟨n0,1,none⟩=some (.int .i64 x.2.1)∧u.cell? ⟨n0,2,none⟩=some (.int .i64 x.2.2)∧(aax 131 (.map none) (.agg #[.int .i64 x.1,.int .i64 x.2.1,.int .i64 x.2.2]) true).run Tryd.prog u= .ok (.tuple #[.int .i64 0,.bool false]) u) (by kernel_rfl) ?_;have hS:(fun u=>u.cell? ⟨sb,0,none⟩=some (.map none)∧u.cell? ⟨n0,0,none⟩=some (.int .i64 x.1)∧u.cell? ⟨n0,1,none⟩=some (.int .i64 x.2.1)∧u.cell? ⟨n0,2,none⟩=some (.int .i64 x.2.2)∧(aax 131 (.map none) (.agg #[.int .i64 x.1,.int .i64 x.2.1,.int .i64 x.2.2]) true).run Tryd.prog u= .ok (.tuple #[.int .i64 0,.bool false]) u) ({heap:=W0.heap,tape:=W0.tape,drawn:=W0.drawn+1,os:=W0.os,output:=W0.output} :aaa) :=⟨c0,b0,b1,b2,h2⟩
   have hBd:aat W0.heap.size W0 ({heap:=W0.heap,tape:=W0.tape,drawn:=W0.drawn+1,os:=W0.os,output:=W0.output} :aaa) :=(aau _ _).drew;generalize({heap:=W0.heap,tape:=W0.tape,drawn:=W0.drawn+1,os:=W0.os,output:=W0.output} :aaa)=W1 at*;try refine tn ?_
   refine tx 0 ?_ (hS:=hS);refine tx 1 ?_ (hS:=hS);refine tx 2 ?_ (hS:=hS);refine tx 3 ?_ (hS:=hS);refine tx 4 ?_ (v:= .agg #[.int .i64 x.1,.int .i64 x.2.1,.int .i64 x.2.2]) (hS:=hS);refine tx 5 ?_ (v:= .tuple #[.int .i64 0,.bool false]) (hS:=hS);refine tx 6 ?_ (hS:=hS);refine tx 7 ?_ (hS:=hS);refine tx 8 ?_ (hS:=hS);refine tx 9 ?_ (hS:=hS);refine tx 10 ?_ (hS:=hS);refine aaQ (by kernel_rfl) ?_ _;have H1:=ah (H0.out.below hBd);have jT:=ah (aC uN.out hBd);have jX:=ah hBd;have KY:(aa7 131 none).run Tryd.prog W1= .ok (.map (some W1.heap.size)) (W1.alloc (.map #[] 0)) :=Wq W1;have hsb:=H1.out.lt;have uC:(W1.alloc (.map #[] 0)).heap[sb]?=some (.cells #[.map none,.slice ad L.length cp] 134) :=(aav _ _ _ hsb).trans H1.out.box;have hb2:((W1.alloc (.map #[] 0)).setCell ⟨sb,0,none⟩ (.map (some W1.heap.size))).heap[sb]?=some (.cells #[.map (some W1.heap.size),.slice ad L.length cp] 134) :=by exact Xw
   have gW:Hid (jy fT ((W1.alloc (.map #[] 0)).setCell ⟨sb,0,none⟩ (.map (some W1.heap.size))) W1.heap.size L) :=by exact XD
   have H7:n0≠sb:=fun e=>lT.out sb (aap rfl) e.symm;have jw:((W1.alloc (.map #[] 0)).setCell ⟨sb,0,none⟩ (.map (some W1.heap.size))).heap[n0]?=some (.cells #[.int .i64 x.1,.int .i64 x.2.1,.int .i64 x.2.2] 155) :=by exact V7
   have dO:Hid (((W1.alloc (.map #[] 0)).setCell ⟨sb,0,none⟩ (.map (some W1.heap.size))).ownsRow base 155 3 (.slice ad L.length cp) L.length (gV fT L)) :=aG H1.out.row (fun b hk=>by obtain⟨_,cur,h2⟩ :=aA H1.out.row hk;rw[ay _ sb 0 _ b (aN h2 H1.out.box (by decide)),aav _ _ _ (Array.getElem?_eq_some_iff.1 h2).1]);have xQ:Hid (W1.heap.size≠sb) :=by show _≠_;omega
   have Cy:Hid (W1.heap.size≠n0) :=by have:=(Array.getElem?_eq_some_iff.1 jT.out).1;show _≠_;omega
   have hB1:aat n0 W W1:=HW.out.trans (hBd.mono (by rw[HZ.out];omega));have kT:Hid (But (bB sb (.map none) (.slice ad L.length cp)) W ((W1.alloc (.map #[] 0)).setCell ⟨sb,0,none⟩ (.map (some W1.heap.size)))) :=((But.of_below (by rw[wD.out];exact hB1)).alloc _).set sb 0 _ (aap rfl);have yD:Hid (Value.map none= .map (some W1.heap.size)∨W.heap.size≤W1.heap.size) :=aal hB1.size;have wP:Hid (bB sb (.map none) (.slice ad L.length cp) W1.heap.size∨W.heap.size≤W1.heap.size) :=aal hB1.size;have mF:Hid (base≤W1.heap.size) :=aas hbase (by rw[←wD.out];exact hB1.size);have hcap2:base≤((W1.alloc (.map #[] 0)).setCell ⟨sb,0,none⟩ (.map (some W1.heap.size))).heap.size:=by have:=mF.out;simp;omega
   have OG: ∀j,(W1.alloc (.map #[] 0)).frozen? ⟨sb,j,none⟩=false:=fun j=>aaY _ sb j _ _ uC;have cA:(W1.alloc (.map #[] 0)).cell? ⟨sb,0,none⟩=some (.map none) :=aj uC 0;have cB:W1.cell? ⟨sb,0,none⟩=some (.map none) :=aj H1.out.box 0;have cC:((W1.alloc (.map #[] 0)).setCell ⟨sb,0,none⟩ (.map (some W1.heap.size))).cell? ⟨sb,1,none⟩=some (.slice ad L.length cp) :=aj hb2 1;clear hS h2 c0 b0 b1 b2 hBd hsb H7 uC hB1;go_wp2_with fail;clear cA cB cC OG KY;generalize(W1.alloc (.map #[] 0)).setCell ⟨sb,0,none⟩ (.map (some W1.heap.size))=W2 at*;generalize W1.heap.size=mb at*;have d0:W2.cell? ⟨sb,0,none⟩=some (.map (some mb)) :=aj hb2 0;have e0:W2.cell? ⟨n0,0,none⟩=some (.int .i64 x.1) :=aj jw 0;have e1:W2.cell? ⟨n0,1,none⟩=some (.int .i64 x.2.1) :=aj jw 1;have e2:W2.cell? ⟨n0,2,none⟩=some (.int .i64 x.2.2) :=aj jw 2;refine aaA (S:=fun u=>u.cell? ⟨sb,0,none⟩=some (.map (some mb))∧u.cell? ⟨n0,0,none⟩=some (.int .i64 x.1)∧u.cell? ⟨n0,1,none⟩=some (.int .i64 x.2.1)∧u.cell? ⟨n0,2,none⟩=some (.int .i64 x.2.2)) (by kernel_rfl) ?_
   have dV:(fun u=>u.cell? ⟨sb,0,none⟩=some (.map (some mb))∧u.cell? ⟨n0,0,none⟩=some (.int .i64 x.1)∧u.cell? ⟨n0,1,none⟩=some (.int .i64 x.2.1)∧u.cell? ⟨n0,2,none⟩=some (.int .i64 x.2.2)) ({heap:=W2.heap,tape:=W2.tape,drawn:=W2.drawn+1,os:=W2.os,output:=W2.output} :aaa) :=⟨d0,e0,e1,e2⟩;have cO:aat W2.heap.size W2 ({heap:=W2.heap,tape:=W2.tape,drawn:=W2.drawn+1,os:=W2.os,output:=W2.output} :aaa) :=(aau _ _).drew;generalize({heap:=W2.heap,tape:=W2.tape,drawn:=W2.drawn+1,os:=W2.os,output:=W2.output} :aaa)=Wd at*;try refine tn ?_
   refine tx 0 ?_ (hS:=dV);refine tx 1 ?_ (hS:=dV);refine tx 2 ?_ (hS:=dV);refine tx 3 ?_ (hS:=dV);refine tx 4 ?_ (v:= .agg #[.int .i64 x.1,.int .i64 x.2.1,.int .i64 x.2.2]) (hS:=dV);refine tx 5 ?_ (hS:=dV);obtain⟨W3,hput,mU,hg3,hz3⟩ :=(gW.out.keep (cO.block _ gW.out.lt)).put Vy j4.out x hok HX.out;try refine tn ?_
   refine aF 6 (by kernel_rfl) ?_;refine bI W3 rfl (by kernel_rfl) (afh _ _ _ _ _ _ _ rfl _ _ _ (by kernel_rfl) (by kernel_rfl) (by kernel_rfl) hput) ?_;have hb3:W3.heap[sb]?=some (.cells #[.map (some mb),.slice ad L.length cp] 134) :=(hg3.block sb (aar (Array.getElem?_eq_some_iff.1 hb2).1 cO.size) (fun e=>xQ.out (by simpa using e.symm))).trans (aC hb2 cO);have gJ:W3.heap[n0]?=some (.cells #[.int .i64 x.1,.int .i64 x.2.1,.int .i64 x.2.2] 155) :=(hg3.block n0 (aar (Array.getElem?_eq_some_iff.1 jw).1 cO.size) (fun e=>Cy.out (by simpa using e.symm))).trans (aC jw cO);refine⟨⟨aj hb3 0,aj gJ 0,aj gJ 1,aj gJ 2⟩,?_⟩;try refine tn ?_
   refine aaQ (by kernel_rfl) ?_ _;have iC:Hid (W3.ownsRow base 155 3 (.slice ad L.length cp) L.length (gV fT L)) :=aG dO.out (fun b hk=>(hg3.block b (aar (Array.getElem?_eq_some_iff.1 (aA dO.out hk).2.choose_spec).1 cO.size) (fun e=>by
    obtain⟨_,cur,h2⟩ :=aA dO.out hk;obtain⟨es,c,h3,_⟩ :=gW.out;have e':b=mb:=by simpa using e
    rw[e',h3]at h2;cases h2)).trans (cO.block b (Array.getElem?_eq_some_iff.1 (aA dO.out hk).2.choose_spec).1));have jJ:Hid (But (bB sb (.map none) (.slice ad L.length cp)) W W3) :=(kT.out.trans (But.of_below (X:=fun _=>False) cO) (fun _ _ h=>h) (fun _ _ h=>h.elim)).grown hg3 (fun k hk=>by
    have:mb=k:=by simpa using hk
    subst this;exact wP.out);have qP:base≤W3.heap.size:=by rw[hz3];exact aas hcap2 cO.size
   have uu:=ah mU;have HB3:=ah hb3;have dR:=ah gJ;have f1:W3.cell? ⟨sb,1,none⟩=some (.slice ad L.length cp) :=aj hb3 1;clear hput mU hg3 hz3 dV cO d0;go_wp2_with fail;refine aaA (S:=fun u=>u.cell? ⟨n0,0,none⟩=some (.int .i64 x.1)∧u.cell? ⟨n0,1,none⟩=some (.int .i64 x.2.1)∧u.cell? ⟨n0,2,none⟩=some (.int .i64 x.2.2)) (by kernel_rfl) ?_;have fI:(fun u=>u.cell? ⟨n0,0,none⟩=some (.int .i64 x.1)∧u.cell? ⟨n0,1,none⟩=some (.int .i64 x.2.1)∧u.cell? ⟨n0,2,none⟩=some (.int .i64 x.2.2)) ({heap:=W3.heap,tape:=W3.tape,drawn:=W3.drawn+1,os:=W3.os,output:=W3.output} :aaa) :=⟨aj gJ 0,aj gJ 1,aj gJ 2⟩;have bT:aat W3.heap.size W3 ({heap:=W3.heap,tape:=W3.tape,drawn:=W3.drawn+1,os:=W3.os,output:=W3.output} :aaa) :=(aau _ _).drew;generalize({heap:=W3.heap,tape:=W3.tape,drawn:=W3.drawn+1,os:=W3.os,output:=W3.output} :aaa)=We at*
   have hb4:We.heap[sb]?=some (.cells #[.map (some mb),.slice ad L.length cp] 134) :=aC HB3.out bT;try refine tn ?_
   refine tx 0 ?_ (hS:=fI);refine tx 1 ?_ (hS:=fI);refine tx 2 ?_ (hS:=fI);refine tx 3 ?_ (hS:=fI);refine tx 5 ?_ (v:= .agg #[.int .i64 x.1,.int .i64 x.2.1,.int .i64 x.2.2]) (hS:=fI);have lY:(fun u=>u.cell? ⟨n0,0,none⟩=some (.int .i64 x.1)∧u.cell? ⟨n0,1,none⟩=some (.int .i64 x.2.1)∧u.cell? ⟨n0,2,none⟩=some (.int .i64 x.2.2)) (We.alloc (.cells #[.int .i64 x.1,.int .i64 x.2.1,.int .i64 x.2.2] 155)) :=⟨(aj ((aav We (.cells #[.int .i64 x.1,.int .i64 x.2.1,.int .i64 x.2.2] 155) n0 (aar (Array.getElem?_eq_some_iff.1 dR.out).1 bT.size)).trans (aC dR.out bT)) 0),(aj ((aav We (.cells #[.int .i64 x.1,.int .i64 x.2.1,.int .i64 x.2.2] 155) n0 (aar (Array.getElem?_eq_some_iff.1 dR.out).1 bT.size)).trans (aC dR.out bT)) 1),(aj ((aav We (.cells #[.int .i64 x.1,.int .i64 x.2.1,.int .i64 x.2.2] 155) n0 (aar (Array.getElem?_eq_some_iff.1 dR.out).1 bT.size)).trans (aC dR.out bT)) 2)⟩
   have dD:(We.alloc (.cells #[.int .i64 x.1,.int .i64 x.2.1,.int .i64 x.2.2] 155)).heap[sb]?=some (.cells #[.map (some mb),.slice ad L.length cp] 134) :=(aav _ _ _ (Array.getElem?_eq_some_iff.1 hb4).1).trans hb4;refine bX 4 6 (by kernel_rfl) ?VA ?Tt;case' VA=>
    refine aP _ _ rfl (by kernel_rfl) (Fq _ _ _ _ rfl sb 1 L.length cp ad (by kernel_rfl) (aj hb4 1)) ?_;refine⟨fI,?_⟩;try refine tn ?_
    refine aF 6 (by kernel_rfl) ?_;refine aP _ _ rfl (by kernel_rfl) (GM _ _ _ _ rfl x (by kernel_rfl)) ?_;refine⟨lY,?_⟩;try refine tn ?_
   case' Tt=>
    refine aP _ _ rfl (by kernel_rfl) (GM _ _ _ _ rfl x (by kernel_rfl)) ?_;refine⟨lY,?_⟩;try refine tn ?_
    refine aF 4 (by kernel_rfl) ?_;refine aP _ _ rfl (by kernel_rfl) (Fq _ _ _ _ rfl sb 1 L.length cp ad (by kernel_rfl) (aj dD 1)) ?_;refine⟨lY,?_⟩;try refine tn ?_
   all_goals
    refine aF 7 (by kernel_rfl) ?_;refine DT rfl (by kernel_rfl) rfl _ _ rfl i0 hi0 hz0 hz1 hz2 base _ L.length (gV fT L) (by kernel_rfl) (aG iC.out (fun b hk=>bT.block b (Array.getElem?_eq_some_iff.1 (aA iC.out hk).2.choose_spec).1)) x We.heap.size rfl (by kernel_rfl) hb (aas qP bT.size) ?_;intro g c W4 gY dH fD;have HP:=bA.pushed (K:=fT) (by decide) hb4 (uu.out.keep (bT.block _ uu.out.lt)) mF.out (aG iC.out (fun b hk=>bT.block b (Array.getElem?_eq_some_iff.1 (aA iC.out hk).2.choose_spec).1)) dH gY Cb.out wI.out;have hb5:W4.heap[sb]?=some (.cells #[.map (some mb),.slice ad L.length cp] 134) :=HP.2;have dM:W4.heap[n0]?=some (.cells #[.int .i64 x.1,.int .i64 x.2.1,.int .i64 x.2.2] 155) :=(dH.block n0 (aar (Array.getElem?_eq_some_iff.1 dR.out).1 bT.size) (fun e=>lT.out n0 (aal (aal e)) rfl)).trans (aC dR.out bT)
    refine⟨⟨aj dM 0,aj dM 1,aj dM 2⟩,?_⟩;try refine tn ?_
    refine tx 8 ?_ (hS:=⟨aj dM 0,aj dM 1,aj dM 2⟩);refine tx 9 ?_ (hS:=⟨aj dM 0,aj dM 1,aj dM 2⟩);refine aF 10 (by kernel_rfl) ?_;refine bI _ rfl (by kernel_rfl) (NH _ _ _ _ _ rfl sb 1 g (L.length+1) c _ (by kernel_rfl) (by kernel_rfl) (aj hb5 1) (aaY _ sb 1 _ _ hb5)) ?_;have nG:(W4.setCell ⟨sb,1,none⟩ (.slice (some ⟨g,0,none⟩) (L.length+1) c)).heap[n0]?=some (.cells #[.int .i64 x.1,.int .i64 x.2.1,.int .i64 x.2.2] 155) :=(ay W4 sb 1 _ n0 (fun e=>lT.out sb (aap rfl) e.symm)).trans dM;refine⟨⟨aj nG 0,aj nG 1,aj nG 2⟩,?_⟩;exact zc5
  ·have h2:(aax 131 (.map (some mb)) (.agg #[.int .i64 x.1,.int .i64 x.2.1,.int .i64 x.2.2]) true).run Tryd.prog W0.drew= .ok (.tuple #[.int .i64 0,.bool false]) W0.drew:=by
    rcases(hmk.keep (w':=W0.drew) rfl).look Vy jO x hok with⟨_,h4⟩| ⟨j,h4,_⟩;·exact h4
    ·exact JR
   clear h0 hx hnd jO;refine aaA (S:=fun u=>u.cell? ⟨sb,0,none⟩=some (.map (some mb))∧u.cell? ⟨n0,0,none⟩=some (.int .i64 x.1)∧u.cell? ⟨n0,1,none⟩=some (.int .i64 x.2.1)∧u.cell? ⟨n0,2,none⟩=some (.int .i64 x.2.2)∧(aax 131 (.map (some mb)) (.agg #[.int .i64 x.1,.int .i64 x.2.1,.int .i64 x.2.2]) true).run Tryd.prog u= .ok (.tuple #[.int .i64 0,.bool false]) u) (by kernel_rfl) ?_;have hS:(fun u=>u.cell? ⟨sb,0,none⟩=some (.map (some mb))∧u.cell? ⟨n0,0,none⟩=some (.int .i64 x.1)∧u.cell? ⟨n0,1,none⟩=some (.int .i64 x.2.1)∧u.cell? ⟨n0,2,none⟩=some (.int .i64 x.2.2)∧(aax 131 (.map (some mb)) (.agg #[.int .i64 x.1,.int .i64 x.2.1,.int .i64 x.2.2]) true).run Tryd.prog u= .ok (.tuple #[.int .i64 0,.bool false]) u) ({heap:=W0.heap,tape:=W0.tape,drawn:=W0.drawn+1,os:=W0.os,output:=W0.output} :aaa) :=⟨c0,b0,b1,b2,h2⟩
   have hBd:aat W0.heap.size W0 ({heap:=W0.heap,tape:=W0.tape,drawn:=W0.drawn+1,os:=W0.os,output:=W0.output} :aaa) :=(aau _ _).drew;generalize({heap:=W0.heap,tape:=W0.tape,drawn:=W0.drawn+1,os:=W0.os,output:=W0.output} :aaa)=W1 at*;try refine tn ?_
   refine tx 0 ?_ (hS:=hS);refine tx 1 ?_ (hS:=hS);refine tx 2 ?_ (hS:=hS);refine tx 3 ?_ (hS:=hS);refine tx 4 ?_ (v:= .agg #[.int .i64 x.1,.int .i64 x.2.1,.int .i64 x.2.2]) (hS:=hS);refine tx 5 ?_ (v:= .tuple #[.int .i64 0,.bool false]) (hS:=hS);refine tx 6 ?_ (hS:=hS);refine tx 7 ?_ (hS:=hS);refine tx 8 ?_ (hS:=hS);refine tx 9 ?_ (hS:=hS);refine tx 10 ?_ (hS:=hS);refine aaQ (by kernel_rfl) ?_ _;have H1:=ah (H0.out.below hBd);have hb2:=H1.out.box;have jw:=aC uN.out hBd;have gW:=ah (hmk.keep (hBd.block _ hmk.lt));have dO:=ah H1.out.row;have xQ:Hid (mb≠sb) :=by exact Y0
   have Cy:Hid (mb≠n0) :=lT.out mb (aal (aap rfl));have kT:Hid (But (bB sb (.map (some mb)) (.slice ad L.length cp)) W W1) :=But.of_below (by rw[wD.out];exact HW.out.trans (hBd.mono (by rw[HZ.out];omega)));have yD:Hid (Value.map (some mb)= .map (some mb)∨W.heap.size≤mb) :=aap rfl;have wP:Hid (bB sb (.map (some mb)) (.slice ad L.length cp) mb∨W.heap.size≤mb) :=aap (aal (aap rfl));have mF:=ah hmb;have hcap2:base≤W1.heap.size:=aas hbase (aas (by rw[HZ.out];omega) hBd.size);have cB:W1.cell? ⟨sb,0,none⟩=some (.map (some mb)) :=aj hb2 0;have cC:W1.cell? ⟨sb,1,none⟩=some (.slice ad L.length cp) :=aj hb2 1;clear hS h2 c0 b0 b1 b2 hBd hmk hmb;go_wp2_with fail;clear cB cC;generalize W1=W2 at*;have d0:W2.cell? ⟨sb,0,none⟩=some (.map (some mb)) :=aj hb2 0;have e0:W2.cell? ⟨n0,0,none⟩=some (.int .i64 x.1) :=aj jw 0
   have e1:W2.cell? ⟨n0,1,none⟩=some (.int .i64 x.2.1) :=aj jw 1;have e2:W2.cell? ⟨n0,2,none⟩=some (.int .i64 x.2.2) :=aj jw 2;refine aaA (S:=fun u=>u.cell? ⟨sb,0,none⟩=some (.map (some mb))∧u.cell? ⟨n0,0,none⟩=some (.int .i64 x.1)∧u.cell? ⟨n0,1,none⟩=some (.int .i64 x.2.1)∧u.cell? ⟨n0,2,none⟩=some (.int .i64 x.2.2)) (by kernel_rfl) ?_;have dV:(fun u=>u.cell? ⟨sb,0,none⟩=some (.map (some mb))∧u.cell? ⟨n0,0,none⟩=some (.int .i64 x.1)∧u.cell? ⟨n0,1,none⟩=some (.int .i64 x.2.1)∧u.cell? ⟨n0,2,none⟩=some (.int .i64 x.2.2)) ({heap:=W2.heap,tape:=W2.tape,drawn:=W2.drawn+1,os:=W2.os,output:=W2.output} :aaa) :=⟨d0,e0,e1,e2⟩;have cO:aat W2.heap.size W2 ({heap:=W2.heap,tape:=W2.tape,drawn:=W2.drawn+1,os:=W2.os,output:=W2.output} :aaa) :=(aau _ _).drew;generalize({heap:=W2.heap,tape:=W2.tape,drawn:=W2.drawn+1,os:=W2.os,output:=W2.output} :aaa)=Wd at*
   try refine tn ?_
   refine tx 0 ?_ (hS:=dV);refine tx 1 ?_ (hS:=dV);refine tx 2 ?_ (hS:=dV);refine tx 3 ?_ (hS:=dV);refine tx 4 ?_ (v:= .agg #[.int .i64 x.1,.int .i64 x.2.1,.int .i64 x.2.2]) (hS:=dV);refine tx 5 ?_ (hS:=dV);obtain⟨W3,hput,mU,hg3,hz3⟩ :=(gW.out.keep (cO.block _ gW.out.lt)).put Vy j4.out x hok HX.out;try refine tn ?_
   refine aF 6 (by kernel_rfl) ?_;refine bI W3 rfl (by kernel_rfl) (afh _ _ _ _ _ _ _ rfl _ _ _ (by kernel_rfl) (by kernel_rfl) (by kernel_rfl) hput) ?_;have hb3:W3.heap[sb]?=some (.cells #[.map (some mb),.slice ad L.length cp] 134) :=(hg3.block sb (aar (Array.getElem?_eq_some_iff.1 hb2).1 cO.size) (fun e=>xQ.out (by simpa using e.symm))).trans (aC hb2 cO);have gJ:W3.heap[n0]?=some (.cells #[.int .i64 x.1,.int .i64 x.2.1,.int .i64 x.2.2] 155) :=(hg3.block n0 (aar (Array.getElem?_eq_some_iff.1 jw).1 cO.size) (fun e=>Cy.out (by simpa using e.symm))).trans (aC jw cO);refine⟨⟨aj hb3 0,aj gJ 0,aj gJ 1,aj gJ 2⟩,?_⟩;try refine tn ?_
   refine aaQ (by kernel_rfl) ?_ _;have iC:Hid (W3.ownsRow base 155 3 (.slice ad L.length cp) L.length (gV fT L)) :=aG dO.out (fun b hk=>(hg3.block b (aar (Array.getElem?_eq_some_iff.1 (aA dO.out hk).2.choose_spec).1 cO.size) (fun e=>by
    obtain⟨_,cur,h2⟩ :=aA dO.out hk;obtain⟨es,c,h3,_⟩ :=gW.out;have e':b=mb:=by simpa using e
    rw[e',h3]at h2;cases h2)).trans (cO.block b (Array.getElem?_eq_some_iff.1 (aA dO.out hk).2.choose_spec).1));have jJ:Hid (But (bB sb (.map (some mb)) (.slice ad L.length cp)) W W3) :=(kT.out.trans (But.of_below (X:=fun _=>False) cO) (fun _ _ h=>h) (fun _ _ h=>h.elim)).grown hg3 (fun k hk=>by
    have:mb=k:=by simpa using hk
    subst this;exact wP.out);have qP:base≤W3.heap.size:=by rw[hz3];exact aas hcap2 cO.size
   have uu:=ah mU;have HB3:=ah hb3;have dR:=ah gJ;have f1:W3.cell? ⟨sb,1,none⟩=some (.slice ad L.length cp) :=aj hb3 1;clear hput mU hg3 hz3 dV cO d0;go_wp2_with fail;refine aaA (S:=fun u=>u.cell? ⟨n0,0,none⟩=some (.int .i64 x.1)∧u.cell? ⟨n0,1,none⟩=some (.int .i64 x.2.1)∧u.cell? ⟨n0,2,none⟩=some (.int .i64 x.2.2)) (by kernel_rfl) ?_;have fI:(fun u=>u.cell? ⟨n0,0,none⟩=some (.int .i64 x.1)∧u.cell? ⟨n0,1,none⟩=some (.int .i64 x.2.1)∧u.cell? ⟨n0,2,none⟩=some (.int .i64 x.2.2)) ({heap:=W3.heap,tape:=W3.tape,drawn:=W3.drawn+1,os:=W3.os,output:=W3.output} :aaa) :=⟨aj gJ 0,aj gJ 1,aj gJ 2⟩;have bT:aat W3.heap.size W3 ({heap:=W3.heap,tape:=W3.tape,drawn:=W3.drawn+1,os:=W3.os,output:=W3.output} :aaa) :=(aau _ _).drew;generalize({heap:=W3.heap,tape:=W3.tape,drawn:=W3.drawn+1,os:=W3.os,output:=W3.output} :aaa)=We at*
   have hb4:We.heap[sb]?=some (.cells #[.map (some mb),.slice ad L.length cp] 134) :=aC HB3.out bT;try refine tn ?_
   refine tx 0 ?_ (hS:=fI);refine tx 1 ?_ (hS:=fI);refine tx 2 ?_ (hS:=fI);refine tx 3 ?_ (hS:=fI);refine tx 5 ?_ (v:= .agg #[.int .i64 x.1,.int .i64 x.2.1,.int .i64 x.2.2]) (hS:=fI);have lY:(fun u=>u.cell? ⟨n0,0,none⟩=some (.int .i64 x.1)∧u.cell? ⟨n0,1,none⟩=some (.int .i64 x.2.1)∧u.cell? ⟨n0,2,none⟩=some (.int .i64 x.2.2)) (We.alloc (.cells #[.int .i64 x.1,.int .i64 x.2.1,.int .i64 x.2.2] 155)) :=⟨(aj ((aav We (.cells #[.int .i64 x.1,.int .i64 x.2.1,.int .i64 x.2.2] 155) n0 (aar (Array.getElem?_eq_some_iff.1 dR.out).1 bT.size)).trans (aC dR.out bT)) 0),(aj ((aav We (.cells #[.int .i64 x.1,.int .i64 x.2.1,.int .i64 x.2.2] 155) n0 (aar (Array.getElem?_eq_some_iff.1 dR.out).1 bT.size)).trans (aC dR.out bT)) 1),(aj ((aav We (.cells #[.int .i64 x.1,.int .i64 x.2.1,.int .i64 x.2.2] 155) n0 (aar (Array.getElem?_eq_some_iff.1 dR.out).1 bT.size)).trans (aC dR.out bT)) 2)⟩
   have dD:(We.alloc (.cells #[.int .i64 x.1,.int .i64 x.2.1,.int .i64 x.2.2] 155)).heap[sb]?=some (.cells #[.map (some mb),.slice ad L.length cp] 134) :=(aav _ _ _ (Array.getElem?_eq_some_iff.1 hb4).1).trans hb4;refine bX 4 6 (by kernel_rfl) ?Us ?UX;case' Us=>
    refine aP _ _ rfl (by kernel_rfl) (Fq _ _ _ _ rfl sb 1 L.length cp ad (by kernel_rfl) (aj hb4 1)) ?_;refine⟨fI,?_⟩;try refine tn ?_
    refine aF 6 (by kernel_rfl) ?_;refine aP _ _ rfl (by kernel_rfl) (GM _ _ _ _ rfl x (by kernel_rfl)) ?_;refine⟨lY,?_⟩;try refine tn ?_
   case' UX=>
    refine aP _ _ rfl (by kernel_rfl) (GM _ _ _ _ rfl x (by kernel_rfl)) ?_;refine⟨lY,?_⟩;try refine tn ?_
    refine aF 4 (by kernel_rfl) ?_;refine aP _ _ rfl (by kernel_rfl) (Fq _ _ _ _ rfl sb 1 L.length cp ad (by kernel_rfl) (aj dD 1)) ?_;refine⟨lY,?_⟩;try refine tn ?_
   all_goals
    refine aF 7 (by kernel_rfl) ?_;refine DT rfl (by kernel_rfl) rfl _ _ rfl i0 hi0 hz0 hz1 hz2 base _ L.length (gV fT L) (by kernel_rfl) (aG iC.out (fun b hk=>bT.block b (Array.getElem?_eq_some_iff.1 (aA iC.out hk).2.choose_spec).1)) x We.heap.size rfl (by kernel_rfl) hb (aas qP bT.size) ?_;intro g c W4 gY dH fD;have HP:=bA.pushed (K:=fT) (by decide) hb4 (uu.out.keep (bT.block _ uu.out.lt)) mF.out (aG iC.out (fun b hk=>bT.block b (Array.getElem?_eq_some_iff.1 (aA iC.out hk).2.choose_spec).1)) dH gY Cb.out wI.out;have hb5:W4.heap[sb]?=some (.cells #[.map (some mb),.slice ad L.length cp] 134) :=HP.2;have dM:W4.heap[n0]?=some (.cells #[.int .i64 x.1,.int .i64 x.2.1,.int .i64 x.2.2] 155) :=(dH.block n0 (aar (Array.getElem?_eq_some_iff.1 dR.out).1 bT.size) (fun e=>lT.out n0 (aal (aal e)) rfl)).trans (aC dR.out bT)
    refine⟨⟨aj dM 0,aj dM 1,aj dM 2⟩,?_⟩;try refine tn ?_
    refine tx 8 ?_ (hS:=⟨aj dM 0,aj dM 1,aj dM 2⟩);refine tx 9 ?_ (hS:=⟨aj dM 0,aj dM 1,aj dM 2⟩);refine aF 10 (by kernel_rfl) ?_;refine bI _ rfl (by kernel_rfl) (NH _ _ _ _ _ rfl sb 1 g (L.length+1) c _ (by kernel_rfl) (by kernel_rfl) (aj hb5 1) (aaY _ sb 1 _ _ hb5)) ?_;have nG:(W4.setCell ⟨sb,1,none⟩ (.slice (some ⟨g,0,none⟩) (L.length+1) c)).heap[n0]?=some (.cells #[.int .i64 x.1,.int .i64 x.2.1,.int .i64 x.2.2] 155) :=(ay W4 sb 1 _ n0 (fun e=>lT.out sb (aap rfl) e.symm)).trans dM;refine⟨⟨aj nG 0,aj nG 1,aj nG 2⟩,?_⟩;exact zc4
theorem vQ(f:Nat→Nat)(p:Nat×Nat) : ∀(l:List (Nat×Nat))(last:Option Nat),dJ f last (l++ [p])=dJ f last l++(if(l.getLast?.map fun s=>f s.2).or last=some (f p.2)then[]else[(p.1,f p.2)])
 | [],last=>by by_cases h:last=some (f p.2)<;>simp[dJ,h]
 | (k,v) ::t,last=>by
  have hl: ∀(o:Option Nat),((((k,v) ::t:List (Nat×Nat)).getLast?.map fun s=>f s.2).or o)=((t.getLast?.map fun s=>f s.2).or (some (f v))) :=by
   intro o;cases t with
   |nil=>simp
   |cons a t=>
    rw[List.getLast?_cons_cons];cases h:(a::t).getLast? with
    |none=>simp at h
    |some x=>rfl
  rw[abk];simp only[dJ];by_cases h:last=some (f v);·rw[if_pos h,if_pos h,vQ f p t last,hl,h]
  ·rw[if_neg h,if_neg h,vQ f p t (some (f v)),hl,abk]
structure mK(W:aaa)(base tb:Nat)(a0 a1 a2 a3 aV bC oV dw:aah)(l:List gT)(bs:List Bool)(cl:List Int) :Prop where
 box:W.heap[tb]?=some (.cells #[a0,a1,a2,a3,aV,bC,oV,dw] 93)
 rows:jW W base aV l
 fin:W.ownsRow base 4 1 bC bs.length (bs.map Value.bool)
 cls:W.ownsRow base 3 1 oV cl.length (zI cl)
section
variable {W W1:aaa} {base tb:Nat} {a0 a1 a2 a3 aV bC oV dw:aah} {l:List gT} {bs:List Bool} {cl:List Int}
theorem mK.keep(h:mK W base tb a0 a1 a2 a3 aV bC oV dw l bs cl) {X:Nat→Prop}(hb:But X W W1)(hX: ∀b,X b→∀cs t,W.heap[b]?=some (.cells cs t)→t≠93∧t≠127∧t≠129∧t≠4∧t≠3) :mK W1 base tb a0 a1 a2 a3 aV bC oV dw l bs cl:=by
 have at_: ∀(b:Nat)(cs:Array aah)(t:TypeId),(t=93∨t=127∨t=129∨t=4∨t=3)→W.heap[b]?=some (.cells cs t)→W1.heap[b]?=some (.cells cs t) :=by
  intro b cs t ht hh;rw[hb.block b (Array.getElem?_eq_some_iff.1 hh).1 (fun hx=> ?_)];·exact hh
  ·have:=hX b hx cs t hh;rcases ht with e|e|e|e|e;·exact this.1 e
   ·exact this.2.1 e
   ·exact this.2.2.1 e
   ·exact this.2.2.2.1 e
   ·exact this.2.2.2.2 e
 refine⟨at_ _ _ _ (aap rfl) h.box,h.rows.congr fun b cs t ht _ hh=>at_ b cs t (by rcases ht with e|e<;>simp[e]) hh,?_,?_⟩;·exact ZZ
 ·refine aG h.cls (fun b hk=> ?_);obtain⟨_,cur,h2⟩ :=aA h.cls hk;rw[at_ b cur _ (by simp) h2,h2]
theorem mK.below(h:mK W base tb a0 a1 a2 a3 aV bC oV dw l bs cl)(hb:aat W.heap.size W W1) :mK W1 base tb a0 a1 a2 a3 aV bC oV dw l bs cl:=h.keep (X:=fun _=>False) (But.of_below hb) (fun b hx=>hx.elim)
theorem mK.aep(h:mK W base tb a0 a1 a2 a3 aV bC oV dw l bs cl) {sb:Nat} {vm aI:aah} {Tr:List (Int×Nat×Nat)}(hs:bA fT W base sb vm aI Tr)(hb:But (bB sb vm aI) W W1) :mK W1 base tb a0 a1 a2 a3 aV bC oV dw l bs cl:=h.keep hb (fun b hB cs t hh=>by
 rcases(hs.blk hB).2 with⟨c,h1⟩| ⟨es,c,h1⟩| ⟨c,h1⟩;·rw[hh]at h1;simp only[aaU,Obj.cells.injEq]at h1;rw[h1.2.1];decide
 ·rw[hh]at h1;cases h1
 ·rw[hh]at h1;simp only[aaU,Obj.cells.injEq]at h1;rw[h1.2.1];decide)
end
def bn(cl:List Int)(q:Nat) :Nat:=(cl.getD q 0).toNat
def KH(W:aaa)(base sb:Nat)(vm aI:aah)(Tr:List (Int×Nat×Nat))(G:List jE)(μ:jE)(m:Nat)(e:Ending)(W':aaa) :Prop:=∃a dF bG lC G',e= .returned (.int .i64 a)∧bA fT W' base sb dF bG lC∧jB lC G'∧(∃r,G'=G++r)∧jR G' a∧mean G' a=μ∧lC.length≤Tr.length+m∧But (bB sb vm aI) W W'∧(∀b,bB sb dF bG b→bB sb vm aI b∨W.heap.size≤b)
def qN(o:Option Nat) :Int:=match o with|none=> -1|some c=>(c:Int)
theorem WL(o:Option Nat)(c:Nat) :((c:Int) !=qN o)=decide (o≠some c) :=by
 cases o with
 |none=>
  have:(c:Int)≠ -1:=by omega
  simp[qN,this]
 |some d=>
  by_cases h:d=c;·subst h;simp[qN]
  ·have h2:(c:Int)≠(d:Int) :=by omega
   simp[qN,h,h2]
theorem Tj {l:List (Nat×Nat)} {t:Nat} {s:Nat×Nat}(h:l[t]?=some s) :(l.take (t+1)).getLast?=some s:=by have ht:=(List.getElem?_eq_some_iff.1 h).1;rw[aa9 ht];have:=(List.getElem?_eq_some_iff.1 h).2;simp[this]
theorem MP(base tb sb:Nat)(a0 a1 a2 a3 aV bC oV dw vm aI:aah)(l:List gT)(bs:List Bool)(cl:List Int)(q:Nat)(u:aah)(rs:List (Nat×Nat))(Tr:List (Int×Nat×Nat))(G:List jE)(W:aaa)(hq:q<l.length)(hl:l[q]?=some (u,rs))(hbq:bs.length=l.length)(hcl:cl.length=l.length)(hn:l.length≤1114112)(hrs: ∀s∈rs,s.1≤1048576∧s.2<l.length)(hrl:rs.length≤1001)(hcb: ∀z∈cl,0≤z∧z≤1114112)(hT:mK W base tb a0 a1 a2 a3 aV bC oV dw l bs cl)(hS:bA fT W base sb vm aI Tr)(hTr:jB Tr G)(GG:Tr.length≤1099511627776)(hbase:base≤W.heap.size) :Calls Tryd.prog 76 #[.pointer (some ⟨tb,0,none⟩),.int .i64 (q:Int),.pointer (some ⟨sb,0,none⟩)] W (KH W base sb vm aI Tr G (bs.getD q false,dJ (bn cl) none rs) rs.length) :=by
 have HT:=ah hT;have HS:=ah hS;have uk:=ah hTr;have Fy:=ah hrs;have HLq:=ah hl;have HCB:=ah hcb;obtain⟨g1,c1,hv1⟩ :=dA hT.rows.row (by omega);obtain⟨g2,c2,hv2⟩ :=dA hT.fin (by omega);obtain⟨g3,c3,hv3⟩ :=dA hT.cls (by omega);subst hv1;subst hv2;subst hv3;have b1:=aj hT.box 4;have b2:=aj hT.box 5;have b3:=aj hT.box 6;have hu:=hT.rows.each _ (aa3 hl);have x1:W.cell? ⟨g1,q,none⟩=some u:=aQ hT.rows.row (by rw[aa4,hl];rfl);have x2:W.cell? ⟨g2,q,none⟩=some (.bool (bs.getD q false)) :=aQ hT.fin (by rw[aa4,aa5,aaL (by omega)];rfl);have hqz:(q:Int)<(l.length:Int) :=by omega
 have hqb:(q:Int)<(bs.length:Int) :=by omega
 have asG:q<bs.length:=by omega
 obtain⟨au,cu,hvu⟩ :=iK hu;dsimp only at hu hvu;subst hvu;have HU:=ah hu;have HBQ:=ah hbq;have RF:=ah hcl;clear hT hS hTr hrs hcb hl hu hbq hcl;generalize bs.getD q false=fq at*;go_enter Tryd.func76,Tryd.ntmps76;go_upto_if 18 with fail;go_cut [7,8](fun nv lv wx=>nv= .int .i64 (if fq=true then-2 else-1)∧lv= .int .i64 (-1)∧wx=W);case first=>
  cases fq with
  |true=>go_wp2_with fail;go_meet;case rel=>exact⟨rfl,rfl,rfl⟩
  |false=>go_wp2_with fail;go_meet;case rel=>exact⟨rfl,rfl,rfl⟩
 case rest=>
  obtain⟨rfl,rfl,hw⟩ :=hcut;obtain rfl:=hw.symm;have Ih:Hid (jR G (if fq=true then-2 else-1)∧mean G (if fq=true then-2 else-1)=(fq,dJ (bn cl) none (rs.take 0))) :=by
   cases fq with
   |true=>exact⟨aal (aap rfl),rfl⟩
   |false=>exact⟨aap rfl,rfl⟩
  generalize(if fq=true then(-2:Int)else-1)=z0 at*;go_wp2_with fail;go_loopw [27,7,8](fun jv nv lv wx=>∃(t:Nat)(a:Int)(dF bG:aah)(lC:List (Int×Nat×Nat))(G':List jE),t≤rs.length∧jv= .int .i64 (t:Int)∧nv= .int .i64 a∧lv= .int .i64 (qN ((rs.take t).getLast?.map fun s=>bn cl s.2))∧mK wx base tb a0 a1 a2 a3 (.slice (some ⟨g1,0,none⟩) l.length c1) (.slice (some ⟨g2,0,none⟩) bs.length c2) (.slice (some ⟨g3,0,none⟩) cl.length c3) dw l bs cl∧bA fT wx base sb dF bG lC∧jB lC G'∧(∃r,G'=G++r)∧jR G' a∧mean G' a=(fq,dJ (bn cl) none (rs.take t))∧lC.length≤Tr.length+t∧But (bB sb vm aI) W wx∧(∀b,bB sb dF bG b→bB sb vm aI b∨W.heap.size≤b))(fun jv _ _ _=>rs.length-(intOf jv).toNat);case atStart=>exact⟨0,z0,vm,aI,Tr,G,Nat.zero_le _,rfl,rfl,rfl,HT.out,HS.out,uk.out,⟨[],by simp⟩,Ih.out.1,Ih.out.2,aaE _,But.refl _ _,fun b hb=>aap hb⟩
  case round=>
   clear HT HS uk Ih b1 b2 b3 x1 x2;obtain⟨t,a,dF,bG,lC,G',ht,rfl,rfl,rfl,hT,hS,hTr,hpre,mG,zX,hlen,gU,hat⟩ :=hrel;have HT:=ah hT;have HS:=ah hS;have uk:=ah hTr;have HP:Hid ((∃r,G'=G++r)∧jR G' a∧mean G' a=(fq,dJ (bn cl) none (rs.take t))) :=⟨hpre,mG,zX⟩;have iq:=ah gU;have qB:=ah hat;have asD:=hlen;by_cases hlt:t<rs.length
   ·have hltz:(t:Int)<(rs.length:Int) :=by omega
    obtain⟨sx,hsx⟩ : ∃s,rs[t]?=some s:=⟨_,aaL hlt⟩;have hsb:=Fy.out sx (aa3 hsx);have hrow:wr.ownsRow base 129 2 (.slice au rs.length cu) rs.length (strCells rs) :=by have:=hT.rows.each _ (aa3 HLq.out);exact this
    obtain⟨gu,cu',hvu⟩ :=dA hrow (by omega);simp only[Value.slice.injEq,true_and]at hvu;obtain⟨rfl,rfl⟩ :=hvu;have y0:=aQ hrow (tN rs t sx hsx).1;have y1:=aQ hrow (tN rs t sx hsx).2;have hc2:sx.2<cl.length:=by rw[RF.out];exact hsb.2
    have agJ:(sx.2:Int)<(cl.length:Int) :=by omega
    have hcz:cl.getD sx.2 0=((bn cl sx.2:Nat) :Int)∧bn cl sx.2≤1114112:=by have h1:=HCB.out (cl.getD sx.2 0) (by rw[aa5,aaL hc2];exact List.getElem_mem hc2);unfold bn;omega
    have y3:wr.cell? ⟨g3,sx.2,none⟩=some (.int .i64 ((bn cl sx.2:Nat) :Int)) :=aQ hT.cls (by unfold zI;rw[aa4,aaL hc2,←hcz.1,aa5,aaL hc2];rfl);have hcc:=hcz.2;have ajt:Hid (rs.take (t+1)=rs.take t++ [sx]) :=by show _=_;rw[aa9 hlt,(List.getElem?_eq_some_iff.1 hsx).2]
    have IU:Hid ((rs.take (t+1)).getLast?.map (fun s=>bn cl s.2)=some (bn cl sx.2)) :=by show _=_;rw[Tj hsx];rfl
    have HSq:Hid (dJ (bn cl) none (rs.take (t+1))=dJ (bn cl) none (rs.take t)++(if((rs.take t).getLast?.map fun s=>bn cl s.2)=some (bn cl sx.2)then[]else[(sx.1,bn cl sx.2)])) :=by show _=_;rw[ajt.out,vQ,Option.or_none]
    have hneq:=WL ((rs.take t).getLast?.map fun s=>bn cl s.2) (bn cl sx.2);generalize((rs.take t).getLast?.map fun s=>bn cl s.2)=o at*;generalize bn cl sx.2=c at*;have HW2:=ah (hT.below ((aau wr.heap.size wr).alloc (aaE _) (.cells #[.int .i64 (sx.1:Int),.int .i64 (sx.2:Int)] 129)));have HS2:=ah (hS.below ((aau wr.heap.size wr).alloc (aaE _) (.cells #[.int .i64 (sx.1:Int),.int .i64 (sx.2:Int)] 129)));have Lr:(wr.alloc (.cells #[.int .i64 (sx.1:Int),.int .i64 (sx.2:Int)] 129)).heap[wr.heap.size]?=some (.cells #[.int .i64 (sx.1:Int),.int .i64 (sx.2:Int)] 129) :=aa8 _ _;have kT:=ah (gU.alloc (.cells #[.int .i64 (sx.1:Int),.int .i64 (sx.2:Int)] 129));have y3':=((aau wr.heap.size wr).alloc (aaE _) (.cells #[.int .i64 (sx.1:Int),.int .i64 (sx.2:Int)] 129)).cell (p:=⟨g3,sx.2,none⟩) (cell_lt y3)
    rw[y3]at y3';clear hT hS hTr hpre mG zX gU hat hrow hcz agJ hsx HT HS iq;go_upto_region 7 with fail;clear y0 y1 y3;generalize wr.alloc (.cells #[.int .i64 (sx.1:Int),.int .i64 (sx.2:Int)] 129)=W2 at*;have z6:=aj HW2.out.box 6;have n0:=aj Lr 0;have n1:=aj Lr 1;have agJ:(sx.2:Int)<(cl.length:Int) :=by omega
    by_cases ho:o=some c
    ·have hne:((c:Int) !=qN o)=false:=by rw[hneq];simp[ho]
     have xH:Hid (qN o=qN (some c)) :=by show _=_;rw[ho]
     have Qg:Hid (dJ (bn cl) none (rs.take (t+1))=dJ (bn cl) none (rs.take t)) :=by show _=_;rw[HSq.out,if_pos ho,List.append_nil]
     clear ho hneq;generalize qN o=lz at*;go_quiet(fail);have hbq:aat W2.heap.size W2 (W2.drewN nq) :=⟨rfl,rfl,rfl,aaE _,fun _ _=>rfl⟩;have HW3:=ah (HW2.out.below hbq);have fJ:=ah (HS2.out.below hbq);have jJ:=ah (kT.out.drewN nq);clear hbq z6 n0 n1 y3' Lr;go_wp2_with fail;go_roundw;case rel=>exact⟨t+1,a,dF,bG,lC,G',by omega,by go_num,rfl,by rw[IU.out,xH.out],HW3.out,fJ.out,uk.out,HP.out.1,HP.out.2.1,by rw[Qg.out];exact HP.out.2.2,by omega,jJ.out,qB.out⟩
     case measure=>simp[intOf];omega
    ·have hne:((c:Int) !=qN o)=true:=by rw[hneq];simp[ho]
     have Qg:Hid (dJ (bn cl) none (rs.take (t+1))=dJ (bn cl) none (rs.take t)++ [(sx.1,c)]) :=by show _=_;rw[HSq.out,if_neg ho]
     have hab: -2≤a∧a≤2199023255552:=by have h1:=uk.out.len;rcases HP.out.2.1 with h|h|h<;>omega
     clear ho hneq;generalize qN o=lz at*;go_quiet(fail);have hbq:aat W2.heap.size W2 (W2.drewN nq) :=⟨rfl,rfl,rfl,aaE _,fun _ _=>rfl⟩;have HW3:=ah (HW2.out.below hbq);have fJ:=ah (HS2.out.below hbq);have jJ:=ah (kT.out.drewN nq);have n0':=aj (aC Lr hbq) 0;clear hbq z6 n0 n1 y3' Lr;generalize W2.drewN nq=W3 at*;go_wp2_with fail;refine(PZ base sb dF bG lC (a,sx.1,c) _ ⟨⟨by show _≤a;omega,by show a≤_;omega⟩,by show sx.1≤_;omega,by show c≤_;omega⟩ (by omega) (aas hbase jJ.out.size) fJ.out).mono ?_;rintro e w4⟨rfl,vm4,Zl,hs4,sS,fD,abv⟩;have HG:Hid (∃G4,jB (meet lC (a,sx.1,c)) G4∧(∃r,G4=G++r)∧jR G4 ((ix (meet lC (a,sx.1,c)) (a,sx.1,c) :Nat) :Int)∧mean G4 ((ix (meet lC (a,sx.1,c)) (a,sx.1,c) :Nat) :Int)=(fq,dJ (bn cl) none (rs.take (t+1)))∧(meet lC (a,sx.1,c)).length≤Tr.length+(t+1)) :=by
      obtain⟨⟨r,hr⟩,hn1,hm1⟩ :=HP.out;by_cases hm:(a,sx.1,c)∈lC;·have hix:=lK hm;obtain⟨h1,h2⟩ :=uk.out.found hix;rw[dZ hm];refine⟨G',uk.out,⟨r,hr⟩,h1,?_,by omega⟩;rw[h2,Qg.out];show((mean G' a).1,(mean G' a).2++ [(sx.1,c)])=_;rw[hm1]
      ·rw[cK hm,jr hm];refine⟨_,uk.out.push (t:=(a,sx.1,c)) hn1 hm,⟨r++ [((mean G' a).1,(mean G' a).2++ [(sx.1,c)])],by rw[hr,List.append_assoc]⟩,(KN uk.out _).1,?_,by rw[aaK];simp;omega⟩;rw[(KN uk.out _).2,Qg.out];show((mean G' a).1,(mean G' a).2++ [(sx.1,c)])=_;rw[hm1]
     have HW4:=ah (HW3.out.aep fJ.out sS);have qw:=ah hs4;have LB:Hid (But (bB sb vm aI) W w4) :=by
      refine⟨sS.os.trans jJ.out.os,sS.tape.trans jJ.out.tape,sS.output.trans jJ.out.output,aas jJ.out.size sS.size,fun b hb BF=> ?_⟩;rw[sS.block b (aar hb jJ.out.size) (fun hB=> ?_),jJ.out.block b hb BF];rcases qB.out b hB with h1|h1;·exact BF h1
      ·omega
     have anF:Hid (∀b,bB sb vm4 Zl b→bB sb vm aI b∨W.heap.size≤b) :=by
      intro b hB;have hsz:=jJ.out.size;rcases hB with e|e|e;·exact aap (aap e)
      ·rcases abv b e with h1|h1;·exact qB.out b (aal (aap h1))
       ·exact aal (by omega)
      ·rcases fD b e with h1|h1;·exact qB.out b (aal (aal h1))
       ·exact aal (by omega)
     generalize meet lC (a,sx.1,c)=Tr4 at*;generalize ix Tr4 (a,sx.1,c)=i4 at*;obtain⟨G4,hg1,hg2,hg3,hg4,hg5⟩ :=HG.out;have VG:Hid (jB Tr4 G4∧(∃r,G4=G++r)∧jR G4 (i4:Int)∧mean G4 (i4:Int)=(fq,dJ (bn cl) none (rs.take (t+1)))∧Tr4.length≤Tr.length+(t+1)) :=⟨hg1,hg2,hg3,hg4,hg5⟩;clear hs4 sS fD abv HG hg1 hg2 hg3 hg4 hg5 n0' HW3 fJ jJ;go_wp2_with fail;go_roundw;case rel=>exact⟨t+1,(i4:Int),vm4,Zl,Tr4,G4,by omega,by go_num,rfl,by rw[IU.out];rfl,HW4.out,qw.out,VG.out.1,VG.out.2.1,VG.out.2.2.1,VG.out.2.2.2.1,VG.out.2.2.2.2,LB.out,anF.out⟩
     case measure=>simp[intOf];omega
   ·have hltz: ¬(t:Int)<(rs.length:Int) :=by omega
    obtain rfl:t=rs.length:=by omega
    have HFin:Hid (KH W base sb vm aI Tr G (fq,dJ (bn cl) none rs) rs.length (.returned (.int .i64 a)) wr) :=⟨a,dF,bG,lC,G',rfl,hS,hTr,hpre,mG,by rw[zX,List.take_length],hlen,gU,hat⟩;clear hT hS hTr hpre mG zX gU hat HT HS uk HP iq qB;go_wp2_with fail;go_ret;exact HFin.out
def gD(W:aaa)(g3:Nat)(v:aah)(zs:List Int) :Prop:=∃g off cap cur,v= .slice (some ⟨g,off,none⟩) zs.length cap∧W.heap[g]?=some (.cells cur 3)∧g≠g3∧∀t,t<zs.length→W.cell? ⟨g,off+t,none⟩=some (.int .i64 (zs.getD t 0))
theorem gD.keep {W W':aaa} {g3:Nat} {v:aah} {zs:List Int} {X:Nat→Prop}(h:gD W g3 v zs)(hb:But X W W')(hX: ∀b,X b→b=g3∨∀cur,W.heap[b]?≠some (.cells cur 3)) :gD W' g3 v zs:=by
 obtain⟨g,off,cap,cur,rfl,h1,h2,h3⟩ :=h;have hg:=(Array.getElem?_eq_some_iff.1 h1).1;have hn: ¬X g:=fun hx=>by
  rcases hX g hx with e|e;·exact h2 e
  ·exact e cur h1
 refine⟨g,off,cap,cur,rfl,(hb.block g hg hn).trans h1,h2,fun t ht=> ?_⟩;rw[hb.cell (p:=⟨g,off+t,none⟩) hg hn];exact h3 t ht
theorem gD.below {W W':aaa} {g3:Nat} {v:aah} {zs:List Int}(h:gD W g3 v zs)(hb:aat W.heap.size W W') :gD W' g3 v zs:=h.keep (X:=fun _=>False) (But.of_below hb) (fun b hx=>hx.elim)
theorem gD.own {W:aaa} {base g3:Nat} {v:aah} {zs:List Int}(h:W.ownsRow base 3 1 v zs.length (zI zs))(hne:zs≠ [])(hg:g3<base) :gD W g3 v zs:=by have hp:0<zs.length:=List.length_pos_iff.2 hne;obtain⟨g,cap,rfl⟩ :=dA h hp;obtain⟨h1,cur,h2⟩ :=aA h (b:=g) rfl;refine⟨g,0,cap,cur,rfl,h2,by omega,fun t ht=> ?_⟩;obtain⟨g',o',e,_,hc⟩ :=(bD.own h).cells ht;exact Z5
structure Pd(W0 W:aaa)(base sk sb:Nat)(qC vk vp:aah)(Ks:List Int)(us:List aah)(gs:List (List Nat))(yR om vm aI:aah)(Tr:List (Int×Nat×Nat))(G:List jE) :Prop where
 ks:bA dX W W0.heap.size sk qC vk Ks
 U6:W0.heap.size≤sk
 pr:W.ownsRow W0.heap.size 56 1 vp us.length us
 rows: ∃R,aY W W0.heap.size R∧R 0=some (vk,Ks)∧∀j u g,us[j]?=some u→gs[j]?=some g→R (j+1)=some (u,aH g)
 len:us.length=gs.length
 ts:bA fT W base sb vm aI Tr
 tr:jB Tr G
 Jr: ∀b,bB sk qC vk b→¬bB sb vm aI b
 but:But (bB sb yR om) W0 W
 hat: ∀b,bB sb vm aI b→bB sb yR om b∨W0.heap.size≤b
section
variable {W0 W W1:aaa} {base sk sb:Nat} {qC vk vp:aah} {Ks:List Int} {us:List aah} {gs:List (List Nat)} {yR om vm aI:aah} {Tr:List (Int×Nat×Nat)} {G:List jE}
theorem iB(h:bA fT W base sb vm aI Tr) {b:Nat} {cs:Array aah} {t:TypeId}(hB:bB sb vm aI b)(hh:W.heap[b]?=some (.cells cs t)) :t=134∨t=155:=by exact QJ
theorem oG(h:bA dX W base sk qC vk Ks) {b:Nat} {cs:Array aah} {t:TypeId}(hB:bB sk qC vk b)(hh:W.heap[b]?=some (.cells cs t)) :t=142∨t=3:=by exact QJ
theorem Pd.ajz(h:Pd W0 W base sk sb qC vk vp Ks us gs yR om vm aI Tr G) {dF bG:aah} {lC:List (Int×Nat×Nat)} {G':List jE}(hs:bA fT W1 base sb dF bG lC)(ht:jB lC G')(hb:But (bB sb vm aI) W W1)(hat: ∀b,bB sb dF bG b→bB sb vm aI b∨W.heap.size≤b) :Pd W0 W1 base sk sb qC vk vp Ks us gs yR om dF bG lC G':=by
 refine⟨h.ks.but hb h.Jr,h.U6,aG h.pr (fun b hk=> ?_),?_,h.len,hs,ht,fun b hB hB'=> ?_,?_,fun b hB=> ?_⟩;·obtain⟨_,cur,h2⟩ :=aA h.pr hk;refine hb.block b (Array.getElem?_eq_some_iff.1 h2).1 (fun hx=> ?_);rcases iB h.ts hx h2 with e|e<;>exact absurd e (by decide)
 ·obtain⟨R,h1,h2,h3⟩ :=h.rows;refine⟨R,h1.but hb (fun b hx cur e=> ?_),h2,h3⟩;rcases iB h.ts hx e with e|e<;>exact absurd e (by decide)
 ·rcases hat b hB' with h1|h1;·exact h.Jr b hB h1
  ·have:=(h.ks.blk hB).1;omega
 ·refine⟨hb.os.trans h.but.os,hb.tape.trans h.but.tape,hb.output.trans h.but.output,aas h.but.size hb.size,fun b hb' BF=> ?_⟩;rw[hb.block b (aar hb' h.but.size) (fun hB=> ?_),h.but.block b hb' BF];rcases h.hat b hB with h1|h1;·exact BF h1
  ·omega
 ·rcases hat b hB with h1|h1;·exact h.hat b h1
  ·exact aal (aas h.but.size h1)
theorem Pd.place(h:Pd W0 W base sk sb qC vk vp Ks us gs yR om vm aI Tr G) {X9 vk':aah} {Ks':List Int}(hs:bA dX W1 W0.heap.size sk X9 vk' Ks')(hb:But (bB sk qC vk) W W1)(hat: ∀b,vk'.ownBlock=some b→vk.ownBlock=some b∨W.heap.size≤b)(ni: ∀b,X9= .map (some b)→qC= .map (some b)∨W.heap.size≤b) :Pd W0 W1 base sk sb X9 vk' vp Ks' us gs yR om vm aI Tr G:=by
 have hge: ∀b,bB sk qC vk b→W0.heap.size≤b:=fun b hB=>by
  rcases h.ks.from_ hB with e|e;·rw[e];exact h.U6
  ·exact e
 refine⟨hs,h.U6,aG h.pr (fun b hk=> ?_),?_,h.len,h.ts.but hb (fun b hB hB'=>h.Jr b hB' hB),h.tr,fun b hB hB'=> ?_,?_,h.hat⟩;·obtain⟨_,cur,h2⟩ :=aA h.pr hk;refine hb.block b (Array.getElem?_eq_some_iff.1 h2).1 (fun hx=> ?_);rcases oG h.ks hx h2 with e|e<;>exact absurd e (by decide)
 ·obtain⟨R,h1,h2,h3⟩ :=h.rows;refine⟨upd R 0 (some (vk',Ks')),h1.place h2 h.ks hs hb hat,upd_same _ _ _,fun j u g hj hg=> ?_⟩;rw[aD _ _ (by omega)];exact h3 j u g hj hg
 ·have hlt:=(h.ts.blk hB').1;rcases hB with e|e|e;·exact h.Jr b (aap e) hB'
  ·rcases ni b e with h1|h1;·exact h.Jr b (aal (aap h1)) hB'
   ·omega
  ·rcases hat b e with h1|h1;·exact h.Jr b (aal (aal h1)) hB'
   ·omega
 ·refine⟨hb.os.trans h.but.os,hb.tape.trans h.but.tape,hb.output.trans h.but.output,aas h.but.size hb.size,fun b hb' BF=> ?_⟩;rw[hb.block b (aar hb' h.but.size) (fun hB=>by have:=hge b hB;omega),h.but.block b hb' BF]
theorem Pd.more(h:Pd W0 W base sk sb qC vk vp Ks us gs yR om vm aI Tr G) {vp':aah}(hb:But (fun b=>vp.ownBlock=some b) W W1)(ho:W1.ownsRow W0.heap.size 56 1 vp' (us.length+1) (us++ [aJ])) :Pd W0 W1 base sk sb qC vk vp' Ks (us++ [aJ]) (gs++ [[]]) yR om vm aI Tr G:=by
 have hne: ∀b,vp.ownBlock=some b→∀cs t,W.heap[b]?=some (.cells cs t)→t=56:=fun b hk cs t hh=>by obtain⟨_,cur,h2⟩ :=aA h.pr hk;rw[hh]at h2;simp only[aaU,Obj.cells.injEq]at h2;exact h2.2.1
 have hc: ∀b,vp.ownBlock=some b→∃cs,W.heap[b]?=some (.cells cs 56) :=fun b hk=>(aA h.pr hk).2;refine⟨h.ks.but hb (fun b hB hk=> ?_),h.U6,by rw[aaK,aa'];exact ho,?_,by rw[aaK,aaK,h.len];rfl,h.ts.but hb (fun b hB hk=> ?_),h.tr,h.Jr,?_,h.hat⟩;·obtain⟨cs,h1⟩ :=hc b hk;rcases oG h.ks hB h1 with e|e<;>exact absurd e (by decide)
 ·obtain⟨R,h1,h2,h3⟩ :=h.rows;have h1':aY W1 W0.heap.size R:=h1.but hb (fun b hk cur e=>absurd (hne b hk cur _ e) (by decide));refine⟨upd R (us.length+1) (some (aJ,[])),⟨fun a u zs ha=> ?_,fun a b u zs x ys hab ha hb'=> ?_⟩,by rw[aD _ _ (by omega)];exact h2,fun j u g hj hg=> ?_⟩
  ·by_cases e:a=us.length+1;·rw[e,upd_same]at ha;cases ha;exact World.ownsRow_nil _ _ _ _
   ·rw[aD _ _ e]at ha;exact h1'.own a u zs ha
  ·by_cases e:a=us.length+1;·rw[e,upd_same]at ha;cases ha;exact aap rfl
   ·rw[aD _ _ e]at ha;by_cases e2:b=us.length+1
    ·rw[e2,upd_same]at hb';cases hb';cases hu:u.ownBlock with
     |none=>exact aap rfl
     |some k=>exact aal (by simp[Value.ownBlock])
    ·rw[aD _ _ e2]at hb';exact h1'.apart a b u zs x ys hab ha hb'
  ·by_cases e:j<us.length;·rw[aD _ _ (by omega)];rw[abf e]at hj;rw[abf (by rw[←h.len];exact e)]at hg;exact h3 j u g hj hg
   ·have hjl:j=us.length:=by have:=(List.getElem?_eq_some_iff.1 hj).1;simp at this;omega
    subst hjl;rw[upd_same];have e1:u=aJ:=by simpa using hj.symm
    have e2:g= [] :=by rw[h.len]at hg;simpa using hg.symm
    rw[e1,e2];rfl
 ·obtain⟨cs,h1⟩ :=hc b hk;rcases iB h.ts hB h1 with e|e<;>exact absurd e (by decide)
 ·refine⟨hb.os.trans h.but.os,hb.tape.trans h.but.tape,hb.output.trans h.but.output,aas h.but.size hb.size,fun b hb' BF=> ?_⟩;rw[hb.block b (aar hb' h.but.size) (fun hk=>by have:=(aA h.pr hk).1;omega),h.but.block b hb' BF]
theorem Pd.push(h:Pd W0 W base sk sb qC vk vp Ks us gs yR om vm aI Tr G) {j q:Nat} {u u':aah} {g:List Nat} {gp cp:Nat}(hvp:vp= .slice (some ⟨gp,0,none⟩) us.length cp)(hj:us[j]?=some u)(hg:gs[j]?=some g)(hb:But (fun b=>u.ownBlock=some b) W W1)(ho:W1.ownsRow W0.heap.size 3 1 u' (g.length+1) (zI (aH g)++ [.int .i64 (q:Int)]))(hat: ∀b,u'.ownBlock=some b→u.ownBlock=some b∨W.heap.size≤b)(hone:u'.oneCell'=true) :Pd W0 (W1.setCell ⟨gp,j,none⟩ u') base sk sb qC vk vp Ks (us.set j u') (gs.set j (g++ [q])) yR om vm aI Tr G∧W1.ownsRow W0.heap.size 56 1 vp us.length us:=by
 obtain⟨R,h1,h2,h3⟩ :=h.rows;have hR:=h3 j u g hj hg;have hown:=h1.own (j+1) u (aH g) hR;have hint: ∀b,u.ownBlock=some b→∃cs,W.heap[b]?=some (.cells cs 3) :=fun b hk=>(aA hown hk).2;have hjl:=(List.getElem?_eq_some_iff.1 hj).1;have Ee:W1.ownsRow W0.heap.size 56 1 vp us.length us:=aG h.pr (fun b hk=>by obtain⟨_,cur,hh⟩ :=aA h.pr hk;refine hb.block b (Array.getElem?_eq_some_iff.1 hh).1 (fun hx=> ?_);obtain⟨cs,h4⟩ :=hint b hx;exact aN hh h4 (by decide) rfl);have OZ:=aA Ee (b:=gp) (by rw[hvp];rfl);obtain⟨asg,an9,Xo⟩ :=OZ;have aec:bA dX W1 W0.heap.size sk qC vk Ks:=h.ks.but hb (fun b hB hk=>by
  obtain⟨cs,h4⟩ :=hint b hk;rcases Bg h.ks b hB with h5|h5
  ·rcases h1.apart 0 (j+1) vk Ks u (aH g) (by omega) h2 hR with h6|h6;·rw[h5]at h6;cases h6
   ·exact h6 (h5.trans hk.symm)
  ·exact h5 cs h4);have aeg:bA fT W1 base sb vm aI Tr:=h.ts.but hb (fun b hB hk=>by obtain⟨cs,h4⟩ :=hint b hk;rcases iB h.ts hB h4 with e|e<;>exact absurd e (by decide));have ajx:aY W1 W0.heap.size (upd R (j+1) (some (u',aH (g++ [q])))) :=h1.uS hR hb (by rw[iL,show aH [q]= [(q:Int)]from rfl,mh,aaK,aK,aa'];exact ho) hat;refine⟨⟨?_,h.U6,?_,?_,by rw[aaV,aaV,h.len],?_,h.tr,h.Jr,?_,h.hat⟩,Ee⟩;·refine aec.keep (fun b hB=>ay _ _ _ _ _ ?_);rintro rfl;rcases oG aec hB Xo with e|e<;>exact absurd e (by decide)
 ·rw[aaV];subst hvp;refine⟨by rw[aaV];exact Ee.1,?_⟩;rcases Ee.2 with⟨h',_⟩| ⟨g',c',cur,k1,k2,k3,k4,k5,k6,k7⟩;·simp at h'
  ·simp only[Value.slice.injEq,aaU,Addr.mk.injEq,and_true,true_and]at k1;obtain⟨rfl,rfl⟩ :=k1;refine aal ⟨gp,cp,cur.setIfInBounds j u',rfl,k2,aL k3 j _,k4,k5,by simpa using k6,?_⟩;rw[Array.toList_setIfInBounds,List.take_set,k7]
 ·refine⟨upd R (j+1) (some (u',aH (g++ [q]))),ajx.but ((But.refl (fun b=>b=gp) W1).set gp j u' rfl) (fun b hB cur e=> ?_),by rw[aD _ _ (by omega)];exact h2,fun i v k hi hk=> ?_⟩;·subst hB;exact aN Xo e (by decide) rfl
  ·by_cases e:i=j;·subst e;rw[upd_same];rw[abd hjl]at hi;rw[abd (by rw[←h.len];exact hjl)]at hk;cases hi;cases hk;rfl
   ·rw[aD _ _ (by omega)];rw[List.getElem?_set_ne (Ne.symm e)]at hi hk;exact h3 i v k hi hk
 ·refine aeg.keep (fun b hB=>ay _ _ _ _ _ ?_);rintro rfl;rcases iB aeg hB Xo with e|e<;>exact absurd e (by decide)
 ·refine⟨hb.os.trans h.but.os,hb.tape.trans h.but.tape,hb.output.trans h.but.output,by have:=aas h.but.size hb.size;simpa[World.setCell]using this,fun b hb' BF=> ?_⟩;rw[ay _ _ _ _ _ (by omega),hb.block b (aar hb' h.but.size) (fun hk=>by have:=(aA hown hk).1;omega),h.but.block b hb' BF]
end
end Go.Proofs.YtkbjimkngmlfcaaDoor
