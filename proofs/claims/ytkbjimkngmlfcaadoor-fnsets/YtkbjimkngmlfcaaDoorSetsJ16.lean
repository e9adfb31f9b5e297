import Derived.Test.YtkbjimkngmlfcaaDoorSetsJ15
import Derived.Deep.Onto
open Go renaming Value→aaa,TypeId→aah,World→aab
open List renaming length_append→aas,length_singleton→aap,getElem?_append_left→aat,length_map→aar
namespace Go.Proofs.YtkbjimkngmlfcaaDoor
open Go Go.RowKit
set_option linter.unusedVariables false
set_option linter.unusedSimpArgs false
set_option maxRecDepth 100000
set_option maxHeartbeats 8000000
abbrev uU:=List (Nat×Array aaa×aah)
structure dY(ks:uU)(w0 W:aab)(rb:Nat)(vl vf vn vw vr:aaa)(word ls:List Int)(Z:List (List Int))(us:List aaa)(aB:List (List Nat))(ns:List aaa)(ak:List Bool)(R:aU) :Prop where
 below:Below w0.heap.size w0 W
 low:w0.heap.size≤rb
 box: ∀p∈ks,(p.1≠rb∧p.2.2≠3∧p.2.2≠56∧p.2.2≠4)∧W.heap[p.1]?=some (.cells p.2.1 p.2.2)
 bW:W.heap[rb]?=some (.cells #[vl,vf,vn] 60)
 rows:aY W w0.heap.size R
 mE:R 0=some (vl,ls)
 AQ:R 1=some (vw,word)
 outer:W.ownsRow w0.heap.size 56 1 vr Z.length us
 row: ∀(j:Nat)u z,us[j]?=some u→Z[j]?=some z→R (4+2*j)=some (u,z)
 nx:W.ownsRow w0.heap.size 56 1 vn aB.length ns
 zu: ∀(j:Nat)u s,ns[j]?=some u→aB[j]?=some s→R (5+2*j)=some (u,aH s)
 apart: ∀b,vr.ownBlock=some b→vn.ownBlock≠some b
 fin:W.ownsRow w0.heap.size 4 1 vf ak.length (ak.map Value.bool)
section
variable {ks:uU} {w0 W W':aab} {rb:Nat} {vl vf vn vw vr:aaa} {word ls:List Int} {Z:List (List Int)} {us:List aaa} {aB:List (List Nat)} {ns:List aaa} {ak:List Bool} {R R':aU}
theorem dY.keep(h:dY ks w0 W rb vl vf vn vw vr word ls Z us aB ns ak R)(hb:Below W.heap.size W W') :dY ks w0 W' rb vl vf vn vw vr word ls Z us aB ns ak R:=⟨h.below.trans (hb.mono h.below.size),h.low,fun p hp=>⟨(h.box p hp).1,aC (h.box p hp).2 hb⟩,aC h.bW hb,h.rows.below hb,h.mE,h.AQ,own_below h.outer hb,h.row,own_below h.nx hb,h.zu,h.apart,own_below h.fin hb⟩
theorem bU {W:aab} {b c:Nat} {cs ds:Array aaa} {t u:aah}(h:W.heap[b]?=some (.cells cs t))(k:W.heap[c]?=some (.cells ds u))(ht:t≠u) :b≠c:=by rintro rfl;rw[h]at k;simp only[Option.some.injEq,Obj.cells.injEq]at k;exact ht k.2.1
theorem dY.ZR(h:dY ks w0 W rb vl vf vn vw vr word ls Z us aB ns ak R) {vw':aaa} {word':List Int}(hB:Below w0.heap.size w0 W')(hk: ∀(b:Nat)(cs:Array aaa)(t:aah),t≠3→W.heap[b]?=some (.cells cs t)→W'.heap[b]?=some (.cells cs t))(hR:aY W' w0.heap.size R')(hw:R' 1=some (vw',word'))(ho: ∀a,a≠1→a≠2→a≠3→R' a=R a) :dY ks w0 W' rb vl vf vn vw' vr word' ls Z us aB ns ak R':=by
 refine⟨hB,h.low,fun p hp=>⟨(h.box p hp).1,hk _ _ _ (h.box p hp).1.2.1 (h.box p hp).2⟩,hk _ _ _ (by decide) h.bW,hR,by rw[ho 0 (by omega) (by omega) (by omega)];exact h.mE,hw,?_,fun j u z h1 h2=>by rw[ho _ (by omega) (by omega) (by omega)];exact h.row j u z h1 h2,?_,fun j u z h1 h2=>by rw[ho _ (by omega) (by omega) (by omega)];exact h.zu j u z h1 h2,h.apart,?_⟩;·refine aG h.outer (fun b hb=> ?_);obtain⟨_,cur,h2⟩ :=aA h.outer hb;rw[hk b cur _ (by decide) h2,h2]
 ·exact aam
 ·exact aaN
theorem dY.ints(h:dY ks w0 W rb vl vf vn vw vr word ls Z us aB ns ak R)(hB:Below w0.heap.size w0 W')(hk: ∀(b:Nat)(cs:Array aaa)(t:aah),t≠3→W.heap[b]?=some (.cells cs t)→W'.heap[b]?=some (.cells cs t))(hR:aY W' w0.heap.size R')(ho: ∀a,a≠2→a≠3→R' a=R a) :dY ks w0 W' rb vl vf vn vw vr word ls Z us aB ns ak R':=h.ZR hB hk hR (by rw[ho 1 (by omega) (by omega)];exact h.AQ) fun a _ h2 h3=>ho a h2 h3
theorem dY.aeu {gw cw:Nat}(h:dY ks w0 W rb vl vf vn (.slice (some ⟨gw,0,none⟩) word.length cw) vr word ls Z us aB ns ak R) {k:Nat}(hk:k<word.length)(x:Int) :dY ks w0 (W.setCell ⟨gw,k,none⟩ (.int .i64 x)) rb vl vf vn (.slice (some ⟨gw,0,none⟩) word.length cw) vr (word.set k x) ls Z us aB ns ak (upd R 1 (some (.slice (some ⟨gw,0,none⟩) word.length cw,word.set k x))) :=by obtain⟨hge,cur,hg⟩ :=aA (h.rows.own _ _ _ h.AQ) (b:=gw) rfl;refine h.ZR (h.below.setCell (p:=⟨gw,k,none⟩) hge _) (fun b cs t ht hh=> ?_) (h.rows.set h.AQ hk x) (upd_same _ _ _) (fun a h1 _ _=>aD _ _ h1);rw[ay _ _ _ _ _ (bU hh hg ht)];exact hh
theorem dY.y9(h:dY ks w0 W rb vl vf vn vw vr word ls Z us aB ns ak R) {i:Nat}(hi2:i=2∨i=3) {u u':aaa} {zs ys:List Int}(hi:R i=some (u,zs))(hg:But (fun b=>u.ownBlock=some b) W W')(hv:W'.ownsRow w0.heap.size 3 1 u' ys.length (zI ys))(hat: ∀b,u'.ownBlock=some b→u.ownBlock=some b∨W.heap.size≤b) :dY ks w0 W' rb vl vf vn vw vr word ls Z us aB ns ak (upd R i (some (u',ys))) :=by have ho:=h.rows.own i u zs hi;refine h.ints (h.below.trans (hg.below h.below.size (fun j hj e=>by have:=(aA ho e).1;omega))) (fun b cs t ht hh=> ?_) (h.rows.uS hi hg hv hat) (fun a h2 h3=>aD _ _ (by omega));exact YQ
theorem dY.FL(h:dY ks w0 W rb vl vf vn vw vr word ls Z us aB ns ak R)(hb:Below W.heap.size W W') {i:Nat}(hi2:i=2∨i=3) {v:aaa} {zs:List Int}(hv:W'.ownsRow W.heap.size 3 1 v zs.length (zI zs)) :dY ks w0 W' rb vl vf vn vw vr word ls Z us aB ns ak (upd R i (some (v,zs))) :=h.ints (h.below.trans (hb.mono h.below.size)) (fun b cs t _ hh=>aC hh hb) (h.rows.new hb h.below.size hv) (fun a h2 h3=>aD _ _ (by omega))
theorem lI {e:aah} {base n:Nat} {v:aaa} {xs:List aaa}(h:W.ownsRow base e 1 v n xs)(he:e≠3) : ∀b,v.ownBlock=some b→∀cur,W.heap[b]?≠some (.cells cur 3) :=by intro b hb cur hh;obtain⟨_,c2,k2⟩ :=aA h hb;exact bU k2 hh he rfl
theorem dY.Nt(h:dY ks w0 W rb vl vf vn vw vr word ls Z us aB ns ak R) {vg xB:aaa} {z:List Int}(hg:R 3=some (vg,z))(hb:But (fun b=>vr.ownBlock=some b) W W')(ho:W'.ownsRow w0.heap.size 56 1 xB (Z.length+1) (us++ [vg]))(hat: ∀b,xB.ownBlock=some b→vr.ownBlock=some b∨W.heap.size≤b) :dY ks w0 W' rb vl vf vn vw xB word ls (Z++ [z]) (us++ [vg]) aB ns ak (upd (upd R (4+2*Z.length) (some (vg,z))) 3 none) :=by
 have AY:us.length=Z.length:=by have:=h.outer.1;omega
 have hk: ∀(b:Nat)(cs:Array aaa)(t:aah),vr.ownBlock≠some b→W.heap[b]?=some (.cells cs t)→W'.heap[b]?=some (.cells cs t) :=by exact Wx
 have ht: ∀(b:Nat)(cs:Array aaa)(t:aah),t≠56→W.heap[b]?=some (.cells cs t)→W'.heap[b]?=some (.cells cs t) :=by intro b cs t hn hh;refine hk b cs t (fun e=> ?_) hh;obtain⟨_,c2,k2⟩ :=aA h.outer e;exact bU hh k2 hn rfl
 have hrn:=(h.rows.but hb (lI h.outer (by decide))).rename (j:=4+2*Z.length) hg (by omega);have hR: ∀a,a≠3→a≠4+2*Z.length→upd (upd R (4+2*Z.length) (some (vg,z))) 3 none a=R a:=fun a h1 h2=>by rw[aD _ _ h1,aD _ _ h2]
 refine⟨h.below.trans (hb.below h.below.size (fun i hi e=>by have:=(aA h.outer e).1;omega)),h.low,fun p hp=>⟨(h.box p hp).1,ht _ _ _ (h.box p hp).1.2.2.1 (h.box p hp).2⟩,ht _ _ _ (by decide) h.bW,hrn,by rw[hR 0 (by omega) (by omega)];exact h.mE,by rw[hR 1 (by omega) (by omega)];exact h.AQ,by rw[aas,aap];exact ho,fun j u t h1 h2=> ?_,?_,fun j u t h1 h2=>by rw[hR _ (by omega) (by omega)];exact h.zu j u t h1 h2,fun b hbb=> ?_,?_⟩
 ·by_cases hj:j=Z.length
  ·subst hj;rw[aD _ _ (by omega),upd_same];have e1:vg=u:=by rw[←AY]at h1;simpa using h1
   have e2:z=t:=by simpa using h2
   rw[e1,e2]
  ·have hj':j<Z.length:=by exact Qh
   rw[hR _ (by omega) (by omega)];exact h.row j u t (by rw[aat (by omega)]at h1;exact h1) (by rw[aat hj']at h2;exact h2)
 ·refine aG h.nx (fun b hbb=> ?_);obtain⟨_,cur,h2⟩ :=aA h.nx hbb;rw[hk b cur _ (fun e=>h.apart b e hbb) h2,h2]
 ·rcases hat b hbb with h1|h1;·exact h.apart b h1
  ·intro e;obtain⟨_,cur,h2⟩ :=aA h.nx e;have:=(Array.getElem?_eq_some_iff.1 h2).1;omega
 ·refine aG h.fin (fun b hbb=> ?_);obtain⟨_,cur,h2⟩ :=aA h.fin hbb;rw[ht b cur _ (by decide) h2,h2]
theorem dY.zy(h:dY ks w0 W rb vl vf vn vw vr word ls Z us aB ns ak R) {vt pI:aaa} {s:List Nat}(hg:R 2=some (vt,aH s))(hb:But (fun b=>vn.ownBlock=some b) W W')(ho:W'.ownsRow w0.heap.size 56 1 pI (aB.length+1) (ns++ [vt]))(hat: ∀b,pI.ownBlock=some b→vn.ownBlock=some b∨W.heap.size≤b) :dY ks w0 (W'.setCell ⟨rb,2,none⟩ pI) rb vl vf pI vw vr word ls Z us (aB++ [s]) (ns++ [vt]) ak (upd (upd R (5+2*aB.length) (some (vt,aH s))) 2 none)∧W'.heap[rb]?=some (.cells #[vl,vf,vn] 60) :=by
 have AY:ns.length=aB.length:=by have:=h.nx.1;omega
 have hk: ∀(b:Nat)(cs:Array aaa)(t:aah),vn.ownBlock≠some b→W.heap[b]?=some (.cells cs t)→W'.heap[b]?=some (.cells cs t) :=by exact Wx
 have ht: ∀(b:Nat)(cs:Array aaa)(t:aah),t≠56→W.heap[b]?=some (.cells cs t)→W'.heap[b]?=some (.cells cs t) :=by exact adh
 have hr1:=ht _ _ _ (by decide) h.bW;refine⟨?_,hr1⟩;have hset: ∀(b:Nat)(cs:Array aaa)(t:aah),t≠60→W'.heap[b]?=some (.cells cs t)→(W'.setCell ⟨rb,2,none⟩ pI).heap[b]?=some (.cells cs t) :=by exact aaz
 have hbs:But (fun b=>b=rb) W' (W'.setCell ⟨rb,2,none⟩ pI) :=(But.refl _ _).set rb 2 pI rfl;have hrn:=(((h.rows.but hb (lI h.nx (by decide))).but hbs (fun b e cur hh=>by subst e;exact bU hr1 hh (by decide) rfl))).rename (j:=5+2*aB.length) hg (by omega);have hR: ∀a,a≠2→a≠5+2*aB.length→upd (upd R (5+2*aB.length) (some (vt,aH s))) 2 none a=R a:=fun a h1 h2=>by rw[aD _ _ h1,aD _ _ h2]
 have hB1:=h.below.trans (hb.below h.below.size (fun i hi e=>by have:=(aA h.nx e).1;omega));refine⟨hB1.trans (hbs.below hB1.size (fun i hi e=>by have:=h.low;omega)),h.low,fun p hp=>⟨(h.box p hp).1,(ay _ _ _ _ _ (h.box p hp).1.1).trans (ht _ _ _ (h.box p hp).1.2.2.1 (h.box p hp).2)⟩,by have:=aL hr1 2 pI;simpa using this,hrn,by rw[hR 0 (by omega) (by omega)];exact h.mE,by rw[hR 1 (by omega) (by omega)];exact h.AQ,?_,fun j u t h1 h2=>by rw[hR _ (by omega) (by omega)];exact h.row j u t h1 h2,?_,fun j u t h1 h2=> ?_,fun b hbb=> ?_,?_⟩;·refine aG h.outer (fun b hbb=> ?_);obtain⟨_,cur,h2⟩ :=aA h.outer hbb;rw[hset b cur _ (by decide) (hk b cur _ (h.apart b hbb) h2),h2]
 ·rw[aas,aap];exact Xh
 ·exact ai0
 ·intro e;rcases hat b e with h1|h1;·exact h.apart b hbb h1
  ·obtain⟨_,cur,h2⟩ :=aA h.outer hbb;have:=(Array.getElem?_eq_some_iff.1 h2).1;omega
 ·exact ZN
theorem dY.sH(h:dY ks w0 W rb vl vf vn vw vr word ls Z us aB ns ak R) {vY:aaa} {f:Bool}(hb:But (fun b=>vf.ownBlock=some b) W W')(ho:W'.ownsRow w0.heap.size 4 1 vY (ak.length+1) (ak.map Value.bool++ [.bool f])) :dY ks w0 (W'.setCell ⟨rb,1,none⟩ vY) rb vl vY vn vw vr word ls Z us aB ns (ak++ [f]) R∧W'.heap[rb]?=some (.cells #[vl,vf,vn] 60) :=by
 have ht: ∀(b:Nat)(cs:Array aaa)(t:aah),t≠4→W.heap[b]?=some (.cells cs t)→W'.heap[b]?=some (.cells cs t) :=by exact ae5
 have hr1:=ht _ _ _ (by decide) h.bW;refine⟨?_,hr1⟩;have hset: ∀(b:Nat)(cs:Array aaa)(t:aah),t≠60→W'.heap[b]?=some (.cells cs t)→(W'.setCell ⟨rb,1,none⟩ vY).heap[b]?=some (.cells cs t) :=by exact ZW
 have hbs:But (fun b=>b=rb) W' (W'.setCell ⟨rb,1,none⟩ vY) :=(But.refl _ _).set rb 1 vY rfl;have hrn:=((h.rows.but hb (lI h.fin (by decide))).but hbs (fun b e cur hh=>by subst e;exact bU hr1 hh (by decide) rfl));have hB1:=h.below.trans (hb.below h.below.size (fun i hi e=>by have:=(aA h.fin e).1;omega));refine⟨hB1.trans (hbs.below hB1.size (fun i hi e=>by have:=h.low;omega)),h.low,fun p hp=>⟨(h.box p hp).1,(ay _ _ _ _ _ (h.box p hp).1.1).trans (ht _ _ _ (h.box p hp).1.2.2.2 (h.box p hp).2)⟩,by have:=aL hr1 1 vY;simpa using this,hrn,h.mE,h.AQ,?_,h.row,?_,h.zu,h.apart,?_⟩;·refine aG h.outer (fun b hbb=> ?_);obtain⟨_,cur,h2⟩ :=aA h.outer hbb;exact WK
 ·exact aaD
 ·exact ZG
theorem dY.raw(h:dY ks w0 W rb vl vf vn vw vr word ls Z us aB ns ak R)(hl:aB.length=ak.length)(hp:0<ak.length)(hf:ak.length≤4294967296)(hw:ls.length+1≤1048577)(hr: ∀q,q<ak.length→(aB.getD q []).length=ls.length+1∧∀a,a<ls.length+1→(aB.getD q []).getD a 0<ak.length) :bD W vl ls∧nV W vf vn ak aB (ls.length+1) :=by exact af1
end
abbrev Bo(w0 W:aab)(tb rb:Nat) :=dY [(tb,#[.slice none 0 0],25)] w0 W rb
def j5(n:Nat) :Code→Option Code
  | .region m o b=>if m=n then some (.region m o b)else none
  | .seq a b=>match j5 n a with
    |some c=>some c
    |none=>j5 n b
  | .block _ c=>j5 n c
  | .loop c=>j5 n c
  | .cond _ a b=>match j5 n a with
    |some c=>some c
    |none=>j5 n b
  |_=>none
theorem Tryd.infoBoP:(Tryd.prog.info? 4).map (fun i=>(i.zero,i.size,i.bytes))=some (some (.bool false),1,1) :=by kernel_rfl
def wJ(how:Int)(x y:Bool) :Bool:=(x&&y)|| (decide (how=1) &&(x ||y))
theorem Nf {c:Code}(hc:((Tryd.f31.body.bind (j5 41)).getD .skip)=c) {Q:Exit→Act→aab→Prop} {W:aab} {v0 v1 v3 v4 v5 v6 v7 v8 v9 v10 v11 v13 v14 v15 v16 v17 v18 v19 v20 v21 v22 v25 v26 v27 v28 v29 v30 v31 v32 v33 v34 v35 v36 v37 v38 v39 v40 v41 v42 v43 v44 v45 v46 v47 v48 v49 v50 v51 v52 v53 v54 v55 v56 v57 v58 v59 v60 v61 v62 v63 v64 v65 v66 v67 v68 v69 v70 v71 v72 v73 v74 v75 v76 v77 v78 v79 v80 v81 v82 v83 v84 v85 v86 v87 v88 v89 v90 v91 v92 v93 v94 v95 v96 v97 v98 v99 ahC ail afB ajh acW v105 ahp v107 aeE v109 ahr adS ac4 ajl aiM ahx aeO v117 afw ahG agR aiB aha adJ v124 agU aie v127 afY aiW v130 v131 adE ag5 ah4 afi aff aeQ v138 v139 aeB v141 adH v143 ahw v145 v146 ahs v148 ad9 acB ai7 v152 aeF v154 agp afx v157 ahB v159 v160 ade v162 adw v164 agA ag8 v167 v168 agb ahn v171 agx v173 aiO v175 agH aji acM ael ajc afu v182 v183 aeM acJ acZ agr ae8 afk ahf ajb aes v193 v194 ajj v196 acY v198 afr aiA v201 air v203 agI ajk v206 agY v208 afN v210 aef v212 ag6 aeP ahV aeY aeh v218 afg aeA afb v222 ad7 adg ac0 v226 v227 v228 v229 am3 amH v232 v233 v234 aoj v236 anG am8 amN aoh amy aom amU aon aoe aiU:aaa} {how:Int}(Ev:how=0∨how=1) {fx fy:Bool} {rb base F cf:Nat} {af:Option Addr} {xs:List aaa}(b1:W.cell? ⟨rb,1,none⟩=some (.slice af F cf))(ho:W.ownsRow base 4 1 (.slice af F cf) F xs)(hl:(F+1)*1≤140737488355328)(hbase:base≤W.heap.size)
    (hk: ∀w',But (fun b=>(Value.slice af F cf).ownBlock=some b) W w'→(∃u,w'.cell? ⟨rb,1,none⟩=some u)∧w'.frozen? ⟨rb,1,none⟩=false)
    (H: ∀(v:aaa)(w':aab)(ajo aeo ahg aiw ahI afJ aif u234 af8 u236 ah8 afK ahZ aiF acC afv aiS ahK ai2:aaa),w'.ownsRow base 4 1 v (F+1) (xs++ [.bool (wJ how fx fy)])→But (fun b=>(Value.slice af F cf).ownBlock=some b) W w'→v≠ .slice none 0 0→Q .normal ⟨#[v0,v1,.int .i64 how,v3,v4,v5,v6,v7,v8,v9,v10,v11,.pointer (some ⟨rb,0,none⟩),v13,v14,v15,v16,v17,v18,v19,v20,v21,v22,.bool fx,.bool fy,v25,v26,v27,v28,v29,v30,v31,v32,v33,v34,v35,v36,v37,v38,v39,v40,v41,v42,v43,v44,v45,v46,v47,v48,v49,v50,v51,v52,v53,v54,v55,v56,v57,v58,v59,v60,v61,v62,v63,v64,v65,v66,v67,v68,v69,v70,v71,v72,v73,v74,v75,v76,v77,v78,v79,v80,v81,v82,v83,v84,v85,v86,v87,v88,v89,v90,v91,v92,v93,v94,v95,v96,v97,v98,v99,ahC,ail,afB,ajh,acW,v105,ahp,v107,aeE,v109,ahr,adS,ac4,ajl,aiM,ahx,aeO,v117,afw,ahG,agR,aiB,aha,adJ,v124,agU,aie,v127,afY,aiW,v130,v131,adE,ag5,ah4,afi,aff,aeQ,v138,v139,aeB,v141,adH,v143,ahw,v145,v146,ahs,v148,ad9,acB,ai7,v152,aeF,v154,agp,afx,v157,ahB,v159,v160,ade,v162,adw,v164,agA,ag8,v167,v168,agb,ahn,v171,agx,v173,aiO,v175,agH,aji,acM,ael,ajc,afu,v182,v183,aeM,acJ,acZ,agr,ae8,afk,ahf,ajb,aes,v193,v194,ajj,v196,acY,v198,afr,aiA,v201,air,v203,agI,ajk,v206,agY,v208,afN,v210,aef,v212,ag6,aeP,ahV,aeY,aeh,v218,afg,aeA,afb,v222,ad7,adg,ac0,v226,ajo,aeo,ahg,aiw,ahI,afJ,aif,u234,af8,u236,ah8,afK,ahZ,aiF,acC,afv,aiS,ahK,ai2,aiU],[]⟩ (w'.setCell ⟨rb,1,none⟩ v)) :
    Code.wp Tryd.prog c Q ⟨#[v0,v1,.int .i64 how,v3,v4,v5,v6,v7,v8,v9,v10,v11,.pointer (some ⟨rb,0,none⟩),v13,v14,v15,v16,v17,v18,v19,v20,v21,v22,.bool fx,.bool fy,v25,v26,v27,v28,v29,v30,v31,v32,v33,v34,v35,v36,v37,v38,v39,v40,v41,v42,v43,v44,v45,v46,v47,v48,v49,v50,v51,v52,v53,v54,v55,v56,v57,v58,v59,v60,v61,v62,v63,v64,v65,v66,v67,v68,v69,v70,v71,v72,v73,v74,v75,v76,v77,v78,v79,v80,v81,v82,v83,v84,v85,v86,v87,v88,v89,v90,v91,v92,v93,v94,v95,v96,v97,v98,v99,ahC,ail,afB,ajh,acW,v105,ahp,v107,aeE,v109,ahr,adS,ac4,ajl,aiM,ahx,aeO,v117,afw,ahG,agR,aiB,aha,adJ,v124,agU,aie,v127,afY,aiW,v130,v131,adE,ag5,ah4,afi,aff,aeQ,v138,v139,aeB,v141,adH,v143,ahw,v145,v146,ahs,v148,ad9,acB,ai7,v152,aeF,v154,agp,afx,v157,ahB,v159,v160,ade,v162,adw,v164,agA,ag8,v167,v168,agb,ahn,v171,agx,v173,aiO,v175,agH,aji,acM,ael,ajc,afu,v182,v183,aeM,acJ,acZ,agr,ae8,afk,ahf,ajb,aes,v193,v194,ajj,v196,acY,v198,afr,aiA,v201,air,v203,agI,ajk,v206,agY,v208,afN,v210,aef,v212,ag6,aeP,ahV,aeY,aeh,v218,afg,aeA,afb,v222,ad7,adg,ac0,v226,v227,v228,v229,am3,amH,v232,v233,v234,aoj,v236,anG,am8,amN,aoh,amy,aom,amU,aon,aoe,aiU],[]⟩ W:=by
  subst hc
  obtain⟨ib,hib,hb0,hb1,hb2⟩ :=info_parts Tryd.infoBoP
  have HH:=ah H
  have HK:=ah hk
  have HO:=ah ho
  obtain⟨f0,hf0⟩ : ∃f0,wJ how fx fy=f0:=⟨_,rfl⟩
  rw[hf0]at HH
  clear H hk ho
  conv=>arg 2;whnf
  rcases Ev with rfl|rfl<;>cases fx<;>cases fy
  all_goals
    have HF0:=ah hf0
    clear hf0
    go_wp2_with(at_builtin;refine dm rfl _ _ 57 4 rfl ib (.bool false) 1 Tryd.underlying57 hib hb0 hb1 hb2 rfl base _ _ _ rfl HO.out _ rfl rfl hl (by decide) hbase ?_)
    intro v13 w13 yH yF aju QK
    obtain⟨g13,c13,amI⟩ : ∃g c,v13= .slice (some ⟨g,0,none⟩) (F+1) c:=by
      rcases bH yH with⟨h,h0⟩| ⟨g,c,h,_,_⟩
      ·exact absurd h QK
      ·exact⟨g,c,h⟩
    obtain⟨⟨u6,s6⟩,f6⟩ :=HK.out _ yF
    subst amI
    have an8:Hid (w13.ownsRow base 4 1 (.slice (some ⟨g13,0,none⟩) (F+1) c13) (F+1) (xs++ [.bool f0])) :=by
      rw[←HF0.out];exact yH
    have Ag:=ah yF
    clear yH yF aju HO HK
    go_wp2_with fail
    exact HH.out _ _ _ _ _ _ _ _ _ _ _ _ _ _ _ _ _ _ _ _ _ an8.out Ag.out QK
def iI:Prop:=∀(vl vf vn:aaa)(ls:List Int)(ak:List Bool)(aB:List (List Nat))(w:aab),bD w vl ls→nV w vf vn ak aB (ls.length+1)→Calls Tryd.prog 49 #[.agg #[vl,vf,vn]] w (RG w ls ak aB)
def UI(w:aab)(ls:List Int)(ak:List Bool)(aB:List (List Nat))(e:Ending)(w':aab) :Prop:=∃L,bS.dx ls.length ls ((aM ak aB).aW (ls.length+1) 0) L∧Below w.heap.size w w'∧((256<L.length∧e= .returned (.tuple #[.agg #[.slice none 0 0],.int .i64 11]))∨(L.length≤256∧∃v l,l.map Prod.snd=L∧e= .returned (.tuple #[.agg #[v],.int .i64 0])∧bq w' w.heap.size v l))
theorem bq.mono {W:aab} {base base':Nat} {v:aaa} {l:List dK}(h:bq W base v l)(hb:base'≤base) :bq W base' v l:=⟨h.row.mono hb,fun s hs=>(h.aR s hs).mono hb,h.apart⟩
theorem zL(hC:iI)(vl vf vn:aaa)(ls:List Int)(ak:List Bool)(aB:List (List Nat))(w:aab)(hls:bD w vl ls)(hraw:nV w vf vn ak aB (ls.length+1)) :Calls Tryd.prog 32 #[.agg #[vl,vf,vn]] w (UI w ls ak aB) :=by
 obtain⟨w1,hw1⟩ : ∃w1,w1=w.alloc (.cells #[vl,vf,vn] 60) :=⟨_,rfl⟩;obtain⟨w2,hw2⟩ : ∃w2,w2=w1.alloc (.cells #[.slice none 0 0] 25) :=⟨_,rfl⟩;have hs1:w1.heap.size=w.heap.size+1:=by rw[hw1];simp
 have hs2:w2.heap.size=w.heap.size+2:=by rw[hw2];simp[hs1]
 have HB2:Hid (Below w.heap.size w w2) :=by rw[hw2,hw1];exact((Below.refl _ _).alloc (Nat.le_refl _) _).alloc (by simp) _
 have HK:Hid (w2.heap[w.heap.size]?=some (.cells #[vl,vf,vn] 60)∧w2.heap[w.heap.size+1]?=some (.cells #[.slice none 0 0] 25)) :=by rw[hw2,hw1];exact H9 w _ _
 have TM:=ah (hls.below HB2.out);have HR:=ah (hraw.below HB2.out);have Hs2:=ah hs2;clear hls hraw;have c0:w2.cell? ⟨w.heap.size,0,none⟩=some vl:=aj HK.out.1 0;have c1:w2.cell? ⟨w.heap.size,1,none⟩=some vf:=aj HK.out.1 1;have c2:w2.cell? ⟨w.heap.size,2,none⟩=some vn:=aj HK.out.1 2;obtain⟨ad,cp,hvl⟩ : ∃ad cp,vl= .slice ad ls.length cp:=by obtain⟨ad,cp,h,_⟩ :=TM.out;exact⟨ad,cp,h⟩
 obtain⟨gM,nS,tL⟩ : ∃ad cp,vf= .slice ad ak.length cp:=by obtain⟨ad,cp,h,_⟩ :=HR.out.fin;exact⟨ad,cp,h⟩
 obtain⟨adn,cpn,CS⟩ : ∃ad cp,vn= .slice ad aB.length cp:=by obtain⟨ad,cp,h,_⟩ :=HR.out.nx;exact⟨ad,cp,h⟩
 have HE:Hid (w2=(w.alloc (.cells #[vl,vf,vn] 60)).alloc (.cells #[.slice none 0 0] 25)) :=by show _=_;rw[hw2,hw1]
 clear hw1 hw2;subst hvl tL CS;have Hs:=ah hs2;clear hs1 hs2;go_enter Tryd.func32,Tryd.ntmps32;go_upto_region 1 with fail;rw[←HE.out];go_wp2_with fail;refine(hC _ _ _ ls ak aB _ TM.out HR.out).mono ?_;rintro e w3⟨v,l,rfl,hD,hL,hl4,hb3⟩;have HD:=ah (hD.mono (base':=w.heap.size) (by rw[Hs.out];omega));have HL:=ah hL;have HB3:=ah (HB2.out.trans (hb3.mono (by rw[Hs.out];omega)));have hk1:=aC HK.out.2 hb3;have HK3:=ah hk1;have hsz:w.heap.size+2≤w3.heap.size:=by have:=hb3.size;rw[Hs.out]at this;exact this
 have Hsz:=ah hsz;obtain⟨Dh,Dq,hv⟩ : ∃ad cp,v= .slice ad l.length cp:=by
  rcases hD.row.2 with⟨h,h0⟩| ⟨g7,c7,wm,h,_⟩;·exact⟨none,0,by rw[h,h0]⟩
  ·exact⟨_,c7,h⟩
 subst hv;clear hD hL hb3 hk1 hsz;have AV:Hid ((w3.alloc (.cells #[.slice Dh l.length Dq] 25)).heap[w3.heap.size]?=some (.cells #[.slice Dh l.length Dq] 25)∧(w3.alloc (.cells #[.slice Dh l.length Dq] 25)).heap[w.heap.size+1]?=some (.cells #[.slice none 0 0] 25)) :=by refine⟨heap_alloc_new _ _,?_⟩;rw[Below.heap_alloc _ _ _ (by have:=Hsz.out;omega)];exact HK3.out
 have eF:Hid (Below w.heap.size w (w3.alloc (.cells #[.slice Dh l.length Dq] 25))) :=HB3.out.alloc (by have:=Hsz.out;omega) _;have HD4:Hid (bq (w3.alloc (.cells #[.slice Dh l.length Dq] 25)) w.heap.size (.slice Dh l.length Dq) l) :=HD.out.below ((Below.refl _ _).alloc (Nat.le_refl _) _);go_upto_region 2 with fail;generalize w3.alloc (.cells #[.slice Dh l.length Dq] 25)=w4 at*;clear c0 c1 c2;have d0:w4.cell? ⟨w3.heap.size,0,none⟩=some (.slice Dh l.length Dq) :=aj AV.out.1 0;have r0:w4.cell? ⟨w.heap.size+1,0,none⟩=some (.slice none 0 0) :=aj AV.out.2 0;have f0:=bL AV.out.2 0;have hset: ∀x:aaa,(w4.setCell ⟨w.heap.size+1,0,none⟩ x).cell? ⟨w.heap.size+1,0,none⟩=some x:=by intro x;have:=aL AV.out.2 0 x;rw[aj this 0];simp
 have fB:=ah hset;have hbs: ∀x:aaa,Below w.heap.size w (w4.setCell ⟨w.heap.size+1,0,none⟩ x) :=fun x=>eF.out.trans (((But.refl (fun b=>b=w.heap.size+1) w4).set (w.heap.size+1) 0 _ rfl).below eF.out.size (fun j hj e=>by omega));have jF:=ah hbs;have hds: ∀x:aaa,bq (w4.setCell ⟨w.heap.size+1,0,none⟩ x) w.heap.size (.slice Dh l.length Dq) l:=by
  intro x;refine HD4.out.congr fun b cs t ht _ hh=> ?_;rw[ay w4 (w.heap.size+1) 0 _ b (by
   rintro rfl;rw[AV.out.2]at hh;simp only[Option.some.injEq,Obj.cells.injEq]at hh;rcases ht with rfl|rfl;·exact absurd hh.2.1 (by decide)
   ·exact absurd hh.2.1 (by decide))];exact hh
 have OT:=ah hds;clear hset hbs hds;by_cases hgt:256<l.length
 ·have hgz:(256:Int)<(l.length:Int) :=by omega
  go_wp2;refine bodyPost_ret (v:= .tuple #[.agg #[.slice none 0 0],.int .i64 11]) (by simp[results,Tryd.results32,go_sem,fB.out]) rfl ?_;exact⟨_,HL.out,jF.out _,Or.inl ⟨by rw[aar];exact hgt,rfl⟩⟩
 ·have hgz: ¬(256:Int)<(l.length:Int) :=by omega
  go_wp2;refine bodyPost_ret (v:= .tuple #[.agg #[.slice Dh l.length Dq],.int .i64 0]) (by simp[results,Tryd.results32,go_sem,fB.out]) rfl ?_;exact⟨_,HL.out,jF.out _,Or.inr ⟨by rw[aar];omega,_,l,rfl,rfl,OT.out _⟩⟩
end Go.Proofs.YtkbjimkngmlfcaaDoor
