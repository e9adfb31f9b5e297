import Derived.Test.YtkbjimkngmlfcaaDoorSetsJ01
namespace Go.Proofs.YtkbjimkngmlfcaaDoor
open Go Go.RowKit
open Go renaming World→aal,Value→aaa,TypeId→aaw,Calls→aaA,wpList_make_full→aa3,madeCells→aa5,toList_madeCells_one→aa4
open Go.Lib renaming runeCells→aa1
open Go.Obj.cells renaming injEq→aax
open Go.RowKit renaming Below→aah,intOf→aar
open Go.RowKit.Below renaming refl→aav
open Go.Value renaming int→aaK,slice→aaU
open List renaming getElem?_append_left→abt,length_append→aa8,map_set→abn,range→aap,replicate→aat,eq_replicate_iff→aaF,ext_getElem?→aaR,getElem?_set→aaL,getD_eq_getElem?_getD→aaQ,range_succ→abk,length→abp,mem_of_getElem?→abl,getElem?_eq_getElem→abd,filter_eq_nil_iff→abu,getElem?_map→aa',getElem?_range→aa9
open Nat renaming le_refl→aas,zero_le→aaY
open Option renaming map_some→aa7
open Option.some renaming injEq→aau
open Or renaming inl→aaE,inr→aaV
set_option linter.unusedVariables false
set_option linter.unusedSimpArgs false
set_option maxRecDepth 100000
set_option maxHeartbeats 8000000
theorem Qv {P:Prop}(h:P:=by
 have H:Hid (ig r=false) :=by show _=_;rw[ab9];omega
 exact Y1) :P:=h
theorem Y1 {P:Prop}(h:P:=by clear hc;go_enter Tryd.func46,Tryd.ntmps46;go_wp2;go_ret;rw[H.out];exact⟨rfl,rfl⟩) :P:=h
theorem acS {P:Prop}(h:P:=by
 go_wp2;go_roundw;case rel=>obtain⟨R9,hC9⟩ :=Sb.out;exact⟨i+1,_,R9,by omega,by go_num,⟨gs,cs,by rw[rT.out]⟩,by rw[NG.out,rT.out];exact hC9⟩
 case measure=>simp[intOf];omega) :P:=h
theorem Rk {P:Prop}(h:P:=by go_enter Tryd.func91,Tryd.ntmps91;go_wp2;go_ret;exact⟨rfl,rfl⟩) :P:=h
structure j6(w0 W:aal)(rb db sb:Nat)(raw:Array aaa)(R:aU)(v:aaa)(l:List dK)(va:aaa)(f:Bool)(rs:List (Int×Int))(e:Int) :Prop where
 below:aah w0.heap.size w0 W
 bW:W.heap[rb]?=some (.cells raw 60)
 res:W.heap[rb+1]?=some (.cells #[.slice none 0 0] 25)
 jk:W.heap[db]?=some (.cells #[v] 25)
 rows:aY W w0.heap.size R
 cur:mI W w0.heap.size v l sb va f rs e
 from_:w0.heap.size≤db
 ne:db≠rb+1
structure FH(w0 W:aal)(rb db:Nat)(raw:Array aaa)(R:aU)(v:aaa)(l:List dK) :Prop where
 below:aah w0.heap.size w0 W
 bW:W.heap[rb]?=some (.cells raw 60)
 res:W.heap[rb+1]?=some (.cells #[.slice none 0 0] 25)
 jk:W.heap[db]?=some (.cells #[v] 25)
 rows:aY W w0.heap.size R
 bZ:bq W w0.heap.size v l
 from_:w0.heap.size≤db
 ne:db≠rb+1
theorem FH.keep {w0 W W':aal} {rb db:Nat} {raw:Array aaa} {R:aU} {v:aaa} {l:List dK}(h:FH w0 W rb db raw R v l)(hb:aah W.heap.size W W') :FH w0 W' rb db raw R v l:=⟨h.below.trans (hb.mono h.below.size),aC h.bW hb,aC h.res hb,aC h.jk hb,h.rows.below hb,h.bZ.below hb,h.from_,h.ne⟩
theorem FH.start {w0 W:aal} {rb db:Nat} {raw:Array aaa} {R:aU} {v:aaa} {l:List dK}(h:FH w0 W rb db raw R v l)(f:Bool)(e:Int) :j6 w0 (W.alloc (.cells #[.bool f,.slice none 0 0,.int .i64 e] 42)) rb db W.heap.size raw R v l (.slice none 0 0) f [] e:=by have hb:aah W.heap.size W (W.alloc (.cells #[.bool f,.slice none 0 0,.int .i64 e] 42)) :=(aav _ _).alloc (aas _) _;have h':=h.keep hb;exact⟨h'.below,h'.bW,h'.res,h'.jk,h'.rows,h.bZ.start h.below.size f e,h.from_,h.ne⟩
theorem j6.ints {w0 W W':aal} {rb db sb:Nat} {raw:Array aaa} {R R':aU} {v:aaa} {l:List dK} {va:aaa} {f:Bool} {rs:List (Int×Int)} {e:Int}(h:j6 w0 W rb db sb raw R v l va f rs e)(hB:aah w0.heap.size w0 W')(hk: ∀(b:Nat)(cs:Array aaa)(t:aaw),t≠3→W.heap[b]?=some (.cells cs t)→W'.heap[b]?=some (.cells cs t))(hR:aY W' w0.heap.size R') :j6 w0 W' rb db sb raw R' v l va f rs e:=⟨hB,hk _ _ _ (by decide) h.bW,hk _ _ _ (by decide) h.res,hk _ _ _ (by decide) h.jk,hR,h.cur.congr fun b cs t ht hh=>hk b cs t (by rcases ht with rfl|rfl<;>decide) hh,h.from_,h.ne⟩
theorem j6.keep {w0 W W':aal} {rb db sb:Nat} {raw:Array aaa} {R:aU} {v:aaa} {l:List dK} {va:aaa} {f:Bool} {rs:List (Int×Int)} {e:Int}(h:j6 w0 W rb db sb raw R v l va f rs e)(hb:aah W.heap.size W W') :j6 w0 W' rb db sb raw R v l va f rs e:=h.ints (h.below.trans (hb.mono h.below.size)) (fun b cs t _ hh=>aC hh hb) (h.rows.below hb)
theorem j6.setInt {w0 W:aal} {rb db sb:Nat} {raw:Array aaa} {R:aU} {v:aaa} {l:List dK} {va:aaa} {f:Bool} {rs:List (Int×Int)} {e:Int}(h:j6 w0 W rb db sb raw R v l va f rs e) {i g n cap:Nat} {zs:List Int}(hi:R i=some (.slice (some ⟨g,0,none⟩) n cap,zs))(hn:zs.length=n) {k:Nat}(hk:k<n)(x:Int) :j6 w0 (W.setCell ⟨g,k,none⟩ (.int .i64 x)) rb db sb raw (upd R i (some (.slice (some ⟨g,0,none⟩) n cap,zs.set k x))) v l va f rs e:=by subst hn;obtain⟨hge,cur,iJ⟩ :=aA (h.rows.own i _ _ hi) (b:=g) rfl;refine h.ints (h.below.trans (((But.refl (fun b=>b=g) W).set g k _ rfl).below h.below.size (fun j hj e=>by omega))) (fun b cs t ht hh=> ?_) (h.rows.set hi hk x);rw[ay W g k _ b (aN hh iJ ht)];exact hh
theorem j6.y9 {w0 W W':aal} {rb db sb:Nat} {raw:Array aaa} {R:aU} {v:aaa} {l:List dK} {va:aaa} {f:Bool} {rs:List (Int×Int)} {e:Int}(h:j6 w0 W rb db sb raw R v l va f rs e) {i:Nat} {u u':aaa} {zs ys:List Int}(hi:R i=some (u,zs))(hg:But (fun b=>u.ownBlock=some b) W W')(hv:W'.ownsRow w0.heap.size 3 1 u' ys.length (zI ys))(hat: ∀b,u'.ownBlock=some b→u.ownBlock=some b∨W.heap.size≤b) :j6 w0 W' rb db sb raw (upd R i (some (u',ys))) v l va f rs e:=by have ho:=h.rows.own i _ _ hi;refine h.ints (h.below.trans (hg.below h.below.size (fun j hj e=>by have:=(aA ho e).1;omega))) (fun b cs t ht hh=> ?_) (h.rows.uS hi hg hv hat);rw[hg.block b (Array.getElem?_eq_some_iff.1 hh).1 (fun e=>by obtain⟨_,cur,h2⟩ :=aA ho e;exact aN hh h2 ht rfl)];exact hh
theorem nU {W:aal} {base:Nat} {R:aU}(h:aY W base R) {b:Nat} {cs:Array aaa} {t:aaw}(hh:W.heap[b]?=some (.cells cs t))(ht:t≠3) : ∀cur,W.heap[b]?≠some (.cells cur 3) :=by intro cur e;rw[hh]at e;simp only[aau,aax]at e;exact ht e.2.1
theorem j6.BU {w0 W W1:aal} {rb db sb:Nat} {raw:Array aaa} {R:aU} {v:aaa} {l:List dK} {va ic:aaa} {f:Bool} {rs:List (Int×Int)} {e:Int} {a:Int×Int}(h:j6 w0 W rb db sb raw R v l va f rs e)(hb:But (fun b=>va.ownBlock=some b) W W1)(ho:W1.ownsRow w0.heap.size 44 2 ic (rs.length+1) (dN rs++ [.int .i64 a.1,.int .i64 a.2]))(hat: ∀b,ic.ownBlock=some b→va.ownBlock=some b∨W.heap.size≤b) :j6 w0 (W1.setCell ⟨sb,1,none⟩ ic) rb db sb raw R v l ic f (rs++ [a]) e∧W1.heap[sb]?=some (.cells #[.bool f,va,.int .i64 e] 42) :=by
 obtain⟨hc,hsb⟩ :=h.cur.BU hb ho hat;have hX:But (fun b=>va.ownBlock=some b∨b=sb) W (W1.setCell ⟨sb,1,none⟩ ic) :=(hb.mono fun i _ hi=>aaE hi).set sb 1 ic (aaV rfl);have hk: ∀(b:Nat)(cs:Array aaa)(t:aaw),t≠42→t≠44→W.heap[b]?=some (.cells cs t)→(W1.setCell ⟨sb,1,none⟩ ic).heap[b]?=some (.cells cs t) :=by
  intro b cs t h1 h2 hh;rw[hX.block b (Array.getElem?_eq_some_iff.1 hh).1 (fun e'=>by
   rcases e' with e'|e';·obtain⟨_,cur,h3⟩ :=aA h.cur.aR e';exact aN hh h3 h2 rfl
   ·subst e';exact aN hh h.cur.box h1 rfl)];exact hh
 refine⟨⟨h.below.trans (hX.below h.below.size (fun j hj e'=> ?_)),hk _ _ _ (by decide) (by decide) h.bW,hk _ _ _ (by decide) (by decide) h.res,hk _ _ _ (by decide) (by decide) h.jk,h.rows.but hX (fun b e'=> ?_),hc,h.from_,h.ne⟩,hsb⟩
 ·rcases e' with e'|e';·have:=(aA h.cur.aR e').1;omega
  ·have:=h.cur.from_;omega
 ·rcases e' with e'|e';·obtain⟨_,cur,h3⟩ :=aA h.cur.aR e';exact nU h.rows h3 (by decide)
  ·subst e';exact nU h.rows h.cur.box (by decide)
theorem j6.els {w0 W:aal} {rb db sb:Nat} {raw:Array aaa} {R:aU} {v:aaa} {l:List dK} {va:aaa} {f:Bool} {rs:List (Int×Int)} {e:Int}(h:j6 w0 W rb db sb raw R v l va f rs e)(x:Int) :j6 w0 (W.setCell ⟨sb,2,none⟩ (.int .i64 x)) rb db sb raw R v l va f rs x:=by
 have hX:But (fun b=>b=sb) W (W.setCell ⟨sb,2,none⟩ (.int .i64 x)) :=(But.refl _ _).set sb 2 _ rfl;have hk: ∀(b:Nat),b≠sb→(W.setCell ⟨sb,2,none⟩ (.int .i64 x)).heap[b]?=W.heap[b]?:=fun b hb=>ay W sb 2 _ b hb;have hc:=h.cur;refine⟨h.below.trans (hX.below h.below.size (fun j hj e'=>by have:=hc.from_;omega)),?_,?_,?_,h.rows.but hX (fun b e'=>by subst e';exact nU h.rows hc.box (by decide)),⟨?_,?_,?_,hc.apart,hc.off,hc.from_⟩,h.from_,h.ne⟩;·rw[hk _ (aN h.bW hc.box (by decide))];exact h.bW
 ·rw[hk _ (aN h.res hc.box (by decide))];exact h.res
 ·rw[hk _ (aN h.jk hc.box (by decide))];exact h.jk
 ·exact Xg
 ·have:=aL hc.box 2 (.int .i64 x);simpa using this
 ·exact ado
theorem j6.done {w0 W W1:aal} {rb db sb:Nat} {raw:Array aaa} {R:aU} {v v':aaa} {l:List dK} {va:aaa} {f:Bool} {rs:List (Int×Int)} {e:Int}(h:j6 w0 W rb db sb raw R v l va f rs e)(hb:But (fun b=>v.ownBlock=some b) W W1)(ho:W1.ownsRow w0.heap.size 42 3 v' (l.length+1) (dS l++ [.bool f,va,.int .i64 e])) :FH w0 (W1.setCell ⟨db,0,none⟩ v') rb db raw R v' (l++ [(va,f,rs,e)])∧W1.heap[db]?=some (.cells #[v] 25) :=by
 have hp:=h.cur.push hb ho;have k1: ∀(b:Nat)(cs:Array aaa)(t:aaw),t≠42→W.heap[b]?=some (.cells cs t)→W1.heap[b]?=some (.cells cs t) :=by intro b cs t h1 hh;rw[hb.block b (Array.getElem?_eq_some_iff.1 hh).1 (fun e'=>by obtain⟨_,cur,h3⟩ :=aA h.cur.bZ.row e';exact aN hh h3 h1 rfl)];exact hh
 have hd1:=k1 _ _ _ (by decide) h.jk;have hX:But (fun b=>v.ownBlock=some b∨b=db) W (W1.setCell ⟨db,0,none⟩ v') :=(hb.mono fun i _ hi=>aaE hi).set db 0 v' (aaV rfl);have ks: ∀b,b≠db→(W1.setCell ⟨db,0,none⟩ v').heap[b]?=W1.heap[b]?:=fun b hb'=>ay W1 db 0 _ b hb';refine⟨⟨h.below.trans (hX.below h.below.size (fun j hj e'=> ?_)),?_,?_,?_,h.rows.but hX (fun b e'=> ?_),?_,h.from_,h.ne⟩,hd1⟩
 ·rcases e' with e'|e';·have:=(aA h.cur.bZ.row e').1;omega
  ·have:=h.from_;omega
 ·rw[ks _ (aN (k1 _ _ _ (by decide) h.bW) hd1 (by decide))];exact k1 _ _ _ (by decide) h.bW
 ·rw[ks _ (Ne.symm h.ne)];exact k1 _ _ _ (by decide) h.res
 ·have:=aL hd1 0 v';simpa using this
 ·rcases e' with e'|e';·obtain⟨_,cur,h3⟩ :=aA h.cur.bZ.row e';exact nU h.rows h3 (by decide)
  ·subst e';exact nU h.rows h.jk (by decide)
 ·refine hp.congr fun b cs t ht hkk hh=> ?_;rw[ks b (by
   rintro rfl;rw[hd1]at hh;simp only[aau,aax]at hh;rcases ht with rfl|rfl;·exact absurd hh.2.1 (by decide)
   ·exact absurd hh.2.1 (by decide))];exact hh
theorem Aj(r:Int)(w:aal) :aaA Tryd.prog 46 #[.int .i64 r] w fun e w'=>e= .returned (.bool (ig r))∧w'=w:=by
 have hc:ig r=decide (0≤r∧r≤1114111∧(r<55296∨57343<r)) :=rfl;by_cases h1:0≤r
 ·by_cases h2:r≤1114111
  ·by_cases h3:r<55296
   ·have H:Hid (ig r=true) :=by show _=_;rw[jH];omega
    exact Y1
   ·by_cases h4:57343<r
    ·have H:Hid (ig r=true) :=by show _=_;rw[jH];omega
     exact Y1
    ·exact Qv
  ·exact Qv
 ·exact Qv
theorem RU(r:Int)(w:aal)(h0:0≤r)(h1:r<128) :aaA Tryd.prog 91 #[.int .i64 r] w fun e w'=>e= .returned (.slice (some ⟨w.heap.size,0,none⟩) 1 1)∧w'=w.alloc (.cells #[.int .u8 r] 5) :=by exact Rk
theorem Td(r:Int)(w:aal)(h0:128≤r)(h1:r<2048) :aaA Tryd.prog 91 #[.int .i64 r] w fun e w'=>e= .returned (.slice (some ⟨w.heap.size,0,none⟩) 2 2)∧w'=w.alloc (.cells #[.int .u8 (192+r/64),.int .u8 (128+r %64)] 5) :=by exact Rk
theorem Nb(r:Int)(w:aal)(h0:2048≤r)(h1:r<65536) :aaA Tryd.prog 91 #[.int .i64 r] w fun e w'=>e= .returned (.slice (some ⟨w.heap.size,0,none⟩) 3 3)∧w'=w.alloc (.cells #[.int .u8 (224+r/4096),.int .u8 (128+r/64 %64),.int .u8 (128+r %64)] 5) :=by exact Rk
theorem Qx(r:Int)(w:aal)(h0:65536≤r)(h1:r≤1114111) :aaA Tryd.prog 91 #[.int .i64 r] w fun e w'=>e= .returned (.slice (some ⟨w.heap.size,0,none⟩) 4 4)∧w'=w.alloc (.cells #[.int .u8 (240+r/262144),.int .u8 (128+r/4096 %64),.int .u8 (128+r/64 %64),.int .u8 (128+r %64)] 5) :=by exact Rk
theorem UG(r:Int)(w:aal)(h:ig r=true) :aaA Tryd.prog 91 #[.int .i64 r] w fun e w'=>e= .returned (.slice (some ⟨w.heap.size,0,none⟩) (aa1 r).length (aa1 r).length)∧w'=w.alloc (.cells (aa1 r).toArray 5) :=by
 rw[jH]at h;unfold aa1;by_cases h1:r<128;·rw[Lib.encodeRuneZ_one h.1 (by omega)];exact RU r w h.1 h1
 ·by_cases h2:r<2048;·rw[Lib.encodeRuneZ_two (by omega) (by omega)];exact Td r w (by omega) h2
  ·by_cases h3:r<65536;·rw[Lib.encodeRuneZ_three (by omega)];exact Nb r w (by omega) h3
   ·rw[Lib.encodeRuneZ_four (by omega) (by omega)];exact Qx r w (by omega) (by omega)
theorem Tryd.infoSlI:(Tryd.prog.info? 56).map (fun i=>(i.zero,i.size,i.bytes))=some (some (.slice none 0 0),1,24) :=by kernel_rfl
def bg(l:List Nat)(q:Nat) :Nat:=l.getD q 0
structure qy(w0 W:aal)(rb gb gc cc gn n:Nat)(vl vf vn:aaa)(aX nl:List Nat)(L:List (List Nat))(vs:aaa)(us:List aaa)(R:aU) :Prop where
 below:aah w0.heap.size w0 W
 box:W.heap[rb]?=some (.cells #[vl,vf,vn] 60)
 rows:aY W w0.heap.size R
 cls:R 0=some (.slice (some ⟨gc,0,none⟩) n cc,aH aX)
 nx:R 1=some (.slice (some ⟨gn,0,none⟩) n n,aH nl)
 outer:W.ownsRow w0.heap.size 56 1 vs L.length us
 sig: ∀j u s,us[j]?=some u→L[j]?=some s→R (3+2*j)=some (u,aH s)
 bk: ∃bs:Array aaa,W.heap[gb]?=some (.cells bs 56)∧bs.size=1024∧∀h,h<1024→∃u,bs[h]?=some u∧R (4+2*h)=some (u,aH (rq L h))
 apart:vs.ownBlock≠some gb
 from_:w0.heap.size≤gb
theorem qy.keep {w0 W W':aal} {rb gb gc cc gn n:Nat} {vl vf vn:aaa} {aX nl:List Nat} {L:List (List Nat)} {vs:aaa} {us:List aaa} {R:aU}(h:qy w0 W rb gb gc cc gn n vl vf vn aX nl L vs us R)(hb:aah W.heap.size W W') :qy w0 W' rb gb gc cc gn n vl vf vn aX nl L vs us R:=by obtain⟨bs,b1,b2,b3⟩ :=h.bk;exact⟨h.below.trans (hb.mono h.below.size),aC h.box hb,h.rows.below hb,h.cls,h.nx,own_below h.outer hb,h.sig,⟨bs,aC b1 hb,b2,b3⟩,h.apart,h.from_⟩
theorem qy.Y8 {w0 W W':aal} {rb gb gc cc gn n:Nat} {vl vf vn:aaa} {aX nl:List Nat} {L:List (List Nat)} {vs:aaa} {us:List aaa} {R R':aU}(h:qy w0 W rb gb gc cc gn n vl vf vn aX nl L vs us R)(hB:aah w0.heap.size w0 W')(hk: ∀b,b<W.heap.size→(∀cur,W.heap[b]?≠some (.cells cur 3))→W'.heap[b]?=W.heap[b]?)(hR:aY W' w0.heap.size R')(ho: ∀a,a≠2→R' a=R a) :qy w0 W' rb gb gc cc gn n vl vf vn aX nl L vs us R':=by
 obtain⟨bs,b1,b2,b3⟩ :=h.bk;have k: ∀(b:Nat)(cs:Array aaa)(t:aaw),t≠3→W.heap[b]?=some (.cells cs t)→W'.heap[b]?=some (.cells cs t) :=by intro b cs t ht hh;rw[hk b (Array.getElem?_eq_some_iff.1 hh).1 (fun cur e=>by rw[hh]at e;simp only[aau,aax]at e;exact ht e.2.1)];exact hh
 refine⟨hB,k _ _ _ (by decide) h.box,hR,by rw[ho 0 (by omega)];exact h.cls,by rw[ho 1 (by omega)];exact h.nx,?_,fun j u s h1 h2=>by rw[ho _ (by omega)];exact h.sig j u s h1 h2,⟨bs,k _ _ _ (by decide) b1,b2,fun x hx=> ?_⟩,h.apart,h.from_⟩;·refine aG h.outer (fun b hb=> ?_);obtain⟨_,cur,h2⟩ :=aA h.outer hb;rw[k b cur _ (by decide) h2,h2]
 ·obtain⟨u,h1,h2⟩ :=b3 x hx;exact⟨u,h1,by rw[ho _ (by omega)];exact h2⟩
theorem qy.pushed {w0 W W':aal} {rb gb gc cc gn n:Nat} {vl vf vn:aaa} {aX nl:List Nat} {L:List (List Nat)} {vs vs':aaa} {us:List aaa} {R:aU}(h:qy w0 W rb gb gc cc gn n vl vf vn aX nl L vs us R) {vg:aaa} {s:List Nat}(hg:R 2=some (vg,aH s))(hb:But (fun b=>vs.ownBlock=some b) W W')(ho:W'.ownsRow w0.heap.size 56 1 vs' (L.length+1) (us++ [vg]))(hat: ∀b,vs'.ownBlock=some b→vs.ownBlock=some b∨W.heap.size≤b) : ∃R',(∀a,a≠2→a≠3+2*L.length→R' a=R a)∧aah w0.heap.size w0 W'∧W'.heap[rb]?=some (.cells #[vl,vf,vn] 60)∧aY W' w0.heap.size R'∧(∀j u t,(us++ [vg])[j]?=some u→(L++ [s])[j]?=some t→R' (3+2*j)=some (u,aH t))∧W'.heap[gb]?=W.heap[gb]?∧vs'.ownBlock≠some gb:=by
 have AY:us.length=L.length:=by have:=h.outer.1;omega
 obtain⟨bs,b1,b2,b3⟩ :=h.bk;have ae0:=(Array.getElem?_eq_some_iff.1 b1).1;have hx: ∀b,vs.ownBlock=some b→∀cur,W.heap[b]?≠some (.cells cur 3) :=by intro b hb cur e;obtain⟨_,c2,h2⟩ :=aA h.outer hb;rw[h2]at e;exact aaO
 have hrn:=(h.rows.but hb hx).rename (j:=3+2*L.length) hg (by omega);refine⟨_,fun a h1 h2=> ?_,?_,?_,hrn,fun j u t h1 h2=> ?_,?_,?_⟩;·rw[aD _ _ h1,aD _ _ h2]
 ·exact h.below.trans (hb.below h.below.size (fun i hi e=>by have:=(aA h.outer e).1;omega))
 ·rw[hb.block rb (Array.getElem?_eq_some_iff.1 h.box).1 (fun e=>by obtain⟨_,c2,h2⟩ :=aA h.outer e;rw[h.box]at h2;simp only[aau,aax]at h2;exact absurd h2.2.1 (by decide))];exact h.box
 ·rw[aD _ _ (by omega)];by_cases hj:j=L.length
  ·subst hj;rw[upd_same];have e1:vg=u:=by rw[←AY]at h1;simpa using h1
   have e2:s=t:=by simpa using h2
   rw[e1,e2]
  ·have hj':j<L.length:=by exact Qh
   rw[aD _ _ (by omega)];exact h.sig j u t (by rw[abt (by omega)]at h1;exact h1) (by rw[abt hj']at h2;exact h2)
 ·exact hb.block gb ae0 h.apart
 ·intro e;rcases hat gb e with h1|h1;·exact h.apart h1
  ·omega
theorem qy.EU {w0 W W1 W2:aal} {rb gb gc cc gn n:Nat} {vl vf vn:aaa} {aX nl:List Nat} {L:List (List Nat)} {vs vs':aaa} {us:List aaa} {R R1:aU}(h:qy w0 W rb gb gc cc gn n vl vf vn aX nl L vs us R) {vg:aaa} {s:List Nat} {x:Nat} {bs:Array aaa} {u u':aaa}(r1: ∀a,a≠2→a≠3+2*L.length→R1 a=R a)(r2:aah w0.heap.size w0 W1)(r3:W1.heap[rb]?=some (.cells #[vl,vf,vn] 60))(r4:aY W1 w0.heap.size R1)(r5: ∀j u t,(us++ [vg])[j]?=some u→(L++ [s])[j]?=some t→R1 (3+2*j)=some (u,aH t))(r7:vs'.ownBlock≠some gb)(r8:W1.ownsRow w0.heap.size 56 1 vs' (L.length+1) (us++ [vg]))(b1:W1.heap[gb]?=some (.cells bs 56))(b2:bs.size=1024)(b3: ∀h,h<1024→∃u,bs[h]?=some u∧R (4+2*h)=some (u,aH (rq L h)))(hx:x<1024)(hs:nP s=x)(hu:R1 (4+2*x)=some (u,aH (rq L x)))(hb:But (fun b=>u.ownBlock=some b) W1 W2)(ho:W2.ownsRow w0.heap.size 3 1 u' ((rq L x).length+1) (zI (aH (rq L x))++ [.int .i64 (L.length:Int)]))(hat: ∀b,u'.ownBlock=some b→u.ownBlock=some b∨W1.heap.size≤b) : ∃R',qy w0 (W2.setCell ⟨gb,x,none⟩ u') rb gb gc cc gn n vl vf vn aX nl (L++ [s]) vs' (us++ [vg]) R':=by
 have e0:zI (aH (rq L x))++ [.int .i64 (L.length:Int)]=zI (aH (rq (L++ [s]) x)) :=by rw[Ei,if_pos hs,iL,nD];rfl
 have e1:(rq L x).length+1=(aH (rq (L++ [s]) x)).length:=by rw[aK,Ei,if_pos hs];simp
 rw[e0,e1]at ho;have hR2:=r4.uS hu hb ho hat;have kp: ∀(b:Nat)(cs:Array aaa)(t:aaw),t≠3→W1.heap[b]?=some (.cells cs t)→W2.heap[b]?=some (.cells cs t) :=by intro b cs t ht hh;rw[hb.block b (Array.getElem?_eq_some_iff.1 hh).1 (fun e=>by obtain⟨_,cur,h2⟩ :=aA (r4.own _ _ _ hu) e;rw[hh]at h2;simp only[aau,aax]at h2;exact ht h2.2.1)];exact hh
 have ER:=kp _ _ _ (by decide) b1;have CO:aah w0.heap.size w0 W2:=r2.trans (hb.below r2.size (fun i hi e=>by have:=(aA (r4.own _ _ _ hu) e).1;omega));have hB2:But (fun b=>b=gb) W2 (W2.setCell ⟨gb,x,none⟩ u') :=(But.refl _ _).set gb x u' rfl;have IX:=hR2.but hB2 (fun b e cur hc=>by subst e;rw[ER]at hc;simp only[aau,aax]at hc;exact absurd hc.2.1 (by decide));have ks: ∀b,b≠gb→(W2.setCell ⟨gb,x,none⟩ u').heap[b]?=W2.heap[b]?:=fun b hb'=>ay W2 gb x u' b hb';refine⟨_,⟨?_,?_,IX,?_,?_,?_,?_,⟨bs.setIfInBounds x u',aL ER x u',by simpa using b2,?_⟩,r7,h.from_⟩⟩;·exact CO.trans (hB2.below CO.size (fun i hi e=>by have:=h.from_;omega))
 ·rw[ks rb (aN r3 b1 (by decide))];exact kp _ _ _ (by decide) r3
 ·rw[aD _ _ (by omega),r1 0 (by omega) (by omega)];exact h.cls
 ·rw[aD _ _ (by omega),r1 1 (by omega) (by omega)];exact h.nx
 ·rw[aa8,List.length_singleton];refine aG r8 (fun b hbk=> ?_);obtain⟨_,cur,h2⟩ :=aA r8 hbk;rw[ks b (by rintro rfl;exact r7 hbk),kp b cur _ (by decide) h2,h2]
 ·intro j v t h1 h2;rw[aD _ _ (by omega)];exact r5 j v t h1 h2
 ·intro y hy;by_cases e:y=x;·subst e;exact⟨u',by simp[b2,hy],by rw[upd_same]⟩
  ·obtain⟨v,h1,h2⟩ :=b3 y hy;refine⟨v,by rw[Array.getElem?_setIfInBounds_ne (Ne.symm e)];exact h1,?_⟩;rw[aD _ _ (by omega),r1 _ (by omega) (by omega),h2,Ei,if_neg (by rw[hs];exact Ne.symm e)]
theorem qy.O3 {w0 W:aal} {rb gb gc cc gn n:Nat} {vl vf vn:aaa} {aX nl:List Nat} {L:List (List Nat)} {vs:aaa} {us:List aaa} {R:aU}(h:qy w0 W rb gb gc cc gn n vl vf vn aX nl L vs us R)(hn:nl.length=n) {i x:Nat}(hi:i<n) : ∃R',qy w0 (W.setCell ⟨gn,i,none⟩ (.int .i64 (x:Int))) rb gb gc cc gn n vl vf vn aX (nl.set i x) L vs us R':=by
 obtain⟨bs,b1,b2,b3⟩ :=h.bk;have hnx:R 1=some (.slice (some ⟨gn,0,none⟩) (aH nl).length n,aH nl) :=by rw[aK,hn];exact h.nx
 have hR:=h.rows.set hnx (k:=i) (by rw[aK];omega) (x:Int);obtain⟨hge,cur,hgn⟩ :=aA (h.rows.own 1 _ _ h.nx) (b:=gn) rfl;have ks: ∀(b:Nat)(cs:Array aaa)(t:aaw),t≠3→W.heap[b]?=some (.cells cs t)→(W.setCell ⟨gn,i,none⟩ (.int .i64 (x:Int))).heap[b]?=some (.cells cs t) :=by intro b cs t ht hh;rw[ay W gn i _ b (aN hh hgn ht)];exact hh
 have e:(aH nl).set i (x:Int)=aH (nl.set i x) :=by simp[aH,abn]
 rw[e]at hR;refine⟨_,⟨?_,ks _ _ _ (by decide) h.box,hR,?_,?_,?_,?_,⟨bs,ks _ _ _ (by decide) b1,b2,?_⟩,h.apart,h.from_⟩⟩;·exact h.below.trans (((But.refl (fun b=>b=gn) W).set gn i _ rfl).below h.below.size (fun j hj e'=>by omega))
 ·rw[aD _ _ (by omega)];exact h.cls
 ·rw[upd_same,aK,hn]
 ·refine aG h.outer (fun b hb=> ?_);obtain⟨_,c2,h2⟩ :=aA h.outer hb;rw[ks b c2 _ (by decide) h2,h2]
 ·intro j u t h1 h2;rw[aD _ _ (by omega)];exact h.sig j u t h1 h2
 ·intro y hy;obtain⟨u,h1,h2⟩ :=b3 y hy;exact⟨u,h1,by rw[aD _ _ (by omega)];exact h2⟩
def adu(w:aal)(ak:List Bool)(aB:List (List Nat))(S:Nat)(e:Ending)(w':aal) :Prop:=∃v aX c,e= .returned v∧w'.ownsRow w.heap.size 3 1 v ak.length (zI (aH aX))∧aX.length=ak.length∧Parts (aM ak aB) S ak.length (bg aX)∧Onto ak.length (bg aX) c∧aah w.heap.size w w'
def jh(ak:List Bool)(i:Nat) :List Nat:=(aap ak.length).map fun q=>if q<i∧ak.getD q false=true then 1 else 0
theorem zA(ak:List Bool)(i:Nat) :(jh ak i).length=ak.length:=by simp[jh]
theorem Vf(ak:List Bool) :jh ak 0=aat ak.length 0:=by rw[aaF];refine⟨zA ak 0,fun x hx=> ?_⟩;obtain⟨q,_,rfl⟩ :=List.mem_map.1 hx;simp
theorem acs {ak:List Bool} {i:Nat}(h:ak.getD i false=false) :jh ak (i+1)=jh ak i:=by
 refine List.map_congr_left fun q _=> ?_;by_cases e:q=i;·subst e;rw[h];simp
 ·have:(q<i+1)↔(q<i) :=by omega
  simp only[this]
theorem WS {ak:List Bool} {i:Nat}(hi:i<ak.length)(h:ak.getD i false=true) :jh ak (i+1)=(jh ak i).set i 1:=by
 refine aaR fun q=> ?_;rw[aaL,zA];by_cases hq:q<ak.length
 ·by_cases e:i=q
  ·subst e;rw[if_pos rfl,if_pos hi];have h':ak[i]=true:=by simpa[aaQ,hi]using h
   simp[jh,hi,h']
  ·rw[if_neg e];have:(q<i+1)↔(q<i) :=by omega
   simp[jh,hq,this]
 ·rw[if_neg (by omega)];simp[jh,hq]
theorem Y3(ak:List Bool)(aB:List (List Nat)) {q:Nat}(hq:q<ak.length) :bg (jh ak ak.length) q=if(aM ak aB).fin q=true then 1 else 0:=by show(jh ak ak.length).getD q 0=if ak.getD q false=true then 1 else 0;simp[jh,hq]
def eH(A:bK)(S n:Nat)(κ:Nat→Nat)(i:Nat) :List Nat:=(aap n).map fun q=>if q<i then ix (bO A S κ i) (iT A S κ q)else 0
theorem iD(A:bK)(S n:Nat)(κ:Nat→Nat)(i:Nat) :(eH A S n κ i).length=n:=by simp[eH]
theorem QZ(A:bK)(S n:Nat)(κ:Nat→Nat) :eH A S n κ 0=aat n 0:=by rw[aaF];refine⟨iD A S n κ 0,fun x hx=> ?_⟩;obtain⟨q,_,rfl⟩ :=List.mem_map.1 hx;simp
theorem Fu(A:bK)(S:Nat) {n:Nat}(κ:Nat→Nat) {i:Nat}(hi:i<n) :eH A S n κ (i+1)=(eH A S n κ i).set i (ix (bO A S κ (i+1)) (iT A S κ i)) :=by
 refine aaR fun q=> ?_;rw[aaL,iD];by_cases hq:q<n
 ·by_cases e:i=q;·subst e;rw[if_pos rfl,if_pos hi];simp[eH,hi]
  ·rw[if_neg e];have h1:(q<i+1)↔(q<i) :=by omega
   by_cases h2:q<i
   ·obtain⟨r,hr⟩ :=PK A S κ (show i≤i+1 by omega);have:ix (bO A S κ (i+1)) (iT A S κ q)=ix (bO A S κ i) (iT A S κ q) :=by rw[hr];exact vL (oF.2 ⟨q,h2,rfl⟩)
    simp[eH,hq,h1,h2,this]
   ·simp[eH,hq,h1,h2]
 ·rw[if_neg (by omega)];simp[eH,hq]
theorem TZ(A:bK)(S n:Nat)(κ:Nat→Nat) {q:Nat}(hq:q<n) :bg (eH A S n κ n) q=roundOf A S n κ q:=by simp[bg,eH,hq,roundOf]
def nX(A:bK)(κ:Nat→Nat)(q k:Nat) :List Nat:=κ q::(aap k).map fun a=>κ (A.nx q a)
theorem Q4(A:bK)(κ:Nat→Nat)(q k:Nat) :nX A κ q (k+1)=nX A κ q k++ [κ (A.nx q k)] :=by simp[nX,abk]
theorem UK(A:bK)(κ:Nat→Nat)(q k:Nat) :(nX A κ q k).length=k+1:=by simp[nX]
def l7(A:bK)(κ:Nat→Nat)(q k:Nat) :Nat:=((aap k).map fun a=>κ (A.nx q a)).foldl WW (κ q)
theorem Dp(A:bK)(κ:Nat→Nat)(q k:Nat) :l7 A κ q (k+1)=(l7 A κ q k*31+κ (A.nx q k)) %1000003:=by simp[l7,abk,List.foldl_append,WW]
theorem PG(A:bK)(S:Nat)(κ:Nat→Nat)(q:Nat) :l7 A κ q S %1024=nP (iT A S κ q) :=rfl
theorem Jg(A:bK)(κ:Nat→Nat)(q k B:Nat)(h:κ q≤B) :l7 A κ q k≤B+1000003:=by
 cases k with
 |zero=>simp[l7];omega
 |succ k=>rw[Dp];have:=Nat.mod_lt (l7 A κ q k*31+κ (A.nx q k)) (show 0<1000003 by omega);omega
def VI(cv nv:aaa)(aX nl:List Nat) :aU:=fun a=>if a=0 then some (cv,aH aX)else if a=1 then some (nv,aH nl)else if 4≤a∧a %2=0 then some (.slice none 0 0,[])else none
theorem Xx {W W':aal} {base:Nat} {cv nv:aaa} {aX nl:List Nat}(hc:W.ownsRow base 3 1 cv aX.length (zI (aH aX)))(hb:aah W.heap.size W W')(hn:W'.ownsRow W.heap.size 3 1 nv nl.length (zI (aH nl)))(hbase:base≤W.heap.size) :aY W' base (VI cv nv aX nl) :=by
 have h0:aY W base (fun a=>if a=0 then some (cv,aH aX)else if 4≤a∧a %2=0 then some (.slice none 0 0,[])else none) :=by
  refine⟨fun a v zs ha=> ?_,fun a b v zs u ys hab ha hb=> ?_⟩
  ·split at ha;·cases ha;rw[aK];exact hc
   ·split at ha;·cases ha;exact World.ownsRow_nil _ _ _ _
    ·cases ha
  ·split at ha
   ·split at hb;·omega
    ·split at hb;·exact aae
     ·cases hb
   ·split at ha;·cases ha;exact aaE rfl
    ·cases ha
 have h1:=h0.new hb hbase (i:=1) (v:=nv) (zs:=aH nl) (by rw[aK];exact hn);have e:upd (fun a=>if a=0 then some (cv,aH aX)else if 4≤a∧a %2=0 then some (.slice none 0 0,[])else none) 1 (some (nv,aH nl))=VI cv nv aX nl:=by
  funext a;unfold upd VI;by_cases h1:a=1;·subst h1;simp
  ·simp[h1]
 rw[e]at h1;exact h1
theorem Eg(n:Nat) :aat n (aaK .i64 0)=zI (aH (aat n 0)) :=by simp[zI,aH]
theorem M9(vl vf vn:aaa)(ak:List Bool)(aB:List (List Nat))(S:Nat)(w:aal)(hraw:nV w vf vn ak aB S) :aaA Tryd.prog 64 #[.agg #[vl,vf,vn]] w (adu w ak aB S) :=by
 obtain⟨i0,hi,hz0,hz1,hz2⟩ :=info_parts Tryd.infoIntL;obtain⟨i1,hi1,hy0,hy1,hy2⟩ :=info_parts Tryd.infoSlI;obtain⟨hf,hnx,hlen,hpos,zB,hwide,hrows⟩ :=hraw;have Gm:Hid (nV w vf vn ak aB S) :=⟨hf,hnx,hlen,hpos,zB,hwide,hrows⟩;have oI:=ah Gm.out.shut;obtain⟨af,cf,rfl,Gf⟩ :=hf;obtain⟨an,cn,rfl,hnn⟩ :=hnx;obtain⟨gf,of,rfl,hgf,hcf⟩ :=Gf.resolve_left (fun h=>by rw[h]at hpos;simp at hpos);obtain⟨gN,oN,rfl,hgN,VL⟩ :=hnn.resolve_left (fun h=>by rw[h]at hlen;simp at hlen;omega);have HF:=ah hcf;have HN:=ah VL;have ZU:=ah hrows;have HLen:=ah hlen;clear Gf hnn hcf VL hrows hlen;have AU:=ah (heap_alloc_new w (.cells #[vl,.slice (some ⟨gf,of,none⟩) ak.length cf,.slice (some ⟨gN,oN,none⟩) aB.length cn] 60));have lq:Hid (aah w.heap.size w (w.alloc (.cells #[vl,.slice (some ⟨gf,of,none⟩) ak.length cf,.slice (some ⟨gN,oN,none⟩) aB.length cn] 60))) :=(aav _ _).alloc (aas _) _
 go_enter Tryd.func64,Tryd.ntmps64;go_upto_region 1 with fail;obtain⟨wa,hwa⟩ : ∃wa,w.alloc (.cells #[vl,.slice (some ⟨gf,of,none⟩) ak.length cf,.slice (some ⟨gN,oN,none⟩) aB.length cn] 60)=wa:=⟨_,rfl⟩;rw[hwa]at AU lq;try rw[hwa]
 clear hwa;obtain⟨rb,hrb⟩ : ∃rb,w.heap.size=rb:=⟨_,rfl⟩;have r1:wa.cell? ⟨rb,1,none⟩=some (.slice (some ⟨gf,of,none⟩) ak.length cf) :=by rw[←hrb];exact aj AU.out 1
 simp only[hrb];go_wp2_with(at_make;refine aa3 _ rfl _ _ 56 rfl wa.heap.size 3 i0 (.int .i64 0) 1 Tryd.underlying56 hi hz0 hz1 _ _ _ _ ak.length rfl rfl (by omega) (by omega) ?b2 ?b3 (aas _) ?_);case b2=>rw[hz2];omega
 case b3=>unfold maxLen;omega
 intro w1 hown1 hgrow1;have jl:Hid (w1.ownsRow wa.heap.size 3 1 (.slice (some ⟨wa.heap.size,0,none⟩) ak.length ak.length) ak.length (zI (aH (jh ak 0)))) :=by have e0:(aa5 #[aaK .i64 0] ak.length).toList=aat ak.length (aaK .i64 0) :=aa4 _ _;rw[e0]at hown1;show World.ownsRow _ _ _ _ _ _ _;rw[Vf,←Eg];exact hown1
 have HB1:Hid (aah wa.heap.size wa w1) :=(aav _ _).grown hgrow1 (aas _) (fun k h=>by cases h);clear hown1 hgrow1 r1;obtain⟨gc,hgc⟩ : ∃gc,wa.heap.size=gc:=⟨_,rfl⟩;rw[hgc]at jl HB1;simp only[hgc];have aed:rb<gc:=by rw[←hgc,←hrb];exact(Array.getElem?_eq_some_iff.1 AU.out).1
 have Yu:Hid (w.heap.size=rb) :=hrb;have amD:Hid (wa.heap.size=gc) :=hgc;clear hrb hgc;go_wp2;go_loopw [4](fun iv wx=>∃i:Nat,i≤ak.length∧iv= .int .i64 (i:Int)∧wx.ownsRow gc 3 1 (.slice (some ⟨gc,0,none⟩) ak.length ak.length) ak.length (zI (aH (jh ak i)))∧aah gc wa wx)(fun iv _=>ak.length-(aar iv).toNat);case atStart=>exact⟨0,aaY _,rfl,jl.out,HB1.out⟩
 case round=>
  clear jl HB1;obtain⟨i,hin,rfl,hown,hbel⟩ :=hrel;have HO:=ah hown;have fP:=ah hbel;clear hown hbel;have r1:wr.cell? ⟨rb,1,none⟩=some (.slice (some ⟨gf,of,none⟩) ak.length cf) :=(fP.out.cell (p:=⟨rb,1,none⟩) aed).trans (by rw[←Yu.out];exact aj AU.out 1);by_cases hlt:i<ak.length
  ·have hltz:(i:Int)<(ak.length:Int) :=by omega
   have c0:wr.cell? ⟨gf,of+i,none⟩=some (.bool (ak.getD i false)) :=(fP.out.cell (p:=⟨gf,of+i,none⟩) (by have:=Yu.out;show gf<gc;omega)).trans ((lq.out.cell (p:=⟨gf,of+i,none⟩) hgf).trans (HF.out i hlt));cases hb:ak.getD i false with
   |false=>
    have HK:=ah (acs hb);rw[hb]at c0;clear hb;go_wp2;go_roundw;case rel=>exact⟨i+1,by omega,by go_num,by rw[HK.out];exact HO.out,fP.out⟩
    case measure=>simp[aar];omega
   |true=>
    have HK:=ah (WS hlt hb);rw[hb]at c0;clear hb;obtain⟨hge,cur,iJ⟩ :=aA HO.out (b:=gc) rfl;have f1:=bL iJ i;have d1:wr.cell? ⟨gc,i,none⟩=some (.int .i64 ((aH (jh ak i)).getD i 0)) :=by rw[HO.out.cellAt i (by omega)];simp[zI,aH,zA,hlt]
    have R1:Hid ((wr.setCell ⟨gc,i,none⟩ (.int .i64 1)).ownsRow gc 3 1 (.slice (some ⟨gc,0,none⟩) ak.length ak.length) ak.length (zI (aH (jh ak (i+1))))∧aah gc wa (wr.setCell ⟨gc,i,none⟩ (.int .i64 1))) :=by refine⟨?_,fP.out.trans (((But.refl (fun b=>b=gc) wr).set gc i _ rfl).below (by have:=fP.out.size;have:=amD.out;omega) (fun j hj e=>by omega))⟩;have:=sJ HO.out hlt 1;rw[HK.out,show aH ((jh ak i).set i 1)=(aH (jh ak i)).set i 1 by simp[aH,abn]];exact this
    clear iJ;go_wp2;go_roundw;case rel=>exact⟨i+1,by omega,by go_num,R1.out.1,R1.out.2⟩
    case measure=>simp[aar];omega
  ·have hltz: ¬(i:Int)<(ak.length:Int) :=by omega
   obtain rfl:i=ak.length:=by omega
   have HI0:Hid (w.heap.size≤gc∧(∀q,q<ak.length→bg (jh ak ak.length) q≤ak.length)∧kY (aM ak aB) S ak.length (bg (jh ak ak.length))∧xC (aM ak aB) ak.length (bg (jh ak ak.length))∧wr.ownsRow w.heap.size 3 1 (.slice (some ⟨gc,0,none⟩) ak.length ak.length) ak.length (zI (aH (jh ak ak.length)))∧aah w.heap.size w wr∧wr.heap[rb]?=some (.cells #[vl,.slice (some ⟨gf,of,none⟩) ak.length cf,.slice (some ⟨gN,oN,none⟩) aB.length cn] 60)) :=by
    have hr:=Yu.out;have he: ∀q,q<ak.length→bg (jh ak ak.length) q=if(aM ak aB).fin q=true then 1 else 0:=fun q hq=>Y3 ak aB hq;obtain⟨h1,h2⟩ :=Q9 (aM ak aB) S ak.length;refine⟨by omega,fun q hq=> ?_,fun q r hq hr' e=> ?_,fun q r hq hr' e=> ?_,jM HO.out (by omega),lq.out.trans (fP.out.mono (by omega)),?_⟩;·rw[he q hq];split<;>omega
    ·rw[he q hq,he r hr'];exact h1 q r hq hr' e
    ·rw[he q hq,he r hr']at e;exact h2 q r hq hr' e
    ·rw[fP.out.block rb aed,←hr];exact AU.out
   clear HO fP r1;generalize wr=W0 at*;go_wp2;go_loopw [3,5](fun cv kv wx=>∃(aX:List Nat)(c gk cc:Nat),cv= .slice (some ⟨gk,0,none⟩) ak.length cc∧kv= .int .i64 (c:Int)∧c≤ak.length∧aX.length=ak.length∧(∀q,q<ak.length→bg aX q≤ak.length)∧kY (aM ak aB) S ak.length (bg aX)∧xC (aM ak aB) ak.length (bg aX)∧(c=0∨Onto ak.length (bg aX) c)∧wx.ownsRow w.heap.size 3 1 cv ak.length (zI (aH aX))∧aah w.heap.size w wx∧wx.heap[rb]?=some (.cells #[vl,.slice (some ⟨gf,of,none⟩) ak.length cf,.slice (some ⟨gN,oN,none⟩) aB.length cn] 60))(fun _ kv _=>ak.length+1-(aar kv).toNat);case atStart=>exact⟨jh ak ak.length,0,gc,ak.length,rfl,rfl,by omega,zA _ _,HI0.out.2.1,HI0.out.2.2.1,HI0.out.2.2.2.1,aaE rfl,HI0.out.2.2.2.2.1,HI0.out.2.2.2.2.2.1,HI0.out.2.2.2.2.2.2⟩
   case round=>
    clear HI0;obtain⟨aX,c,gk,cc,rfl,rfl,hcn,hkl,hkb,hco,hfo,honto,hown,hbel,oP⟩ :=hrel;have nQ:=ah hkl;have HKb:=ah hkb;have HCo:=ah hco;have uL:=ah hfo;have kS:=ah honto;have HO:=ah hown;have fP:=ah hbel;have ah3:=ah oP;have x9:=hbel.size;clear hkl hkb hco hfo honto hown hbel oP;go_upto_region 9 with fail;have UD:=ah (gF wr 56);have HB1:Hid (aah wr.heap.size wr (wr.alloc (.cells #[] 56))) :=(aav _ _).alloc (aas _) _;have hz1':(wr.alloc (.cells #[] 56)).heap.size=wr.heap.size+1:=by simp
    have Hz1:=ah hz1';clear hz1';generalize wr.alloc (.cells #[] 56)=W1 at*;go_upto_region 10 with(at_make;refine aa3 _ rfl _ _ 58 rfl W1.heap.size 56 i1 (.slice none 0 0) 1 Tryd.underlying58 hi1 hy0 hy1 _ _ _ _ 1024 rfl rfl (by omega) (by omega) ?b4 ?b5 (aas _) ?_);case b4=>rw[hy2];omega
    case b5=>unfold maxLen;omega
    intro w2 hown2 hgrow2;have hcs: ∃bs:Array aaa,w2.heap[W1.heap.size]?=some (.cells bs 56)∧bs.size=1024∧∀h,h<1024→bs[h]?=some (.slice none 0 0) :=by
     rcases hown2.2 with⟨h',_⟩| ⟨g,cap,cur,h',_,hg,hc1,hc2,hc3,hc4⟩;·simp at h'
     ·simp only[Value.slice.injEq,aau,Addr.mk.injEq,and_true,true_and]at h';obtain⟨rfl,rfl⟩ :=h';refine⟨cur,hg,by omega,fun h hh=> ?_⟩;have e0:(aa5 #[aaU none 0 0] 1024).toList=aat 1024 (aaU none 0 0) :=aa4 _ _;exact age
    have HCs:=ah hcs;have HB2:Hid (aah W1.heap.size W1 w2) :=(aav _ _).grown hgrow2 (aas _) (fun k h=>by cases h);clear hcs hown2 hgrow2;obtain⟨gb,hgb⟩ : ∃gb,W1.heap.size=gb:=⟨_,rfl⟩;simp only[hgb];go_wp2_with(at_make;refine aa3 _ rfl _ _ 56 rfl w2.heap.size 3 i0 (.int .i64 0) 1 Tryd.underlying56 hi hz0 hz1 _ _ _ _ ak.length rfl rfl (by omega) (by omega) ?b6 ?b7 (aas _) ?_);case b6=>rw[hz2];omega
    case b7=>unfold maxLen;omega
    intro w3 hown3 hgrow3;have AP:w3.ownsRow w2.heap.size 3 1 (.slice (some ⟨w2.heap.size,0,none⟩) ak.length ak.length) ak.length (zI (aH (eH (aM ak aB) S ak.length (bg aX) 0))) :=by have e0:(aa5 #[aaK .i64 0] ak.length).toList=aat ak.length (aaK .i64 0) :=aa4 _ _;rw[e0]at hown3;rw[QZ,←Eg];exact hown3
    have hb3:aah w2.heap.size w2 w3:=(aav _ _).grown hgrow3 (aas _) (fun k h=>by cases h);have Zu:Hid (qy w w3 rb gb gk cc w2.heap.size ak.length vl (.slice (some ⟨gf,of,none⟩) ak.length cf) (.slice (some ⟨gN,oN,none⟩) aB.length cn) aX (eH (aM ak aB) S ak.length (bg aX) 0) [] (.slice (some ⟨wr.heap.size,0,none⟩) 0 0) [] (VI (.slice (some ⟨gk,0,none⟩) ak.length cc) (.slice (some ⟨w2.heap.size,0,none⟩) ak.length ak.length) aX (eH (aM ak aB) S ak.length (bg aX) 0))) :=by
     have hb1:=HB1.out;have hb2:=HB2.out;have hs1:=hb1.size;have hs2:=hb2.size;have Eo:aah wr.heap.size wr w2:=hb1.trans (hb2.mono hs1);have yz:aah wr.heap.size wr w3:=Eo.trans (hb3.mono Eo.size);obtain⟨bs,q1,q2,q3⟩ :=HCs.out;have hkl:=nQ.out;refine⟨fP.out.trans (yz.mono x9),aC ah3.out yz,?_,rfl,rfl,jM (own_below UD.out (hb2.trans (hb3.mono hs2))) x9,fun j u s h1 _=>by simp at h1,⟨bs,?_,q2,fun h hh=>⟨_,q3 h hh,?_⟩⟩,?_,?_⟩;·exact Xx (by rw[hkl];exact own_below HO.out Eo) hb3 (by rw[iD];exact AP) (by omega)
     ·rw[←hgb,hb3.block _ (by have:=(Array.getElem?_eq_some_iff.1 q1).1;exact this)];exact q1
     ·simp[VI,rq,aH];omega
     ·have:=Hz1.out;simp[Value.ownBlock];omega
     ·omega
    obtain⟨gn,hgn⟩ : ∃gn,w2.heap.size=gn:=⟨_,rfl⟩;rw[hgn]at Zu;simp only[hgn];clear AP hb3 hown3 hgrow3 HCs HB2 HB1 UD HO fP ah3 hgn hgb Hz1 x9;obtain⟨vs0,Qt⟩ : ∃vs0,aaU (some ⟨wr.heap.size,0,none⟩) 0 0=vs0:=⟨_,rfl⟩;rw[Qt]at Zu;try rw[Qt]
    have HV0:Hid (∃g c,vs0= .slice (some ⟨g,0,none⟩) 0 c) :=⟨_,_,Qt.symm⟩;clear Qt;have asF:Hid (w.heap.size≤w.heap.size) :=aas _;go_wp2;go_loopw [6,9](fun vs iv wx=>∃(i:Nat)(us:List aaa)(R:aU),i≤ak.length∧iv= .int .i64 (i:Int)∧(∃g c,vs= .slice (some ⟨g,0,none⟩) (bO (aM ak aB) S (bg aX) i).length c)∧qy w wx rb gb gk cc gn ak.length vl (.slice (some ⟨gf,of,none⟩) ak.length cf) (.slice (some ⟨gN,oN,none⟩) aB.length cn) aX (eH (aM ak aB) S ak.length (bg aX) i) (bO (aM ak aB) S (bg aX) i) vs us R)(fun _ iv _=>ak.length-(aar iv).toNat);case atStart=>exact⟨0,[],_,aaY _,rfl,HV0.out,Zu.out⟩
    case round=>
     clear Zu HV0;obtain⟨i,us,R,hin,rfl,⟨gs,cs,rfl⟩,hcl⟩ :=hrel;have HC:=ah hcl;clear hcl;by_cases hlt:i<ak.length
     ·have hltz:(i:Int)<(ak.length:Int) :=by omega
      have ary:(i:Int)<(aB.length:Int) :=by have:=HLen.out;omega
      have hcell: ∀(W:aal),aah w.heap.size w W→∀q,q<ak.length→(∀(v:aaa)(R':aU),aY W w.heap.size R'→R' 0=some (.slice (some ⟨gk,0,none⟩) ak.length cc,aH aX)→W.cell? ⟨gk,q,none⟩=some (.int .i64 ((bg aX q:Nat) :Int))) :=by intro W _ q hq v R' hR' h0;have hk:=nQ.out;have ho:=hR'.own 0 _ _ h0;rw[aK,hk]at ho;rw[ho.cellAt q (by omega)];simp[zI,aH,bg,hk,hq]
      have qK:=ah hcell;clear hcell;have c0:=qK.out wr HC.out.below i hlt (.bool true) R HC.out.rows HC.out.cls;have hki:=HKb.out i hlt;obtain⟨u0,hu0,hI0⟩ :=HN.out i (by have:=HLen.out;omega);obtain⟨hr1,hr2⟩ :=ZU.out i hlt;obtain⟨aq,cq,rfl,hqq⟩ :=hI0;rw[aK,hr1]at hu0 hqq;obtain⟨gq,oq,rfl,hgq,hcq⟩ :=hqq.resolve_left (fun h=>by have:=congrArg abp h;rw[aK,hr1]at this;simp at this;omega);have FD:Hid (∀W,aah w.heap.size w W→W.cell? ⟨gN,oN+i,none⟩=some (.slice (some ⟨gq,oq,none⟩) S cq)∧∀k,k<S→W.cell? ⟨gq,oq+k,none⟩=some (.int .i64 (((aM ak aB).nx i k:Nat) :Int))) :=by show∀_,_;intro W hW;refine⟨(hW.cell (p:=⟨gN,oN+i,none⟩) hgN).trans hu0,fun k hk=>(hW.cell (p:=⟨gq,oq+k,none⟩) hgq).trans ?_⟩;rw[hcq k hk,iO _ _ (by omega)];rfl
      have an5:Hid (∀k,k<S→(aM ak aB).nx i k<ak.length) :=fun k hk=>hr2 k hk;clear hu0 hqq hcq hr1 hr2;obtain⟨K,hK⟩ : ∃K,bg aX i=K:=⟨_,rfl⟩;rw[hK]at c0 hki;have JY:=ah hK;clear hK;go_upto_region 15 with fail;have yN:Hid (qy w (wr.alloc (.cells #[.int .i64 (K:Int)] 3)) rb gb gk cc gn ak.length vl (.slice (some ⟨gf,of,none⟩) ak.length cf) (.slice (some ⟨gN,oN,none⟩) aB.length cn) aX (eH (aM ak aB) S ak.length (bg aX) i) (bO (aM ak aB) S (bg aX) i) (.slice (some ⟨gs,0,none⟩) (bO (aM ak aB) S (bg aX) i).length cs) us (upd R 2 (some (.slice (some ⟨wr.heap.size,0,none⟩) 1 1,aH (nX (aM ak aB) (bg aX) i 0))))) :=by
       have hba:aah wr.heap.size wr (wr.alloc (.cells #[.int .i64 (K:Int)] 3)) :=(aav _ _).alloc (aas _) _;refine HC.out.Y8 (HC.out.below.trans (hba.mono HC.out.below.size)) (fun b hb _=>hba.block b hb) (HC.out.rows.new hba HC.out.below.size ?_) (fun a ha=>aD _ _ ha);have:=World.ownsRow_lit (base:=wr.heap.size) (e:=3) (size:=1) wr #[.int .i64 (K:Int)] 1 (aas _) (by unfold maxLen;omega) (by simp);have e:zI (aH (nX (aM ak aB) (bg aX) i 0))= [.int .i64 (K:Int)] :=by simp[nX,zI,aH,JY.out]
       rw[e];simpa[nX,aH]using this
      have ad8:=ah yN.out.below;clear c0;generalize wr.alloc (.cells #[.int .i64 (K:Int)] 3)=W2 at*;have c0:=qK.out W2 ad8.out i hlt (.bool true) _ yN.out.rows yN.out.cls;rw[JY.out]at c0;obtain⟨sv0,VZ⟩ : ∃sv0,aaU (some ⟨wr.heap.size,0,none⟩) 1 1=sv0:=⟨_,rfl⟩;rw[VZ]at yN;try rw[VZ]
      clear VZ HC;generalize wr=Wz at*;go_wp2;go_loopw [10,11,12](fun sv hv kv wx=>∃(k:Nat)(R:aU),k≤S∧kv= .int .i64 (k:Int)∧hv= .int .i64 ((l7 (aM ak aB) (bg aX) i k:Nat) :Int)∧R 2=some (sv,aH (nX (aM ak aB) (bg aX) i k))∧qy w wx rb gb gk cc gn ak.length vl (.slice (some ⟨gf,of,none⟩) ak.length cf) (.slice (some ⟨gN,oN,none⟩) aB.length cn) aX (eH (aM ak aB) S ak.length (bg aX) i) (bO (aM ak aB) S (bg aX) i) (.slice (some ⟨gs,0,none⟩) (bO (aM ak aB) S (bg aX) i).length cs) us R)(fun _ _ kv _=>S-(aar kv).toNat);case atStart=>exact⟨0,_,aaY _,rfl,by simp[l7,JY.out],upd_same _ _ _,yN.out⟩
      case round=>
       clear yN ad8 c0;obtain⟨k,R1,hkS,rfl,rfl,hR2,hcl⟩ :=hrel;have HC:=ah hcl;have HR2:=ah hR2;clear hcl hR2;have r2:wr.cell? ⟨rb,2,none⟩=some (.slice (some ⟨gN,oN,none⟩) aB.length cn) :=aj HC.out.box 2;obtain⟨g1,g2⟩ :=FD.out wr HC.out.below;by_cases hlk:k<S
       ·have anp:(k:Int)<(S:Int) :=by omega
        have g3:=g2 k hlk;have hxb:=an5.out k hlk;have c1:=qK.out wr HC.out.below _ hxb (.bool true) _ HC.out.rows HC.out.cls;have hCb:=HKb.out _ hxb;have A9:=ah (Q4 (aM ak aB) (bg aX) i k);have BJ:=ah (UK (aM ak aB) (bg aX) i k);have TN:=ah (Dp (aM ak aB) (bg aX) i k);have hHb:=Jg (aM ak aB) (bg aX) i k ak.length (by rw[JY.out];exact hki);clear g2;obtain⟨X,hX⟩ : ∃X,(aM ak aB).nx i k=X:=⟨_,rfl⟩;rw[hX]at g3 hxb c1 hCb A9 TN;have HX:=ah hX;clear hX;obtain⟨C,hC⟩ : ∃C,bg aX X=C:=⟨_,rfl⟩;rw[hC]at c1 hCb A9 TN;have KM:=ah hC;clear hC;obtain⟨H,hH⟩ : ∃H,l7 (aM ak aB) (bg aX) i k=H:=⟨_,rfl⟩;rw[hH]at TN hHb;simp only[hH];clear hH;obtain⟨sg,hsg⟩ : ∃sg,nX (aM ak aB) (bg aX) i k=sg:=⟨_,rfl⟩;rw[hsg]at A9 BJ HR2;clear hsg;have hxz:(X:Int)<(ak.length:Int) :=by omega
        have RA:=ah (HC.out.rows.own 2 _ _ HR2.out);have jF:=ah HC.out.below.size;have hsl:=BJ.out;go_upto_region 20 with(at_builtin;refine dm rfl _ _ 56 3 rfl i0 (.int .i64 0) 8 Tryd.underlying56 hi hz0 hz1 hz2 rfl w.heap.size _ _ _ rfl RA.out _ rfl rfl ?p1 (by decide) jF.out ?_);case p1=>rw[aK,hsl];omega
        intro sv' w' hown' gU hat hne;have NS:Hid (qy w w' rb gb gk cc gn ak.length vl (.slice (some ⟨gf,of,none⟩) ak.length cf) (.slice (some ⟨gN,oN,none⟩) aB.length cn) aX (eH (aM ak aB) S ak.length (bg aX) i) (bO (aM ak aB) S (bg aX) i) (.slice (some ⟨gs,0,none⟩) (bO (aM ak aB) S (bg aX) i).length cs) us (upd R1 2 (some (sv',aH (nX (aM ak aB) (bg aX) i (k+1)))))) :=by
         refine HC.out.Y8 (HC.out.below.trans (gU.below HC.out.below.size (fun j hj e=>by have:=(aA RA.out e).1;omega))) (fun b hb hnb=>gU.block b hb (fun e=> ?_)) (HC.out.rows.uS HR2.out gU ?_ hat) (fun a ha=>aD _ _ ha);·obtain⟨_,cur,h2⟩ :=aA RA.out e;exact hnb cur h2
         ·rw[A9.out,iL,nD,aa8];exact hown'
        clear hown' gU hat hne RA HR2 HC r2 g1 g3 c1 jF hsl;have r2:w'.cell? ⟨rb,2,none⟩=some (.slice (some ⟨gN,oN,none⟩) aB.length cn) :=aj NS.out.box 2;obtain⟨g1,g2⟩ :=FD.out w' NS.out.below;have g3:=g2 k hlk;rw[HX.out]at g3;clear g2;have c1:=qK.out w' NS.out.below X hxb (.bool true) _ NS.out.rows NS.out.cls;rw[KM.out]at c1;obtain⟨H',hH'⟩ : ∃H',(H*31+C) %1000003=H':=⟨_,rfl⟩;have hmod:((H:Int)*31+(C:Int)) %1000003=(H':Int) :=by omega
        have UN:Hid (l7 (aM ak aB) (bg aX) i (k+1)=H') :=TN.out.trans hH';have ase:H'<1000003:=by omega
        clear hH' TN;go_wp2;go_roundw;case rel=>exact⟨k+1,_,by omega,by go_num,by rw[UN.out,hmod],upd_same _ _ _,NS.out⟩
        case measure=>simp[aar];omega
       ·have anp: ¬(k:Int)<(S:Int) :=by omega
        obtain rfl:k=S:=by omega
        have hHb:=Jg (aM ak aB) (bg aX) i k ak.length (by rw[JY.out];exact hki);have ZP:=ah (PG (aM ak aB) k (bg aX) i);have HSe:Hid (nX (aM ak aB) (bg aX) i k=iT (aM ak aB) k (bg aX) i) :=rfl;obtain⟨sg,hsg⟩ : ∃sg,iT (aM ak aB) k (bg aX) i=sg:=⟨_,rfl⟩;rw[hsg]at HSe ZP;rw[HSe.out]at HR2;have Ka:=ah hsg;clear hsg g2;obtain⟨H,hH⟩ : ∃H,l7 (aM ak aB) (bg aX) i k=H:=⟨_,rfl⟩;rw[hH]at ZP hHb;simp only[hH];clear hH;obtain⟨h,hh⟩ : ∃h,H %1024=h:=⟨_,rfl⟩;have hmod:(H:Int) %1024=(h:Int) :=by omega
        have Tm:h<1024:=by omega
        have RJ:Hid (nP sg=h) :=ZP.out.symm.trans hh;clear hh ZP;obtain⟨bs,b1,b2,b3⟩ :=HC.out.bk;obtain⟨ub,hub,hRb⟩ :=b3 h Tm;have k1:wr.cell? ⟨gb,h,none⟩=some ub:=(aj b1 h).trans hub;have SS:=HC.out.rows.hold hRb;obtain⟨ab,cb,rfl,KG⟩ :=SS;rw[aK]at k1;have uM:=ah b1;have HB2:=ah b2;have HB3:=ah b3;have za:=ah hRb;have HUb:=ah hub;have hbl:=acf (bO (aM ak aB) k (bg aX) i) h;have hsl:=BZ (aM ak aB) k (bg aX) i;clear b1 b2 b3 hRb hub;obtain⟨L,hL⟩ : ∃L,bO (aM ak aB) k (bg aX) i=L:=⟨_,rfl⟩;rw[hL]at HC k1 HB3 za hbl hsl KG HUb;simp only[hL];have rH:Hid (L.Nodup) :=by show L.Nodup;rw[←hL];exact BG _ _ _ _
        have SH:=ah hL;clear hL;obtain⟨B,hB⟩ : ∃B,rq L h=B:=⟨_,rfl⟩;rw[hB]at k1 za hbl KG;have DF:Hid (∀j,j∈B↔j<L.length∧nP (L.getD j [])=h) :=by show∀j,_;intro j;rw[←hB];exact acj
        have WJ:=ah hB;clear hB;have DR:us.length=L.length:=by have:=HC.out.outer.1;omega
        have Hul:=ah DR;have Q5:Hid (sg.length=k+1) :=by show _=_;rw[←Ka.out];simp[iT]
        have wV:Hid (∀(j:Nat)(t:List Nat),L[j]?=some t→t.length=k+1) :=by show∀_,_;intro j t ht;obtain⟨q,_,hq⟩ :=oF.1 (show t∈bO (aM ak aB) k (bg aX) i by rw[SH.out];exact abl ht);rw[←hq];simp[iT]
        rcases bH (HC.out.rows.own 2 _ _ HR2.out)with⟨_,h0⟩| ⟨gg,cg,rfl,asi,arQ⟩;·rw[aK,Q5.out]at h0;omega
        rw[aK,Q5.out]at HR2;have HIs:=ah (HC.out.rows.hold HR2.out);clear DR;generalize wr=W5 at*;have aip:=Q5.out;simp only[aK,aip];clear aip;go_wp2;clear r2 g1;go_loopw [13,14](fun av kv wx=>∃k' q:Nat,k'≤B.length∧kv= .int .i64 (k':Int)∧wx=W5.drewN q∧((av= .int .i64 (-1)∧∀j,j<k'→L.getD (B.getD j 0) []≠sg)∨∃j:Nat,av= .int .i64 (j:Int)∧L[j]?=some sg))(fun _ kv _=>B.length-(aar kv).toNat);case atStart=>exact⟨0,0,aaY _,rfl,rfl,aaE ⟨rfl,fun j hj=>by omega⟩⟩
        case round=>
         obtain⟨k',q,hk',rfl,hwq,hor⟩ :=hrel;have vK:=ah hwq;have l6:Hid (aah W5.heap.size W5 wr) :=by show aah _ _ _;rw[hwq];exact below_drewN (aav _ _) q
         clear hwq;have k2:=(l6.out.cell (p:=⟨gb,h,none⟩) (cell_lt k1)).trans k1;rcases hor with⟨rfl,hno⟩| ⟨j,rfl,hj⟩
         ·have Dw:=ah hno;clear hno;by_cases hkl:k'<B.length
          ·have uF:(k':Int)<(B.length:Int) :=by omega
           have CQ:decide ((k':Int)<(B.length:Int))=true:=by simpa using hkl
           obtain⟨gB,oB,rfl,hgB,hcB⟩ :=KG.resolve_left (fun e=>by have:=congrArg abp e;rw[aK,List.length_nil]at this;omega);have d0:wr.cell? ⟨gB,oB+k',none⟩=some (.int .i64 ((B.getD k' 0:Nat) :Int)) :=by rw[l6.out.cell (p:=⟨gB,oB+k',none⟩) hgB,hcB k' (by rw[aK];exact hkl),iO _ _ hkl]
           have hjm:=(DF.out (B.getD k' 0)).1 (by rw[aaQ,abd hkl,Option.getD_some];exact List.getElem_mem hkl);obtain⟨j,hj⟩ : ∃j,B.getD k' 0=j:=⟨_,rfl⟩;rw[hj]at d0 hjm;have hjl:=hjm.1;have KF:(j:Int)<(L.length:Int) :=by omega
           obtain⟨t,ht⟩ : ∃t,L[j]?=some t:=⟨L[j],abd hjl⟩;obtain⟨us',YF⟩ : ∃u,us[j]?=some u:=⟨us[j]'(by have:=Hul.out;omega),abd _⟩;have hRj:=HC.out.sig j us' t YF ht;have d1:wr.cell? ⟨gs,j,none⟩=some us':=by rw[l6.out.cell (p:=⟨gs,j,none⟩) ((aA HC.out.outer (b:=gs) rfl).2.elim fun _ hh=>(Array.getElem?_eq_some_iff.1 hh).1),HC.out.outer.cellAt j (by omega)];exact YF
           have CW:=ah (Lh (aH t) (aH sg) us' (.slice (some ⟨gg,0,none⟩) (k+1) cg) wr (by rw[aK,wV.out j t ht];omega) (by rw[aK,Q5.out];omega) ((HC.out.rows.hold hRj).below l6.out) (HIs.out.below l6.out));obtain⟨UY,cp',rfl,-⟩ :=HC.out.rows.hold hRj;have Hj:=ah hj;have Ht:=ah ht;clear hj ht YF hRj hjm hcB;rw[aK,wV.out j t Ht.out]at d1 CW;go_wp2_with fail;refine CW.out.mono ?_;rintro e w'⟨rfl,q',hw'⟩;have HW':=ah hw';clear hw';have amR:Hid (aah W5.heap.size W5 w') :=by show aah _ _ _;rw[HW'.out];exact below_drewN l6.out q'
           have HW2:Hid (w'=W5.drewN (q+q')) :=by show _=_;rw[HW'.out,vK.out,World.drewN_drewN]
           have k3:=(amR.out.cell (p:=⟨gb,h,none⟩) (cell_lt k1)).trans k1;have d2:w'.cell? ⟨gB,oB+k',none⟩=some (.int .i64 (j:Int)) :=by rw[HW'.out];simpa using d0
           clear k2 d0 d1 CW;by_cases hts:t=sg
           ·have hd:decide (aH t=aH sg)=true:=by rw[hts];simp
            have A7:Hid (L[j]?=some sg) :=by show _=_;rw[←hts];exact Ht.out
            rw[hd];clear hd hts;go_wp2;go_roundw;case rel=>exact⟨k'+1,q+q',by omega,by go_num,HW2.out,aaV ⟨j,rfl,A7.out⟩⟩
            case measure=>simp[aar];omega
           ·have hd:decide (aH t=aH sg)=false:=by rw[decide_eq_false_iff_not];exact fun e=>hts (Mr e)
            have A7:Hid (∀j',j'<k'+1→L.getD (B.getD j' 0) []≠sg) :=by
             show∀j',j'<k'+1→_;intro j' hj';by_cases e:j'=k';·rw[e,Hj.out,aaQ,Ht.out];exact hts
             ·exact Dw.out j' (by omega)
            rw[hd];clear hd hts;go_wp2;go_roundw;case rel=>exact⟨k'+1,q+q',by omega,by go_num,HW2.out,aaE ⟨rfl,A7.out⟩⟩
            case measure=>simp[aar];omega
          ·have uF: ¬(k':Int)<(B.length:Int) :=by omega
           have CQ:decide ((k':Int)<(B.length:Int))=false:=by simpa using hkl
           obtain rfl:k'=B.length:=by omega
           have GY:Hid (sg∉L) :=by
            show _∉_;intro hm;obtain⟨j,hj⟩ :=List.mem_iff_getElem?.1 hm;have hjl:=(List.getElem?_eq_some_iff.1 hj).1;have hjd:L.getD j []=sg:=by rw[aaQ,hj];rfl
            obtain⟨x,hx⟩ :=List.mem_iff_getElem?.1 ((DF.out j).2 ⟨hjl,by rw[hjd];exact RJ.out⟩);have hxl:=(List.getElem?_eq_some_iff.1 hx).1;refine Dw.out x hxl ?_;rw[show B.getD x 0=j by rw[aaQ,hx];rfl];exact hjd
           have rT:Hid (bO (aM ak aB) k (bg aX) (i+1)=L++ [sg]) :=by show _=_;rw[sQ,SH.out,Ka.out];unfold meet;rw[if_neg GY.out]
           have rO:=ah (HC.out.keep l6.out);have NG:Hid (eH (aM ak aB) k ak.length (bg aX) (i+1)=(eH (aM ak aB) k ak.length (bg aX) i).set i L.length) :=by show _=_;rw[Fu _ _ _ hlt,rT.out,Ka.out,jr GY.out]
           have HO5:=ah rO.out.outer;have l8:=rO.out.below.size;have k4:=k2;clear k1 k2 HC l6;go_upto_region 31 with(at_builtin;refine dm rfl _ _ 58 56 rfl i1 (.slice none 0 0) 24 Tryd.underlying58 hi1 hy0 hy1 hy2 rfl w.heap.size _ _ _ rfl HO5.out _ rfl rfl ?p3 (by decide) l8 ?_);case p3=>omega
           intro vs' w6 hown6 iH mY agn;obtain⟨R6,p1,p2,p3,p4,p5,p6,p7⟩ :=rO.out.pushed HR2.out iH hown6 mY;rcases bH hown6 with⟨e,_⟩| ⟨g6,c6,rfl,arV,asv⟩;·exact absurd e agn
           have bY:=ah p1;have cZ:=ah p2;have nL:=ah p3;have Iz:=ah p4;have Je:=ah p5;have Mf:=ah p7;have Ox:=ah hown6;have Iy:Hid (w6.heap[gb]?=some (.cells bs 56)) :=by show _=_;rw[p6];obtain⟨bs',q1,q2,q3⟩ :=rO.out.bk;rw[q1];have:=q1.symm.trans (by rw[vK.out];exact uM.out:wr.heap[gb]?=some (.cells bs 56));exact this▸rfl
           have rP:Hid (R6 (4+2*h)=some (.slice ab B.length cb,aH B)) :=by show _=_;have:=za.out;rw[aK]at this;rw[p1 _ (by omega) (by omega)];exact this
           clear hown6 iH mY agn p1 p2 p3 p4 p5 p6 p7 k4 HO5;have k5:w6.cell? ⟨gb,h,none⟩=some (.slice ab B.length cb) :=by have:=(aj Iy.out h).trans HUb.out;rw[aK,WJ.out]at this;exact this
           have Pf:Hid (w6.ownsRow w.heap.size 3 1 (.slice ab B.length cb) B.length (zI (aH B))) :=by have:=Iz.out.own _ _ _ rP.out;rw[aK]at this;exact this
           have cO:=cZ.out.size;have hBl:(B.length+1)*8≤140737488355328:=by omega
           go_wp2_with(at_builtin;refine dm rfl _ _ 56 3 rfl i0 (.int .i64 0) 8 Tryd.underlying56 hi hz0 hz1 hz2 rfl w.heap.size _ _ _ rfl Pf.out _ rfl rfl hBl (by decide) cO ?_);intro u' w7 Pj PE Kb agd;rcases bH Pj with⟨e,_⟩| ⟨g7,c7,rfl,ast,arp⟩;·exact absurd e agd
           have X5:w7.heap[gb]?=some (.cells bs 56) :=by rw[PE.block gb (Array.getElem?_eq_some_iff.1 Iy.out).1 (fun e=>by obtain⟨_,cur,h2⟩ :=aA Pf.out e;rw[Iy.out]at h2;simp only[aau,aax]at h2;exact absurd h2.2.1 (by decide))];exact Iy.out
           have Pe:Hid (∃R',qy w (w7.setCell ⟨gb,h,none⟩ (.slice (some ⟨g7,0,none⟩) (B.length+1) c7)) rb gb gk cc gn ak.length vl (.slice (some ⟨gf,of,none⟩) ak.length cf) (.slice (some ⟨gN,oN,none⟩) aB.length cn) aX (eH (aM ak aB) k ak.length (bg aX) i) (L++ [sg]) (.slice (some ⟨g6,0,none⟩) (L.length+1) c6) (us++ [.slice (some ⟨gg,0,none⟩) (k+1) cg]) R') :=rO.out.EU bY.out cZ.out nL.out Iz.out Je.out Mf.out Ox.out Iy.out HB2.out HB3.out Tm RJ.out (by rw[WJ.out];exact rP.out) PE (by rw[WJ.out];exact Pj) Kb;have k7:=(aj X5 h).trans HUb.out;have f7:=bL X5 h;clear Pj PE Kb agd X5 Pf k5;go_upto_region 32 with fail;generalize hW8:w7.setCell ⟨gb,h,none⟩ _=W8 at*;clear hW8 k7 f7 bY cZ nL Iz Je Iy Mf Ox rO;obtain⟨R8,zq⟩ :=Pe.out;obtain⟨_,anB,FO⟩ :=aA (zq.rows.own 1 _ _ zq.nx) (b:=gn) rfl;have LF:=zq.rows.own 1 _ _ zq.nx;rw[aK,iD]at LF;have n8:W8.cell? ⟨gn,i,none⟩=some (.int .i64 ((aH (eH (aM ak aB) k ak.length (bg aX) i)).getD i 0)) :=by rw[LF.cellAt i (by omega)];simp[zI,aH,iD,hlt]
           have f8:=bL FO i;have Sb:=ah (zq.O3 (iD _ _ _ _ _) (x:=L.length) hlt);clear zq Pe FO LF;go_wp2;go_roundw;case rel=>obtain⟨R9,hC9⟩ :=Sb.out;exact⟨i+1,_,R9,by omega,by go_num,⟨g6,c6,by rw[rT.out,aa8];rfl⟩,by rw[NG.out,rT.out];exact hC9⟩
           case measure=>simp[aar];omega
         ·have hjz: ¬(j:Int)<0:=by omega
          have hjb:decide ((j:Int)<0)=false:=by simp
          have hjm:sg∈L:=abl hj;have rT:Hid (bO (aM ak aB) k (bg aX) (i+1)=L) :=by show _=_;rw[sQ,SH.out,Ka.out];unfold meet;rw[if_pos hjm]
          have NG:Hid (eH (aM ak aB) k ak.length (bg aX) (i+1)=(eH (aM ak aB) k ak.length (bg aX) i).set i j) :=by show _=_;rw[Fu _ _ _ hlt,rT.out,Ka.out,uP rH.out hj]
          have hjL:=(List.getElem?_eq_some_iff.1 hj).1;have zq:=HC.out.keep l6.out;obtain⟨_,anB,FO⟩ :=aA (zq.rows.own 1 _ _ zq.nx) (b:=gn) rfl;have LF:=zq.rows.own 1 _ _ zq.nx;rw[aK,iD]at LF;have n8:wr.cell? ⟨gn,i,none⟩=some (.int .i64 ((aH (eH (aM ak aB) k ak.length (bg aX) i)).getD i 0)) :=by rw[LF.cellAt i (by omega)];simp[zI,aH,iD,hlt]
          have f8:=bL FO i;have Sb:=ah (zq.O3 (iD _ _ _ _ _) (x:=j) hlt);clear zq FO LF hj hjm HC;by_cases hkl:k'<B.length
          ·have uF:(k':Int)<(B.length:Int) :=by omega
           have CQ:decide ((k':Int)<(B.length:Int))=true:=by simpa using hkl
           exact acS
          ·have uF: ¬(k':Int)<(B.length:Int) :=by omega
           have CQ:decide ((k':Int)<(B.length:Int))=false:=by simpa using hkl
           exact acS
     ·have hltz: ¬(i:Int)<(ak.length:Int) :=by omega
      obtain rfl:i=ak.length:=by omega
      have ajp:=ah (QC (aM ak aB) S ak.length (bg aX));have hle:=BZ (aM ak aB) S (bg aX) ak.length;have qB:Hid (∀q,q<ak.length→bg (eH (aM ak aB) S ak.length (bg aX) ak.length) q=roundOf (aM ak aB) S ak.length (bg aX) q) :=fun q hq=>TZ _ _ _ _ hq;have hown:=HC.out.rows.own 1 _ _ HC.out.nx;rw[aK,iD]at hown;have aev:=ah hown;have Im:=ah HC.out.below;have an2:=ah HC.out.box;clear hown HC;have Jl:Hid (kY (aM ak aB) S ak.length (bg (eH (aM ak aB) S ak.length (bg aX) ak.length))) :=by show kY _ _ _ _;intro q r hq hr e;rw[qB.out q hq,qB.out r hr];exact Lt oI.out HCo.out q r hq hr e
      have HPf:Hid (xC (aM ak aB) ak.length (bg (eH (aM ak aB) S ak.length (bg aX) ak.length))) :=by show xC _ _ _;intro q r hq hr e;rw[qB.out q hq,qB.out r hr]at e;exact IA uL.out q r hq hr e
      have LC:Hid (Onto ak.length (bg (eH (aM ak aB) S ak.length (bg aX) ak.length)) (bO (aM ak aB) S (bg aX) ak.length).length) :=by refine⟨fun q hq=>by rw[qB.out q hq];exact ajp.out.1 q hq,fun y hy=> ?_⟩;obtain⟨q,hq,he⟩ :=ajp.out.2 y hy;exact⟨q,hq,by rw[qB.out q hq];exact he⟩
      have hpos':0<(bO (aM ak aB) S (bg aX) ak.length).length:=List.length_pos_of_mem (oF.2 ⟨0,hpos,rfl⟩);by_cases hce:(bO (aM ak aB) S (bg aX) ak.length).length=c
      ·have hcb:(((bO (aM ak aB) S (bg aX) ak.length).length:Int)==(c:Int))=true:=by simp[hce]
       have nO:Hid (Parts (aM ak aB) S ak.length (bg (eH (aM ak aB) S ak.length (bg aX) ak.length))) :=by have hon:Onto ak.length (bg aX) c:=kS.out.resolve_left (by omega);have hst:=MC oI.out hon uL.out hce;refine Stable.parts oI.out ?_ Jl.out;intro q r hq hr e;rw[qB.out q hq,qB.out r hr]at e;obtain⟨h1,h2⟩ :=hst q r hq hr e;exact⟨h1,fun a ha=>by rw[qB.out _ (oI.out q a hq ha),qB.out _ (oI.out r a hr ha)];exact h2 a ha⟩
       clear hce;generalize(bO (aM ak aB) S (bg aX) ak.length).length=c' at*;go_wp2;go_ret;exact⟨_,_,c',rfl,aev.out,iD _ _ _ _ _,nO.out,LC.out,Im.out⟩
      ·have hcb:(((bO (aM ak aB) S (bg aX) ak.length).length:Int)==(c:Int))=false:=by simp;omega
       have hmore:c<(bO (aM ak aB) S (bg aX) ak.length).length:=by
        rcases kS.out with h1|h1;·omega
        ·have:=Ru (A:=aM ak aB) (S:=S) h1;omega
       clear hce;generalize(bO (aM ak aB) S (bg aX) ak.length).length=c' at*;go_wp2;go_roundw;case rel=>exact⟨_,c',gn,ak.length,rfl,by go_num,by omega,iD _ _ _ _ _,fun q hq=>by have:=LC.out.1 q hq;omega,Jl.out,HPf.out,aaV LC.out,aev.out,Im.out,an2.out⟩
       case measure=>simp[aar];omega
def RG(w:aal)(ls:List Int)(ak:List Bool)(aB:List (List Nat))(e:Ending)(w':aal) :Prop:=∃v l,e= .returned (.agg #[v])∧bq w' w.heap.size v l∧bS.dx ls.length ls ((aM ak aB).aW (ls.length+1) 0) (l.map Prod.snd)∧l.length≤4294967296∧aah w.heap.size w w'
def ng(κ:Nat→Nat)(n c:Nat)(i:Nat) :List Nat:=(aap c).map fun y=>((aap n).filter fun q=>decide (i≤q∧κ q=y)).headD 0
theorem wh(κ:Nat→Nat)(n c i:Nat) :(ng κ n c i).length=c:=by simp[ng]
theorem Tz(κ:Nat→Nat)(n c:Nat) :ng κ n c n=aat c 0:=by
 rw[aaF];refine⟨wh κ n c n,fun x hx=> ?_⟩;obtain⟨y,_,rfl⟩ :=List.mem_map.1 hx;have:(aap n).filter (fun q=>decide (n≤q∧κ q=y))= [] :=by rw[abu];intro q hq;have:=List.mem_range.1 hq;simp;omega
 rw[this];rfl
theorem Np {n i:Nat}(hi:i<n)(p:Nat→Bool)(h0: ∀q,q<i→p q=false)(h1:p i=true) :((aap n).filter p).headD 0=i:=by
 obtain⟨d,rfl⟩ : ∃d,n=i+(d+1) :=⟨n-i-1,by omega⟩;have e:(aap i).filter p= [] :=by rw[abu];intro q hq;rw[h0 q (List.mem_range.1 hq)];simp
 rw[List.range_add,List.filter_append,e,List.nil_append,List.range_succ_eq_map];simp[h1]
theorem Un {κ:Nat→Nat} {n c i:Nat}(hi:i<n)(hc:κ i<c) :ng κ n c i=(ng κ n c (i+1)).set (κ i) i:=by
 refine aaR fun y=> ?_;rw[aaL,wh];by_cases hy:y<c
 ·by_cases e:κ i=y;·rw[if_pos e,if_pos hc];have:=Np hi (fun q=>decide (i≤q∧κ q=y)) (fun q hq=>by simp;omega) (by simp[e]);simp only[ng,aa',aa9 hy,aa7];rw[this]
  ·rw[if_neg e];simp only[ng,aa',aa9 hy,aa7];congr 2;refine List.filter_congr fun q _=> ?_;rw[Bool.eq_iff_iff];simp only[decide_eq_true_iff];constructor
   ·rintro⟨h1,h2⟩;refine⟨?_,h2⟩;by_cases h3:q=i;·subst h3;exact absurd h2 e
    ·omega
   ·rintro⟨h1,h2⟩;exact⟨by omega,h2⟩
 ·rw[if_neg (by omega)];simp[ng,hy]
theorem abL {κ:Nat→Nat} {n c:Nat}(ho:Onto n κ c) {y:Nat}(hy:y<c) :bg (ng κ n c 0) y<n∧κ (bg (ng κ n c 0) y)=y:=by
 obtain⟨q,hq,he⟩ :=ho.2 y hy;have hm:q∈(aap n).filter (fun q=>decide (0≤q∧κ q=y)) :=List.mem_filter.2 ⟨List.mem_range.2 hq,by simpa using he⟩;have hx:bg (ng κ n c 0) y=((aap n).filter fun q=>decide (0≤q∧κ q=y)).headD 0:=by simp[bg,ng,hy]
 rw[hx];cases hl:(aap n).filter (fun q=>decide (0≤q∧κ q=y))with
 |nil=>rw[hl]at hm;simp at hm
 |cons a t=>
  have:a∈(aap n).filter (fun q=>decide (0≤q∧κ q=y)) :=by rw[hl];simp
  obtain⟨h1,h2⟩ :=List.mem_filter.1 this;simp only[List.headD_cons];exact⟨List.mem_range.1 h1,by simpa using h2⟩
def kF(c:Nat)(o:List Nat) :List Int:=(aap c).map fun y=>if y∈o then(ix o y:Int)else-1
theorem si(c:Nat)(o:List Nat) :(kF c o).length=c:=by simp[kF]
theorem Oq {c:Nat}(o:List Nat) {y:Nat}(hy:y<c) :(kF c o).getD y 0=if y∈o then(ix o y:Int)else-1:=by simp[kF,hy]
theorem Ji {c:Nat} {o:List Nat} {y:Nat}(hy:y<c)(hn:y∉o) :kF c (o++ [y])=(kF c o).set y (o.length:Int) :=by
 refine aaR fun q=> ?_;rw[aaL,si];by_cases hq:q<c
 ·by_cases e:y=q;·subst e;rw[if_pos rfl,if_pos hy];simp[kF,hy,jr hn]
  ·rw[if_neg e];simp only[kF,aa',aa9 hq,aa7];by_cases hm:q∈o;·rw[if_pos hm,if_pos (List.mem_append_left _ hm),vL hm]
   ·rw[if_neg hm,if_neg (by simp[hm];exact fun e'=>e e'.symm)]
 ·rw[if_neg (by omega)];simp[kF,hq]
theorem Yo(c:Nat) :kF c []=aat c (-1) :=by rw[aaF];refine⟨si c [],fun x hx=> ?_⟩;obtain⟨y,_,rfl⟩ :=List.mem_map.1 hx;simp
def nK(c i:Nat) :List Int:=(aap c).map fun y=>if y<i then-1 else 0
theorem ry(c i:Nat) :(nK c i).length=c:=by simp[nK]
theorem MX(c:Nat) :nK c 0=aat c 0:=by rw[aaF];refine⟨ry c 0,fun x hx=> ?_⟩;obtain⟨y,_,rfl⟩ :=List.mem_map.1 hx;simp
theorem MQ {c i:Nat}(hi:i<c) :nK c (i+1)=(nK c i).set i (-1) :=by
 refine aaR fun q=> ?_;rw[aaL,ry];by_cases hq:q<c
 ·by_cases e:i=q;·subst e;rw[if_pos rfl,if_pos hi];simp[nK,hi]
  ·rw[if_neg e];have:(q<i+1)↔(q<i) :=by omega
   simp[nK,hq,this]
 ·rw[if_neg (by omega)];simp[nK,hq]
theorem P6(c:Nat) :nK c c=kF c [] :=by rw[Yo,aaF];refine⟨ry c c,fun x hx=> ?_⟩;obtain⟨y,hy,rfl⟩ :=List.mem_map.1 hx;have:=List.mem_range.1 hy;simp[this]
end Go.Proofs.YtkbjimkngmlfcaaDoor
