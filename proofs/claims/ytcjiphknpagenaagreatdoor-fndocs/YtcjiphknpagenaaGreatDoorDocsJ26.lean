import Derived.Test.YtcjiphknpagenaaGreatDoorDocsJ25
namespace Go.Proofs.YtcjiphknpagenaaGreatDoor
open Go Go.RowKit
set_option linter.unusedVariables false
set_option linter.unusedSimpArgs false
set_option maxRecDepth 100000
set_option maxHeartbeats 8000000
structure ZB(w:World)(b:Nat)(ao:Option Addr)(n cap:Nat)(A:Int)(bx rs g m c:Nat)(I:Nat→Prop)(l:List Fd)(W:World) :Prop where
 src:Sx b ao n cap W A
 but:But (fun x=>x=b∨x=g) w W
 box:W.heap[bx]?=some (.cells #[.slice (some ⟨g,0,none⟩) m c] 25)
 res:W.heap[rs]?=some (.cells #[.slice none 0 0] 25)
 rT:gX W I g l
 ne:b≠bx∧b≠rs∧g≠bx∧g≠rs∧bx≠rs∧b≠g
 OE: ∀x,I x→b<x∧x<w.heap.size
 lo:w.heap.size≤bx∧w.heap.size≤rs
 cb: ∀j,j<n→∃blk off,ao=some ⟨blk,off,none⟩∧blk<w.heap.size∧blk≠g
def ZE(w:World)(b:Nat)(ao:Option Addr)(n cap:Nat)(A:Int)(bx rs g:Nat)(I:Nat→Prop)(W:World) :Prop:=∃a m c l,W.heap[bx]?=some (.cells #[.slice a m c] 25)∧W.heap[rs]?=some (.cells #[.slice none 0 0] 25)∧l.length=m∧m≤5∧(∀i,kz (l.getD i fd0))∧Sx b ao n cap W A∧But (fun x=>x=b∨x=g) w W∧∀(X:Nat→Prop)W',But X W W'→¬X g→(∀x,X x→¬I x∧(x<w.heap.size∨x=rs))→jK W' a l
def ND(w:World)(b:Nat)(ao:Option Addr)(n cap:Nat)(A:Int)(g:Nat)(I:Nat→Prop)(e:Ending)(w':World) :Prop:=∃a m c l,e= .returned (.agg #[.slice a m c])∧l.length=m∧m≤5∧(∀i,kz (l.getD i fd0))∧Sx b ao n cap w' A∧But (fun x=>x=b∨x=g) w w'∧∀(X:Nat→Prop)W',But X w' W'→¬X g→(∀x,X x→¬I x∧x<w.heap.size)→jK W' a l
section
variable {w W W':World} {b:Nat} {ao:Option Addr} {n cap:Nat} {A A':Int} {bx rs g m c k:Nat} {I:Nat→Prop} {l l':List Fd}
theorem ZB.draw(h:ZB w b ao n cap A bx rs g m c I l W)(hs:Sx b ao n cap W' A')(hb:But (fun x=>x=b) W W') :ZB w b ao n cap A' bx rs g m c I l W':=by obtain⟨n1,n2,n3,n4,n5,n6⟩ :=h.ne;exact⟨hs,h.but.more (hb.mono fun _ _ e=>Or.inl e),hb.blk h.box (fun e=>n1 e.symm),hb.blk h.res (fun e=>n2 e.symm),h.rT.keep hb (fun e=>n6 e.symm) (fun x hx e=>by have:=h.OE x hx;omega),h.ne,h.OE,h.lo,h.cb⟩
theorem ZB.below(h:ZB w b ao n cap A bx rs g m c I l W)(hb:Below W.heap.size W W') :ZB w b ao n cap A bx rs g m c I l W':=h.draw (h.src.below hb) (But.of_below hb)
theorem ZB.ze(h:ZB w b ao n cap A bx rs g m c I l W)(hm:l.length=m)(hA:A≤A') :ZE w b ao n cap A' bx rs g I W:=by obtain⟨n1,n2,n3,n4,n5,n6⟩ :=h.ne;exact⟨_,m,c,l,h.box,h.res,hm,by have:=h.rT.few;omega,h.rT.sz,h.src.mono hA,h.but,fun X W' hb hg hX=>(h.rT.keep hb hg (fun x hx e=>(hX x e).1 hx)).hold⟩
theorem ZB.put(h:ZB w b ao n cap A bx rs g m c I l W)(hb:But (fun x=>x=g) W W')(hl:gX W' I g l') :ZB w b ao n cap A bx rs g m c I l' W':=by obtain⟨n1,n2,n3,n4,n5,n6⟩ :=h.ne;exact⟨h.src.Gw hb n6 (fun j hj=>by obtain⟨blk,off,q1,q2,q3⟩ :=h.cb j hj;exact⟨blk,off,q1,Nat.lt_of_lt_of_le q2 h.but.size,q3⟩),h.but.more (hb.mono fun _ _ e=>Or.inr e),hb.blk h.box (fun e=>n3 e.symm),hb.blk h.res (fun e=>n4 e.symm),hl,h.ne,h.OE,h.lo,h.cb⟩
theorem ZB.cell(h:ZB w b ao n cap A bx rs g m c I l W) :W.cell? ⟨bx,0,none⟩=some (.slice (some ⟨g,0,none⟩) m c) :=ah h.box 0
end
theorem F7 (b : Nat) (ao : Option Addr) (n cap : Nat) (A : Int) (w : World) (g m c : Nat) (I : Nat → Prop) (l : List Fd) (hn : n ≤ 1048576) (hA : A ≤ 100000) (hs : Sx b ao n cap w A) (hcb : ∀ j, j < n → ∃ blk off, ao = some ⟨blk, off, none⟩ ∧ blk < w.heap.size ∧ blk ≠ g) (hL : gX w I g l) (hm : l.length = m) (hm1 : 1 ≤ m) (hI : ∀ x, I x → b < x ∧ x < w.heap.size) (hbg : b ≠ g) (KR : ¬ I g) (Bp : ∀ i, (l.getD i fd0).stops.length ≤ 100 ∧ (l.getD i fd0).af.length ≤ 100) :
    Calls Tryz.prog 20 #[.pointer (some ⟨b, 0, none⟩), .agg #[.slice (some ⟨g, 0, none⟩) m c]] w (ND w b ao n cap (A + 100) g I) := by
  have OG : m ≤ 5 := by have := hL.few; omega
  have HM := aa hm
  have JZ := aa Bp
  have HW1 : Hid (1 ≤ w.heap.size) := by have := hs.lt; show 1 ≤ _; omega
  have HZ0 : Hid (ZB w b ao n cap A w.heap.size (w.heap.size + 1) g m c I l ((w.alloc (.cells #[.slice (some ⟨g, 0, none⟩) m c] 25)).alloc (.cells #[.slice none 0 0] 25))) := by
    have hb : Below w.heap.size w ((w.alloc (.cells #[.slice (some ⟨g, 0, none⟩) m c] 25)).alloc (.cells #[.slice none 0 0] 25)) := ((Below.refl _ _).alloc (Nat.le_refl _) _).alloc (by simp) _
    have hx := gm w (.cells #[.slice (some ⟨g, 0, none⟩) m c] 25) (.cells #[.slice none 0 0] 25)
    have hg := hL.gW
    have hbl := hs.lt
    exact ⟨hs.below hb, But.of_below hb, hx.1, hx.2, hL.keep (But.of_below hb) (X := fun _ => False) id (fun _ _ h => h), ⟨by omega, by omega, by omega, by omega, by omega, hbg⟩, hI, ⟨Nat.le_refl _, by omega⟩, hcb⟩
  clear hs hcb hL hm hI hbg Bp
  go_enter Tryz.func20, Tryz.ntmps20
  go_upto_region 1 with fail
  obtain ⟨bx, hbx⟩ : ∃ g, w.heap.size = g := ⟨_, rfl⟩
  obtain ⟨rs, hrs⟩ : ∃ g, w.heap.size + 1 = g := ⟨_, rfl⟩
  rw [hrs, hbx] at HZ0
  simp only [hrs]
  simp only [hbx]
  clear hbx hrs
  generalize (w.alloc (.cells #[.slice (some ⟨g, 0, none⟩) m c] 25)).alloc (.cells #[.slice none 0 0] 25) = w1 at *
  have z0 := HZ0.out.cell
  go_wp2_with fail
  refine (dx HZ0.out.src hn (by omega) m (by omega) (by omega)).mono ?_
  rintro e w2 ⟨k, rfl, hk, hs2, hb2⟩
  have HZ1 := aa (HZ0.out.draw hs2 hb2)
  clear hs2 hb2 HZ0 z0
  have hkm : k < m := by omega
  go_upto_block 0 with (go_at_call 38; refine (dx HZ1.out.src hn (by omega) 10 (by omega) (by omega)).mono ?_; rintro e w3 ⟨r, rfl, hr, hs3, hb3⟩)
  have HZ2 := aa (HZ1.out.draw hs3 hb3)
  clear hs3 hb3 HZ1
  obtain ⟨rz, hrz⟩ : ∃ z : Int, (r : Int) = z := ⟨_, rfl⟩
  simp only [hrz]
  clear hrz
  go_cut [] (fun wy => ZE w b ao n cap (A + 100) bx rs g I wy)
  case first =>
    by_cases h0 : rz = 0
    · subst h0
      go_upto_region 4 with fail
      refine wp_region_held (S := fun W => W.cell? ⟨bx, 0, none⟩ = some (.slice (some ⟨g, 0, none⟩) m c)) (by kernel_rfl) ?_
      have hbd : Below w3.heap.size w3 ({ heap := w3.heap, tape := w3.tape, drawn := w3.drawn + 1, os := w3.os, output := w3.output } : World) := (Below.refl _ _).drew
      generalize ({ heap := w3.heap, tape := w3.tape, drawn := w3.drawn + 1, os := w3.os, output := w3.output } : World) = wd at *
      have H2 := aa (HZ2.out.below hbd)
      clear hbd
      have hc := H2.out.cell
      try refine tn ?_
      refine tx 0 ?_
      refine tx 2 ?_
      refine tx 3 ?_
      refine tx 8 ?_
      refine tx 1 ?_ (v := .slice (some ⟨g, 0, none⟩) m c) (hx := fun u hu => zy u _ _ _ rfl bx 0 _ _ _ (by kernel_rfl) hu)
      refine aH 4 (by kernel_rfl) ?_
      refine bI 38 #[.pointer (some ⟨b, 0, none⟩), .int .i64 2] rfl (by kernel_rfl) (bK _ _ _ _ _ _ _ _ rfl _ _ (by kernel_rfl) (by kernel_rfl) (Tryz.call38 _ _)) ?_
      refine (dx H2.out.src hn (by omega) 2 (by omega) (by omega)).mono ?_
      rintro e' w4 ⟨y1, rfl, hy1, hsd, hbb⟩
      have H4 := aa (H2.out.draw hsd hbb)
      clear hsd hbb hc
      have hc := H4.out.cell
      obtain ⟨K1, hK1⟩ : ∃ K : Nat, 30 + (y1 : Int) = (K : Int) := ⟨30 + y1, by omega⟩
      have bN : IntKind.i64.wrap (K1 : Int) = (K1 : Int) := by rw [IntKind.wrap_i64]; omega
      refine ⟨hc, tn ?_⟩
      refine tx 5 ?_ (v := .int .i64 (K1 : Int))
      refine aH 6 (by kernel_rfl) ?_
      refine bI 39 #[.string ⟨#[110]⟩, .int .i64 (K1 : Int)] rfl (by kernel_rfl) (bK _ _ _ _ _ _ _ _ rfl _ _ (by kernel_rfl) (by kernel_rfl) (Tryz.call39 _ _)) ?_
      refine (CB ⟨#[110]⟩ K1 w4 (by decide) (by omega)).mono ?_
      rintro e' w6 ⟨l1, rfl, Bj, hbb⟩
      have hl1 : l1.length ≤ K1 := by have h1 : (⟨#[110]⟩ : ByteArray).size = 1 := rfl; rw [h1] at Bj; omega
      have H6 := aa (H4.out.below hbb)
      clear hbb Bj hc
      have hc := H6.out.cell
      refine ⟨hc, tn ?_⟩
      refine lV 7 9 (by kernel_rfl) ?p1 ?p2
      case' p1 =>
        refine aU _ _ rfl (by kernel_rfl) (Il _ _ _ _ _ _ _ _ _ rfl ⟨#[]⟩ ⟨#[65]⟩ ⟨#[49, 97]⟩ ⟨#[122, 45, 122]⟩ ⟨#[98, 111, 100, 121]⟩ ⟨l1.toArray⟩ (by kernel_rfl) (by kernel_rfl) (by kernel_rfl) (by kernel_rfl) (by kernel_rfl) (by kernel_rfl)) ?_
        have hq : Hid (b < w6.heap.size) := H6.out.src.lt
        have hba : Below w6.heap.size w6 (w6.alloc (.cells #[.string ⟨#[]⟩, .string ⟨#[65]⟩, .string ⟨#[49, 97]⟩, .string ⟨#[122, 45, 122]⟩, .string ⟨#[98, 111, 100, 121]⟩, .string ⟨l1.toArray⟩] 9)) := (Below.refl _ _).alloc (Nat.le_refl _) _
        have T7 := aa (heap_alloc_new w6 (.cells #[.string ⟨#[]⟩, .string ⟨#[65]⟩, .string ⟨#[49, 97]⟩, .string ⟨#[122, 45, 122]⟩, .string ⟨#[98, 111, 100, 121]⟩, .string ⟨l1.toArray⟩] 9))
        have H7 := aa (H6.out.below hba)
        clear hba hc
        have hc := H7.out.cell
        refine ⟨hc, tn ?_⟩
        obtain ⟨q, hqq⟩ : ∃ g, w6.heap.size = g := ⟨_, rfl⟩
        rw [hqq] at T7 hq
        simp only [hqq]
        clear hqq
        generalize w6.alloc (.cells #[.string ⟨#[]⟩, .string ⟨#[65]⟩, .string ⟨#[49, 97]⟩, .string ⟨#[122, 45, 122]⟩, .string ⟨#[98, 111, 100, 121]⟩, .string ⟨l1.toArray⟩] 9) = w7 at *
        refine aH 9 (by kernel_rfl) ?_
        refine bI 38 #[.pointer (some ⟨b, 0, none⟩), .int .i64 6] rfl (by kernel_rfl) (bK _ _ _ _ _ _ _ _ rfl _ _ (by kernel_rfl) (by kernel_rfl) (Tryz.call38 _ _)) ?_
        refine (dx H7.out.src hn (by omega) 6 (by omega) (by omega)).mono ?_
        rintro e' w9 ⟨y, rfl, hy, hsd, hbb⟩
        have H9 := aa (H7.out.draw hsd hbb)
        have T9 := aa (hbb.blk T7.out (fun e => by have := hq.out; omega))
        clear hsd hbb hc T7 H7 hq
      case' p2 =>
        refine bI 38 #[.pointer (some ⟨b, 0, none⟩), .int .i64 6] rfl (by kernel_rfl) (bK _ _ _ _ _ _ _ _ rfl _ _ (by kernel_rfl) (by kernel_rfl) (Tryz.call38 _ _)) ?_
        refine (dx H6.out.src hn (by omega) 6 (by omega) (by omega)).mono ?_
        rintro e' w7 ⟨y, rfl, hy, hsd, hbb⟩
        have H7 := aa (H6.out.draw hsd hbb)
        clear hsd hbb hc
        have hc := H7.out.cell
        refine ⟨hc, tn ?_⟩
        refine aH 7 (by kernel_rfl) ?_
        refine aU _ _ rfl (by kernel_rfl) (Il _ _ _ _ _ _ _ _ _ rfl ⟨#[]⟩ ⟨#[65]⟩ ⟨#[49, 97]⟩ ⟨#[122, 45, 122]⟩ ⟨#[98, 111, 100, 121]⟩ ⟨l1.toArray⟩ (by kernel_rfl) (by kernel_rfl) (by kernel_rfl) (by kernel_rfl) (by kernel_rfl) (by kernel_rfl)) ?_
        have hba : Below w7.heap.size w7 (w7.alloc (.cells #[.string ⟨#[]⟩, .string ⟨#[65]⟩, .string ⟨#[49, 97]⟩, .string ⟨#[122, 45, 122]⟩, .string ⟨#[98, 111, 100, 121]⟩, .string ⟨l1.toArray⟩] 9)) := (Below.refl _ _).alloc (Nat.le_refl _) _
        have T9 := aa (heap_alloc_new w7 (.cells #[.string ⟨#[]⟩, .string ⟨#[65]⟩, .string ⟨#[49, 97]⟩, .string ⟨#[122, 45, 122]⟩, .string ⟨#[98, 111, 100, 121]⟩, .string ⟨l1.toArray⟩] 9))
        have H9 := aa (H7.out.below hba)
        clear hba hc H7
        obtain ⟨q, hqq⟩ : ∃ g, w7.heap.size = g := ⟨_, rfl⟩
        rw [hqq] at T9
        simp only [hqq]
        clear hqq
        generalize w7.alloc (.cells #[.string ⟨#[]⟩, .string ⟨#[65]⟩, .string ⟨#[49, 97]⟩, .string ⟨#[122, 45, 122]⟩, .string ⟨#[98, 111, 100, 121]⟩, .string ⟨l1.toArray⟩] 9) = w9 at *
      all_goals
        have hc := H9.out.cell
        refine ⟨hc, tn ?_⟩
        have hy6 : y < 6 := by omega
        obtain ⟨nm, hnm, hcl⟩ : ∃ nm : List UInt8, nm.length ≤ 100 ∧ w9.cell? ⟨q, y, none⟩ = some (.string ⟨nm.toArray⟩) := by
          rcases (by omega : y = 0 ∨ y = 1 ∨ y = 2 ∨ y = 3 ∨ y = 4 ∨ y = 5) with rfl | rfl | rfl | rfl | rfl | rfl
          · exact ⟨[], by decide, ah T9.out 0⟩
          · exact ⟨[65], by decide, ah T9.out 1⟩
          · exact ⟨[49, 97], by decide, ah T9.out 2⟩
          · exact ⟨[122, 45, 122], by decide, ah T9.out 3⟩
          · exact ⟨[98, 111, 100, 121], by decide, ah T9.out 4⟩
          · exact ⟨l1, by omega, ah T9.out 5⟩
        obtain ⟨cs, hcs, hz, _⟩ := H9.out.rT.blk
        obtain ⟨u, hu⟩ : ∃ u, w9.cell? ⟨g, k * 9, none⟩ = some u := ⟨_, (ah hcs _).trans (Array.getElem?_eq_getElem (by omega))⟩
        have hfz := aC hcs (k * 9)
        refine tx 10 ?_ (v := .pointer (some ⟨q, y, none⟩)) (hx := fun u _ => XO u _ _ _ _ rfl q y 6 (by kernel_rfl) (by kernel_rfl) hy6 (by omega))
        refine t1 11 (nR _ _ _ _ rfl q y ⟨nm.toArray⟩ (by kernel_rfl) hcl) ?_
        refine tx 12 ?_ (v := .pointer (some ⟨g, k * 9, none⟩)) (hx := fun u _ => zk u _ _ _ _ rfl g k m c (by kernel_rfl) (by kernel_rfl) hkm (by omega))
        refine tx 13 ?_
        have HE := aa ((H9.out.put ((But.refl (fun x => x = g) w9).set g (k * 9) (.string (bs nm)) rfl) (H9.out.rT.ada (k := k) (by have := HM.out; omega) nm hnm)).ze (by rw [List.length_set]; exact HM.out) (A' := A + 100) (by omega))
        have hc2 : (w9.setCell ⟨g, k * 9, none⟩ (.string ⟨nm.toArray⟩)).cell? ⟨bx, 0, none⟩ = some (.slice (some ⟨g, 0, none⟩) m c) := by
          have hne := H9.out.ne
          rw [← hc]
          simp only [World.cell?]
          rw [au _ _ _ _ _ (fun e => hne.2.2.1 e.symm)]
        refine t1s 14 (uR _ _ _ _ _ rfl g (k * 9) ⟨nm.toArray⟩ u (by kernel_rfl) (by kernel_rfl) hu hfz) ?_
        refine wpAnyH_done (by kernel_rfl) ?_ _
        go_wp2_with fail
        go_meet
        case rel => exact HE.out
    · have h0b : (rz == 0) = false := by simpa using h0
      by_cases h1 : rz = 1
      · subst h1
        go_upto_region 6 with fail
        refine wp_region_held (S := fun W => W.cell? ⟨bx, 0, none⟩ = some (.slice (some ⟨g, 0, none⟩) m c)) (by kernel_rfl) ?_
        have hbd : Below w3.heap.size w3 ({ heap := w3.heap, tape := w3.tape, drawn := w3.drawn + 1, os := w3.os, output := w3.output } : World) := (Below.refl _ _).drew
        generalize ({ heap := w3.heap, tape := w3.tape, drawn := w3.drawn + 1, os := w3.os, output := w3.output } : World) = wd at *
        have H2 := aa (HZ2.out.below hbd)
        clear hbd
        have hc := H2.out.cell
        try refine tn ?_
        refine tx 0 ?_
        refine tx 2 ?_
        refine tx 3 ?_
        refine tx 1 ?_ (v := .slice (some ⟨g, 0, none⟩) m c) (hx := fun u hu => zy u _ _ _ rfl bx 0 _ _ _ (by kernel_rfl) hu)
        refine aH 4 (by kernel_rfl) ?_
        refine bI 38 #[.pointer (some ⟨b, 0, none⟩), .int .i64 6] rfl (by kernel_rfl) (bK _ _ _ _ _ _ _ _ rfl _ _ (by kernel_rfl) (by kernel_rfl) (Tryz.call38 _ _)) ?_
        refine (dx H2.out.src hn (by omega) 6 (by omega) (by omega)).mono ?_
        rintro e' w4 ⟨y, rfl, hy, hsd, hbb⟩
        have H9 := aa (H2.out.draw hsd hbb)
        clear hsd hbb hc
        have hc := H9.out.cell
        obtain ⟨z, hz⟩ : ∃ z : Int, (y : Int) - 1 = z := ⟨_, rfl⟩
        have bN : IntKind.i64.wrap z = z := by rw [IntKind.wrap_i64]; omega
        refine ⟨hc, tn ?_⟩
        obtain ⟨cs, hcs, hzc, _⟩ := H9.out.rT.blk
        obtain ⟨u, hu⟩ : ∃ u, w4.cell? ⟨g, k * 9 + 1, none⟩ = some u := ⟨_, (ah hcs _).trans (Array.getElem?_eq_getElem (by omega))⟩
        have hfz := aC hcs (k * 9 + 1)
        refine tx 5 ?_ (v := .int .i64 z)
        refine tx 6 ?_ (v := .pointer (some ⟨g, k * 9, none⟩)) (hx := fun u _ => zk u _ _ _ _ rfl g k m c (by kernel_rfl) (by kernel_rfl) hkm (by omega))
        refine tx 7 ?_
        have HE := aa ((H9.out.put ((But.refl (fun x => x = g) w4).set g (k * 9 + 1) (.int .i64 z) rfl) (H9.out.rT.ac8 (k := k) (by have := HM.out; omega) z)).ze (by rw [List.length_set]; exact HM.out) (A' := A + 100) (by omega))
        have hc2 : (w4.setCell ⟨g, k * 9 + 1, none⟩ (.int .i64 z)).cell? ⟨bx, 0, none⟩ = some (.slice (some ⟨g, 0, none⟩) m c) := by
          have hne := H9.out.ne
          rw [← hc]
          simp only [World.cell?]
          rw [au _ _ _ _ _ (fun e => hne.2.2.1 e.symm)]
        refine t1s 8 (Qp _ _ _ _ _ rfl g (k * 9 + 1) z u (by kernel_rfl) (by kernel_rfl) hu hfz) ?_
        refine wpAnyH_done (by kernel_rfl) ?_ _
        go_wp2_with fail
        go_meet
        case rel => exact HE.out
      · have h1b : (rz == 1) = false := by simpa using h1
        by_cases h2 : rz = 2
        · subst h2
          go_upto_region 8 with fail
          refine wp_region_held (S := fun W => W.cell? ⟨bx, 0, none⟩ = some (.slice (some ⟨g, 0, none⟩) m c)) (by kernel_rfl) ?_
          have hbd : Below w3.heap.size w3 ({ heap := w3.heap, tape := w3.tape, drawn := w3.drawn + 1, os := w3.os, output := w3.output } : World) := (Below.refl _ _).drew
          generalize ({ heap := w3.heap, tape := w3.tape, drawn := w3.drawn + 1, os := w3.os, output := w3.output } : World) = wd at *
          have H2 := aa (HZ2.out.below hbd)
          clear hbd
          have hc := H2.out.cell
          try refine tn ?_
          refine tx 0 ?_
          refine tx 2 ?_
          refine tx 3 ?_
          refine tx 4 ?_
          refine tx 6 ?_
          refine tx 1 ?_ (v := .slice (some ⟨g, 0, none⟩) m c) (hx := fun u hu => zy u _ _ _ rfl bx 0 _ _ _ (by kernel_rfl) hu)
          refine tx 5 ?_ (v := .slice (some ⟨g, 0, none⟩) m c) (hx := fun u hu => zy u _ _ _ rfl bx 0 _ _ _ (by kernel_rfl) hu)
          refine tx 7 ?_ (v := .pointer (some ⟨g, k * 9, none⟩)) (hx := fun u _ => zk u _ _ _ _ rfl g k m c (by kernel_rfl) (by kernel_rfl) hkm (by omega))
          refine tx 8 ?_
          obtain ⟨cs, hcs, hzc, hfd⟩ := H2.out.rT.blk
          have hkl : k < l.length := by have := HM.out; omega
          have hf := hfd k hkl
          have hlen := JZ.out k
          generalize hff : l.getD k fd0 = f at hf hlen
          obtain ⟨aS, cS, q1, q2, q3, q4⟩ := hf.c5
          obtain ⟨aY, cY, r1, r2, r3, r4⟩ := hf.c6
          have HF := aa hf
          have HFf := aa hff
          have HQ : Hid (bE wd aS f.stops ∧ dB wd aY f.af ∧ CU I g aS ∧ CU I g aY ∧ (aS = none → cS = 0) ∧ (aY = none → cY = 0) ∧ f.stops.length ≤ 100 ∧ f.af.length ≤ 100) := ⟨q2, r2, q3, r3, q4 KR, r4 KR, hlen⟩
          refine t1 9 (Ty _ _ _ _ rfl g (k * 9 + 2) (.bool f.bf) (.bool f.bA) (.bool f.bp) (.slice aS f.stops.length cS) (.slice aY f.af.length cY) (.int .i64 f.lo) (.int .i64 f.hi) (by kernel_rfl) ((ah hcs _).trans hf.c2) ((ah hcs _).trans hf.c3) ((ah hcs _).trans hf.c4) ((ah hcs _).trans q1) ((ah hcs _).trans r1) ((ah hcs _).trans hf.c7) ((ah hcs _).trans hf.c8)) ?_
          refine aH 10 (by kernel_rfl) ?_
          refine bI 41 #[.pointer (some ⟨b, 0, none⟩), .agg #[.bool f.bf, .bool f.bA, .bool f.bp, .slice aS f.stops.length cS, .slice aY f.af.length cY, .int .i64 f.lo, .int .i64 f.hi]] rfl (by kernel_rfl) (bK _ _ _ _ _ _ _ _ rfl _ _ (by kernel_rfl) (by kernel_rfl) (Tryz.call41 _ _)) ?_
          have hz := H2.out.but.size
          clear q1 q2 q3 q4 r1 r2 r3 r4 hf hff hlen hfd hcs
          refine (QF b ao n cap (A + 6) wd hn (by omega) (H2.out.src.mono (by omega)) (fun j hj => by obtain ⟨blk, off, p1, p2, _⟩ := H2.out.cb j hj; exact ⟨blk, off, p1, Nat.lt_of_lt_of_le p2 hz⟩) f.bf f.bA f.bp aS aY cS cY f.stops f.af f.lo f.hi HQ.out.1 HQ.out.2.1 (fun blk off e hx => by have := H2.out.OE blk (HQ.out.2.2.1 blk off e).1; omega) (fun blk off e hx => by have := H2.out.OE blk (HQ.out.2.2.2.1 blk off e).1; omega) HF.out.sm.2 HQ.out.2.2.2.2.2.2.1 HQ.out.2.2.2.2.2.2.2 HQ.out.2.2.2.2.1 HQ.out.2.2.2.2.2.1).mono ?_
          rintro e' w9 ⟨fo, st, ph, OA, OX, cS2, OH, stops, af, lo, hi, rfl, hsB, Ay, p1, p2, p3, p4, p5, p6, p7, p8⟩
          have H9 := aa (H2.out.draw hsB Ay)
          have hrs : rs < wd.heap.size := (Array.getElem?_eq_some_iff.1 H2.out.res).1
          have hgw := H2.out.rT.gW
          have HJ : Hid (gX (Bt w9 g (k * 9 + 2) (.bool fo) (.bool st) (.bool ph) (.slice OA stops.length cS2) (.slice OX af.length OH) (.int .i64 lo) (.int .i64 hi)) (fun x => I x ∨ wd.heap.size ≤ x ∨ x = g) g (l.set k ⟨(l.getD k fd0).name, (l.getD k fd0).kind, fo, st, ph, stops, af, lo, hi⟩)) := by
            refine H9.out.rT.adb hkl (fun x h => Or.inl h) fo st ph OA OX cS2 OH stops af lo hi p1 p2 (fun blk off e => ?_) (fun blk off e => ?_) (Or.inr (Or.inr rfl)) p5
            · rcases p6 with h | h
              · have := HQ.out.2.2.1 blk off (h ▸ e)
                exact ⟨Or.inl this.1, this.2⟩
              · have := h blk off e
                exact ⟨Or.inr (Or.inl (by omega)), by omega⟩
            · rcases p7 with h | h
              · have := HQ.out.2.2.2.1 blk off (h ▸ e)
                exact ⟨Or.inl this.1, this.2⟩
              · have := h blk off e
                exact ⟨Or.inr (Or.inl (by omega)), by omega⟩
          have iV := LM w9 g (k * 9 + 2) (.bool fo) (.bool st) (.bool ph) (.slice OA stops.length cS2) (.slice OX af.length OH) (.int .i64 lo) (.int .i64 hi)
          have HE : Hid (ZE w b ao n cap (A + 100) bx rs g I (Bt w9 g (k * 9 + 2) (.bool fo) (.bool st) (.bool ph) (.slice OA stops.length cS2) (.slice OX af.length OH) (.int .i64 lo) (.int .i64 hi))) := by
            obtain ⟨n1, n2, n3, n4, n5, n6⟩ := H9.out.ne
            have hlo := H9.out.lo
            exact ⟨_, m, c, _, iV.blk H9.out.box (fun e => n3 e.symm), iV.blk H9.out.res (fun e => n4 e.symm), by rw [List.length_set]; exact HM.out, OG, HJ.out.sz, (H9.out.src.Gw iV n6 (fun j hj => by
              obtain ⟨blk, off, q1, q2, q3⟩ := H9.out.cb j hj
              exact ⟨blk, off, q1, Nat.lt_of_lt_of_le q2 H9.out.but.size, q3⟩)).mono (by omega), H9.out.but.more (iV.mono fun _ _ e => Or.inr e), fun X W' hb hg hX => (HJ.out.keep hb hg (fun x hx e => by
                rcases hx with hx | hx | rfl
                · exact (hX x e).1 hx
                · have := (hX x e).2; omega
                · exact hg e)).hold⟩
          obtain ⟨cs9, af6, hz9, _⟩ := H9.out.rT.blk
          clear hsB Ay p1 p2 p3 p4 p5 p6 p7 p8 hc
          have hc := H9.out.cell
          refine ⟨hc, tn ?_⟩
          generalize stops.length = ns at *
          generalize af.length = ny at *
          refine tx 11 ?_ (v := .pointer (some ⟨g, k * 9, none⟩)) (hx := fun u _ => zk u _ _ _ _ rfl g k m c (by kernel_rfl) (by kernel_rfl) hkm (by omega))
          refine tx 12 ?_
          have hc2 : (Bt w9 g (k * 9 + 2) (.bool fo) (.bool st) (.bool ph) (.slice OA ns cS2) (.slice OX ny OH) (.int .i64 lo) (.int .i64 hi)).cell? ⟨bx, 0, none⟩ = some (.slice (some ⟨g, 0, none⟩) m c) := ah (iV.blk H9.out.box (fun e => H9.out.ne.2.2.1 e.symm)) 0
          refine t1s 13 (RA _ _ _ _ _ rfl g (k * 9 + 2) fo st ph OA OX ns cS2 ny OH lo hi (by kernel_rfl) (by kernel_rfl) af6 (by omega)) ?_
          refine wpAnyH_done (by kernel_rfl) ?_ _
          go_wp2_with fail
          go_meet
          case rel => exact HE.out
        · have AQ : (rz == 2) = false := by simpa using h2
          by_cases h3 : rz = 3
          · subst h3
            have hbq : Below w3.heap.size w3 (w3.alloc (.cells #[] 75)) := (Below.refl _ _).alloc (Nat.le_refl _) _
            have hc := HZ2.out.cell
            have hc2 := (HZ2.out.below hbq).cell
            have hcf := aC (HZ2.out.below hbq).box 0
            clear hbq
            have HE : Hid (ZE w b ao n cap (A + 100) bx rs g I ((w3.alloc (.cells #[] 75)).setCell ⟨bx, 0, none⟩ (.slice (some ⟨w3.heap.size, 0, none⟩) 0 0))) := by
              have H := HZ2.out.below ((Below.refl _ _).alloc (Nat.le_refl _) (.cells #[] 75))
              obtain ⟨n1, n2, n3, n4, n5, n6⟩ := H.ne
              have hlo := H.lo
              refine ⟨_, 0, 0, [], aV H.box 0 _, (au _ _ _ _ _ (fun e => n5 e.symm)).trans H.res, rfl, by omega, fun i => by rw [List.getD_eq_getElem?_getD]; exact SE, (H.src.set bx 0 _ (fun e => n1 e.symm) (fun j hj => ?_)).mono (by omega), H.but.Du bx 0 _ hlo.1, fun _ _ _ _ _ => Or.inl rfl⟩
              obtain ⟨blk, off, q1, q2, q3⟩ := H.cb j hj
              exact ⟨blk, off, q1, by omega⟩
            go_wp2_with fail
            go_meet
            case rel => exact HE.out
          · have h3b : (rz == 3) = false := by simpa using h3
            have HE := aa (HZ2.out.ze HM.out (A' := A + 100) (by omega))
            go_wp2_with fail
            go_meet
            case rel => exact HE.out
  case rest =>
    obtain ⟨a, m', c', l', e1, e2, e3, e4, e5, e6, e7, e8⟩ := hcut
    have HN := aa HZ2.out.ne
    have UT := aa HZ2.out.lo
    have Aa := aa HZ2.out.cb
    have HI := aa HZ2.out.OE
    have Ck := aa e2
    have HF : Hid (ND w b ao n cap (A + 100) g I (.returned (.agg #[.slice a m' c'])) (wc.setCell ⟨rs, 0, none⟩ (.slice a m' c'))) := by
      refine ⟨a, m', c', l', rfl, e3, e4, e5, e6.set rs 0 _ (fun e => HN.out.2.1 e.symm) (fun j hj => ?_), e7.Du rs 0 _ UT.out.2, fun X W' hb hg hX => e8 (fun x => X x ∨ x = rs) W' (((But.refl (fun x => X x ∨ x = rs) wc).set rs 0 _ (Or.inr rfl)).more (hb.mono fun _ _ h => Or.inl h)) (fun h => h.elim hg HN.out.2.2.2.1) (fun x h => h.elim (fun h => ⟨(hX x h).1, Or.inl (hX x h).2⟩) (fun h => ⟨fun i => by have := HI.out x i; have := UT.out; omega, Or.inr h⟩))⟩
      obtain ⟨blk, off, q1, q2, q3⟩ := Aa.out j hj
      have := UT.out
      exact ⟨blk, off, q1, by omega⟩
    have z0 := ah e1 0
    have r0 := ah e2 0
    have f0 := aC e2 0
    simp only [List.getElem?_toArray, List.getElem?_cons_zero] at z0 r0
    clear e1 e2 e3 e4 e5 e6 e7 e8 HZ2 HM JZ
    go_wp2
    have k1 := aV Ck.out 0 (.slice a m' c')
    have hfin := HF.out
    refine bodyPost_ret (v := .agg #[.slice a m' c']) ?_ rfl hfin
    clear hfin z0 r0 f0 HF
    generalize wc.setCell ⟨rs, 0, none⟩ (.slice a m' c') = wf at *
    have z0 := ah k1 0
    simp at z0
    simp [results, Tryz.results20, go_sem, z0]
def ac7(w:World)(e:Ending)(w':World) :Prop:=∃a m c l id av cv V,e= .returned (.tuple #[.agg #[.slice a m c],.agg #[.string ⟨(id:List UInt8).toArray⟩,.slice av V.length cv]])∧l.length=m∧m≤5∧(∀i,kz (l.getD i fd0))∧jK w' a l∧id.length≤40∧nG V∧gK w' av V∧Below w.heap.size w w'
theorem xy {W W':World} {X:Nat→Prop}(hb:But X W W')(hX: ∀x,X x→∃cs t,W.heap[x]?=some (.cells cs t)∧t≠9∧t≠3∧t≠43) :gM W W':=⟨hb.size,fun g cs t ht hg=>hb.blk hg fun e=>by
 obtain⟨cs',t',h1,h2,h3,h4⟩ :=hX g e;rw[hg]at h1;injection h1 with h1;injection h1 with _ h1;subst h1;rcases ht with e|e|e;·exact h2 e
 ·exact h3 e
 ·exact h4 e⟩
theorem Sx.blk {b:Nat} {ao:Option Addr} {n cap:Nat} {A:Int} {W:World}(h:Sx b ao n cap W A) : ∃cs t,W.heap[b]?=some (.cells cs t)∧t≠9∧t≠3∧t≠43:=by obtain⟨_,_,_,_,_,_,h5,_⟩ :=h;exact⟨_,_,h5,by decide,by decide,by decide⟩
def ZY(w:World)(r1 r2 x5 x6:Nat)(W:World) :Prop:=∃a m c l id av cv NV V,W.heap[x5]?=some (.cells #[.slice a m c] 25)∧W.heap[x6]?=some (.cells #[.string ⟨(id:List UInt8).toArray⟩,.slice av NV cv] 28)∧W.heap[r1]?=some (.cells #[.slice none 0 0] 25)∧W.heap[r2]?=some (.cells #[.string ⟨#[]⟩,.slice none 0 0] 28)∧l.length=m∧V.length=NV∧m≤5∧(∀i,kz (l.getD i fd0))∧id.length≤40∧nG V∧Below w.heap.size w W∧∀W',But (fun x=>x=r1∨x=r2) W W'→jK W' a l∧gK W' av V
theorem tJ(W:World)(ρ:Operand→Value)(o:Oper)(x:Operand)(ho:o.op= .load 25 x)(b:Nat)(u:Value)(hx:ρ x= .pointer (some ⟨b,0,none⟩))(h:W.heap[b]?=some (.cells #[u] 25)) :(execOp ρ o).run Tryz.prog W= .ok (.value (.agg #[u])) W:=by have c0:W.cell? ⟨b,0,none⟩=some u:=ah h 0;clear h;unfold execOp;simp only[ho,Instr.loadAt,Instr.sureAddr,hx,Sem.run_bind,Sem.run_pure,Result.andThen_ok];go_simp
theorem tY(W:World)(ρ:Operand→Value)(o:Oper)(x:Operand)(ho:o.op= .load 28 x)(b:Nat)(u v:Value)(hx:ρ x= .pointer (some ⟨b,0,none⟩))(h:W.heap[b]?=some (.cells #[u,v] 28)) :(execOp ρ o).run Tryz.prog W= .ok (.value (.agg #[u,v])) W:=by have c0:W.cell? ⟨b,0,none⟩=some u:=ah h 0;have c1:W.cell? ⟨b,1,none⟩=some v:=ah h 1;clear h;unfold execOp;simp only[ho,Instr.loadAt,Instr.sureAddr,hx,Sem.run_bind,Sem.run_pure,Result.andThen_ok];go_simp
theorem SV(W:World)(ρ:Operand→Value)(o:Oper)(x y:Operand)(ho:o.op= .store 25 x y)(b:Nat)(r:Value)(a:Option Addr)(n c:Nat)(hx:ρ x= .pointer (some ⟨b,0,none⟩))(hy:ρ y= .agg #[.slice a n c])(h:W.heap[b]?=some (.cells #[r] 25)) :(execOp ρ o).run Tryz.prog W= .ok .skip (W.setCell ⟨b,0,none⟩ (.slice a n c)) :=by have c0:W.cell? ⟨b,0,none⟩=some r:=ah h 0;have f0:=aC h 0;clear h;unfold execOp;simp only[ho,Instr.storeAt,Instr.sureAddr,hx,hy,Sem.run_bind,Sem.run_pure,Result.andThen_ok];go_simp
theorem Ub(W:World)(ρ:Operand→Value)(o:Oper)(x y:Operand)(ho:o.op= .store 28 x y)(b:Nat)(r0 r1:Value)(s:ByteArray)(a:Option Addr)(n c:Nat)(hx:ρ x= .pointer (some ⟨b,0,none⟩))(hy:ρ y= .agg #[.string s,.slice a n c])(h:W.heap[b]?=some (.cells #[r0,r1] 28)) :(execOp ρ o).run Tryz.prog W= .ok .skip ((W.setCell ⟨b,0,none⟩ (.string s)).setCell ⟨b,1,none⟩ (.slice a n c)) :=by have c0:W.cell? ⟨b,0,none⟩=some r0:=ah h 0;have f0:=aC h 0;have c1:W.cell? ⟨b,1,none⟩=some r1:=ah h 1;have f1:=aC h 1;clear h;unfold execOp;simp only[ho,Instr.storeAt,Instr.sureAddr,hx,hy,Sem.run_bind,Sem.run_pure,Result.andThen_ok];go_simp
theorem MW (ao : Option Addr) (n cap : Nat) (w : World) (hn : n ≤ 1048576) (hcode : CodeIn w ao n) :
    Calls Tryz.prog 4 #[.slice ao n cap] w (ac7 w) := by
  have HC := aa hcode
  clear hcode
  go_enter Tryz.func4, Tryz.ntmps4
  go_upto_region 1 with fail
  have hb0 : Below w.heap.size w ((w.alloc (.cells #[.slice none 0 0] 25)).alloc (.cells #[.string ⟨#[]⟩, .slice none 0 0] 28)) := ((Below.refl _ _).alloc (Nat.le_refl _) _).alloc (by simp) _
  have hx0 := gm w (.cells #[.slice none 0 0] 25) (.cells #[.string ⟨#[]⟩, .slice none 0 0] 28)
  have HB1 := aa hb0
  have mR := aa hx0
  clear hb0 hx0
  obtain ⟨r1, hr1⟩ : ∃ g, w.heap.size = g := ⟨_, rfl⟩
  obtain ⟨r2, hr2⟩ : ∃ g, w.heap.size + 1 = g := ⟨_, rfl⟩
  have HR : Hid (w.heap.size ≤ r1 ∧ w.heap.size ≤ r2 ∧ r1 ≠ r2) := ⟨by omega, by omega, by omega⟩
  rw [hr2, hr1] at mR
  simp only [hr2]
  simp only [hr1]
  clear hr1 hr2
  generalize (w.alloc (.cells #[.slice none 0 0] 25)).alloc (.cells #[.string ⟨#[]⟩, .slice none 0 0] 28) = w1 at *
  go_wp2_with fail
  refine (Qe ao n cap w1 hn).mono ?_
  rintro e w2 ⟨rfl, hsrc, hgr⟩
  have hbw : Below w1.heap.size w1 w2 := (Below.refl _ _).grown hgr (Nat.le_refl _) (fun k hk => by cases hk)
  have HS2 : Hid (Sx w1.heap.size ao n cap w2 0) := ⟨0, (n : Int) % 1000, by omega, by omega, by omega, by omega, hsrc, (HC.out.below HB1.out).code hgr⟩
  have HB2 := aa (HB1.out.trans (hbw.mono HB1.out.size))
  have iw : Hid (w2.heap[r1]? = _ ∧ w2.heap[r2]? = _) := ⟨aD mR.out.1 hbw, aD mR.out.2 hbw⟩
  have yz : Hid (w.heap.size ≤ w1.heap.size ∧ r1 < w1.heap.size ∧ r2 < w1.heap.size) := ⟨HB1.out.size, (Array.getElem?_eq_some_iff.1 mR.out.1).1, (Array.getElem?_eq_some_iff.1 mR.out.2).1⟩
  clear hsrc hgr hbw mR HB1
  obtain ⟨b, hb⟩ : ∃ g, w1.heap.size = g := ⟨_, rfl⟩
  rw [hb] at HS2 yz
  simp only [hb]
  clear hb
  have Aa : Hid (∀ j, j < n → ∃ blk off, ao = some ⟨blk, off, none⟩ ∧ blk < w.heap.size) := fun j hj => by
    obtain ⟨blk, off, z, h1, h2, _⟩ := HC.out j hj
    exact ⟨blk, off, h1, h2⟩
  have HZ2 : Hid (b < w2.heap.size) := HS2.out.lt
  go_wp2_with fail
  refine (Qw b ao n cap 0 w2 hn (by omega) HS2.out (fun j hj => by
    obtain ⟨blk, off, h1, h2⟩ := Aa.out j hj
    exact ⟨blk, off, h1, Nat.lt_of_lt_of_le h2 HB2.out.size⟩)).mono ?_
  rintro e w3 ⟨g, m, c, I, l, rfl, hm1, OG, hat, hg, hs3, hb3, hlm, hI, hL, KR, Bp⟩
  have ql := aa hs3
  have HB3 := aa hb3
  have ED := aa hL
  have aav := aa hat
  have HQ : Hid (l.length = m ∧ (∀ x, I x → b < x ∧ w2.heap.size ≤ x ∧ x < w3.heap.size) ∧ ¬ I g ∧ w2.heap.size ≤ g ∧ ∀ i, (l.getD i fd0).stops.length ≤ 100 ∧ (l.getD i fd0).af.length ≤ 100) := ⟨hlm, hI, KR, hg, Bp⟩
  clear hat hg hs3 hb3 hlm hI hL KR Bp
  go_upto_region 3 with fail
  have hba : Below w3.heap.size w3 (w3.alloc (.cells #[.slice (some ⟨g, 0, none⟩) m c] 25)) := (Below.refl _ _).alloc (Nat.le_refl _) _
  have Bf := aa (heap_alloc_new w3 (.cells #[.slice (some ⟨g, 0, none⟩) m c] 25))
  have hz3 := HB3.out.size
  have bU := aa (HB3.out.more (But.of_below hba))
  have EC := aa (ql.out.below hba)
  have Oj := aa (ED.out.keep (But.of_below hba) (X := fun _ => False) id (fun _ _ h => h))
  have aa1 := aa (aav.out.but (X := fun _ => False) (But.of_below hba) id)
  have vJ : Hid (g < w3.heap.size ∧ g ≠ b ∧ ∀ x, I x → b < x ∧ w2.heap.size ≤ x ∧ x < w3.heap.size) := ⟨ED.out.gW, by have := HQ.out.2.2.2.1; have := HZ2.out; omega, HQ.out.2.1⟩
  obtain ⟨x5, hx5⟩ : ∃ g, w3.heap.size = g := ⟨_, rfl⟩
  have HZ3 : Hid (w2.heap.size ≤ x5) := by show _ ≤ _; omega
  rw [hx5] at Bf vJ
  simp only [hx5]
  clear hx5 ql HB3 ED aav hba hz3
  generalize w3.alloc (.cells #[.slice (some ⟨g, 0, none⟩) m c] 25) = w4 at *
  have z8 : Hid (x5 < w4.heap.size ∧ w.heap.size ≤ w4.heap.size) := ⟨(Array.getElem?_eq_some_iff.1 Bf.out).1, by have := HB2.out.size; have := bU.out.size; omega⟩
  have z5 := ah Bf.out 0
  have ab4 : ∀ j, j < n → ∃ blk off, ao = some ⟨blk, off, none⟩ ∧ blk < w4.heap.size := fun j hj => by
    obtain ⟨blk, off, h1, h2⟩ := Aa.out j hj
    exact ⟨blk, off, h1, Nat.lt_of_lt_of_le h2 z8.out.2⟩
  have abM := aa ab4
  clear ab4
  go_wp2_with fail
  refine (ZJ b ao n cap (0 + 66) w4 g m c hn (by omega) EC.out abM.out aa1.out (by have := vJ.out.1; have := z8.out.1; omega) vJ.out.2.1 hm1 OG).mono ?_
  rintro e w5 ⟨did, dv, V, ys, rfl, hdl, DL, hsv, hs5, hb5⟩
  have Ak := hb5.size
  have eG := aa (bU.out.more hb5)
  have Yd := aa (Oj.out.keep hb5 vJ.out.2.1 (fun x hx e => by have := vJ.out.2.2 x hx; omega))
  have vP := aa (hb5.blk Bf.out (fun e => by have := HZ3.out; have := HZ2.out; omega))
  have HD5 := aa DL
  have Ny := aa hsv
  have Y0 := aa hs5
  clear DL hsv hs5 hb5 z5 EC bU Oj Bf aa1
  go_wp2_with fail
  refine (MU b ao n cap (0 + 66 + 2000) w5 w4.heap.size did dv V ys hn (by omega) Y0.out abM.out Ak HD5.out Ny.out hdl).mono ?_
  rintro e w6 ⟨kV, av, cv, V', ys', rfl, acz, abf, acT, hs6, hb6⟩
  have Ad := hb6.size
  have sJ : Hid (∀ x, x < w4.heap.size → x ≠ b → w6.heap[x]? = w5.heap[x]?) := fun x hx hb => hb6.block x (by omega) (fun e => e.elim hb (fun e => by omega))
  have fu : Hid (But (fun x => x = b ∨ w4.heap.size ≤ x) w2 w6) := (eG.out.mono fun _ _ e => Or.inl e).more hb6
  have HL6 := aa (Yd.out.keep hb6 (fun e => e.elim vJ.out.2.1 (fun e => by have := vJ.out.1; have := z8.out.1; omega)) (fun x hx e => by have := vJ.out.2.2 x hx; have := z8.out.1; omega))
  have uj : Hid (w6.heap[x5]? = _) := (sJ.out x5 z8.out.1 (by have := HZ3.out; have := HZ2.out; omega)).trans vP.out
  have HS6 := aa hs6
  have HDv := aa abf
  have IC := aa acT
  have Oh : Hid (w4.heap.size ≤ w6.heap.size) := by show _ ≤ _; omega
  clear abf acT hs6 hb6 Y0 eG Yd vP HD5 Ny sJ Ak Ad
  obtain ⟨NV, BO⟩ : ∃ N, V'.length = N := ⟨_, rfl⟩
  have wU := aa BO
  rw [BO] at HDv ⊢
  clear BO
  go_upto_region 4 with fail
  have hba : Below w6.heap.size w6 (w6.alloc (.cells #[.string ⟨kV.toArray⟩, .slice av NV cv] 28)) := (Below.refl _ _).alloc (Nat.le_refl _) _
  have HY7 := aa (heap_alloc_new w6 (.cells #[.string ⟨kV.toArray⟩, .slice av NV cv] 28))
  have Hw := aa (aD uj.out hba)
  have gF := aa (fu.out.more (But.of_below hba))
  have Z6 := aa (HS6.out.below hba)
  have U1 := aa (HL6.out.keep (But.of_below hba) (X := fun _ => False) id (fun _ _ h => h))
  have acQ := aa (HDv.out.keep (gM.below hba))
  obtain ⟨x6, hx6⟩ : ∃ g, w6.heap.size = g := ⟨_, rfl⟩
  rw [hx6] at HY7 Oh
  simp only [hx6]
  clear hx6 hba uj fu HS6 HL6 HDv
  generalize w6.alloc (.cells #[.string ⟨kV.toArray⟩, .slice av NV cv] 28) = w7 at *
  go_upto_if 17 with (go_at_call 19; refine (pK Z6.out hn (by omega) 12 (by omega) (by omega)).mono ?_; rintro e w8 ⟨x, rfl, Ux, dY⟩)
  have acA : x5 ≠ b := by have := HZ3.out; have := HZ2.out; omega
  have abh : x6 ≠ b := by have := Oh.out; have := z8.out; have := HZ3.out; have := HZ2.out; omega
  have K7 := aa (dY.blk HY7.out abh)
  have Ce := aa (dY.blk Hw.out acA)
  have jJ := aa (gF.out.more (dY.mono fun _ _ e => Or.inl e))
  have YR := aa (U1.out.keep dY vJ.out.2.1 (fun x hx e => by have := vJ.out.2.2 x hx; omega))
  have aal := aa (acQ.out.keep (Z6.out.keepD dY))
  have Lu := aa Ux
  have NN : Hid (w8.heap[r1]? = some (.cells #[.slice none 0 0] 25) ∧ w8.heap[r2]? = some (.cells #[.string ⟨#[]⟩, .slice none 0 0] 28)) := by
    have h1 := yz.out
    have h2 := HZ2.out
    have h3 := HZ3.out
    have h4 := z8.out
    exact ⟨jJ.out.blk iw.out.1 (fun e => by omega), jJ.out.blk iw.out.2 (fun e => by omega)⟩
  have YG : Hid (Below w.heap.size w w8) := HB2.out.trans (jJ.out.below HB2.out.size (fun i hi e => by have := yz.out; have := z8.out; omega))
  clear Ux dY HY7 Hw gF U1 acQ Z6
  go_cut [] (fun wy => ZY w r1 r2 x5 x6 wy)
  case first =>
    cases x with
    | false =>
      have HE : Hid (ZY w r1 r2 x5 x6 w8) := by
        refine ⟨_, m, c, l, kV, av, cv, NV, V', Ce.out, K7.out, NN.out.1, NN.out.2, HQ.out.1, wU.out, OG, YR.out.sz, acz, IC.out, YG.out, fun W' hb => ⟨(YR.out.keep hb (fun e => ?_) (fun x hx e => ?_)).hold, ?_⟩⟩
        · have := yz.out; have := HQ.out.2.2.2.1; have := HZ2.out; omega
        · have := yz.out; have := vJ.out.2.2 x hx; omega
        · have hk := aal.out.keep (xy hb (fun x hx => by
            rcases hx with rfl | rfl
            · exact ⟨_, _, NN.out.1, by decide, by decide, by decide⟩
            · exact ⟨_, _, NN.out.2, by decide, by decide, by decide⟩))
          rw [← wU.out] at hk
          exact hk.hold.2
      go_wp2_with fail
      go_meet
      case rel => exact HE.out
    | true =>
      have z5 := ah Ce.out 0
      go_wp2_with fail
      refine (F7 b ao n cap (0 + 66 + 2000 + 200 + 3) w8 g m c I l hn (by omega) Lu.out (fun j hj => by
        obtain ⟨blk, off, h1, h2⟩ := Aa.out j hj
        exact ⟨blk, off, h1, Nat.lt_of_lt_of_le h2 YG.out.size, by have := HQ.out.2.2.2.1; have := HB2.out.size; omega⟩) YR.out HQ.out.1 hm1 (fun x hx => by have := vJ.out.2.2 x hx; have := (Array.getElem?_eq_some_iff.1 Ce.out).1; omega) (fun e => vJ.out.2.1 e.symm) HQ.out.2.2.1 HQ.out.2.2.2.2).mono ?_
      rintro e w9 ⟨a5, m5, c5, l5, rfl, e1, e2, e3, e4, e5, e6⟩
      have hg5 : g < x5 := vJ.out.1
      have afd : x6 ≠ x5 := by have := Oh.out; have := z8.out; omega
      have Uh := e5.blk Ce.out (fun e => e.elim acA (fun e => by omega))
      have h9y := e5.blk K7.out (fun e => e.elim abh (fun e => by have := Oh.out; have := z8.out; omega))
      have hGb := yz.out
      have hgb := HQ.out.2.2.2.1
      have hZ2 := HZ2.out
      have hZ3 := HZ3.out
      have Wz := e5.blk NN.out.1 (fun e => by omega)
      have Xb := e5.blk NN.out.2 (fun e => by omega)
      have h8x := (Array.getElem?_eq_some_iff.1 Ce.out).1
      have z9 := ah Uh 0
      have f9 := aC Uh 0
      have hbs : But (fun x => x = x5) w9 (w9.setCell ⟨x5, 0, none⟩ (.slice a5 m5 c5)) := (But.refl (fun x => x = x5) w9).set x5 0 _ rfl
      have HE : Hid (ZY w r1 r2 x5 x6 (w9.setCell ⟨x5, 0, none⟩ (.slice a5 m5 c5))) := by
        refine ⟨a5, m5, c5, l5, kV, av, cv, NV, V', aV Uh 0 _, hbs.blk h9y afd, hbs.blk Wz (by omega), hbs.blk Xb (by omega), e1, wU.out, e2, e3, acz, IC.out, YG.out.trans ((e5.below YG.out.size (fun i hi e => by have := HB2.out.size; omega)).setCell (p := ⟨x5, 0, none⟩) (by have := HB2.out.size; show w.heap.size ≤ x5; omega) _), fun W' hb => ⟨e6 (fun x => x = x5 ∨ x = r1 ∨ x = r2) W' ((hbs.mono fun _ _ e => Or.inl e).more (hb.mono fun _ _ e => Or.inr e)) (fun e => by omega) (fun x hx => ⟨fun hi => by have := vJ.out.2.2 x hi; omega, by omega⟩), ?_⟩⟩
        have hk := (aal.out.keep (xy e5 (fun x hx => by
          rcases hx with rfl | rfl
          · exact Lu.out.blk
          · obtain ⟨cs, h1, _⟩ := YR.out.blk
            exact ⟨_, _, h1, by decide, by decide, by decide⟩))).keep ((xy hbs (fun x hx => by
          subst hx
          exact ⟨_, _, Uh, by decide, by decide, by decide⟩)).trans (xy hb (fun x hx => by
            rcases hx with rfl | rfl
            · exact ⟨_, _, hbs.blk Wz (by omega), by decide, by decide, by decide⟩
            · exact ⟨_, _, hbs.blk Xb (by omega), by decide, by decide, by decide⟩)))
        rw [← wU.out] at hk
        exact hk.hold.2
      clear e1 e2 e3 e4 e5 e6 h9y Wz Xb hbs z5 h8x Uh
      go_wp2_with fail
      go_meet
      case rel => exact HE.out
  case rest =>
    obtain ⟨a, m', c', l', id, Bw, cv', Dq, V2, e1, e2, e3, e4, e5, e5', e6, e7, e8, e9, ea, eb⟩ := hcut
    have hr := HR.out
    go_wp2_with fail
    refine wp_region_held (S := fun W => W.heap[x5]? = some (.cells #[.slice a m' c'] 25) ∧ W.heap[x6]? = some (.cells #[.string ⟨id.toArray⟩, .slice Bw Dq cv'] 28)) (by kernel_rfl) ?_
    have hbd : Below wc.heap.size wc ({ heap := wc.heap, tape := wc.tape, drawn := wc.drawn + 1, os := wc.os, output := wc.output } : World) := (Below.refl _ _).drew
    have eb' := fun W' hW => eb W' ((But.of_below hbd (X := fun x => x = r1 ∨ x = r2)).more hW)
    have rJ := aD e1 hbd
    have e2' := aD e2 hbd
    have e3' := aD e3 hbd
    have e4' := aD e4 hbd
    have ea' := ea.trans (hbd.mono ea.size)
    clear e1 e2 e3 e4 ea eb
    generalize ({ heap := wc.heap, tape := wc.tape, drawn := wc.drawn + 1, os := wc.os, output := wc.output } : World) = wd at *
    clear hbd
    have n51 : x5 ≠ r1 := by have := yz.out; have := HZ2.out; have := HZ3.out; omega
    have n61 : x6 ≠ r1 := by have := yz.out; have := HZ2.out; have := HZ3.out; have := z8.out; have := Oh.out; omega
    have n52 : x5 ≠ r2 := by have := yz.out; have := HZ2.out; have := HZ3.out; omega
    have n62 : x6 ≠ r2 := by have := yz.out; have := HZ2.out; have := HZ3.out; have := z8.out; have := Oh.out; omega
    have hS1 : wd.heap[x5]? = _ ∧ wd.heap[x6]? = _ := ⟨rJ, e2'⟩
    try refine tn ?_
    refine tx 0 ?_ (v := .agg #[.slice a m' c']) (hx := fun u hu => tJ u _ _ _ rfl x5 _ (by kernel_rfl) hu.1)
    refine tx 1 ?_ (v := .agg #[.string ⟨id.toArray⟩, .slice Bw Dq cv']) (hx := fun u hu => tY u _ _ _ rfl x6 _ _ (by kernel_rfl) hu.2)
    have hS2 : (wd.setCell ⟨r1, 0, none⟩ (.slice a m' c')).heap[x5]? = _ ∧ (wd.setCell ⟨r1, 0, none⟩ (.slice a m' c')).heap[x6]? = _ := ⟨(au _ _ _ _ _ n51).trans rJ, (au _ _ _ _ _ n61).trans e2'⟩
    have e4s : (wd.setCell ⟨r1, 0, none⟩ (.slice a m' c')).heap[r2]? = _ := (au _ _ _ _ _ (Ne.symm hr.2.2)).trans e4'
    refine t1s 2 (SV _ _ _ _ _ rfl r1 _ a m' c' (by kernel_rfl) (by kernel_rfl) e3') ?_ (hS := hS2)
    have Au : ((((wd.setCell ⟨r1, 0, none⟩ (.slice a m' c')).setCell ⟨r2, 0, none⟩ (.string ⟨id.toArray⟩)).setCell ⟨r2, 1, none⟩ (.slice Bw Dq cv'))).heap[x5]? = _ ∧ (((wd.setCell ⟨r1, 0, none⟩ (.slice a m' c')).setCell ⟨r2, 0, none⟩ (.string ⟨id.toArray⟩)).setCell ⟨r2, 1, none⟩ (.slice Bw Dq cv')).heap[x6]? = _ := ⟨(au _ _ _ _ _ n52).trans ((au _ _ _ _ _ n52).trans hS2.1), (au _ _ _ _ _ n62).trans ((au _ _ _ _ _ n62).trans hS2.2)⟩
    refine t1s 3 (Ub _ _ _ _ _ rfl r2 _ _ _ _ _ _ (by kernel_rfl) (by kernel_rfl) e4s) ?_ (hS := Au)
    refine wpAnyH_done (by kernel_rfl) ?_ _
    have hb1 : But (fun x => x = r1 ∨ x = r2) wd (((wd.setCell ⟨r1, 0, none⟩ (.slice a m' c')).setCell ⟨r2, 0, none⟩ (.string ⟨id.toArray⟩)).setCell ⟨r2, 1, none⟩ (.slice Bw Dq cv')) := (((But.refl (fun x => x = r1 ∨ x = r2) wd).set r1 0 _ (Or.inl rfl)).set r2 0 _ (Or.inr rfl)).set r2 1 _ (Or.inr rfl)
    have hq := eb' _ hb1
    have hea := ((ea'.setCell (p := ⟨r1, 0, none⟩) hr.1 (.slice a m' c')).setCell (p := ⟨r2, 0, none⟩) hr.2.1 (.string ⟨id.toArray⟩)).setCell (p := ⟨r2, 1, none⟩) hr.2.1 (.slice Bw Dq cv')
    have k1 := (au _ r2 1 (.slice Bw Dq cv') r1 hr.2.2).trans ((au _ r2 0 (.string ⟨id.toArray⟩) r1 hr.2.2).trans (aV e3' 0 (.slice a m' c')))
    have k2 := nV (x := .string ⟨id.toArray⟩) (y := .slice Bw Dq cv') e4s
    clear hb1 hS1 hS2 Au e4s rJ e2' e3' e4' eb' ea'
    generalize ((wd.setCell ⟨r1, 0, none⟩ (.slice a m' c')).setCell ⟨r2, 0, none⟩ (.string ⟨id.toArray⟩)).setCell ⟨r2, 1, none⟩ (.slice Bw Dq cv') = we at *
    have z1 := ah k1 0
    have z2 := ah k2 0
    have z3 := ah k2 1
    go_wp2_with fail
    refine bodyPost_ret (v := .tuple #[.agg #[.slice a m' c'], .agg #[.string ⟨id.toArray⟩, .slice Bw Dq cv']]) (by simp [results, Tryz.results4, go_sem, *]) rfl ?_
    subst e5'
    exact ⟨a, m', c', l', id, Bw, cv', V2, rfl, e5, e6, e7, hq.1, e8, e9, hq.2, hea⟩
theorem Km {d:Dc} {k:Nat}(hk:k<d.2.length)(h:iU (d.2.getD k aQ)=false) :iT d=false:=by unfold iT;rw[ou iU d.2 aQ hk h];simp
theorem Jb(id:List UInt8)(a:Option Addr)(c:Nat)(V:List Vl)(w:World)(hn:V.length≤1048576)(hT: ∀i,(V.getD i aQ).2.1.length≤1048576∧(V.getD i aQ).2.2.length≤1048576)(h:gK w a V) :Calls Tryz.prog 25 #[.agg #[.string ⟨id.toArray⟩,.slice a V.length c]] w fun e w'=>e= .returned (.bool (iT (id,V)))∧Below w.heap.size w w':=by
 have HV:=aa h;have HT:=aa hT;clear h hT;have ax:=aa ((Below.refl w.heap.size w).alloc (Nat.le_refl _) (.cells #[.string ⟨id.toArray⟩,.slice a V.length c] 28));have HX:=aa (heap_alloc_new w (.cells #[.string ⟨id.toArray⟩,.slice a V.length c] 28));have hsl:(⟨id.toArray⟩ :ByteArray).size=id.length:=by rw[Lib.size_eq]
 go_enter Tryz.func25,Tryz.ntmps25;go_upto_region 1 with fail;obtain⟨wa,bN⟩ : ∃wa,w.alloc (.cells #[.string ⟨id.toArray⟩,.slice a V.length c] 28)=wa:=⟨_,rfl⟩;rw[bN]at ax HX;try rw[bN]
 clear bN;have x0:=ah HX.out 0;have x1:=ah HX.out 1;by_cases hid:65536<id.length
 ·have WE:(id.length:Int)>65536:=by omega
  have HO:Hid (iT (id,V)=false) :=by show _=_;unfold iT;rw[decide_eq_false (by dsimp only;omega)];rfl
  go_wp2_with fail;go_ret;exact⟨by rw[HO.out];rfl,ax.out⟩
 have WE: ¬(id.length:Int)>65536:=by omega
 by_cases En:4096<V.length
 ·have Yx:(V.length:Int)>4096:=by omega
  have HO:Hid (iT (id,V)=false) :=by show _=_;unfold iT;rw[decide_eq_false (by dsimp only;omega)];rfl
  go_wp2_with fail;go_ret;exact⟨by rw[HO.out];rfl,ax.out⟩
 have Yx: ¬(V.length:Int)>4096:=by omega
 clear x0 x1;have x0:=ah HX.out 0;have x1:=ah HX.out 1;go_wp2_with fail;go_loopw [3](fun iv wr=>∃i:Nat,i≤V.length∧iv= .int .i64 (i:Int)∧(V.take i).all iU=true∧Below wa.heap.size wa wr)(fun iv _=>V.length-(intOf iv).toNat);case atStart=>exact⟨0,Nat.zero_le _,rfl,by simp,Below.refl _ _⟩
 case round=>
  obtain⟨i,hi,rfl,hall,hbel⟩ :=hrel;clear x0 x1;have jI:=aa (aD HX.out hbel);have x0:=ah jI.out 0;have x1:=ah jI.out 1;have HB:=aa hbel;have oQ:=aa hall;clear hbel hall;by_cases hlt:i<V.length
  ·have hltz:(i:Int)<(V.length:Int) :=by omega
   obtain⟨b,off,rfl,hb,hc⟩ :=(HV.out.below (ax.out.trans (HB.out.mono ax.out.size))).resolve_left (fun e=>by rw[e]at hlt;simp at hlt);obtain⟨c0,⟨at_,ct,c1,hTx⟩,an,cn,c2,hZ⟩ :=hc i hlt;have yA:=HT.out i;obtain⟨v,hv⟩ : ∃v,V.getD i aQ=v:=⟨_,rfl⟩;rw[hv]at c0 c1 c2 hTx hZ yA;have Hv:=aa hv;obtain⟨f,tx,nz⟩ :=v;dsimp only at c0 c1 c2 hTx hZ yA;have gP:=aa hTx;have HZ:=aa hZ;clear hc hTx hZ hv;have hfl:(⟨f.toArray⟩ :ByteArray).size=f.length:=by rw[Lib.size_eq]
   have jw:=aa ((Below.refl wr.heap.size wr).alloc (Nat.le_refl _) (.cells #[.string ⟨f.toArray⟩,.slice at_ tx.length ct,.slice an nz.length cn] 43));have kW:=aa (heap_alloc_new wr (.cells #[.string ⟨f.toArray⟩,.slice at_ tx.length ct,.slice an nz.length cn] 43));have fB:Hid (iU (f,tx,nz)=false→iT (id,V)=false) :=fun h=>Km (d:=(id,V)) hlt (by show iU (V.getD i aQ)=false;rw[Hv.out];exact h);go_upto_region 7 with fail;obtain⟨wv,hwv⟩ : ∃wv,wr.alloc (.cells #[.string ⟨f.toArray⟩,.slice at_ tx.length ct,.slice an nz.length cn] 43)=wv:=⟨_,rfl⟩;rw[hwv]at jw kW;try rw[hwv]
   clear hwv c0 c1 c2 x0 x1;have o6:=aa (ax.out.trans ((HB.out.trans (jw.out.mono HB.out.size)).mono ax.out.size));have v0:=ah kW.out 0;have v1:=ah kW.out 1;have v2:=ah kW.out 2;by_cases hf:65536<f.length
   ·have hfz:(f.length:Int)>65536:=by omega
    have HO:=aa (fB.out (by unfold iU;rw[decide_eq_false (by dsimp only;omega)];rfl));go_wp2_with fail;go_ret;exact⟨by rw[HO.out];rfl,o6.out⟩
   have hfz: ¬(f.length:Int)>65536:=by omega
   by_cases ht:4096<tx.length
   ·have htz:(tx.length:Int)>4096:=by omega
    have HO:=aa (fB.out (by unfold iU;rw[decide_eq_false (by dsimp only;omega)];rfl));go_wp2_with fail;go_ret;exact⟨by rw[HO.out];rfl,o6.out⟩
   have htz: ¬(tx.length:Int)>4096:=by omega
   by_cases hz:4096<nz.length
   ·have hzz:(nz.length:Int)>4096:=by omega
    have HO:=aa (fB.out (by unfold iU;rw[decide_eq_false (by dsimp only;omega)];rfl));go_wp2_with fail;go_ret;exact⟨by rw[HO.out];rfl,o6.out⟩
   have hzz: ¬(nz.length:Int)>4096:=by omega
   have HD:Hid (iU (f,tx,nz)=(tx.all mF&&nz.all dU)) :=by show _=_;unfold iU;rw[decide_eq_true (by dsimp only;omega)];rfl
   go_wp2_with fail;go_loopw [5](fun kv wr=>∃k:Nat,k≤tx.length∧kv= .int .i64 (k:Int)∧(tx.take k).all mF=true∧wr=wv)(fun kv _=>tx.length-(intOf kv).toNat);case atStart=>exact⟨0,Nat.zero_le _,rfl,by simp,rfl⟩
   case round=>
    obtain⟨k,hk,rfl,hal,jU⟩ :=hrel;have kg:=jU.symm;subst kg;clear jU;have r9:=aa hal;clear hal;by_cases hkt:k<tx.length
    ·have zn:(k:Int)<(tx.length:Int) :=by omega
     obtain⟨bt,ot,rfl,hbt,hct⟩ :=(gP.out.below jw.out).resolve_left (fun e=>by rw[e]at hkt;simp at hkt);have t1:=hct k hkt;obtain⟨ti,hti⟩ : ∃ti,tx.getD k []=ti:=⟨_,rfl⟩;rw[hti]at t1;have Tx:=aa hti;have htl:(⟨ti.toArray⟩ :ByteArray).size=ti.length:=by rw[Lib.size_eq]
     clear hti hct;by_cases hlong:65536<ti.length
     ·have hlz:(ti.length:Int)>65536:=by omega
      have HO:=aa (fB.out (by rw[HD.out,ou mF tx [] hkt (by rw[Tx.out];unfold mF;exact decide_eq_false (by omega))];rfl));go_wp2_with fail;go_ret;exact⟨by rw[HO.out];rfl,o6.out⟩
     ·have hlz: ¬(ti.length:Int)>65536:=by omega
      have HA2:=aa (nW mF tx [] hkt r9.out (by rw[Tx.out];unfold mF;exact decide_eq_true (by omega)));go_wp2_with fail;go_roundw;case rel=>exact⟨k+1,by omega,by go_num,HA2.out,by first|trivial|rfl⟩
      case measure=>simp[intOf];omega
    ·have zn: ¬(k:Int)<(tx.length:Int) :=by omega
     have um:Hid (tx.all mF=true) :=by show _=_;have:=r9.out;rwa [show k=tx.length by omega,List.take_length]at this
     go_wp2_with fail;go_loopw [6](fun kv wr=>∃k:Nat,k≤nz.length∧kv= .int .i64 (k:Int)∧(nz.take k).all dU=true∧wr=wv)(fun kv _=>nz.length-(intOf kv).toNat);case atStart=>exact⟨0,Nat.zero_le _,rfl,by simp,rfl⟩
     case round=>
      obtain⟨j,hj,rfl,xW,acD⟩ :=hrel;have kg:=acD.symm;subst kg;clear acD;have abH:=aa xW;clear xW;by_cases hjt:j<nz.length
      ·have J8:(j:Int)<(nz.length:Int) :=by omega
       obtain⟨bn,on,rfl,hbn,hcn⟩ :=(HZ.out.below jw.out).resolve_left (fun e=>by rw[e]at hjt;simp at hjt);have t1:=hcn j hjt;obtain⟨z,hz'⟩ : ∃z,nz.getD j 0=z:=⟨_,rfl⟩;rw[hz']at t1;have Hz:=aa hz';clear hz' hcn;by_cases hz1:z< -1000000000000;·have HO:=aa (fB.out (by rw[HD.out,ou dU nz 0 hjt (by rw[Hz.out];unfold dU;exact decide_eq_false (by omega))];simp));go_wp2_with fail;go_ret;exact⟨by rw[HO.out];rfl,o6.out⟩
       ·by_cases hz2:z>1000000000000;·have HO:=aa (fB.out (by rw[HD.out,ou dU nz 0 hjt (by rw[Hz.out];unfold dU;exact decide_eq_false (by omega))];simp));go_wp2_with fail;go_ret;exact⟨by rw[HO.out];rfl,o6.out⟩
        ·have HA2:=aa (nW dU nz 0 hjt abH.out (by rw[Hz.out];unfold dU;exact decide_eq_true (by omega)));go_wp2_with fail;go_roundw;case rel=>exact⟨j+1,by omega,by go_num,HA2.out,by first|trivial|rfl⟩
         case measure=>simp[intOf];omega
      ·have J8: ¬(j:Int)<(nz.length:Int) :=by omega
       have Vb:Hid (nz.all dU=true) :=by show _=_;have:=abH.out;rwa [show j=nz.length by omega,List.take_length]at this
       have HA3:=aa (nW iU V aQ hlt oQ.out (by rw[Hv.out,HD.out,um.out,Vb.out];rfl));go_wp2_with fail;go_roundw;case rel=>exact⟨i+1,by omega,by go_num,HA3.out,HB.out.trans (jw.out.mono HB.out.size)⟩
       case measure=>simp[intOf];omega
  ·have hltz: ¬(i:Int)<(V.length:Int) :=by omega
   have HO:Hid (iT (id,V)=true) :=by show _=_;have:=oQ.out;rw[show i=V.length by omega,List.take_length]at this;unfold iT;rw[decide_eq_true (by dsimp only;omega),this];rfl
   go_wp2_with fail;go_ret;exact⟨by rw[HO.out];rfl,ax.out.trans (HB.out.mono ax.out.size)⟩
end Go.Proofs.YtcjiphknpagenaaGreatDoor
