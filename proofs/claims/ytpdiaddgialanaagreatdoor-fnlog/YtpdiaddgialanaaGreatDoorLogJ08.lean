import Derived.Test.YtpdiaddgialanaaGreatDoorLogJ06
import Derived.Test.YtpdiaddgialanaaGreatDoorLogJ07
namespace Go.Proofs.YtpdiaddgialanaaGreatDoor
open Go Go.RowKit
set_option linter.unusedVariables false
set_option linter.unusedSimpArgs false
set_option maxRecDepth 100000

/-! A document is drawn. -/
def SmV (V : List Vl) : Prop := V.length ≤ 5 ∧ ∀ x ∈ V, x.1.length ≤ 8 ∧ x.2.1.length ≤ 2 ∧ (∀ t ∈ x.2.1, t.length ≤ 1000) ∧ x.2.2.length ≤ 2
def DrawnD (w : World) (b : Nat) (ao : Option Addr) (n cap : Nat) (A : Int) (e : Ending) (w' : World) : Prop :=
  ∃ (did : List UInt8) (dv : Value) (V : List Vl) (ys : List Value), e = .returned (.agg #[.string ⟨did.toArray⟩, dv]) ∧ did.length ≤ 3 ∧ DocO w' w.heap.size dv V ys ∧ SmV V ∧ Sx b ao n cap w' A ∧ But (fun x => x = b) w w'
theorem byte_two (c : UInt8) : (⟨#[100]⟩ : ByteArray) ++ ⟨#[c]⟩ = ⟨([100, c] : List UInt8).toArray⟩ := rfl
theorem cat_one (l : List UInt8) (c : UInt8) : (⟨l.toArray⟩ : ByteArray) ++ ⟨#[c]⟩ = ⟨(l ++ [c]).toArray⟩ := by
  apply ByteArray.ext
  simp
theorem byte_gen (x : Nat) (k : Int) (hk : 0 ≤ k) (hx : k + (x : Int) ≤ 255) (u : World) : (convert 22 9 (.slice (some ⟨u.heap.size, 0, none⟩) 1 1)).run Tryz.prog (u.alloc (.cells #[.int .u8 (k + (x : Int))] 5)) = .ok (.string ⟨#[UInt8.ofNat (k + (x : Int)).toNat]⟩) (u.alloc (.cells #[.int .u8 (k + (x : Int))] 5)) := byte_text _ _ _ _ (by omega) (by omega) (by simp)
theorem col_at {W : World} {q : Nat} (y : Nat) (hy : y < 5) (h : W.heap[q]? = some (.cells #[.string ⟨#[114, 101, 100]⟩, .string ⟨#[103, 114, 101, 101, 110]⟩, .string ⟨#[98, 108, 117, 101]⟩, .string ⟨#[82, 101, 100]⟩, .string ⟨#[97, 32, 98]⟩] 9)) : ∃ tl : List UInt8, tl.length ≤ 5 ∧ W.cell? ⟨q, y, none⟩ = some (.string ⟨tl.toArray⟩) := by
  rcases (by omega : y = 0 ∨ y = 1 ∨ y = 2 ∨ y = 3 ∨ y = 4) with rfl | rfl | rfl | rfl | rfl
  · exact ⟨[114, 101, 100], by decide, blkc h 0⟩
  · exact ⟨[103, 114, 101, 101, 110], by decide, blkc h 1⟩
  · exact ⟨[98, 108, 117, 101], by decide, blkc h 2⟩
  · exact ⟨[82, 101, 100], by decide, blkc h 3⟩
  · exact ⟨[97, 32, 98], by decide, blkc h 4⟩
theorem snoc_le {T : List (List UInt8)} {x : List UInt8} (h : ∀ t ∈ T, t.length ≤ 1000) (hx : x.length ≤ 1000) : ∀ t ∈ T ++ [x], t.length ≤ 1000 := fun t ht => by
  rcases List.mem_append.1 ht with ht | ht
  · exact h t ht
  · rw [List.mem_singleton.1 ht]; exact hx
theorem DocO.apart {Wo W : World} {base e1 e2 n1 n2 : Nat} {dv tv nv : Value} {V : List Vl} {ys xs1 xs2 : List Value} (h : DocO Wo base dv V ys) (ht : W.ownsRow Wo.heap.size e1 1 tv n1 xs1) (hz : W.ownsRow Wo.heap.size e2 1 nv n2 xs2) :
    ∀ i, i < V.length → (Apt ys[i * 3 + 1]? (some tv) ∧ Apt (some tv) ys[i * 3 + 1]?) ∧ Apt ys[i * 3 + 2]? (some nv) ∧ Apt (some nv) ys[i * 3 + 2]? := fun i hi => by
  obtain ⟨_, ⟨v1, q1, q2⟩, v2, q3, q4⟩ := h.val i hi
  have k1 : ∀ x, v1.ownBlock = some x → tv.ownBlock = some x → False := fun x h1 h2 => by have := own_ltL q2 h1; have := (own_blk ht h2).1; omega
  have k2 : ∀ x, v2.ownBlock = some x → nv.ownBlock = some x → False := fun x h1 h2 => by have := own_ltL q4 h1; have := (own_blk hz h2).1; omega
  rw [q1, q3]
  refine ⟨⟨fun a b x ha hb h1 h2 => ?_, fun a b x ha hb h1 h2 => ?_⟩, fun a b x ha hb h1 h2 => ?_, fun a b x ha hb h1 h2 => ?_⟩
  · cases ha; cases hb; exact k1 x h1 h2
  · cases ha; cases hb; exact k1 x h2 h1
  · cases ha; cases hb; exact k2 x h1 h2
  · cases ha; cases hb; exact k2 x h2 h1
def SmX (x : Vl) : Prop := x.1.length ≤ 8 ∧ x.2.1.length ≤ 2 ∧ (∀ t ∈ x.2.1, t.length ≤ 1000) ∧ x.2.2.length ≤ 2
set_option maxHeartbeats 16000000 in
theorem doc_any (b : Nat) (ao : Option Addr) (n cap : Nat) (A : Int) (w : World) (g m c : Nat) (hn : n ≤ 1048576) (hA : A ≤ 100000) (hs : Sx b ao n cap w A) (hcb : ∀ j, j < n → ∃ blk off, ao = some ⟨blk, off, none⟩ ∧ blk < w.heap.size) (hsch : SchAt w g) (hg : g < w.heap.size) (hgb : g ≠ b) (hm1 : 1 ≤ m) (hm : m ≤ 5) :
    Calls Tryz.prog 31 #[.pointer (some ⟨b, 0, none⟩), .agg #[.slice (some ⟨g, 0, none⟩) m c]] w (DrawnD w b ao n cap (A + 2000)) := by
  obtain ⟨i0, hi0, hz0, hz1, hz2⟩ := info_parts Tryz.infoValL
  have HS := hidd hs
  have HC := hidd hcb
  have HSch := hidd hsch
  have HGl := hidd hg
  have HGb := hidd hgb
  have hlt := hs.lt
  clear hs hcb hsch hg hgb
  go_enter Tryz.func31, Tryz.ntmps31
  go_upto_region 1 with fail
  have HB1 : Hid (Below w.heap.size w ((w.alloc (.cells #[.slice (some ⟨g, 0, none⟩) m c] 84)).alloc (.cells #[.string ⟨#[]⟩, .slice none 0 0] 26))) := ((Below.refl _ _).alloc (Nat.le_refl _) _).alloc (by simp) _
  have HX1 : Hid (((w.alloc (.cells #[.slice (some ⟨g, 0, none⟩) m c] 84)).alloc (.cells #[.string ⟨#[]⟩, .slice none 0 0] 26)).heap[w.heap.size]? = some (.cells #[.slice (some ⟨g, 0, none⟩) m c] 84)) := (Below.heap_alloc _ _ _ (by simp)).trans (heap_alloc_new w _)
  have HX2 : Hid (((w.alloc (.cells #[.slice (some ⟨g, 0, none⟩) m c] 84)).alloc (.cells #[.string ⟨#[]⟩, .slice none 0 0] 26)).heap[w.heap.size + 1]? = some (.cells #[.string ⟨#[]⟩, .slice none 0 0] 26)) := by
    have := heap_alloc_new (w.alloc (.cells #[.slice (some ⟨g, 0, none⟩) m c] 84)) (.cells #[.string ⟨#[]⟩, .slice none 0 0] 26)
    simpa [Hid] using this
  obtain ⟨gs, hgs⟩ : ∃ g, w.heap.size = g := ⟨_, rfl⟩
  obtain ⟨g4, hg4⟩ : ∃ g, w.heap.size + 1 = g := ⟨_, rfl⟩
  have HG : Hid (w.heap.size ≤ gs ∧ w.heap.size ≤ g4) := ⟨by omega, by omega⟩
  rw [hg4] at HX2
  simp only [hg4]
  rw [hgs] at HX1
  simp only [hgs]
  clear hgs hg4
  generalize (w.alloc (.cells #[.slice (some ⟨g, 0, none⟩) m c] 84)).alloc (.cells #[.string ⟨#[]⟩, .slice none 0 0] 26) = w1 at *
  have HS1 := hidd (HS.out.below HB1.out)
  go_wp2_with fail
  refine (nextS HS1.out hn (by omega) 10 (by omega) (by omega)).mono ?_
  rintro e w2 ⟨x, rfl, hx, hs2, hb2⟩
  have HS2 := hidd hs2
  have HB2 := hidd ((But.of_below HB1.out).more hb2)
  have HY1 := hidd (hb2.blk HX1.out (fun e => by have := HG.out.1; omega))
  have HY2 := hidd (hb2.blk HX2.out (fun e => by have := HG.out.2; omega))
  clear hs2 hb2 HS1 HB1 HX1 HX2
  have hcv := byte_gen x 48 (by omega) (by omega) w2
  generalize UInt8.ofNat (48 + (x : Int)).toNat = c0 at *
  go_upto_region 2 with fail
  have hbA : Below w2.heap.size w2 ((w2.alloc (.cells #[.int .u8 (48 + (x : Int))] 5)).alloc (.cells #[.string (⟨#[100]⟩ ++ ⟨#[c0]⟩), .slice none 0 0] 26)) := ((Below.refl _ _).alloc (Nat.le_refl _) _).alloc (by simp) _
  have hX5 : ((w2.alloc (.cells #[.int .u8 (48 + (x : Int))] 5)).alloc (.cells #[.string (⟨#[100]⟩ ++ ⟨#[c0]⟩), .slice none 0 0] 26)).heap[w2.heap.size + 1]? = some (.cells #[.string (⟨#[100]⟩ ++ ⟨#[c0]⟩), .slice none 0 0] 26) := by
    have := heap_alloc_new (w2.alloc (.cells #[.int .u8 (48 + (x : Int))] 5)) (.cells #[.string (⟨#[100]⟩ ++ ⟨#[c0]⟩), .slice none 0 0] 26)
    simpa using this
  rw [byte_two] at hX5
  have hl2 : g4 < w2.heap.size := (Array.getElem?_eq_some_iff.1 HY2.out).1
  have HD0 : Hid (DD w b ao n cap (A + 3) gs g m c g4 (w2.heap.size + 1) [100, c0] (.slice none 0 0) [] [] ((w2.alloc (.cells #[.int .u8 (48 + (x : Int))] 5)).alloc (.cells #[.string (⟨#[100]⟩ ++ ⟨#[c0]⟩), .slice none 0 0] 26))) :=
    ⟨HS2.out.below hbA, HB2.out.more (But.of_below hbA), blko HY1.out hbA, HSch.out.but (HB2.out.more (But.of_below hbA)) HGb.out, blko HY2.out hbA, hX5, DocO.nil _ _, hlt, HGl.out, HGb.out, HG.out.1, HG.out.2, by have := HB2.out.size; omega, by omega, HC.out⟩
  clear hbA hX5 hl2 HS2 HB2 HY1 HY2 hcv
  obtain ⟨g5, hg5⟩ : ∃ g, w2.heap.size + 1 = g := ⟨_, rfl⟩
  rw [hg5] at HD0
  simp only [hg5]
  clear hg5
  generalize (w2.alloc (.cells #[.int .u8 (48 + (x : Int))] 5)).alloc (.cells #[.string (⟨#[100]⟩ ++ ⟨#[c0]⟩), .slice none 0 0] 26) = w3 at *
  obtain ⟨did0, hdd, hdl⟩ : ∃ d : List UInt8, [100, c0] = d ∧ d.length = 2 := ⟨_, rfl, rfl⟩
  rw [hdd] at HD0
  clear hdd
  have hdsz : (⟨did0.toArray⟩ : ByteArray).size ≤ 100 := by rw [Lib.size_eq]; simp; omega
  go_upto_if 18 with (go_at_call 29; refine (chanceS HD0.out.src hn (by omega) 3 (by omega) (by omega)).mono ?_; rintro e w4 ⟨x4, rfl, hs4, hb4⟩)
  have HD1 := hidd (HD0.out.draw hs4 hb4)
  clear hs4 hb4 HD0
  go_cut [] (fun wy => ∃ did, did.length ≤ 3 ∧ DD w b ao n cap (A + 9) gs g m c g4 g5 did (.slice none 0 0) [] [] wy)
  case first =>
    cases x4 with
    | false =>
      go_wp2_with fail
      go_meet
      case rel => exact ⟨did0, by omega, HD1.out.mono (by omega)⟩
    | true =>
      go_upto_region 3 with fail
      refine wp_region_held (S := fun _ => True) (by kernel_rfl) ?_
      have hbd : Below w4.heap.size w4 ({ heap := w4.heap, tape := w4.tape, drawn := w4.drawn + 1, os := w4.os, output := w4.output } : World) := (Below.refl _ _).drew
      generalize ({ heap := w4.heap, tape := w4.tape, drawn := w4.drawn + 1, os := w4.os, output := w4.output } : World) = wd1 at *
      have H2 := hidd (HD1.out.below hbd)
      clear hbd
      try simp only [Act.put, List.getElem_toArray, List.getElem_cons_succ, List.getElem_cons_zero, List.setIfInBounds_toArray, List.set_cons_zero, List.set_cons_succ]
      refine tkX 0 (hS := trivial) (h := ?_)
      try simp only [Act.put, List.getElem_toArray, List.getElem_cons_succ, List.getElem_cons_zero, List.setIfInBounds_toArray, List.set_cons_zero, List.set_cons_succ]
      refine tkX 2 (hS := trivial) (h := ?_)
      try simp only [Act.put, List.getElem_toArray, List.getElem_cons_succ, List.getElem_cons_zero, List.setIfInBounds_toArray, List.set_cons_zero, List.set_cons_succ]
      refine wpAnyH_two 1 3 (by kernel_rfl) ?_ ?_
      · refine wpOp_val _ _ rfl (by kernel_rfl) (exec_ldStr _ _ _ _ rfl g5 0 ⟨did0.toArray⟩ (by kernel_rfl) (blkc H2.out.box 0)) ?_
        refine ⟨trivial, ?_⟩
        try simp only [Act.put, List.getElem_toArray, List.getElem_cons_succ, List.getElem_cons_zero, List.setIfInBounds_toArray, List.set_cons_zero, List.set_cons_succ]
        refine wpAnyH_one 3 (by kernel_rfl) ?_
        refine wpOp_call 14 #[.pointer (some ⟨b, 0, none⟩), .int .i64 4] rfl (by kernel_rfl) (rbx_call2 _ _ _ _ _ _ _ _ rfl _ _ (by kernel_rfl) (by kernel_rfl) (Tryz.call14 _ _)) ?_
        refine (nextS H2.out.src hn (by omega) 4 (by omega) (by omega)).mono ?_
        rintro e' w3 ⟨y, rfl, hy, hsd, hbb⟩
        have H4 := hidd (H2.out.draw hsd hbb)
        clear hsd hbb
        have hwa : IntKind.i64.wrap (97 + (y : Int)) = 97 + (y : Int) := by rw [IntKind.wrap_i64]; omega
        have hwb : IntKind.u8.wrap (97 + (y : Int)) = 97 + (y : Int) := by rw [IntKind.wrap_u8]; omega
        refine ⟨trivial, ?_⟩
        try simp only [Act.put, List.getElem_toArray, List.getElem_cons_succ, List.getElem_cons_zero, List.setIfInBounds_toArray, List.set_cons_zero, List.set_cons_succ]
        refine tkX 4 (v := .int .i64 (97 + (y : Int))) (hS := trivial) (h := ?_)
        try simp only [Act.put, List.getElem_toArray, List.getElem_cons_succ, List.getElem_cons_zero, List.setIfInBounds_toArray, List.set_cons_zero, List.set_cons_succ]
        refine tkX 5 (v := .int .u8 (97 + (y : Int))) (hS := trivial) (h := ?_)
        try simp only [Act.put, List.getElem_toArray, List.getElem_cons_succ, List.getElem_cons_zero, List.setIfInBounds_toArray, List.set_cons_zero, List.set_cons_succ]
        refine wpAnyH_one 6 (by kernel_rfl) ?_
        refine wpOp_val _ _ rfl (by kernel_rfl) (rbx_build _ _ _ _ rfl (97 + (y : Int)) (by kernel_rfl)) ?_
        have hcv := byte_gen y 97 (by omega) (by omega) w3
        have hba : Below w3.heap.size w3 (w3.alloc (.cells #[.int .u8 (97 + (y : Int))] 5)) := (Below.refl _ _).alloc (Nat.le_refl _) _
        have H6 := hidd (H4.out.below hba)
        clear hba
        refine ⟨trivial, ?_⟩
        try simp only [Act.put, List.getElem_toArray, List.getElem_cons_succ, List.getElem_cons_zero, List.setIfInBounds_toArray, List.set_cons_zero, List.set_cons_succ]
        generalize w3.alloc (.cells #[.int .u8 (97 + (y : Int))] 5) = w5 at *
        refine wpAnyH_one 7 (by kernel_rfl) ?_
        refine wpOp_val _ _ rfl (by kernel_rfl) (rt_conv _ _ _ _ rfl _ (by kernel_rfl) _ hcv) ?_
        refine ⟨trivial, ?_⟩
        try simp only [Act.put, List.getElem_toArray, List.getElem_cons_succ, List.getElem_cons_zero, List.setIfInBounds_toArray, List.set_cons_zero, List.set_cons_succ]
        generalize UInt8.ofNat (97 + (y : Int)).toNat = c1 at *
        clear hcv
        refine tkX 8 (v := .string (⟨did0.toArray⟩ ++ ⟨#[c1]⟩)) (hS := trivial) (h := ?_)
        try simp only [Act.put, List.getElem_toArray, List.getElem_cons_succ, List.getElem_cons_zero, List.setIfInBounds_toArray, List.set_cons_zero, List.set_cons_succ]
        refine tkX 9 (hS := trivial) (h := ?_)
        try simp only [Act.put, List.getElem_toArray, List.getElem_cons_succ, List.getElem_cons_zero, List.setIfInBounds_toArray, List.set_cons_zero, List.set_cons_succ]
        refine wpAnyH_one 10 (by kernel_rfl) ?_
        refine wpOp_skip _ rfl (by kernel_rfl) (exec_stStr _ _ _ _ _ rfl g5 0 (⟨did0.toArray⟩ ++ ⟨#[c1]⟩) _ (by kernel_rfl) (by kernel_rfl) (blkc H6.out.box 0) (blkf H6.out.box 0)) ?_
        have HE : Hid (DD w b ao n cap (A + 9) gs g m c g4 g5 (did0 ++ [c1]) (.slice none 0 0) [] [] (w5.setCell ⟨g5, 0, none⟩ (.string (⟨did0.toArray⟩ ++ ⟨#[c1]⟩)))) := by
          rw [cat_one]
          exact (H6.out.setId (did0 ++ [c1])).mono (by omega)
        refine ⟨trivial, ?_⟩
        try simp only [Act.put, List.getElem_toArray, List.getElem_cons_succ, List.getElem_cons_zero, List.setIfInBounds_toArray, List.set_cons_zero, List.set_cons_succ]
        refine wpAnyH_done (by kernel_rfl) ?_ _
        go_wp2_with fail
        go_meet
        case rel => exact ⟨did0 ++ [c1], by simp; omega, HE.out⟩
      · refine wpOp_call 14 #[.pointer (some ⟨b, 0, none⟩), .int .i64 4] rfl (by kernel_rfl) (rbx_call2 _ _ _ _ _ _ _ _ rfl _ _ (by kernel_rfl) (by kernel_rfl) (Tryz.call14 _ _)) ?_
        refine (nextS H2.out.src hn (by omega) 4 (by omega) (by omega)).mono ?_
        rintro e' w8 ⟨y, rfl, hy, hsd, hbb⟩
        have H9 := hidd (H2.out.draw hsd hbb)
        clear hsd hbb
        have hwa : IntKind.i64.wrap (97 + (y : Int)) = 97 + (y : Int) := by rw [IntKind.wrap_i64]; omega
        have hwb : IntKind.u8.wrap (97 + (y : Int)) = 97 + (y : Int) := by rw [IntKind.wrap_u8]; omega
        refine ⟨trivial, ?_⟩
        try simp only [Act.put, List.getElem_toArray, List.getElem_cons_succ, List.getElem_cons_zero, List.setIfInBounds_toArray, List.set_cons_zero, List.set_cons_succ]
        refine tkX 4 (v := .int .i64 (97 + (y : Int))) (hS := trivial) (h := ?_)
        try simp only [Act.put, List.getElem_toArray, List.getElem_cons_succ, List.getElem_cons_zero, List.setIfInBounds_toArray, List.set_cons_zero, List.set_cons_succ]
        refine tkX 5 (v := .int .u8 (97 + (y : Int))) (hS := trivial) (h := ?_)
        try simp only [Act.put, List.getElem_toArray, List.getElem_cons_succ, List.getElem_cons_zero, List.setIfInBounds_toArray, List.set_cons_zero, List.set_cons_succ]
        refine wpAnyH_two 1 6 (by kernel_rfl) ?_ ?_
        · refine wpOp_val _ _ rfl (by kernel_rfl) (exec_ldStr _ _ _ _ rfl g5 0 ⟨did0.toArray⟩ (by kernel_rfl) (blkc H9.out.box 0)) ?_
          refine ⟨trivial, ?_⟩
          try simp only [Act.put, List.getElem_toArray, List.getElem_cons_succ, List.getElem_cons_zero, List.setIfInBounds_toArray, List.set_cons_zero, List.set_cons_succ]
          refine wpAnyH_one 6 (by kernel_rfl) ?_
          refine wpOp_val _ _ rfl (by kernel_rfl) (rbx_build _ _ _ _ rfl (97 + (y : Int)) (by kernel_rfl)) ?_
          have hcv := byte_gen y 97 (by omega) (by omega) w8
          have hba : Below w8.heap.size w8 (w8.alloc (.cells #[.int .u8 (97 + (y : Int))] 5)) := (Below.refl _ _).alloc (Nat.le_refl _) _
          have H11 := hidd (H9.out.below hba)
          clear hba
          refine ⟨trivial, ?_⟩
          try simp only [Act.put, List.getElem_toArray, List.getElem_cons_succ, List.getElem_cons_zero, List.setIfInBounds_toArray, List.set_cons_zero, List.set_cons_succ]
          generalize w8.alloc (.cells #[.int .u8 (97 + (y : Int))] 5) = w10 at *
          refine wpAnyH_one 7 (by kernel_rfl) ?_
          refine wpOp_val _ _ rfl (by kernel_rfl) (rt_conv _ _ _ _ rfl _ (by kernel_rfl) _ hcv) ?_
          refine ⟨trivial, ?_⟩
          try simp only [Act.put, List.getElem_toArray, List.getElem_cons_succ, List.getElem_cons_zero, List.setIfInBounds_toArray, List.set_cons_zero, List.set_cons_succ]
          generalize UInt8.ofNat (97 + (y : Int)).toNat = c1 at *
          clear hcv
          refine tkX 8 (v := .string (⟨did0.toArray⟩ ++ ⟨#[c1]⟩)) (hS := trivial) (h := ?_)
          try simp only [Act.put, List.getElem_toArray, List.getElem_cons_succ, List.getElem_cons_zero, List.setIfInBounds_toArray, List.set_cons_zero, List.set_cons_succ]
          refine tkX 9 (hS := trivial) (h := ?_)
          try simp only [Act.put, List.getElem_toArray, List.getElem_cons_succ, List.getElem_cons_zero, List.setIfInBounds_toArray, List.set_cons_zero, List.set_cons_succ]
          refine wpAnyH_one 10 (by kernel_rfl) ?_
          refine wpOp_skip _ rfl (by kernel_rfl) (exec_stStr _ _ _ _ _ rfl g5 0 (⟨did0.toArray⟩ ++ ⟨#[c1]⟩) _ (by kernel_rfl) (by kernel_rfl) (blkc H11.out.box 0) (blkf H11.out.box 0)) ?_
          have HE : Hid (DD w b ao n cap (A + 9) gs g m c g4 g5 (did0 ++ [c1]) (.slice none 0 0) [] [] (w10.setCell ⟨g5, 0, none⟩ (.string (⟨did0.toArray⟩ ++ ⟨#[c1]⟩)))) := by
            rw [cat_one]
            exact (H11.out.setId (did0 ++ [c1])).mono (by omega)
          refine ⟨trivial, ?_⟩
          try simp only [Act.put, List.getElem_toArray, List.getElem_cons_succ, List.getElem_cons_zero, List.setIfInBounds_toArray, List.set_cons_zero, List.set_cons_succ]
          refine wpAnyH_done (by kernel_rfl) ?_ _
          go_wp2_with fail
          go_meet
          case rel => exact ⟨did0 ++ [c1], by simp; omega, HE.out⟩
        · refine wpOp_val _ _ rfl (by kernel_rfl) (rbx_build _ _ _ _ rfl (97 + (y : Int)) (by kernel_rfl)) ?_
          have hcv := byte_gen y 97 (by omega) (by omega) w8
          have hba : Below w8.heap.size w8 (w8.alloc (.cells #[.int .u8 (97 + (y : Int))] 5)) := (Below.refl _ _).alloc (Nat.le_refl _) _
          have H14 := hidd (H9.out.below hba)
          clear hba
          refine ⟨trivial, ?_⟩
          try simp only [Act.put, List.getElem_toArray, List.getElem_cons_succ, List.getElem_cons_zero, List.setIfInBounds_toArray, List.set_cons_zero, List.set_cons_succ]
          generalize w8.alloc (.cells #[.int .u8 (97 + (y : Int))] 5) = w13 at *
          refine wpAnyH_two 1 7 (by kernel_rfl) ?_ ?_
          · refine wpOp_val _ _ rfl (by kernel_rfl) (exec_ldStr _ _ _ _ rfl g5 0 ⟨did0.toArray⟩ (by kernel_rfl) (blkc H14.out.box 0)) ?_
            refine ⟨trivial, ?_⟩
            try simp only [Act.put, List.getElem_toArray, List.getElem_cons_succ, List.getElem_cons_zero, List.setIfInBounds_toArray, List.set_cons_zero, List.set_cons_succ]
            refine wpAnyH_one 7 (by kernel_rfl) ?_
            refine wpOp_val _ _ rfl (by kernel_rfl) (rt_conv _ _ _ _ rfl _ (by kernel_rfl) _ hcv) ?_
            refine ⟨trivial, ?_⟩
            try simp only [Act.put, List.getElem_toArray, List.getElem_cons_succ, List.getElem_cons_zero, List.setIfInBounds_toArray, List.set_cons_zero, List.set_cons_succ]
            generalize UInt8.ofNat (97 + (y : Int)).toNat = c1 at *
            clear hcv
            refine tkX 8 (v := .string (⟨did0.toArray⟩ ++ ⟨#[c1]⟩)) (hS := trivial) (h := ?_)
            try simp only [Act.put, List.getElem_toArray, List.getElem_cons_succ, List.getElem_cons_zero, List.setIfInBounds_toArray, List.set_cons_zero, List.set_cons_succ]
            refine tkX 9 (hS := trivial) (h := ?_)
            try simp only [Act.put, List.getElem_toArray, List.getElem_cons_succ, List.getElem_cons_zero, List.setIfInBounds_toArray, List.set_cons_zero, List.set_cons_succ]
            refine wpAnyH_one 10 (by kernel_rfl) ?_
            refine wpOp_skip _ rfl (by kernel_rfl) (exec_stStr _ _ _ _ _ rfl g5 0 (⟨did0.toArray⟩ ++ ⟨#[c1]⟩) _ (by kernel_rfl) (by kernel_rfl) (blkc H14.out.box 0) (blkf H14.out.box 0)) ?_
            have HE : Hid (DD w b ao n cap (A + 9) gs g m c g4 g5 (did0 ++ [c1]) (.slice none 0 0) [] [] (w13.setCell ⟨g5, 0, none⟩ (.string (⟨did0.toArray⟩ ++ ⟨#[c1]⟩)))) := by
              rw [cat_one]
              exact (H14.out.setId (did0 ++ [c1])).mono (by omega)
            refine ⟨trivial, ?_⟩
            try simp only [Act.put, List.getElem_toArray, List.getElem_cons_succ, List.getElem_cons_zero, List.setIfInBounds_toArray, List.set_cons_zero, List.set_cons_succ]
            refine wpAnyH_done (by kernel_rfl) ?_ _
            go_wp2_with fail
            go_meet
            case rel => exact ⟨did0 ++ [c1], by simp; omega, HE.out⟩
          · refine wpOp_val _ _ rfl (by kernel_rfl) (rt_conv _ _ _ _ rfl _ (by kernel_rfl) _ hcv) ?_
            refine ⟨trivial, ?_⟩
            try simp only [Act.put, List.getElem_toArray, List.getElem_cons_succ, List.getElem_cons_zero, List.setIfInBounds_toArray, List.set_cons_zero, List.set_cons_succ]
            generalize UInt8.ofNat (97 + (y : Int)).toNat = c1 at *
            clear hcv
            refine wpAnyH_one 1 (by kernel_rfl) ?_
            refine wpOp_val _ _ rfl (by kernel_rfl) (exec_ldStr _ _ _ _ rfl g5 0 ⟨did0.toArray⟩ (by kernel_rfl) (blkc H14.out.box 0)) ?_
            refine ⟨trivial, ?_⟩
            try simp only [Act.put, List.getElem_toArray, List.getElem_cons_succ, List.getElem_cons_zero, List.setIfInBounds_toArray, List.set_cons_zero, List.set_cons_succ]
            refine tkX 8 (v := .string (⟨did0.toArray⟩ ++ ⟨#[c1]⟩)) (hS := trivial) (h := ?_)
            try simp only [Act.put, List.getElem_toArray, List.getElem_cons_succ, List.getElem_cons_zero, List.setIfInBounds_toArray, List.set_cons_zero, List.set_cons_succ]
            refine tkX 9 (hS := trivial) (h := ?_)
            try simp only [Act.put, List.getElem_toArray, List.getElem_cons_succ, List.getElem_cons_zero, List.setIfInBounds_toArray, List.set_cons_zero, List.set_cons_succ]
            refine wpAnyH_one 10 (by kernel_rfl) ?_
            refine wpOp_skip _ rfl (by kernel_rfl) (exec_stStr _ _ _ _ _ rfl g5 0 (⟨did0.toArray⟩ ++ ⟨#[c1]⟩) _ (by kernel_rfl) (by kernel_rfl) (blkc H14.out.box 0) (blkf H14.out.box 0)) ?_
            have HE : Hid (DD w b ao n cap (A + 9) gs g m c g4 g5 (did0 ++ [c1]) (.slice none 0 0) [] [] (w13.setCell ⟨g5, 0, none⟩ (.string (⟨did0.toArray⟩ ++ ⟨#[c1]⟩)))) := by
              rw [cat_one]
              exact (H14.out.setId (did0 ++ [c1])).mono (by omega)
            refine ⟨trivial, ?_⟩
            try simp only [Act.put, List.getElem_toArray, List.getElem_cons_succ, List.getElem_cons_zero, List.setIfInBounds_toArray, List.set_cons_zero, List.set_cons_succ]
            refine wpAnyH_done (by kernel_rfl) ?_ _
            go_wp2_with fail
            go_meet
            case rel => exact ⟨did0 ++ [c1], by simp; omega, HE.out⟩
  case rest =>
    obtain ⟨did, hdl3, hD⟩ := hcut
    have HD2 := hidd hD
    clear hD HD1 hdsz hdl
    go_wp2_with fail
    go_loopw [6] (fun iv wx => ∃ (i : Nat) (dv : Value) (V : List Vl) (ys : List Value), iv = .int .i64 (i : Int) ∧ i ≤ m ∧ DD w b ao n cap (A + 9 + 160 * (i : Int)) gs g m c g4 g5 did dv V ys wx ∧ V.length ≤ i ∧ ∀ x ∈ V, SmX x) (fun iv _ => m - (intOf iv).toNat)
    case atStart => exact ⟨0, _, [], [], rfl, Nat.zero_le _, HD2.out.mono (by omega), Nat.le_refl _, fun x hx => by cases hx⟩
    case round =>
      obtain ⟨i, dv, V, ys, rfl, him, hD, hVi, hSx⟩ := hrel
      rename World => wo
      have HD3 := hidd hD
      have HSx := hidd hSx
      have HVi := hidd hVi
      obtain ⟨ad, cd, rfl⟩ := own_slice hD.doc.row
      clear hD hSx HD2 hVi
      obtain ⟨NV, hNV⟩ : ∃ N, V.length = N := ⟨_, rfl⟩
      have HNV := hidd hNV
      rw [hNV] at HD3
      clear hNV
      have s0 := blkc HD3.out.sbx 0
      simp only [List.getElem?_toArray, List.getElem?_cons_zero] at s0
      by_cases hi : i < m
      · have hiz : (i : Int) < (m : Int) := by omega
        obtain ⟨nm, kd, hnl, hcn, hck⟩ := HD3.out.sch i (by omega)
        go_upto_region 8 with fail
        have hbA : Below wo.heap.size wo (wo.alloc (.cells #[.string ⟨nm.toArray⟩, .slice none 0 0, .slice none 0 0] 88)) := (Below.refl _ _).alloc (Nat.le_refl _) _
        have HV0 : Hid (VI wo b ao n cap (A + 9 + 160 * (i : Int)) wo.heap.size nm (.slice none 0 0) [] (.slice none 0 0) [] (wo.alloc (.cells #[.string ⟨nm.toArray⟩, .slice none 0 0, .slice none 0 0] 88))) :=
          ⟨HD3.out.src.below hbA, But.of_below hbA, heap_alloc_new wo _, Nat.le_refl _, World.ownsRow_nil _ _ _ _, World.ownsRow_nil _ _ _ _, Nat.lt_of_lt_of_le HD3.out.bl HD3.out.but.size, fun j hj => by obtain ⟨blk, off, h1, h2⟩ := HD3.out.cb j hj; exact ⟨blk, off, h1, Nat.lt_of_lt_of_le h2 HD3.out.but.size⟩⟩
        clear hbA hcn hck s0
        obtain ⟨g7, hg7⟩ : ∃ g, wo.heap.size = g := ⟨_, rfl⟩
        have HV1 : Hid (VI wo b ao n cap (A + 9 + 160 * (i : Int)) g7 nm (.slice none 0 0) [] (.slice none 0 0) [] (wo.alloc (.cells #[.string ⟨nm.toArray⟩, .slice none 0 0, .slice none 0 0] 88))) := by have := HV0.out; rw [hg7] at this; exact this
        simp only [hg7]
        clear hg7 HV0
        generalize wo.alloc (.cells #[.string ⟨nm.toArray⟩, .slice none 0 0, .slice none 0 0] 88) = w8 at *
        go_upto_if 44 with (go_at_call 29; refine (chanceS HV1.out.src hn (by omega) 5 (by omega) (by omega)).mono ?_; rintro e w9 ⟨x9, rfl, hs9, hb9⟩)
        have HV2 := hidd (HV1.out.draw hs9 hb9)
        clear hs9 hb9 HV1
        cases x9 with
        | true =>
          have HDn : Hid (DD w b ao n cap (A + 9 + 160 * ((i + 1 : Nat) : Int)) gs g m c g4 g5 did (.slice ad NV cd) V ys w9) := (HD3.out.draw HV2.out.src HV2.out.but).mono (by omega)
          go_wp2_with fail
          go_roundw
          · exact ⟨i + 1, _, V, ys, by go_num, by omega, HDn.out, by have := HVi.out; omega, HSx.out⟩
          · simp [intOf]; omega
        | false =>
          go_wp2_with fail
          refine (nextS HV2.out.src hn (by omega) 8 (by omega) (by omega)).mono ?_
          rintro e w10 ⟨x8, rfl, hx8, hs10, hb10⟩
          have HV3 := hidd (HV2.out.draw hs10 hb10)
          clear hs10 hb10 HV2
          obtain ⟨q8, hq8⟩ : ∃ q : Nat, (x8 : Int) / 6 = (q : Int) := ⟨x8 / 6, by omega⟩
          obtain ⟨K, hK⟩ : ∃ K : Nat, (q8 : Int) + 1 = (K : Int) := ⟨q8 + 1, by omega⟩
          have hK2 : 1 ≤ K ∧ K ≤ 2 := by omega
          go_wp2_with fail
          go_loopw [8] (fun kv wz => ∃ (k : Nat) (tv : Value) (T : List (List UInt8)) (nv : Value) (Z : List Int), kv = .int .i64 (k : Int) ∧ k ≤ 2 ∧ VI wo b ao n cap (A + 9 + 160 * (i : Int) + 6 + 75 * (2 - (k : Int))) g7 nm tv T nv Z wz ∧ T.length + k ≤ 2 ∧ Z.length + k ≤ 2 ∧ ∀ t ∈ T, t.length ≤ 1000) (fun kv _ => (intOf kv).toNat)
          case atStart => exact ⟨K, _, [], _, [], rfl, hK2.2, HV3.out.mono (by omega), by simp; omega, by simp; omega, fun t ht => by cases ht⟩
          case round =>
            obtain ⟨k, tv, T, nv, Z, rfl, hk2, hV, hT2, hZ2, hTs⟩ := hrel
            have HV := hidd hV
            have HTs := hidd hTs
            obtain ⟨a1, c1, rfl⟩ := own_slice hV.txt
            obtain ⟨a2, c2, rfl⟩ := own_slice hV.num
            clear hV hTs HV3
            by_cases hk : 0 < k
            · have hkz : (k : Int) > 0 := by omega
              have HDz := hidd (HD3.out.draw HV.out.src HV.out.but)
              have s0 := blkc HDz.out.sbx 0
              simp only [List.getElem?_toArray, List.getElem?_cons_zero] at s0
              obtain ⟨nm', kd', hnl', hcn', hck'⟩ := HDz.out.sch i (by omega)
              by_cases hk1 : kd' = 1
              · subst hk1
                go_upto_region 15 with fail
                clear s0 hcn' hck' HDz
                refine wp_region_held (S := fun _ => True) (by kernel_rfl) ?_
                have hbd : Below wr.heap.size wr ({ heap := wr.heap, tape := wr.tape, drawn := wr.drawn + 1, os := wr.os, output := wr.output } : World) := (Below.refl _ _).drew
                generalize ({ heap := wr.heap, tape := wr.tape, drawn := wr.drawn + 1, os := wr.os, output := wr.output } : World) = wd16 at *
                have H17 := hidd (HV.out.below hbd)
                clear hbd
                try simp only [Act.put, List.getElem_toArray, List.getElem_cons_succ, List.getElem_cons_zero, List.setIfInBounds_toArray, List.set_cons_zero, List.set_cons_succ]
                refine tkX 0 (hS := trivial) (h := ?_)
                try simp only [Act.put, List.getElem_toArray, List.getElem_cons_succ, List.getElem_cons_zero, List.setIfInBounds_toArray, List.set_cons_zero, List.set_cons_succ]
                refine tkX 2 (hS := trivial) (h := ?_)
                try simp only [Act.put, List.getElem_toArray, List.getElem_cons_succ, List.getElem_cons_zero, List.setIfInBounds_toArray, List.set_cons_zero, List.set_cons_succ]
                refine tkX 3 (hS := trivial) (h := ?_)
                try simp only [Act.put, List.getElem_toArray, List.getElem_cons_succ, List.getElem_cons_zero, List.setIfInBounds_toArray, List.set_cons_zero, List.set_cons_succ]
                refine wpAnyH_two 1 4 (by kernel_rfl) ?_ ?_
                · refine wpOp_val _ _ rfl (by kernel_rfl) (exec_ldS _ _ _ _ rfl g7 1 (.slice a1 T.length c1) ⟨_, _, _, rfl⟩ (by kernel_rfl) (blkc H17.out.box 1)) ?_
                  refine ⟨trivial, ?_⟩
                  try simp only [Act.put, List.getElem_toArray, List.getElem_cons_succ, List.getElem_cons_zero, List.setIfInBounds_toArray, List.set_cons_zero, List.set_cons_succ]
                  refine wpAnyH_one 4 (by kernel_rfl) ?_
                  refine wpOp_call 14 #[.pointer (some ⟨b, 0, none⟩), .int .i64 12] rfl (by kernel_rfl) (rbx_call2 _ _ _ _ _ _ _ _ rfl _ _ (by kernel_rfl) (by kernel_rfl) (Tryz.call14 _ _)) ?_
                  refine (nextS H17.out.src hn (by omega) 12 (by omega) (by omega)).mono ?_
                  rintro e' w18 ⟨y, rfl, hy, hsd, hbb⟩
                  have H19 := hidd (H17.out.draw hsd hbb)
                  clear hsd hbb
                  refine ⟨trivial, ?_⟩
                  try simp only [Act.put, List.getElem_toArray, List.getElem_cons_succ, List.getElem_cons_zero, List.setIfInBounds_toArray, List.set_cons_zero, List.set_cons_succ]
                  refine wpAnyH_one 5 (by kernel_rfl) ?_
                  refine wpOp_call 59 #[.pointer (some ⟨b, 0, none⟩), .int .i64 (y : Int)] rfl (by kernel_rfl) (rbx_call2 _ _ _ _ _ _ _ _ rfl _ _ (by kernel_rfl) (by kernel_rfl) (Tryz.call59 _ _)) ?_
                  refine (proseS H19.out.src hn (by omega) y (by omega)).mono ?_
                  rintro e' w20 ⟨t, rfl, hts, hsd, hbb⟩
                  have H21 := hidd (H19.out.draw hsd hbb)
                  clear hsd hbb
                  obtain ⟨tl, htl, rfl⟩ : ∃ l : List UInt8, l.length = t.size ∧ t = ⟨l.toArray⟩ := ⟨t.data.toList, by rw [Lib.size_eq], by cases t; simp⟩
                  have htz : tl.length ≤ 1000 := by omega
                  refine ⟨trivial, ?_⟩
                  try simp only [Act.put, List.getElem_toArray, List.getElem_cons_succ, List.getElem_cons_zero, List.setIfInBounds_toArray, List.set_cons_zero, List.set_cons_succ]
                  refine wpAnyH_one 6 (by kernel_rfl) ?_
                  refine wpOp_val _ _ rfl (by kernel_rfl) (exec_bxS _ _ _ _ rfl ⟨tl.toArray⟩ (by kernel_rfl)) ?_
                  have hba : Below w20.heap.size w20 (w20.alloc (.cells #[.string ⟨tl.toArray⟩] 9)) := (Below.refl _ _).alloc (Nat.le_refl _) _
                  have H25 := hidd (H21.out.below hba)
                  have B23 := hidd (heap_alloc_new w20 (.cells #[.string ⟨tl.toArray⟩] 9))
                  clear hba
                  refine ⟨trivial, ?_⟩
                  try simp only [Act.put, List.getElem_toArray, List.getElem_cons_succ, List.getElem_cons_zero, List.setIfInBounds_toArray, List.set_cons_zero, List.set_cons_succ]
                  obtain ⟨q24, hq24⟩ : ∃ g, w20.heap.size = g := ⟨_, rfl⟩
                  rw [hq24] at B23
                  simp only [hq24]
                  clear hq24
                  generalize w20.alloc (.cells #[.string ⟨tl.toArray⟩] 9) = w22 at *
                  refine wpAnyH_one 7 (by kernel_rfl) ?_
                  refine wpOp_pushS rfl (by kernel_rfl) _ _ rfl wo.heap.size _ T (by kernel_rfl) H25.out.txt q24 tl (by kernel_rfl) B23.out (by omega) H25.out.but.size ?_
                  intro g6 c6 w6 N hN ho hgr
                  have hbx6 := (but_own hgr).blk H25.out.box (own_apartB H25.out.txt H25.out.box (by decide))
                  have HE : Hid (VI wo b ao n cap (A + 9 + 160 * (i : Int) + 6 + 75 * (2 - ((k - 1 : Nat) : Int))) g7 nm (.slice (some ⟨g6, 0, none⟩) N c6) (T ++ [tl]) (.slice a2 Z.length c2) Z (w6.setCell ⟨g7, 1, none⟩ (.slice (some ⟨g6, 0, none⟩) N c6))) := by
                    have e := hN.out
                    subst e
                    exact (H25.out.pushT ho hgr).mono (by omega)
                  refine ⟨trivial, ?_⟩
                  try simp only [Act.put, List.getElem_toArray, List.getElem_cons_succ, List.getElem_cons_zero, List.setIfInBounds_toArray, List.set_cons_zero, List.set_cons_succ]
                  refine tkX 8 (hS := trivial) (h := ?_)
                  try simp only [Act.put, List.getElem_toArray, List.getElem_cons_succ, List.getElem_cons_zero, List.setIfInBounds_toArray, List.set_cons_zero, List.set_cons_succ]
                  refine wpAnyH_one 9 (by kernel_rfl) ?_
                  refine wpOp_skip _ rfl (by kernel_rfl) (exec_stS _ _ _ _ _ rfl g7 1 (some ⟨g6, 0, none⟩) N c6 _ (by kernel_rfl) (by kernel_rfl) (blkc hbx6 1) (blkf hbx6 1)) ?_
                  refine ⟨trivial, ?_⟩
                  try simp only [Act.put, List.getElem_toArray, List.getElem_cons_succ, List.getElem_cons_zero, List.setIfInBounds_toArray, List.set_cons_zero, List.set_cons_succ]
                  refine wpAnyH_done (by kernel_rfl) ?_ _
                  clear hbx6 ho hgr
                  go_wp2_with fail
                  go_roundw
                  · exact ⟨k - 1, _, _, _, _, by go_num, by omega, HE.out, by simp; omega, by omega, snoc_le HTs.out (htz)⟩
                  · simp [intOf]; omega
                · refine wpOp_call 14 #[.pointer (some ⟨b, 0, none⟩), .int .i64 12] rfl (by kernel_rfl) (rbx_call2 _ _ _ _ _ _ _ _ rfl _ _ (by kernel_rfl) (by kernel_rfl) (Tryz.call14 _ _)) ?_
                  refine (nextS H17.out.src hn (by omega) 12 (by omega) (by omega)).mono ?_
                  rintro e' w26 ⟨y, rfl, hy, hsd, hbb⟩
                  have H27 := hidd (H17.out.draw hsd hbb)
                  clear hsd hbb
                  refine ⟨trivial, ?_⟩
                  try simp only [Act.put, List.getElem_toArray, List.getElem_cons_succ, List.getElem_cons_zero, List.setIfInBounds_toArray, List.set_cons_zero, List.set_cons_succ]
                  refine wpAnyH_two 1 5 (by kernel_rfl) ?_ ?_
                  · refine wpOp_val _ _ rfl (by kernel_rfl) (exec_ldS _ _ _ _ rfl g7 1 (.slice a1 T.length c1) ⟨_, _, _, rfl⟩ (by kernel_rfl) (blkc H27.out.box 1)) ?_
                    refine ⟨trivial, ?_⟩
                    try simp only [Act.put, List.getElem_toArray, List.getElem_cons_succ, List.getElem_cons_zero, List.setIfInBounds_toArray, List.set_cons_zero, List.set_cons_succ]
                    refine wpAnyH_one 5 (by kernel_rfl) ?_
                    refine wpOp_call 59 #[.pointer (some ⟨b, 0, none⟩), .int .i64 (y : Int)] rfl (by kernel_rfl) (rbx_call2 _ _ _ _ _ _ _ _ rfl _ _ (by kernel_rfl) (by kernel_rfl) (Tryz.call59 _ _)) ?_
                    refine (proseS H27.out.src hn (by omega) y (by omega)).mono ?_
                    rintro e' w28 ⟨t, rfl, hts, hsd, hbb⟩
                    have H29 := hidd (H27.out.draw hsd hbb)
                    clear hsd hbb
                    obtain ⟨tl, htl, rfl⟩ : ∃ l : List UInt8, l.length = t.size ∧ t = ⟨l.toArray⟩ := ⟨t.data.toList, by rw [Lib.size_eq], by cases t; simp⟩
                    have htz : tl.length ≤ 1000 := by omega
                    refine ⟨trivial, ?_⟩
                    try simp only [Act.put, List.getElem_toArray, List.getElem_cons_succ, List.getElem_cons_zero, List.setIfInBounds_toArray, List.set_cons_zero, List.set_cons_succ]
                    refine wpAnyH_one 6 (by kernel_rfl) ?_
                    refine wpOp_val _ _ rfl (by kernel_rfl) (exec_bxS _ _ _ _ rfl ⟨tl.toArray⟩ (by kernel_rfl)) ?_
                    have hba : Below w28.heap.size w28 (w28.alloc (.cells #[.string ⟨tl.toArray⟩] 9)) := (Below.refl _ _).alloc (Nat.le_refl _) _
                    have H33 := hidd (H29.out.below hba)
                    have B31 := hidd (heap_alloc_new w28 (.cells #[.string ⟨tl.toArray⟩] 9))
                    clear hba
                    refine ⟨trivial, ?_⟩
                    try simp only [Act.put, List.getElem_toArray, List.getElem_cons_succ, List.getElem_cons_zero, List.setIfInBounds_toArray, List.set_cons_zero, List.set_cons_succ]
                    obtain ⟨q32, hq32⟩ : ∃ g, w28.heap.size = g := ⟨_, rfl⟩
                    rw [hq32] at B31
                    simp only [hq32]
                    clear hq32
                    generalize w28.alloc (.cells #[.string ⟨tl.toArray⟩] 9) = w30 at *
                    refine wpAnyH_one 7 (by kernel_rfl) ?_
                    refine wpOp_pushS rfl (by kernel_rfl) _ _ rfl wo.heap.size _ T (by kernel_rfl) H33.out.txt q32 tl (by kernel_rfl) B31.out (by omega) H33.out.but.size ?_
                    intro g6 c6 w6 N hN ho hgr
                    have hbx6 := (but_own hgr).blk H33.out.box (own_apartB H33.out.txt H33.out.box (by decide))
                    have HE : Hid (VI wo b ao n cap (A + 9 + 160 * (i : Int) + 6 + 75 * (2 - ((k - 1 : Nat) : Int))) g7 nm (.slice (some ⟨g6, 0, none⟩) N c6) (T ++ [tl]) (.slice a2 Z.length c2) Z (w6.setCell ⟨g7, 1, none⟩ (.slice (some ⟨g6, 0, none⟩) N c6))) := by
                      have e := hN.out
                      subst e
                      exact (H33.out.pushT ho hgr).mono (by omega)
                    refine ⟨trivial, ?_⟩
                    try simp only [Act.put, List.getElem_toArray, List.getElem_cons_succ, List.getElem_cons_zero, List.setIfInBounds_toArray, List.set_cons_zero, List.set_cons_succ]
                    refine tkX 8 (hS := trivial) (h := ?_)
                    try simp only [Act.put, List.getElem_toArray, List.getElem_cons_succ, List.getElem_cons_zero, List.setIfInBounds_toArray, List.set_cons_zero, List.set_cons_succ]
                    refine wpAnyH_one 9 (by kernel_rfl) ?_
                    refine wpOp_skip _ rfl (by kernel_rfl) (exec_stS _ _ _ _ _ rfl g7 1 (some ⟨g6, 0, none⟩) N c6 _ (by kernel_rfl) (by kernel_rfl) (blkc hbx6 1) (blkf hbx6 1)) ?_
                    refine ⟨trivial, ?_⟩
                    try simp only [Act.put, List.getElem_toArray, List.getElem_cons_succ, List.getElem_cons_zero, List.setIfInBounds_toArray, List.set_cons_zero, List.set_cons_succ]
                    refine wpAnyH_done (by kernel_rfl) ?_ _
                    clear hbx6 ho hgr
                    go_wp2_with fail
                    go_roundw
                    · exact ⟨k - 1, _, _, _, _, by go_num, by omega, HE.out, by simp; omega, by omega, snoc_le HTs.out (htz)⟩
                    · simp [intOf]; omega
                  · refine wpOp_call 59 #[.pointer (some ⟨b, 0, none⟩), .int .i64 (y : Int)] rfl (by kernel_rfl) (rbx_call2 _ _ _ _ _ _ _ _ rfl _ _ (by kernel_rfl) (by kernel_rfl) (Tryz.call59 _ _)) ?_
                    refine (proseS H27.out.src hn (by omega) y (by omega)).mono ?_
                    rintro e' w34 ⟨t, rfl, hts, hsd, hbb⟩
                    have H35 := hidd (H27.out.draw hsd hbb)
                    clear hsd hbb
                    obtain ⟨tl, htl, rfl⟩ : ∃ l : List UInt8, l.length = t.size ∧ t = ⟨l.toArray⟩ := ⟨t.data.toList, by rw [Lib.size_eq], by cases t; simp⟩
                    have htz : tl.length ≤ 1000 := by omega
                    refine ⟨trivial, ?_⟩
                    try simp only [Act.put, List.getElem_toArray, List.getElem_cons_succ, List.getElem_cons_zero, List.setIfInBounds_toArray, List.set_cons_zero, List.set_cons_succ]
                    refine wpAnyH_two 1 6 (by kernel_rfl) ?_ ?_
                    · refine wpOp_val _ _ rfl (by kernel_rfl) (exec_ldS _ _ _ _ rfl g7 1 (.slice a1 T.length c1) ⟨_, _, _, rfl⟩ (by kernel_rfl) (blkc H35.out.box 1)) ?_
                      refine ⟨trivial, ?_⟩
                      try simp only [Act.put, List.getElem_toArray, List.getElem_cons_succ, List.getElem_cons_zero, List.setIfInBounds_toArray, List.set_cons_zero, List.set_cons_succ]
                      refine wpAnyH_one 6 (by kernel_rfl) ?_
                      refine wpOp_val _ _ rfl (by kernel_rfl) (exec_bxS _ _ _ _ rfl ⟨tl.toArray⟩ (by kernel_rfl)) ?_
                      have hba : Below w34.heap.size w34 (w34.alloc (.cells #[.string ⟨tl.toArray⟩] 9)) := (Below.refl _ _).alloc (Nat.le_refl _) _
                      have H39 := hidd (H35.out.below hba)
                      have B37 := hidd (heap_alloc_new w34 (.cells #[.string ⟨tl.toArray⟩] 9))
                      clear hba
                      refine ⟨trivial, ?_⟩
                      try simp only [Act.put, List.getElem_toArray, List.getElem_cons_succ, List.getElem_cons_zero, List.setIfInBounds_toArray, List.set_cons_zero, List.set_cons_succ]
                      obtain ⟨q38, hq38⟩ : ∃ g, w34.heap.size = g := ⟨_, rfl⟩
                      rw [hq38] at B37
                      simp only [hq38]
                      clear hq38
                      generalize w34.alloc (.cells #[.string ⟨tl.toArray⟩] 9) = w36 at *
                      refine wpAnyH_one 7 (by kernel_rfl) ?_
                      refine wpOp_pushS rfl (by kernel_rfl) _ _ rfl wo.heap.size _ T (by kernel_rfl) H39.out.txt q38 tl (by kernel_rfl) B37.out (by omega) H39.out.but.size ?_
                      intro g6 c6 w6 N hN ho hgr
                      have hbx6 := (but_own hgr).blk H39.out.box (own_apartB H39.out.txt H39.out.box (by decide))
                      have HE : Hid (VI wo b ao n cap (A + 9 + 160 * (i : Int) + 6 + 75 * (2 - ((k - 1 : Nat) : Int))) g7 nm (.slice (some ⟨g6, 0, none⟩) N c6) (T ++ [tl]) (.slice a2 Z.length c2) Z (w6.setCell ⟨g7, 1, none⟩ (.slice (some ⟨g6, 0, none⟩) N c6))) := by
                        have e := hN.out
                        subst e
                        exact (H39.out.pushT ho hgr).mono (by omega)
                      refine ⟨trivial, ?_⟩
                      try simp only [Act.put, List.getElem_toArray, List.getElem_cons_succ, List.getElem_cons_zero, List.setIfInBounds_toArray, List.set_cons_zero, List.set_cons_succ]
                      refine tkX 8 (hS := trivial) (h := ?_)
                      try simp only [Act.put, List.getElem_toArray, List.getElem_cons_succ, List.getElem_cons_zero, List.setIfInBounds_toArray, List.set_cons_zero, List.set_cons_succ]
                      refine wpAnyH_one 9 (by kernel_rfl) ?_
                      refine wpOp_skip _ rfl (by kernel_rfl) (exec_stS _ _ _ _ _ rfl g7 1 (some ⟨g6, 0, none⟩) N c6 _ (by kernel_rfl) (by kernel_rfl) (blkc hbx6 1) (blkf hbx6 1)) ?_
                      refine ⟨trivial, ?_⟩
                      try simp only [Act.put, List.getElem_toArray, List.getElem_cons_succ, List.getElem_cons_zero, List.setIfInBounds_toArray, List.set_cons_zero, List.set_cons_succ]
                      refine wpAnyH_done (by kernel_rfl) ?_ _
                      clear hbx6 ho hgr
                      go_wp2_with fail
                      go_roundw
                      · exact ⟨k - 1, _, _, _, _, by go_num, by omega, HE.out, by simp; omega, by omega, snoc_le HTs.out (htz)⟩
                      · simp [intOf]; omega
                    · refine wpOp_val _ _ rfl (by kernel_rfl) (exec_bxS _ _ _ _ rfl ⟨tl.toArray⟩ (by kernel_rfl)) ?_
                      have hba : Below w34.heap.size w34 (w34.alloc (.cells #[.string ⟨tl.toArray⟩] 9)) := (Below.refl _ _).alloc (Nat.le_refl _) _
                      have H43 := hidd (H35.out.below hba)
                      have B41 := hidd (heap_alloc_new w34 (.cells #[.string ⟨tl.toArray⟩] 9))
                      clear hba
                      refine ⟨trivial, ?_⟩
                      try simp only [Act.put, List.getElem_toArray, List.getElem_cons_succ, List.getElem_cons_zero, List.setIfInBounds_toArray, List.set_cons_zero, List.set_cons_succ]
                      obtain ⟨q42, hq42⟩ : ∃ g, w34.heap.size = g := ⟨_, rfl⟩
                      rw [hq42] at B41
                      simp only [hq42]
                      clear hq42
                      generalize w34.alloc (.cells #[.string ⟨tl.toArray⟩] 9) = w40 at *
                      refine wpAnyH_one 1 (by kernel_rfl) ?_
                      refine wpOp_val _ _ rfl (by kernel_rfl) (exec_ldS _ _ _ _ rfl g7 1 (.slice a1 T.length c1) ⟨_, _, _, rfl⟩ (by kernel_rfl) (blkc H43.out.box 1)) ?_
                      refine ⟨trivial, ?_⟩
                      try simp only [Act.put, List.getElem_toArray, List.getElem_cons_succ, List.getElem_cons_zero, List.setIfInBounds_toArray, List.set_cons_zero, List.set_cons_succ]
                      refine wpAnyH_one 7 (by kernel_rfl) ?_
                      refine wpOp_pushS rfl (by kernel_rfl) _ _ rfl wo.heap.size _ T (by kernel_rfl) H43.out.txt q42 tl (by kernel_rfl) B41.out (by omega) H43.out.but.size ?_
                      intro g6 c6 w6 N hN ho hgr
                      have hbx6 := (but_own hgr).blk H43.out.box (own_apartB H43.out.txt H43.out.box (by decide))
                      have HE : Hid (VI wo b ao n cap (A + 9 + 160 * (i : Int) + 6 + 75 * (2 - ((k - 1 : Nat) : Int))) g7 nm (.slice (some ⟨g6, 0, none⟩) N c6) (T ++ [tl]) (.slice a2 Z.length c2) Z (w6.setCell ⟨g7, 1, none⟩ (.slice (some ⟨g6, 0, none⟩) N c6))) := by
                        have e := hN.out
                        subst e
                        exact (H43.out.pushT ho hgr).mono (by omega)
                      refine ⟨trivial, ?_⟩
                      try simp only [Act.put, List.getElem_toArray, List.getElem_cons_succ, List.getElem_cons_zero, List.setIfInBounds_toArray, List.set_cons_zero, List.set_cons_succ]
                      refine tkX 8 (hS := trivial) (h := ?_)
                      try simp only [Act.put, List.getElem_toArray, List.getElem_cons_succ, List.getElem_cons_zero, List.setIfInBounds_toArray, List.set_cons_zero, List.set_cons_succ]
                      refine wpAnyH_one 9 (by kernel_rfl) ?_
                      refine wpOp_skip _ rfl (by kernel_rfl) (exec_stS _ _ _ _ _ rfl g7 1 (some ⟨g6, 0, none⟩) N c6 _ (by kernel_rfl) (by kernel_rfl) (blkc hbx6 1) (blkf hbx6 1)) ?_
                      refine ⟨trivial, ?_⟩
                      try simp only [Act.put, List.getElem_toArray, List.getElem_cons_succ, List.getElem_cons_zero, List.setIfInBounds_toArray, List.set_cons_zero, List.set_cons_succ]
                      refine wpAnyH_done (by kernel_rfl) ?_ _
                      clear hbx6 ho hgr
                      go_wp2_with fail
                      go_roundw
                      · exact ⟨k - 1, _, _, _, _, by go_num, by omega, HE.out, by simp; omega, by omega, snoc_le HTs.out (htz)⟩
                      · simp [intOf]; omega

              · have hk1b : (kd' == 1) = false := by simpa using hk1
                by_cases hk2' : kd' = 2
                · subst hk2'
                  go_upto_region 17 with fail
                  clear s0 hcn' hck' HDz
                  refine wp_region_held (S := fun _ => True) (by kernel_rfl) ?_
                  have hbd : Below wr.heap.size wr ({ heap := wr.heap, tape := wr.tape, drawn := wr.drawn + 1, os := wr.os, output := wr.output } : World) := (Below.refl _ _).drew
                  generalize ({ heap := wr.heap, tape := wr.tape, drawn := wr.drawn + 1, os := wr.os, output := wr.output } : World) = wd44 at *
                  have H45 := hidd (HV.out.below hbd)
                  clear hbd
                  try simp only [Act.put, List.getElem_toArray, List.getElem_cons_succ, List.getElem_cons_zero, List.setIfInBounds_toArray, List.set_cons_zero, List.set_cons_succ]
                  refine tkX 0 (hS := trivial) (h := ?_)
                  try simp only [Act.put, List.getElem_toArray, List.getElem_cons_succ, List.getElem_cons_zero, List.setIfInBounds_toArray, List.set_cons_zero, List.set_cons_succ]
                  refine tkX 3 (hS := trivial) (h := ?_)
                  try simp only [Act.put, List.getElem_toArray, List.getElem_cons_succ, List.getElem_cons_zero, List.setIfInBounds_toArray, List.set_cons_zero, List.set_cons_succ]
                  refine wpAnyH_three 1 2 4 (by kernel_rfl) ?_ ?_ ?_
                  · refine wpOp_val _ _ rfl (by kernel_rfl) (exec_ldS _ _ _ _ rfl g7 1 (.slice a1 T.length c1) ⟨_, _, _, rfl⟩ (by kernel_rfl) (blkc H45.out.box 1)) ?_
                    refine ⟨trivial, ?_⟩
                    try simp only [Act.put, List.getElem_toArray, List.getElem_cons_succ, List.getElem_cons_zero, List.setIfInBounds_toArray, List.set_cons_zero, List.set_cons_succ]
                    refine wpAnyH_two 2 4 (by kernel_rfl) ?_ ?_
                    · refine wpOp_val _ _ rfl (by kernel_rfl) (exec_bx5S _ _ _ _ _ _ _ _ rfl ⟨#[114, 101, 100]⟩ ⟨#[103, 114, 101, 101, 110]⟩ ⟨#[98, 108, 117, 101]⟩ ⟨#[82, 101, 100]⟩ ⟨#[97, 32, 98]⟩ (by kernel_rfl) (by kernel_rfl) (by kernel_rfl) (by kernel_rfl) (by kernel_rfl)) ?_
                      have q48l : Hid (b < wd44.heap.size) := H45.out.src.lt
                      have hba : Below wd44.heap.size wd44 (wd44.alloc (.cells #[.string ⟨#[114, 101, 100]⟩, .string ⟨#[103, 114, 101, 101, 110]⟩, .string ⟨#[98, 108, 117, 101]⟩, .string ⟨#[82, 101, 100]⟩, .string ⟨#[97, 32, 98]⟩] 9)) := (Below.refl _ _).alloc (Nat.le_refl _) _
                      have H49 := hidd (H45.out.below hba)
                      have T47 := hidd (heap_alloc_new wd44 (.cells #[.string ⟨#[114, 101, 100]⟩, .string ⟨#[103, 114, 101, 101, 110]⟩, .string ⟨#[98, 108, 117, 101]⟩, .string ⟨#[82, 101, 100]⟩, .string ⟨#[97, 32, 98]⟩] 9))
                      clear hba
                      refine ⟨trivial, ?_⟩
                      try simp only [Act.put, List.getElem_toArray, List.getElem_cons_succ, List.getElem_cons_zero, List.setIfInBounds_toArray, List.set_cons_zero, List.set_cons_succ]
                      obtain ⟨q48, hq48⟩ : ∃ g, wd44.heap.size = g := ⟨_, rfl⟩
                      rw [hq48] at T47 q48l
                      simp only [hq48]
                      clear hq48
                      generalize wd44.alloc (.cells #[.string ⟨#[114, 101, 100]⟩, .string ⟨#[103, 114, 101, 101, 110]⟩, .string ⟨#[98, 108, 117, 101]⟩, .string ⟨#[82, 101, 100]⟩, .string ⟨#[97, 32, 98]⟩] 9) = w46 at *
                      refine wpAnyH_one 4 (by kernel_rfl) ?_
                      refine wpOp_call 14 #[.pointer (some ⟨b, 0, none⟩), .int .i64 5] rfl (by kernel_rfl) (rbx_call2 _ _ _ _ _ _ _ _ rfl _ _ (by kernel_rfl) (by kernel_rfl) (Tryz.call14 _ _)) ?_
                      refine (nextS H49.out.src hn (by omega) 5 (by omega) (by omega)).mono ?_
                      rintro e' w50 ⟨y, rfl, hy, hsd, hbb⟩
                      have H51 := hidd (H49.out.draw hsd hbb)
                      have T52 := hidd (hbb.blk T47.out (fun e => by have := q48l.out; omega))
                      obtain ⟨tl, htl, hcl⟩ := col_at y (by omega) T52.out
                      clear hsd hbb
                      refine ⟨trivial, ?_⟩
                      try simp only [Act.put, List.getElem_toArray, List.getElem_cons_succ, List.getElem_cons_zero, List.setIfInBounds_toArray, List.set_cons_zero, List.set_cons_succ]
                      refine tkX 5 (v := .pointer (some ⟨q48, y, none⟩)) (hx := fun u _ => exec_ixS u _ _ _ _ rfl q48 y 5 (by kernel_rfl) (by kernel_rfl) (by omega) (by omega)) (hS := trivial) (h := ?_)
                      try simp only [Act.put, List.getElem_toArray, List.getElem_cons_succ, List.getElem_cons_zero, List.setIfInBounds_toArray, List.set_cons_zero, List.set_cons_succ]
                      refine wpAnyH_one 6 (by kernel_rfl) ?_
                      refine wpOp_val _ _ rfl (by kernel_rfl) (exec_ldStr _ _ _ _ rfl q48 y ⟨tl.toArray⟩ (by kernel_rfl) hcl) ?_
                      refine ⟨trivial, ?_⟩
                      try simp only [Act.put, List.getElem_toArray, List.getElem_cons_succ, List.getElem_cons_zero, List.setIfInBounds_toArray, List.set_cons_zero, List.set_cons_succ]
                      refine wpAnyH_one 7 (by kernel_rfl) ?_
                      refine wpOp_val _ _ rfl (by kernel_rfl) (exec_bxS _ _ _ _ rfl ⟨tl.toArray⟩ (by kernel_rfl)) ?_
                      have hba : Below w50.heap.size w50 (w50.alloc (.cells #[.string ⟨tl.toArray⟩] 9)) := (Below.refl _ _).alloc (Nat.le_refl _) _
                      have H56 := hidd (H51.out.below hba)
                      have B54 := hidd (heap_alloc_new w50 (.cells #[.string ⟨tl.toArray⟩] 9))
                      clear hba
                      refine ⟨trivial, ?_⟩
                      try simp only [Act.put, List.getElem_toArray, List.getElem_cons_succ, List.getElem_cons_zero, List.setIfInBounds_toArray, List.set_cons_zero, List.set_cons_succ]
                      obtain ⟨q55, hq55⟩ : ∃ g, w50.heap.size = g := ⟨_, rfl⟩
                      rw [hq55] at B54
                      simp only [hq55]
                      clear hq55
                      generalize w50.alloc (.cells #[.string ⟨tl.toArray⟩] 9) = w53 at *
                      refine wpAnyH_one 8 (by kernel_rfl) ?_
                      refine wpOp_pushS rfl (by kernel_rfl) _ _ rfl wo.heap.size _ T (by kernel_rfl) H56.out.txt q55 tl (by kernel_rfl) B54.out (by omega) H56.out.but.size ?_
                      intro g6 c6 w6 N hN ho hgr
                      have hbx6 := (but_own hgr).blk H56.out.box (own_apartB H56.out.txt H56.out.box (by decide))
                      have HE : Hid (VI wo b ao n cap (A + 9 + 160 * (i : Int) + 6 + 75 * (2 - ((k - 1 : Nat) : Int))) g7 nm (.slice (some ⟨g6, 0, none⟩) N c6) (T ++ [tl]) (.slice a2 Z.length c2) Z (w6.setCell ⟨g7, 1, none⟩ (.slice (some ⟨g6, 0, none⟩) N c6))) := by
                        have e := hN.out
                        subst e
                        exact (H56.out.pushT ho hgr).mono (by omega)
                      refine ⟨trivial, ?_⟩
                      try simp only [Act.put, List.getElem_toArray, List.getElem_cons_succ, List.getElem_cons_zero, List.setIfInBounds_toArray, List.set_cons_zero, List.set_cons_succ]
                      refine tkX 9 (hS := trivial) (h := ?_)
                      try simp only [Act.put, List.getElem_toArray, List.getElem_cons_succ, List.getElem_cons_zero, List.setIfInBounds_toArray, List.set_cons_zero, List.set_cons_succ]
                      refine wpAnyH_one 10 (by kernel_rfl) ?_
                      refine wpOp_skip _ rfl (by kernel_rfl) (exec_stS _ _ _ _ _ rfl g7 1 (some ⟨g6, 0, none⟩) N c6 _ (by kernel_rfl) (by kernel_rfl) (blkc hbx6 1) (blkf hbx6 1)) ?_
                      refine ⟨trivial, ?_⟩
                      try simp only [Act.put, List.getElem_toArray, List.getElem_cons_succ, List.getElem_cons_zero, List.setIfInBounds_toArray, List.set_cons_zero, List.set_cons_succ]
                      refine wpAnyH_done (by kernel_rfl) ?_ _
                      clear hbx6 ho hgr
                      go_wp2_with fail
                      go_roundw
                      · exact ⟨k - 1, _, _, _, _, by go_num, by omega, HE.out, by simp; omega, by omega, snoc_le HTs.out ((by omega))⟩
                      · simp [intOf]; omega
                    · refine wpOp_call 14 #[.pointer (some ⟨b, 0, none⟩), .int .i64 5] rfl (by kernel_rfl) (rbx_call2 _ _ _ _ _ _ _ _ rfl _ _ (by kernel_rfl) (by kernel_rfl) (Tryz.call14 _ _)) ?_
                      refine (nextS H45.out.src hn (by omega) 5 (by omega) (by omega)).mono ?_
                      rintro e' w57 ⟨y, rfl, hy, hsd, hbb⟩
                      have H58 := hidd (H45.out.draw hsd hbb)
                      clear hsd hbb
                      refine ⟨trivial, ?_⟩
                      try simp only [Act.put, List.getElem_toArray, List.getElem_cons_succ, List.getElem_cons_zero, List.setIfInBounds_toArray, List.set_cons_zero, List.set_cons_succ]
                      refine wpAnyH_one 2 (by kernel_rfl) ?_
                      refine wpOp_val _ _ rfl (by kernel_rfl) (exec_bx5S _ _ _ _ _ _ _ _ rfl ⟨#[114, 101, 100]⟩ ⟨#[103, 114, 101, 101, 110]⟩ ⟨#[98, 108, 117, 101]⟩ ⟨#[82, 101, 100]⟩ ⟨#[97, 32, 98]⟩ (by kernel_rfl) (by kernel_rfl) (by kernel_rfl) (by kernel_rfl) (by kernel_rfl)) ?_
                      have q61l : Hid (b < w57.heap.size) := H58.out.src.lt
                      have hba : Below w57.heap.size w57 (w57.alloc (.cells #[.string ⟨#[114, 101, 100]⟩, .string ⟨#[103, 114, 101, 101, 110]⟩, .string ⟨#[98, 108, 117, 101]⟩, .string ⟨#[82, 101, 100]⟩, .string ⟨#[97, 32, 98]⟩] 9)) := (Below.refl _ _).alloc (Nat.le_refl _) _
                      have H62 := hidd (H58.out.below hba)
                      have T60 := hidd (heap_alloc_new w57 (.cells #[.string ⟨#[114, 101, 100]⟩, .string ⟨#[103, 114, 101, 101, 110]⟩, .string ⟨#[98, 108, 117, 101]⟩, .string ⟨#[82, 101, 100]⟩, .string ⟨#[97, 32, 98]⟩] 9))
                      clear hba
                      refine ⟨trivial, ?_⟩
                      try simp only [Act.put, List.getElem_toArray, List.getElem_cons_succ, List.getElem_cons_zero, List.setIfInBounds_toArray, List.set_cons_zero, List.set_cons_succ]
                      obtain ⟨q61, hq61⟩ : ∃ g, w57.heap.size = g := ⟨_, rfl⟩
                      rw [hq61] at T60 q61l
                      simp only [hq61]
                      clear hq61
                      generalize w57.alloc (.cells #[.string ⟨#[114, 101, 100]⟩, .string ⟨#[103, 114, 101, 101, 110]⟩, .string ⟨#[98, 108, 117, 101]⟩, .string ⟨#[82, 101, 100]⟩, .string ⟨#[97, 32, 98]⟩] 9) = w59 at *
                      obtain ⟨tl, htl, hcl⟩ := col_at y (by omega) T60.out
                      refine tkX 5 (v := .pointer (some ⟨q61, y, none⟩)) (hx := fun u _ => exec_ixS u _ _ _ _ rfl q61 y 5 (by kernel_rfl) (by kernel_rfl) (by omega) (by omega)) (hS := trivial) (h := ?_)
                      try simp only [Act.put, List.getElem_toArray, List.getElem_cons_succ, List.getElem_cons_zero, List.setIfInBounds_toArray, List.set_cons_zero, List.set_cons_succ]
                      refine wpAnyH_one 6 (by kernel_rfl) ?_
                      refine wpOp_val _ _ rfl (by kernel_rfl) (exec_ldStr _ _ _ _ rfl q61 y ⟨tl.toArray⟩ (by kernel_rfl) hcl) ?_
                      refine ⟨trivial, ?_⟩
                      try simp only [Act.put, List.getElem_toArray, List.getElem_cons_succ, List.getElem_cons_zero, List.setIfInBounds_toArray, List.set_cons_zero, List.set_cons_succ]
                      refine wpAnyH_one 7 (by kernel_rfl) ?_
                      refine wpOp_val _ _ rfl (by kernel_rfl) (exec_bxS _ _ _ _ rfl ⟨tl.toArray⟩ (by kernel_rfl)) ?_
                      have hba : Below w59.heap.size w59 (w59.alloc (.cells #[.string ⟨tl.toArray⟩] 9)) := (Below.refl _ _).alloc (Nat.le_refl _) _
                      have H66 := hidd (H62.out.below hba)
                      have B64 := hidd (heap_alloc_new w59 (.cells #[.string ⟨tl.toArray⟩] 9))
                      clear hba
                      refine ⟨trivial, ?_⟩
                      try simp only [Act.put, List.getElem_toArray, List.getElem_cons_succ, List.getElem_cons_zero, List.setIfInBounds_toArray, List.set_cons_zero, List.set_cons_succ]
                      obtain ⟨q65, hq65⟩ : ∃ g, w59.heap.size = g := ⟨_, rfl⟩
                      rw [hq65] at B64
                      simp only [hq65]
                      clear hq65
                      generalize w59.alloc (.cells #[.string ⟨tl.toArray⟩] 9) = w63 at *
                      refine wpAnyH_one 8 (by kernel_rfl) ?_
                      refine wpOp_pushS rfl (by kernel_rfl) _ _ rfl wo.heap.size _ T (by kernel_rfl) H66.out.txt q65 tl (by kernel_rfl) B64.out (by omega) H66.out.but.size ?_
                      intro g6 c6 w6 N hN ho hgr
                      have hbx6 := (but_own hgr).blk H66.out.box (own_apartB H66.out.txt H66.out.box (by decide))
                      have HE : Hid (VI wo b ao n cap (A + 9 + 160 * (i : Int) + 6 + 75 * (2 - ((k - 1 : Nat) : Int))) g7 nm (.slice (some ⟨g6, 0, none⟩) N c6) (T ++ [tl]) (.slice a2 Z.length c2) Z (w6.setCell ⟨g7, 1, none⟩ (.slice (some ⟨g6, 0, none⟩) N c6))) := by
                        have e := hN.out
                        subst e
                        exact (H66.out.pushT ho hgr).mono (by omega)
                      refine ⟨trivial, ?_⟩
                      try simp only [Act.put, List.getElem_toArray, List.getElem_cons_succ, List.getElem_cons_zero, List.setIfInBounds_toArray, List.set_cons_zero, List.set_cons_succ]
                      refine tkX 9 (hS := trivial) (h := ?_)
                      try simp only [Act.put, List.getElem_toArray, List.getElem_cons_succ, List.getElem_cons_zero, List.setIfInBounds_toArray, List.set_cons_zero, List.set_cons_succ]
                      refine wpAnyH_one 10 (by kernel_rfl) ?_
                      refine wpOp_skip _ rfl (by kernel_rfl) (exec_stS _ _ _ _ _ rfl g7 1 (some ⟨g6, 0, none⟩) N c6 _ (by kernel_rfl) (by kernel_rfl) (blkc hbx6 1) (blkf hbx6 1)) ?_
                      refine ⟨trivial, ?_⟩
                      try simp only [Act.put, List.getElem_toArray, List.getElem_cons_succ, List.getElem_cons_zero, List.setIfInBounds_toArray, List.set_cons_zero, List.set_cons_succ]
                      refine wpAnyH_done (by kernel_rfl) ?_ _
                      clear hbx6 ho hgr
                      go_wp2_with fail
                      go_roundw
                      · exact ⟨k - 1, _, _, _, _, by go_num, by omega, HE.out, by simp; omega, by omega, snoc_le HTs.out ((by omega))⟩
                      · simp [intOf]; omega
                  · refine wpOp_val _ _ rfl (by kernel_rfl) (exec_bx5S _ _ _ _ _ _ _ _ rfl ⟨#[114, 101, 100]⟩ ⟨#[103, 114, 101, 101, 110]⟩ ⟨#[98, 108, 117, 101]⟩ ⟨#[82, 101, 100]⟩ ⟨#[97, 32, 98]⟩ (by kernel_rfl) (by kernel_rfl) (by kernel_rfl) (by kernel_rfl) (by kernel_rfl)) ?_
                    have q69l : Hid (b < wd44.heap.size) := H45.out.src.lt
                    have hba : Below wd44.heap.size wd44 (wd44.alloc (.cells #[.string ⟨#[114, 101, 100]⟩, .string ⟨#[103, 114, 101, 101, 110]⟩, .string ⟨#[98, 108, 117, 101]⟩, .string ⟨#[82, 101, 100]⟩, .string ⟨#[97, 32, 98]⟩] 9)) := (Below.refl _ _).alloc (Nat.le_refl _) _
                    have H70 := hidd (H45.out.below hba)
                    have T68 := hidd (heap_alloc_new wd44 (.cells #[.string ⟨#[114, 101, 100]⟩, .string ⟨#[103, 114, 101, 101, 110]⟩, .string ⟨#[98, 108, 117, 101]⟩, .string ⟨#[82, 101, 100]⟩, .string ⟨#[97, 32, 98]⟩] 9))
                    clear hba
                    refine ⟨trivial, ?_⟩
                    try simp only [Act.put, List.getElem_toArray, List.getElem_cons_succ, List.getElem_cons_zero, List.setIfInBounds_toArray, List.set_cons_zero, List.set_cons_succ]
                    obtain ⟨q69, hq69⟩ : ∃ g, wd44.heap.size = g := ⟨_, rfl⟩
                    rw [hq69] at T68 q69l
                    simp only [hq69]
                    clear hq69
                    generalize wd44.alloc (.cells #[.string ⟨#[114, 101, 100]⟩, .string ⟨#[103, 114, 101, 101, 110]⟩, .string ⟨#[98, 108, 117, 101]⟩, .string ⟨#[82, 101, 100]⟩, .string ⟨#[97, 32, 98]⟩] 9) = w67 at *
                    refine wpAnyH_two 1 4 (by kernel_rfl) ?_ ?_
                    · refine wpOp_val _ _ rfl (by kernel_rfl) (exec_ldS _ _ _ _ rfl g7 1 (.slice a1 T.length c1) ⟨_, _, _, rfl⟩ (by kernel_rfl) (blkc H70.out.box 1)) ?_
                      refine ⟨trivial, ?_⟩
                      try simp only [Act.put, List.getElem_toArray, List.getElem_cons_succ, List.getElem_cons_zero, List.setIfInBounds_toArray, List.set_cons_zero, List.set_cons_succ]
                      refine wpAnyH_one 4 (by kernel_rfl) ?_
                      refine wpOp_call 14 #[.pointer (some ⟨b, 0, none⟩), .int .i64 5] rfl (by kernel_rfl) (rbx_call2 _ _ _ _ _ _ _ _ rfl _ _ (by kernel_rfl) (by kernel_rfl) (Tryz.call14 _ _)) ?_
                      refine (nextS H70.out.src hn (by omega) 5 (by omega) (by omega)).mono ?_
                      rintro e' w71 ⟨y, rfl, hy, hsd, hbb⟩
                      have H72 := hidd (H70.out.draw hsd hbb)
                      have T73 := hidd (hbb.blk T68.out (fun e => by have := q69l.out; omega))
                      obtain ⟨tl, htl, hcl⟩ := col_at y (by omega) T73.out
                      clear hsd hbb
                      refine ⟨trivial, ?_⟩
                      try simp only [Act.put, List.getElem_toArray, List.getElem_cons_succ, List.getElem_cons_zero, List.setIfInBounds_toArray, List.set_cons_zero, List.set_cons_succ]
                      refine tkX 5 (v := .pointer (some ⟨q69, y, none⟩)) (hx := fun u _ => exec_ixS u _ _ _ _ rfl q69 y 5 (by kernel_rfl) (by kernel_rfl) (by omega) (by omega)) (hS := trivial) (h := ?_)
                      try simp only [Act.put, List.getElem_toArray, List.getElem_cons_succ, List.getElem_cons_zero, List.setIfInBounds_toArray, List.set_cons_zero, List.set_cons_succ]
                      refine wpAnyH_one 6 (by kernel_rfl) ?_
                      refine wpOp_val _ _ rfl (by kernel_rfl) (exec_ldStr _ _ _ _ rfl q69 y ⟨tl.toArray⟩ (by kernel_rfl) hcl) ?_
                      refine ⟨trivial, ?_⟩
                      try simp only [Act.put, List.getElem_toArray, List.getElem_cons_succ, List.getElem_cons_zero, List.setIfInBounds_toArray, List.set_cons_zero, List.set_cons_succ]
                      refine wpAnyH_one 7 (by kernel_rfl) ?_
                      refine wpOp_val _ _ rfl (by kernel_rfl) (exec_bxS _ _ _ _ rfl ⟨tl.toArray⟩ (by kernel_rfl)) ?_
                      have hba : Below w71.heap.size w71 (w71.alloc (.cells #[.string ⟨tl.toArray⟩] 9)) := (Below.refl _ _).alloc (Nat.le_refl _) _
                      have H77 := hidd (H72.out.below hba)
                      have B75 := hidd (heap_alloc_new w71 (.cells #[.string ⟨tl.toArray⟩] 9))
                      clear hba
                      refine ⟨trivial, ?_⟩
                      try simp only [Act.put, List.getElem_toArray, List.getElem_cons_succ, List.getElem_cons_zero, List.setIfInBounds_toArray, List.set_cons_zero, List.set_cons_succ]
                      obtain ⟨q76, hq76⟩ : ∃ g, w71.heap.size = g := ⟨_, rfl⟩
                      rw [hq76] at B75
                      simp only [hq76]
                      clear hq76
                      generalize w71.alloc (.cells #[.string ⟨tl.toArray⟩] 9) = w74 at *
                      refine wpAnyH_one 8 (by kernel_rfl) ?_
                      refine wpOp_pushS rfl (by kernel_rfl) _ _ rfl wo.heap.size _ T (by kernel_rfl) H77.out.txt q76 tl (by kernel_rfl) B75.out (by omega) H77.out.but.size ?_
                      intro g6 c6 w6 N hN ho hgr
                      have hbx6 := (but_own hgr).blk H77.out.box (own_apartB H77.out.txt H77.out.box (by decide))
                      have HE : Hid (VI wo b ao n cap (A + 9 + 160 * (i : Int) + 6 + 75 * (2 - ((k - 1 : Nat) : Int))) g7 nm (.slice (some ⟨g6, 0, none⟩) N c6) (T ++ [tl]) (.slice a2 Z.length c2) Z (w6.setCell ⟨g7, 1, none⟩ (.slice (some ⟨g6, 0, none⟩) N c6))) := by
                        have e := hN.out
                        subst e
                        exact (H77.out.pushT ho hgr).mono (by omega)
                      refine ⟨trivial, ?_⟩
                      try simp only [Act.put, List.getElem_toArray, List.getElem_cons_succ, List.getElem_cons_zero, List.setIfInBounds_toArray, List.set_cons_zero, List.set_cons_succ]
                      refine tkX 9 (hS := trivial) (h := ?_)
                      try simp only [Act.put, List.getElem_toArray, List.getElem_cons_succ, List.getElem_cons_zero, List.setIfInBounds_toArray, List.set_cons_zero, List.set_cons_succ]
                      refine wpAnyH_one 10 (by kernel_rfl) ?_
                      refine wpOp_skip _ rfl (by kernel_rfl) (exec_stS _ _ _ _ _ rfl g7 1 (some ⟨g6, 0, none⟩) N c6 _ (by kernel_rfl) (by kernel_rfl) (blkc hbx6 1) (blkf hbx6 1)) ?_
                      refine ⟨trivial, ?_⟩
                      try simp only [Act.put, List.getElem_toArray, List.getElem_cons_succ, List.getElem_cons_zero, List.setIfInBounds_toArray, List.set_cons_zero, List.set_cons_succ]
                      refine wpAnyH_done (by kernel_rfl) ?_ _
                      clear hbx6 ho hgr
                      go_wp2_with fail
                      go_roundw
                      · exact ⟨k - 1, _, _, _, _, by go_num, by omega, HE.out, by simp; omega, by omega, snoc_le HTs.out ((by omega))⟩
                      · simp [intOf]; omega
                    · refine wpOp_call 14 #[.pointer (some ⟨b, 0, none⟩), .int .i64 5] rfl (by kernel_rfl) (rbx_call2 _ _ _ _ _ _ _ _ rfl _ _ (by kernel_rfl) (by kernel_rfl) (Tryz.call14 _ _)) ?_
                      refine (nextS H70.out.src hn (by omega) 5 (by omega) (by omega)).mono ?_
                      rintro e' w78 ⟨y, rfl, hy, hsd, hbb⟩
                      have H79 := hidd (H70.out.draw hsd hbb)
                      have T80 := hidd (hbb.blk T68.out (fun e => by have := q69l.out; omega))
                      obtain ⟨tl, htl, hcl⟩ := col_at y (by omega) T80.out
                      clear hsd hbb
                      refine ⟨trivial, ?_⟩
                      try simp only [Act.put, List.getElem_toArray, List.getElem_cons_succ, List.getElem_cons_zero, List.setIfInBounds_toArray, List.set_cons_zero, List.set_cons_succ]
                      refine tkX 5 (v := .pointer (some ⟨q69, y, none⟩)) (hx := fun u _ => exec_ixS u _ _ _ _ rfl q69 y 5 (by kernel_rfl) (by kernel_rfl) (by omega) (by omega)) (hS := trivial) (h := ?_)
                      try simp only [Act.put, List.getElem_toArray, List.getElem_cons_succ, List.getElem_cons_zero, List.setIfInBounds_toArray, List.set_cons_zero, List.set_cons_succ]
                      refine wpAnyH_two 1 6 (by kernel_rfl) ?_ ?_
                      · refine wpOp_val _ _ rfl (by kernel_rfl) (exec_ldS _ _ _ _ rfl g7 1 (.slice a1 T.length c1) ⟨_, _, _, rfl⟩ (by kernel_rfl) (blkc H79.out.box 1)) ?_
                        refine ⟨trivial, ?_⟩
                        try simp only [Act.put, List.getElem_toArray, List.getElem_cons_succ, List.getElem_cons_zero, List.setIfInBounds_toArray, List.set_cons_zero, List.set_cons_succ]
                        refine wpAnyH_one 6 (by kernel_rfl) ?_
                        refine wpOp_val _ _ rfl (by kernel_rfl) (exec_ldStr _ _ _ _ rfl q69 y ⟨tl.toArray⟩ (by kernel_rfl) hcl) ?_
                        refine ⟨trivial, ?_⟩
                        try simp only [Act.put, List.getElem_toArray, List.getElem_cons_succ, List.getElem_cons_zero, List.setIfInBounds_toArray, List.set_cons_zero, List.set_cons_succ]
                        refine wpAnyH_one 7 (by kernel_rfl) ?_
                        refine wpOp_val _ _ rfl (by kernel_rfl) (exec_bxS _ _ _ _ rfl ⟨tl.toArray⟩ (by kernel_rfl)) ?_
                        have hba : Below w78.heap.size w78 (w78.alloc (.cells #[.string ⟨tl.toArray⟩] 9)) := (Below.refl _ _).alloc (Nat.le_refl _) _
                        have H84 := hidd (H79.out.below hba)
                        have B82 := hidd (heap_alloc_new w78 (.cells #[.string ⟨tl.toArray⟩] 9))
                        clear hba
                        refine ⟨trivial, ?_⟩
                        try simp only [Act.put, List.getElem_toArray, List.getElem_cons_succ, List.getElem_cons_zero, List.setIfInBounds_toArray, List.set_cons_zero, List.set_cons_succ]
                        obtain ⟨q83, hq83⟩ : ∃ g, w78.heap.size = g := ⟨_, rfl⟩
                        rw [hq83] at B82
                        simp only [hq83]
                        clear hq83
                        generalize w78.alloc (.cells #[.string ⟨tl.toArray⟩] 9) = w81 at *
                        refine wpAnyH_one 8 (by kernel_rfl) ?_
                        refine wpOp_pushS rfl (by kernel_rfl) _ _ rfl wo.heap.size _ T (by kernel_rfl) H84.out.txt q83 tl (by kernel_rfl) B82.out (by omega) H84.out.but.size ?_
                        intro g6 c6 w6 N hN ho hgr
                        have hbx6 := (but_own hgr).blk H84.out.box (own_apartB H84.out.txt H84.out.box (by decide))
                        have HE : Hid (VI wo b ao n cap (A + 9 + 160 * (i : Int) + 6 + 75 * (2 - ((k - 1 : Nat) : Int))) g7 nm (.slice (some ⟨g6, 0, none⟩) N c6) (T ++ [tl]) (.slice a2 Z.length c2) Z (w6.setCell ⟨g7, 1, none⟩ (.slice (some ⟨g6, 0, none⟩) N c6))) := by
                          have e := hN.out
                          subst e
                          exact (H84.out.pushT ho hgr).mono (by omega)
                        refine ⟨trivial, ?_⟩
                        try simp only [Act.put, List.getElem_toArray, List.getElem_cons_succ, List.getElem_cons_zero, List.setIfInBounds_toArray, List.set_cons_zero, List.set_cons_succ]
                        refine tkX 9 (hS := trivial) (h := ?_)
                        try simp only [Act.put, List.getElem_toArray, List.getElem_cons_succ, List.getElem_cons_zero, List.setIfInBounds_toArray, List.set_cons_zero, List.set_cons_succ]
                        refine wpAnyH_one 10 (by kernel_rfl) ?_
                        refine wpOp_skip _ rfl (by kernel_rfl) (exec_stS _ _ _ _ _ rfl g7 1 (some ⟨g6, 0, none⟩) N c6 _ (by kernel_rfl) (by kernel_rfl) (blkc hbx6 1) (blkf hbx6 1)) ?_
                        refine ⟨trivial, ?_⟩
                        try simp only [Act.put, List.getElem_toArray, List.getElem_cons_succ, List.getElem_cons_zero, List.setIfInBounds_toArray, List.set_cons_zero, List.set_cons_succ]
                        refine wpAnyH_done (by kernel_rfl) ?_ _
                        clear hbx6 ho hgr
                        go_wp2_with fail
                        go_roundw
                        · exact ⟨k - 1, _, _, _, _, by go_num, by omega, HE.out, by simp; omega, by omega, snoc_le HTs.out ((by omega))⟩
                        · simp [intOf]; omega
                      · refine wpOp_val _ _ rfl (by kernel_rfl) (exec_ldStr _ _ _ _ rfl q69 y ⟨tl.toArray⟩ (by kernel_rfl) hcl) ?_
                        refine ⟨trivial, ?_⟩
                        try simp only [Act.put, List.getElem_toArray, List.getElem_cons_succ, List.getElem_cons_zero, List.setIfInBounds_toArray, List.set_cons_zero, List.set_cons_succ]
                        refine wpAnyH_two 1 7 (by kernel_rfl) ?_ ?_
                        · refine wpOp_val _ _ rfl (by kernel_rfl) (exec_ldS _ _ _ _ rfl g7 1 (.slice a1 T.length c1) ⟨_, _, _, rfl⟩ (by kernel_rfl) (blkc H79.out.box 1)) ?_
                          refine ⟨trivial, ?_⟩
                          try simp only [Act.put, List.getElem_toArray, List.getElem_cons_succ, List.getElem_cons_zero, List.setIfInBounds_toArray, List.set_cons_zero, List.set_cons_succ]
                          refine wpAnyH_one 7 (by kernel_rfl) ?_
                          refine wpOp_val _ _ rfl (by kernel_rfl) (exec_bxS _ _ _ _ rfl ⟨tl.toArray⟩ (by kernel_rfl)) ?_
                          have hba : Below w78.heap.size w78 (w78.alloc (.cells #[.string ⟨tl.toArray⟩] 9)) := (Below.refl _ _).alloc (Nat.le_refl _) _
                          have H88 := hidd (H79.out.below hba)
                          have B86 := hidd (heap_alloc_new w78 (.cells #[.string ⟨tl.toArray⟩] 9))
                          clear hba
                          refine ⟨trivial, ?_⟩
                          try simp only [Act.put, List.getElem_toArray, List.getElem_cons_succ, List.getElem_cons_zero, List.setIfInBounds_toArray, List.set_cons_zero, List.set_cons_succ]
                          obtain ⟨q87, hq87⟩ : ∃ g, w78.heap.size = g := ⟨_, rfl⟩
                          rw [hq87] at B86
                          simp only [hq87]
                          clear hq87
                          generalize w78.alloc (.cells #[.string ⟨tl.toArray⟩] 9) = w85 at *
                          refine wpAnyH_one 8 (by kernel_rfl) ?_
                          refine wpOp_pushS rfl (by kernel_rfl) _ _ rfl wo.heap.size _ T (by kernel_rfl) H88.out.txt q87 tl (by kernel_rfl) B86.out (by omega) H88.out.but.size ?_
                          intro g6 c6 w6 N hN ho hgr
                          have hbx6 := (but_own hgr).blk H88.out.box (own_apartB H88.out.txt H88.out.box (by decide))
                          have HE : Hid (VI wo b ao n cap (A + 9 + 160 * (i : Int) + 6 + 75 * (2 - ((k - 1 : Nat) : Int))) g7 nm (.slice (some ⟨g6, 0, none⟩) N c6) (T ++ [tl]) (.slice a2 Z.length c2) Z (w6.setCell ⟨g7, 1, none⟩ (.slice (some ⟨g6, 0, none⟩) N c6))) := by
                            have e := hN.out
                            subst e
                            exact (H88.out.pushT ho hgr).mono (by omega)
                          refine ⟨trivial, ?_⟩
                          try simp only [Act.put, List.getElem_toArray, List.getElem_cons_succ, List.getElem_cons_zero, List.setIfInBounds_toArray, List.set_cons_zero, List.set_cons_succ]
                          refine tkX 9 (hS := trivial) (h := ?_)
                          try simp only [Act.put, List.getElem_toArray, List.getElem_cons_succ, List.getElem_cons_zero, List.setIfInBounds_toArray, List.set_cons_zero, List.set_cons_succ]
                          refine wpAnyH_one 10 (by kernel_rfl) ?_
                          refine wpOp_skip _ rfl (by kernel_rfl) (exec_stS _ _ _ _ _ rfl g7 1 (some ⟨g6, 0, none⟩) N c6 _ (by kernel_rfl) (by kernel_rfl) (blkc hbx6 1) (blkf hbx6 1)) ?_
                          refine ⟨trivial, ?_⟩
                          try simp only [Act.put, List.getElem_toArray, List.getElem_cons_succ, List.getElem_cons_zero, List.setIfInBounds_toArray, List.set_cons_zero, List.set_cons_succ]
                          refine wpAnyH_done (by kernel_rfl) ?_ _
                          clear hbx6 ho hgr
                          go_wp2_with fail
                          go_roundw
                          · exact ⟨k - 1, _, _, _, _, by go_num, by omega, HE.out, by simp; omega, by omega, snoc_le HTs.out ((by omega))⟩
                          · simp [intOf]; omega
                        · refine wpOp_val _ _ rfl (by kernel_rfl) (exec_bxS _ _ _ _ rfl ⟨tl.toArray⟩ (by kernel_rfl)) ?_
                          have hba : Below w78.heap.size w78 (w78.alloc (.cells #[.string ⟨tl.toArray⟩] 9)) := (Below.refl _ _).alloc (Nat.le_refl _) _
                          have H92 := hidd (H79.out.below hba)
                          have B90 := hidd (heap_alloc_new w78 (.cells #[.string ⟨tl.toArray⟩] 9))
                          clear hba
                          refine ⟨trivial, ?_⟩
                          try simp only [Act.put, List.getElem_toArray, List.getElem_cons_succ, List.getElem_cons_zero, List.setIfInBounds_toArray, List.set_cons_zero, List.set_cons_succ]
                          obtain ⟨q91, hq91⟩ : ∃ g, w78.heap.size = g := ⟨_, rfl⟩
                          rw [hq91] at B90
                          simp only [hq91]
                          clear hq91
                          generalize w78.alloc (.cells #[.string ⟨tl.toArray⟩] 9) = w89 at *
                          refine wpAnyH_one 1 (by kernel_rfl) ?_
                          refine wpOp_val _ _ rfl (by kernel_rfl) (exec_ldS _ _ _ _ rfl g7 1 (.slice a1 T.length c1) ⟨_, _, _, rfl⟩ (by kernel_rfl) (blkc H92.out.box 1)) ?_
                          refine ⟨trivial, ?_⟩
                          try simp only [Act.put, List.getElem_toArray, List.getElem_cons_succ, List.getElem_cons_zero, List.setIfInBounds_toArray, List.set_cons_zero, List.set_cons_succ]
                          refine wpAnyH_one 8 (by kernel_rfl) ?_
                          refine wpOp_pushS rfl (by kernel_rfl) _ _ rfl wo.heap.size _ T (by kernel_rfl) H92.out.txt q91 tl (by kernel_rfl) B90.out (by omega) H92.out.but.size ?_
                          intro g6 c6 w6 N hN ho hgr
                          have hbx6 := (but_own hgr).blk H92.out.box (own_apartB H92.out.txt H92.out.box (by decide))
                          have HE : Hid (VI wo b ao n cap (A + 9 + 160 * (i : Int) + 6 + 75 * (2 - ((k - 1 : Nat) : Int))) g7 nm (.slice (some ⟨g6, 0, none⟩) N c6) (T ++ [tl]) (.slice a2 Z.length c2) Z (w6.setCell ⟨g7, 1, none⟩ (.slice (some ⟨g6, 0, none⟩) N c6))) := by
                            have e := hN.out
                            subst e
                            exact (H92.out.pushT ho hgr).mono (by omega)
                          refine ⟨trivial, ?_⟩
                          try simp only [Act.put, List.getElem_toArray, List.getElem_cons_succ, List.getElem_cons_zero, List.setIfInBounds_toArray, List.set_cons_zero, List.set_cons_succ]
                          refine tkX 9 (hS := trivial) (h := ?_)
                          try simp only [Act.put, List.getElem_toArray, List.getElem_cons_succ, List.getElem_cons_zero, List.setIfInBounds_toArray, List.set_cons_zero, List.set_cons_succ]
                          refine wpAnyH_one 10 (by kernel_rfl) ?_
                          refine wpOp_skip _ rfl (by kernel_rfl) (exec_stS _ _ _ _ _ rfl g7 1 (some ⟨g6, 0, none⟩) N c6 _ (by kernel_rfl) (by kernel_rfl) (blkc hbx6 1) (blkf hbx6 1)) ?_
                          refine ⟨trivial, ?_⟩
                          try simp only [Act.put, List.getElem_toArray, List.getElem_cons_succ, List.getElem_cons_zero, List.setIfInBounds_toArray, List.set_cons_zero, List.set_cons_succ]
                          refine wpAnyH_done (by kernel_rfl) ?_ _
                          clear hbx6 ho hgr
                          go_wp2_with fail
                          go_roundw
                          · exact ⟨k - 1, _, _, _, _, by go_num, by omega, HE.out, by simp; omega, by omega, snoc_le HTs.out ((by omega))⟩
                          · simp [intOf]; omega
                  · refine wpOp_call 14 #[.pointer (some ⟨b, 0, none⟩), .int .i64 5] rfl (by kernel_rfl) (rbx_call2 _ _ _ _ _ _ _ _ rfl _ _ (by kernel_rfl) (by kernel_rfl) (Tryz.call14 _ _)) ?_
                    refine (nextS H45.out.src hn (by omega) 5 (by omega) (by omega)).mono ?_
                    rintro e' w93 ⟨y, rfl, hy, hsd, hbb⟩
                    have H94 := hidd (H45.out.draw hsd hbb)
                    clear hsd hbb
                    refine ⟨trivial, ?_⟩
                    try simp only [Act.put, List.getElem_toArray, List.getElem_cons_succ, List.getElem_cons_zero, List.setIfInBounds_toArray, List.set_cons_zero, List.set_cons_succ]
                    refine wpAnyH_two 1 2 (by kernel_rfl) ?_ ?_
                    · refine wpOp_val _ _ rfl (by kernel_rfl) (exec_ldS _ _ _ _ rfl g7 1 (.slice a1 T.length c1) ⟨_, _, _, rfl⟩ (by kernel_rfl) (blkc H94.out.box 1)) ?_
                      refine ⟨trivial, ?_⟩
                      try simp only [Act.put, List.getElem_toArray, List.getElem_cons_succ, List.getElem_cons_zero, List.setIfInBounds_toArray, List.set_cons_zero, List.set_cons_succ]
                      refine wpAnyH_one 2 (by kernel_rfl) ?_
                      refine wpOp_val _ _ rfl (by kernel_rfl) (exec_bx5S _ _ _ _ _ _ _ _ rfl ⟨#[114, 101, 100]⟩ ⟨#[103, 114, 101, 101, 110]⟩ ⟨#[98, 108, 117, 101]⟩ ⟨#[82, 101, 100]⟩ ⟨#[97, 32, 98]⟩ (by kernel_rfl) (by kernel_rfl) (by kernel_rfl) (by kernel_rfl) (by kernel_rfl)) ?_
                      have q97l : Hid (b < w93.heap.size) := H94.out.src.lt
                      have hba : Below w93.heap.size w93 (w93.alloc (.cells #[.string ⟨#[114, 101, 100]⟩, .string ⟨#[103, 114, 101, 101, 110]⟩, .string ⟨#[98, 108, 117, 101]⟩, .string ⟨#[82, 101, 100]⟩, .string ⟨#[97, 32, 98]⟩] 9)) := (Below.refl _ _).alloc (Nat.le_refl _) _
                      have H98 := hidd (H94.out.below hba)
                      have T96 := hidd (heap_alloc_new w93 (.cells #[.string ⟨#[114, 101, 100]⟩, .string ⟨#[103, 114, 101, 101, 110]⟩, .string ⟨#[98, 108, 117, 101]⟩, .string ⟨#[82, 101, 100]⟩, .string ⟨#[97, 32, 98]⟩] 9))
                      clear hba
                      refine ⟨trivial, ?_⟩
                      try simp only [Act.put, List.getElem_toArray, List.getElem_cons_succ, List.getElem_cons_zero, List.setIfInBounds_toArray, List.set_cons_zero, List.set_cons_succ]
                      obtain ⟨q97, hq97⟩ : ∃ g, w93.heap.size = g := ⟨_, rfl⟩
                      rw [hq97] at T96 q97l
                      simp only [hq97]
                      clear hq97
                      generalize w93.alloc (.cells #[.string ⟨#[114, 101, 100]⟩, .string ⟨#[103, 114, 101, 101, 110]⟩, .string ⟨#[98, 108, 117, 101]⟩, .string ⟨#[82, 101, 100]⟩, .string ⟨#[97, 32, 98]⟩] 9) = w95 at *
                      obtain ⟨tl, htl, hcl⟩ := col_at y (by omega) T96.out
                      refine tkX 5 (v := .pointer (some ⟨q97, y, none⟩)) (hx := fun u _ => exec_ixS u _ _ _ _ rfl q97 y 5 (by kernel_rfl) (by kernel_rfl) (by omega) (by omega)) (hS := trivial) (h := ?_)
                      try simp only [Act.put, List.getElem_toArray, List.getElem_cons_succ, List.getElem_cons_zero, List.setIfInBounds_toArray, List.set_cons_zero, List.set_cons_succ]
                      refine wpAnyH_one 6 (by kernel_rfl) ?_
                      refine wpOp_val _ _ rfl (by kernel_rfl) (exec_ldStr _ _ _ _ rfl q97 y ⟨tl.toArray⟩ (by kernel_rfl) hcl) ?_
                      refine ⟨trivial, ?_⟩
                      try simp only [Act.put, List.getElem_toArray, List.getElem_cons_succ, List.getElem_cons_zero, List.setIfInBounds_toArray, List.set_cons_zero, List.set_cons_succ]
                      refine wpAnyH_one 7 (by kernel_rfl) ?_
                      refine wpOp_val _ _ rfl (by kernel_rfl) (exec_bxS _ _ _ _ rfl ⟨tl.toArray⟩ (by kernel_rfl)) ?_
                      have hba : Below w95.heap.size w95 (w95.alloc (.cells #[.string ⟨tl.toArray⟩] 9)) := (Below.refl _ _).alloc (Nat.le_refl _) _
                      have H102 := hidd (H98.out.below hba)
                      have B100 := hidd (heap_alloc_new w95 (.cells #[.string ⟨tl.toArray⟩] 9))
                      clear hba
                      refine ⟨trivial, ?_⟩
                      try simp only [Act.put, List.getElem_toArray, List.getElem_cons_succ, List.getElem_cons_zero, List.setIfInBounds_toArray, List.set_cons_zero, List.set_cons_succ]
                      obtain ⟨q101, hq101⟩ : ∃ g, w95.heap.size = g := ⟨_, rfl⟩
                      rw [hq101] at B100
                      simp only [hq101]
                      clear hq101
                      generalize w95.alloc (.cells #[.string ⟨tl.toArray⟩] 9) = w99 at *
                      refine wpAnyH_one 8 (by kernel_rfl) ?_
                      refine wpOp_pushS rfl (by kernel_rfl) _ _ rfl wo.heap.size _ T (by kernel_rfl) H102.out.txt q101 tl (by kernel_rfl) B100.out (by omega) H102.out.but.size ?_
                      intro g6 c6 w6 N hN ho hgr
                      have hbx6 := (but_own hgr).blk H102.out.box (own_apartB H102.out.txt H102.out.box (by decide))
                      have HE : Hid (VI wo b ao n cap (A + 9 + 160 * (i : Int) + 6 + 75 * (2 - ((k - 1 : Nat) : Int))) g7 nm (.slice (some ⟨g6, 0, none⟩) N c6) (T ++ [tl]) (.slice a2 Z.length c2) Z (w6.setCell ⟨g7, 1, none⟩ (.slice (some ⟨g6, 0, none⟩) N c6))) := by
                        have e := hN.out
                        subst e
                        exact (H102.out.pushT ho hgr).mono (by omega)
                      refine ⟨trivial, ?_⟩
                      try simp only [Act.put, List.getElem_toArray, List.getElem_cons_succ, List.getElem_cons_zero, List.setIfInBounds_toArray, List.set_cons_zero, List.set_cons_succ]
                      refine tkX 9 (hS := trivial) (h := ?_)
                      try simp only [Act.put, List.getElem_toArray, List.getElem_cons_succ, List.getElem_cons_zero, List.setIfInBounds_toArray, List.set_cons_zero, List.set_cons_succ]
                      refine wpAnyH_one 10 (by kernel_rfl) ?_
                      refine wpOp_skip _ rfl (by kernel_rfl) (exec_stS _ _ _ _ _ rfl g7 1 (some ⟨g6, 0, none⟩) N c6 _ (by kernel_rfl) (by kernel_rfl) (blkc hbx6 1) (blkf hbx6 1)) ?_
                      refine ⟨trivial, ?_⟩
                      try simp only [Act.put, List.getElem_toArray, List.getElem_cons_succ, List.getElem_cons_zero, List.setIfInBounds_toArray, List.set_cons_zero, List.set_cons_succ]
                      refine wpAnyH_done (by kernel_rfl) ?_ _
                      clear hbx6 ho hgr
                      go_wp2_with fail
                      go_roundw
                      · exact ⟨k - 1, _, _, _, _, by go_num, by omega, HE.out, by simp; omega, by omega, snoc_le HTs.out ((by omega))⟩
                      · simp [intOf]; omega
                    · refine wpOp_val _ _ rfl (by kernel_rfl) (exec_bx5S _ _ _ _ _ _ _ _ rfl ⟨#[114, 101, 100]⟩ ⟨#[103, 114, 101, 101, 110]⟩ ⟨#[98, 108, 117, 101]⟩ ⟨#[82, 101, 100]⟩ ⟨#[97, 32, 98]⟩ (by kernel_rfl) (by kernel_rfl) (by kernel_rfl) (by kernel_rfl) (by kernel_rfl)) ?_
                      have q105l : Hid (b < w93.heap.size) := H94.out.src.lt
                      have hba : Below w93.heap.size w93 (w93.alloc (.cells #[.string ⟨#[114, 101, 100]⟩, .string ⟨#[103, 114, 101, 101, 110]⟩, .string ⟨#[98, 108, 117, 101]⟩, .string ⟨#[82, 101, 100]⟩, .string ⟨#[97, 32, 98]⟩] 9)) := (Below.refl _ _).alloc (Nat.le_refl _) _
                      have H106 := hidd (H94.out.below hba)
                      have T104 := hidd (heap_alloc_new w93 (.cells #[.string ⟨#[114, 101, 100]⟩, .string ⟨#[103, 114, 101, 101, 110]⟩, .string ⟨#[98, 108, 117, 101]⟩, .string ⟨#[82, 101, 100]⟩, .string ⟨#[97, 32, 98]⟩] 9))
                      clear hba
                      refine ⟨trivial, ?_⟩
                      try simp only [Act.put, List.getElem_toArray, List.getElem_cons_succ, List.getElem_cons_zero, List.setIfInBounds_toArray, List.set_cons_zero, List.set_cons_succ]
                      obtain ⟨q105, hq105⟩ : ∃ g, w93.heap.size = g := ⟨_, rfl⟩
                      rw [hq105] at T104 q105l
                      simp only [hq105]
                      clear hq105
                      generalize w93.alloc (.cells #[.string ⟨#[114, 101, 100]⟩, .string ⟨#[103, 114, 101, 101, 110]⟩, .string ⟨#[98, 108, 117, 101]⟩, .string ⟨#[82, 101, 100]⟩, .string ⟨#[97, 32, 98]⟩] 9) = w103 at *
                      obtain ⟨tl, htl, hcl⟩ := col_at y (by omega) T104.out
                      refine tkX 5 (v := .pointer (some ⟨q105, y, none⟩)) (hx := fun u _ => exec_ixS u _ _ _ _ rfl q105 y 5 (by kernel_rfl) (by kernel_rfl) (by omega) (by omega)) (hS := trivial) (h := ?_)
                      try simp only [Act.put, List.getElem_toArray, List.getElem_cons_succ, List.getElem_cons_zero, List.setIfInBounds_toArray, List.set_cons_zero, List.set_cons_succ]
                      refine wpAnyH_two 1 6 (by kernel_rfl) ?_ ?_
                      · refine wpOp_val _ _ rfl (by kernel_rfl) (exec_ldS _ _ _ _ rfl g7 1 (.slice a1 T.length c1) ⟨_, _, _, rfl⟩ (by kernel_rfl) (blkc H106.out.box 1)) ?_
                        refine ⟨trivial, ?_⟩
                        try simp only [Act.put, List.getElem_toArray, List.getElem_cons_succ, List.getElem_cons_zero, List.setIfInBounds_toArray, List.set_cons_zero, List.set_cons_succ]
                        refine wpAnyH_one 6 (by kernel_rfl) ?_
                        refine wpOp_val _ _ rfl (by kernel_rfl) (exec_ldStr _ _ _ _ rfl q105 y ⟨tl.toArray⟩ (by kernel_rfl) hcl) ?_
                        refine ⟨trivial, ?_⟩
                        try simp only [Act.put, List.getElem_toArray, List.getElem_cons_succ, List.getElem_cons_zero, List.setIfInBounds_toArray, List.set_cons_zero, List.set_cons_succ]
                        refine wpAnyH_one 7 (by kernel_rfl) ?_
                        refine wpOp_val _ _ rfl (by kernel_rfl) (exec_bxS _ _ _ _ rfl ⟨tl.toArray⟩ (by kernel_rfl)) ?_
                        have hba : Below w103.heap.size w103 (w103.alloc (.cells #[.string ⟨tl.toArray⟩] 9)) := (Below.refl _ _).alloc (Nat.le_refl _) _
                        have H110 := hidd (H106.out.below hba)
                        have B108 := hidd (heap_alloc_new w103 (.cells #[.string ⟨tl.toArray⟩] 9))
                        clear hba
                        refine ⟨trivial, ?_⟩
                        try simp only [Act.put, List.getElem_toArray, List.getElem_cons_succ, List.getElem_cons_zero, List.setIfInBounds_toArray, List.set_cons_zero, List.set_cons_succ]
                        obtain ⟨q109, hq109⟩ : ∃ g, w103.heap.size = g := ⟨_, rfl⟩
                        rw [hq109] at B108
                        simp only [hq109]
                        clear hq109
                        generalize w103.alloc (.cells #[.string ⟨tl.toArray⟩] 9) = w107 at *
                        refine wpAnyH_one 8 (by kernel_rfl) ?_
                        refine wpOp_pushS rfl (by kernel_rfl) _ _ rfl wo.heap.size _ T (by kernel_rfl) H110.out.txt q109 tl (by kernel_rfl) B108.out (by omega) H110.out.but.size ?_
                        intro g6 c6 w6 N hN ho hgr
                        have hbx6 := (but_own hgr).blk H110.out.box (own_apartB H110.out.txt H110.out.box (by decide))
                        have HE : Hid (VI wo b ao n cap (A + 9 + 160 * (i : Int) + 6 + 75 * (2 - ((k - 1 : Nat) : Int))) g7 nm (.slice (some ⟨g6, 0, none⟩) N c6) (T ++ [tl]) (.slice a2 Z.length c2) Z (w6.setCell ⟨g7, 1, none⟩ (.slice (some ⟨g6, 0, none⟩) N c6))) := by
                          have e := hN.out
                          subst e
                          exact (H110.out.pushT ho hgr).mono (by omega)
                        refine ⟨trivial, ?_⟩
                        try simp only [Act.put, List.getElem_toArray, List.getElem_cons_succ, List.getElem_cons_zero, List.setIfInBounds_toArray, List.set_cons_zero, List.set_cons_succ]
                        refine tkX 9 (hS := trivial) (h := ?_)
                        try simp only [Act.put, List.getElem_toArray, List.getElem_cons_succ, List.getElem_cons_zero, List.setIfInBounds_toArray, List.set_cons_zero, List.set_cons_succ]
                        refine wpAnyH_one 10 (by kernel_rfl) ?_
                        refine wpOp_skip _ rfl (by kernel_rfl) (exec_stS _ _ _ _ _ rfl g7 1 (some ⟨g6, 0, none⟩) N c6 _ (by kernel_rfl) (by kernel_rfl) (blkc hbx6 1) (blkf hbx6 1)) ?_
                        refine ⟨trivial, ?_⟩
                        try simp only [Act.put, List.getElem_toArray, List.getElem_cons_succ, List.getElem_cons_zero, List.setIfInBounds_toArray, List.set_cons_zero, List.set_cons_succ]
                        refine wpAnyH_done (by kernel_rfl) ?_ _
                        clear hbx6 ho hgr
                        go_wp2_with fail
                        go_roundw
                        · exact ⟨k - 1, _, _, _, _, by go_num, by omega, HE.out, by simp; omega, by omega, snoc_le HTs.out ((by omega))⟩
                        · simp [intOf]; omega
                      · refine wpOp_val _ _ rfl (by kernel_rfl) (exec_ldStr _ _ _ _ rfl q105 y ⟨tl.toArray⟩ (by kernel_rfl) hcl) ?_
                        refine ⟨trivial, ?_⟩
                        try simp only [Act.put, List.getElem_toArray, List.getElem_cons_succ, List.getElem_cons_zero, List.setIfInBounds_toArray, List.set_cons_zero, List.set_cons_succ]
                        refine wpAnyH_two 1 7 (by kernel_rfl) ?_ ?_
                        · refine wpOp_val _ _ rfl (by kernel_rfl) (exec_ldS _ _ _ _ rfl g7 1 (.slice a1 T.length c1) ⟨_, _, _, rfl⟩ (by kernel_rfl) (blkc H106.out.box 1)) ?_
                          refine ⟨trivial, ?_⟩
                          try simp only [Act.put, List.getElem_toArray, List.getElem_cons_succ, List.getElem_cons_zero, List.setIfInBounds_toArray, List.set_cons_zero, List.set_cons_succ]
                          refine wpAnyH_one 7 (by kernel_rfl) ?_
                          refine wpOp_val _ _ rfl (by kernel_rfl) (exec_bxS _ _ _ _ rfl ⟨tl.toArray⟩ (by kernel_rfl)) ?_
                          have hba : Below w103.heap.size w103 (w103.alloc (.cells #[.string ⟨tl.toArray⟩] 9)) := (Below.refl _ _).alloc (Nat.le_refl _) _
                          have H114 := hidd (H106.out.below hba)
                          have B112 := hidd (heap_alloc_new w103 (.cells #[.string ⟨tl.toArray⟩] 9))
                          clear hba
                          refine ⟨trivial, ?_⟩
                          try simp only [Act.put, List.getElem_toArray, List.getElem_cons_succ, List.getElem_cons_zero, List.setIfInBounds_toArray, List.set_cons_zero, List.set_cons_succ]
                          obtain ⟨q113, hq113⟩ : ∃ g, w103.heap.size = g := ⟨_, rfl⟩
                          rw [hq113] at B112
                          simp only [hq113]
                          clear hq113
                          generalize w103.alloc (.cells #[.string ⟨tl.toArray⟩] 9) = w111 at *
                          refine wpAnyH_one 8 (by kernel_rfl) ?_
                          refine wpOp_pushS rfl (by kernel_rfl) _ _ rfl wo.heap.size _ T (by kernel_rfl) H114.out.txt q113 tl (by kernel_rfl) B112.out (by omega) H114.out.but.size ?_
                          intro g6 c6 w6 N hN ho hgr
                          have hbx6 := (but_own hgr).blk H114.out.box (own_apartB H114.out.txt H114.out.box (by decide))
                          have HE : Hid (VI wo b ao n cap (A + 9 + 160 * (i : Int) + 6 + 75 * (2 - ((k - 1 : Nat) : Int))) g7 nm (.slice (some ⟨g6, 0, none⟩) N c6) (T ++ [tl]) (.slice a2 Z.length c2) Z (w6.setCell ⟨g7, 1, none⟩ (.slice (some ⟨g6, 0, none⟩) N c6))) := by
                            have e := hN.out
                            subst e
                            exact (H114.out.pushT ho hgr).mono (by omega)
                          refine ⟨trivial, ?_⟩
                          try simp only [Act.put, List.getElem_toArray, List.getElem_cons_succ, List.getElem_cons_zero, List.setIfInBounds_toArray, List.set_cons_zero, List.set_cons_succ]
                          refine tkX 9 (hS := trivial) (h := ?_)
                          try simp only [Act.put, List.getElem_toArray, List.getElem_cons_succ, List.getElem_cons_zero, List.setIfInBounds_toArray, List.set_cons_zero, List.set_cons_succ]
                          refine wpAnyH_one 10 (by kernel_rfl) ?_
                          refine wpOp_skip _ rfl (by kernel_rfl) (exec_stS _ _ _ _ _ rfl g7 1 (some ⟨g6, 0, none⟩) N c6 _ (by kernel_rfl) (by kernel_rfl) (blkc hbx6 1) (blkf hbx6 1)) ?_
                          refine ⟨trivial, ?_⟩
                          try simp only [Act.put, List.getElem_toArray, List.getElem_cons_succ, List.getElem_cons_zero, List.setIfInBounds_toArray, List.set_cons_zero, List.set_cons_succ]
                          refine wpAnyH_done (by kernel_rfl) ?_ _
                          clear hbx6 ho hgr
                          go_wp2_with fail
                          go_roundw
                          · exact ⟨k - 1, _, _, _, _, by go_num, by omega, HE.out, by simp; omega, by omega, snoc_le HTs.out ((by omega))⟩
                          · simp [intOf]; omega
                        · refine wpOp_val _ _ rfl (by kernel_rfl) (exec_bxS _ _ _ _ rfl ⟨tl.toArray⟩ (by kernel_rfl)) ?_
                          have hba : Below w103.heap.size w103 (w103.alloc (.cells #[.string ⟨tl.toArray⟩] 9)) := (Below.refl _ _).alloc (Nat.le_refl _) _
                          have H118 := hidd (H106.out.below hba)
                          have B116 := hidd (heap_alloc_new w103 (.cells #[.string ⟨tl.toArray⟩] 9))
                          clear hba
                          refine ⟨trivial, ?_⟩
                          try simp only [Act.put, List.getElem_toArray, List.getElem_cons_succ, List.getElem_cons_zero, List.setIfInBounds_toArray, List.set_cons_zero, List.set_cons_succ]
                          obtain ⟨q117, hq117⟩ : ∃ g, w103.heap.size = g := ⟨_, rfl⟩
                          rw [hq117] at B116
                          simp only [hq117]
                          clear hq117
                          generalize w103.alloc (.cells #[.string ⟨tl.toArray⟩] 9) = w115 at *
                          refine wpAnyH_one 1 (by kernel_rfl) ?_
                          refine wpOp_val _ _ rfl (by kernel_rfl) (exec_ldS _ _ _ _ rfl g7 1 (.slice a1 T.length c1) ⟨_, _, _, rfl⟩ (by kernel_rfl) (blkc H118.out.box 1)) ?_
                          refine ⟨trivial, ?_⟩
                          try simp only [Act.put, List.getElem_toArray, List.getElem_cons_succ, List.getElem_cons_zero, List.setIfInBounds_toArray, List.set_cons_zero, List.set_cons_succ]
                          refine wpAnyH_one 8 (by kernel_rfl) ?_
                          refine wpOp_pushS rfl (by kernel_rfl) _ _ rfl wo.heap.size _ T (by kernel_rfl) H118.out.txt q117 tl (by kernel_rfl) B116.out (by omega) H118.out.but.size ?_
                          intro g6 c6 w6 N hN ho hgr
                          have hbx6 := (but_own hgr).blk H118.out.box (own_apartB H118.out.txt H118.out.box (by decide))
                          have HE : Hid (VI wo b ao n cap (A + 9 + 160 * (i : Int) + 6 + 75 * (2 - ((k - 1 : Nat) : Int))) g7 nm (.slice (some ⟨g6, 0, none⟩) N c6) (T ++ [tl]) (.slice a2 Z.length c2) Z (w6.setCell ⟨g7, 1, none⟩ (.slice (some ⟨g6, 0, none⟩) N c6))) := by
                            have e := hN.out
                            subst e
                            exact (H118.out.pushT ho hgr).mono (by omega)
                          refine ⟨trivial, ?_⟩
                          try simp only [Act.put, List.getElem_toArray, List.getElem_cons_succ, List.getElem_cons_zero, List.setIfInBounds_toArray, List.set_cons_zero, List.set_cons_succ]
                          refine tkX 9 (hS := trivial) (h := ?_)
                          try simp only [Act.put, List.getElem_toArray, List.getElem_cons_succ, List.getElem_cons_zero, List.setIfInBounds_toArray, List.set_cons_zero, List.set_cons_succ]
                          refine wpAnyH_one 10 (by kernel_rfl) ?_
                          refine wpOp_skip _ rfl (by kernel_rfl) (exec_stS _ _ _ _ _ rfl g7 1 (some ⟨g6, 0, none⟩) N c6 _ (by kernel_rfl) (by kernel_rfl) (blkc hbx6 1) (blkf hbx6 1)) ?_
                          refine ⟨trivial, ?_⟩
                          try simp only [Act.put, List.getElem_toArray, List.getElem_cons_succ, List.getElem_cons_zero, List.setIfInBounds_toArray, List.set_cons_zero, List.set_cons_succ]
                          refine wpAnyH_done (by kernel_rfl) ?_ _
                          clear hbx6 ho hgr
                          go_wp2_with fail
                          go_roundw
                          · exact ⟨k - 1, _, _, _, _, by go_num, by omega, HE.out, by simp; omega, by omega, snoc_le HTs.out ((by omega))⟩
                          · simp [intOf]; omega

                · have hk2b : (kd' == 2) = false := by simpa using hk2'
                  go_upto_region 13 with fail
                  clear s0 hcn' hck' HDz
                  refine wp_region_held (S := fun _ => True) (by kernel_rfl) ?_
                  have hbd : Below wr.heap.size wr ({ heap := wr.heap, tape := wr.tape, drawn := wr.drawn + 1, os := wr.os, output := wr.output } : World) := (Below.refl _ _).drew
                  generalize ({ heap := wr.heap, tape := wr.tape, drawn := wr.drawn + 1, os := wr.os, output := wr.output } : World) = wd119 at *
                  have H120 := hidd (HV.out.below hbd)
                  clear hbd
                  try simp only [Act.put, List.getElem_toArray, List.getElem_cons_succ, List.getElem_cons_zero, List.setIfInBounds_toArray, List.set_cons_zero, List.set_cons_succ]
                  refine tkX 0 (hS := trivial) (h := ?_)
                  try simp only [Act.put, List.getElem_toArray, List.getElem_cons_succ, List.getElem_cons_zero, List.setIfInBounds_toArray, List.set_cons_zero, List.set_cons_succ]
                  refine tkX 2 (hS := trivial) (h := ?_)
                  try simp only [Act.put, List.getElem_toArray, List.getElem_cons_succ, List.getElem_cons_zero, List.setIfInBounds_toArray, List.set_cons_zero, List.set_cons_succ]
                  refine wpAnyH_two 1 3 (by kernel_rfl) ?_ ?_
                  · refine wpOp_val _ _ rfl (by kernel_rfl) (exec_ldZ _ _ _ _ rfl g7 2 (.slice a2 Z.length c2) ⟨_, _, _, rfl⟩ (by kernel_rfl) (blkc H120.out.box 2)) ?_
                    refine ⟨trivial, ?_⟩
                    try simp only [Act.put, List.getElem_toArray, List.getElem_cons_succ, List.getElem_cons_zero, List.setIfInBounds_toArray, List.set_cons_zero, List.set_cons_succ]
                    refine wpAnyH_one 3 (by kernel_rfl) ?_
                    refine wpOp_call 14 #[.pointer (some ⟨b, 0, none⟩), .int .i64 30] rfl (by kernel_rfl) (rbx_call2 _ _ _ _ _ _ _ _ rfl _ _ (by kernel_rfl) (by kernel_rfl) (Tryz.call14 _ _)) ?_
                    refine (nextS H120.out.src hn (by omega) 30 (by omega) (by omega)).mono ?_
                    rintro e' w121 ⟨y, rfl, hy, hsd, hbb⟩
                    have H122 := hidd (H120.out.draw hsd hbb)
                    clear hsd hbb
                    have hwa : IntKind.i64.wrap ((y : Int) - 5) = (y : Int) - 5 := by rw [IntKind.wrap_i64]; omega
                    refine ⟨trivial, ?_⟩
                    try simp only [Act.put, List.getElem_toArray, List.getElem_cons_succ, List.getElem_cons_zero, List.setIfInBounds_toArray, List.set_cons_zero, List.set_cons_succ]
                    refine tkX 4 (v := .int .i64 ((y : Int) - 5)) (hS := trivial) (h := ?_)
                    try simp only [Act.put, List.getElem_toArray, List.getElem_cons_succ, List.getElem_cons_zero, List.setIfInBounds_toArray, List.set_cons_zero, List.set_cons_succ]
                    refine wpAnyH_one 5 (by kernel_rfl) ?_
                    refine wpOp_val _ _ rfl (by kernel_rfl) (exec_bxZ _ _ _ _ rfl ((y : Int) - 5) (by kernel_rfl)) ?_
                    have hba : Below w121.heap.size w121 (w121.alloc (.cells #[.int .i64 ((y : Int) - 5)] 3)) := (Below.refl _ _).alloc (Nat.le_refl _) _
                    have H126 := hidd (H122.out.below hba)
                    have B124 := hidd (heap_alloc_new w121 (.cells #[.int .i64 ((y : Int) - 5)] 3))
                    clear hba
                    refine ⟨trivial, ?_⟩
                    try simp only [Act.put, List.getElem_toArray, List.getElem_cons_succ, List.getElem_cons_zero, List.setIfInBounds_toArray, List.set_cons_zero, List.set_cons_succ]
                    obtain ⟨q125, hq125⟩ : ∃ g, w121.heap.size = g := ⟨_, rfl⟩
                    rw [hq125] at B124
                    simp only [hq125]
                    clear hq125
                    generalize w121.alloc (.cells #[.int .i64 ((y : Int) - 5)] 3) = w123 at *
                    refine wpAnyH_one 6 (by kernel_rfl) ?_
                    refine wpOp_pushZ rfl (by kernel_rfl) _ _ rfl wo.heap.size _ Z (by kernel_rfl) H126.out.num q125 ((y : Int) - 5) (by kernel_rfl) B124.out (by omega) H126.out.but.size ?_
                    intro g6 c6 w6 N hN ho hgr
                    have hbx6 := (but_own hgr).blk H126.out.box (own_apartB H126.out.num H126.out.box (by decide))
                    have HE : Hid (VI wo b ao n cap (A + 9 + 160 * (i : Int) + 6 + 75 * (2 - ((k - 1 : Nat) : Int))) g7 nm (.slice a1 T.length c1) T (.slice (some ⟨g6, 0, none⟩) N c6) (Z ++ [((y : Int) - 5)]) (w6.setCell ⟨g7, 2, none⟩ (.slice (some ⟨g6, 0, none⟩) N c6))) := by
                      have e := hN.out
                      subst e
                      exact (H126.out.pushZ ho hgr).mono (by omega)
                    refine ⟨trivial, ?_⟩
                    try simp only [Act.put, List.getElem_toArray, List.getElem_cons_succ, List.getElem_cons_zero, List.setIfInBounds_toArray, List.set_cons_zero, List.set_cons_succ]
                    refine tkX 7 (hS := trivial) (h := ?_)
                    try simp only [Act.put, List.getElem_toArray, List.getElem_cons_succ, List.getElem_cons_zero, List.setIfInBounds_toArray, List.set_cons_zero, List.set_cons_succ]
                    refine wpAnyH_one 8 (by kernel_rfl) ?_
                    refine wpOp_skip _ rfl (by kernel_rfl) (exec_stZ _ _ _ _ _ rfl g7 2 (some ⟨g6, 0, none⟩) N c6 _ (by kernel_rfl) (by kernel_rfl) (blkc hbx6 2) (blkf hbx6 2)) ?_
                    refine ⟨trivial, ?_⟩
                    try simp only [Act.put, List.getElem_toArray, List.getElem_cons_succ, List.getElem_cons_zero, List.setIfInBounds_toArray, List.set_cons_zero, List.set_cons_succ]
                    refine wpAnyH_done (by kernel_rfl) ?_ _
                    clear hbx6 ho hgr
                    go_wp2_with fail
                    go_roundw
                    · exact ⟨k - 1, _, _, _, _, by go_num, by omega, HE.out, by omega, by simp; omega, HTs.out⟩
                    · simp [intOf]; omega
                  · refine wpOp_call 14 #[.pointer (some ⟨b, 0, none⟩), .int .i64 30] rfl (by kernel_rfl) (rbx_call2 _ _ _ _ _ _ _ _ rfl _ _ (by kernel_rfl) (by kernel_rfl) (Tryz.call14 _ _)) ?_
                    refine (nextS H120.out.src hn (by omega) 30 (by omega) (by omega)).mono ?_
                    rintro e' w127 ⟨y, rfl, hy, hsd, hbb⟩
                    have H128 := hidd (H120.out.draw hsd hbb)
                    clear hsd hbb
                    have hwa : IntKind.i64.wrap ((y : Int) - 5) = (y : Int) - 5 := by rw [IntKind.wrap_i64]; omega
                    refine ⟨trivial, ?_⟩
                    try simp only [Act.put, List.getElem_toArray, List.getElem_cons_succ, List.getElem_cons_zero, List.setIfInBounds_toArray, List.set_cons_zero, List.set_cons_succ]
                    refine tkX 4 (v := .int .i64 ((y : Int) - 5)) (hS := trivial) (h := ?_)
                    try simp only [Act.put, List.getElem_toArray, List.getElem_cons_succ, List.getElem_cons_zero, List.setIfInBounds_toArray, List.set_cons_zero, List.set_cons_succ]
                    refine wpAnyH_two 1 5 (by kernel_rfl) ?_ ?_
                    · refine wpOp_val _ _ rfl (by kernel_rfl) (exec_ldZ _ _ _ _ rfl g7 2 (.slice a2 Z.length c2) ⟨_, _, _, rfl⟩ (by kernel_rfl) (blkc H128.out.box 2)) ?_
                      refine ⟨trivial, ?_⟩
                      try simp only [Act.put, List.getElem_toArray, List.getElem_cons_succ, List.getElem_cons_zero, List.setIfInBounds_toArray, List.set_cons_zero, List.set_cons_succ]
                      refine wpAnyH_one 5 (by kernel_rfl) ?_
                      refine wpOp_val _ _ rfl (by kernel_rfl) (exec_bxZ _ _ _ _ rfl ((y : Int) - 5) (by kernel_rfl)) ?_
                      have hba : Below w127.heap.size w127 (w127.alloc (.cells #[.int .i64 ((y : Int) - 5)] 3)) := (Below.refl _ _).alloc (Nat.le_refl _) _
                      have H132 := hidd (H128.out.below hba)
                      have B130 := hidd (heap_alloc_new w127 (.cells #[.int .i64 ((y : Int) - 5)] 3))
                      clear hba
                      refine ⟨trivial, ?_⟩
                      try simp only [Act.put, List.getElem_toArray, List.getElem_cons_succ, List.getElem_cons_zero, List.setIfInBounds_toArray, List.set_cons_zero, List.set_cons_succ]
                      obtain ⟨q131, hq131⟩ : ∃ g, w127.heap.size = g := ⟨_, rfl⟩
                      rw [hq131] at B130
                      simp only [hq131]
                      clear hq131
                      generalize w127.alloc (.cells #[.int .i64 ((y : Int) - 5)] 3) = w129 at *
                      refine wpAnyH_one 6 (by kernel_rfl) ?_
                      refine wpOp_pushZ rfl (by kernel_rfl) _ _ rfl wo.heap.size _ Z (by kernel_rfl) H132.out.num q131 ((y : Int) - 5) (by kernel_rfl) B130.out (by omega) H132.out.but.size ?_
                      intro g6 c6 w6 N hN ho hgr
                      have hbx6 := (but_own hgr).blk H132.out.box (own_apartB H132.out.num H132.out.box (by decide))
                      have HE : Hid (VI wo b ao n cap (A + 9 + 160 * (i : Int) + 6 + 75 * (2 - ((k - 1 : Nat) : Int))) g7 nm (.slice a1 T.length c1) T (.slice (some ⟨g6, 0, none⟩) N c6) (Z ++ [((y : Int) - 5)]) (w6.setCell ⟨g7, 2, none⟩ (.slice (some ⟨g6, 0, none⟩) N c6))) := by
                        have e := hN.out
                        subst e
                        exact (H132.out.pushZ ho hgr).mono (by omega)
                      refine ⟨trivial, ?_⟩
                      try simp only [Act.put, List.getElem_toArray, List.getElem_cons_succ, List.getElem_cons_zero, List.setIfInBounds_toArray, List.set_cons_zero, List.set_cons_succ]
                      refine tkX 7 (hS := trivial) (h := ?_)
                      try simp only [Act.put, List.getElem_toArray, List.getElem_cons_succ, List.getElem_cons_zero, List.setIfInBounds_toArray, List.set_cons_zero, List.set_cons_succ]
                      refine wpAnyH_one 8 (by kernel_rfl) ?_
                      refine wpOp_skip _ rfl (by kernel_rfl) (exec_stZ _ _ _ _ _ rfl g7 2 (some ⟨g6, 0, none⟩) N c6 _ (by kernel_rfl) (by kernel_rfl) (blkc hbx6 2) (blkf hbx6 2)) ?_
                      refine ⟨trivial, ?_⟩
                      try simp only [Act.put, List.getElem_toArray, List.getElem_cons_succ, List.getElem_cons_zero, List.setIfInBounds_toArray, List.set_cons_zero, List.set_cons_succ]
                      refine wpAnyH_done (by kernel_rfl) ?_ _
                      clear hbx6 ho hgr
                      go_wp2_with fail
                      go_roundw
                      · exact ⟨k - 1, _, _, _, _, by go_num, by omega, HE.out, by omega, by simp; omega, HTs.out⟩
                      · simp [intOf]; omega
                    · refine wpOp_val _ _ rfl (by kernel_rfl) (exec_bxZ _ _ _ _ rfl ((y : Int) - 5) (by kernel_rfl)) ?_
                      have hba : Below w127.heap.size w127 (w127.alloc (.cells #[.int .i64 ((y : Int) - 5)] 3)) := (Below.refl _ _).alloc (Nat.le_refl _) _
                      have H136 := hidd (H128.out.below hba)
                      have B134 := hidd (heap_alloc_new w127 (.cells #[.int .i64 ((y : Int) - 5)] 3))
                      clear hba
                      refine ⟨trivial, ?_⟩
                      try simp only [Act.put, List.getElem_toArray, List.getElem_cons_succ, List.getElem_cons_zero, List.setIfInBounds_toArray, List.set_cons_zero, List.set_cons_succ]
                      obtain ⟨q135, hq135⟩ : ∃ g, w127.heap.size = g := ⟨_, rfl⟩
                      rw [hq135] at B134
                      simp only [hq135]
                      clear hq135
                      generalize w127.alloc (.cells #[.int .i64 ((y : Int) - 5)] 3) = w133 at *
                      refine wpAnyH_one 1 (by kernel_rfl) ?_
                      refine wpOp_val _ _ rfl (by kernel_rfl) (exec_ldZ _ _ _ _ rfl g7 2 (.slice a2 Z.length c2) ⟨_, _, _, rfl⟩ (by kernel_rfl) (blkc H136.out.box 2)) ?_
                      refine ⟨trivial, ?_⟩
                      try simp only [Act.put, List.getElem_toArray, List.getElem_cons_succ, List.getElem_cons_zero, List.setIfInBounds_toArray, List.set_cons_zero, List.set_cons_succ]
                      refine wpAnyH_one 6 (by kernel_rfl) ?_
                      refine wpOp_pushZ rfl (by kernel_rfl) _ _ rfl wo.heap.size _ Z (by kernel_rfl) H136.out.num q135 ((y : Int) - 5) (by kernel_rfl) B134.out (by omega) H136.out.but.size ?_
                      intro g6 c6 w6 N hN ho hgr
                      have hbx6 := (but_own hgr).blk H136.out.box (own_apartB H136.out.num H136.out.box (by decide))
                      have HE : Hid (VI wo b ao n cap (A + 9 + 160 * (i : Int) + 6 + 75 * (2 - ((k - 1 : Nat) : Int))) g7 nm (.slice a1 T.length c1) T (.slice (some ⟨g6, 0, none⟩) N c6) (Z ++ [((y : Int) - 5)]) (w6.setCell ⟨g7, 2, none⟩ (.slice (some ⟨g6, 0, none⟩) N c6))) := by
                        have e := hN.out
                        subst e
                        exact (H136.out.pushZ ho hgr).mono (by omega)
                      refine ⟨trivial, ?_⟩
                      try simp only [Act.put, List.getElem_toArray, List.getElem_cons_succ, List.getElem_cons_zero, List.setIfInBounds_toArray, List.set_cons_zero, List.set_cons_succ]
                      refine tkX 7 (hS := trivial) (h := ?_)
                      try simp only [Act.put, List.getElem_toArray, List.getElem_cons_succ, List.getElem_cons_zero, List.setIfInBounds_toArray, List.set_cons_zero, List.set_cons_succ]
                      refine wpAnyH_one 8 (by kernel_rfl) ?_
                      refine wpOp_skip _ rfl (by kernel_rfl) (exec_stZ _ _ _ _ _ rfl g7 2 (some ⟨g6, 0, none⟩) N c6 _ (by kernel_rfl) (by kernel_rfl) (blkc hbx6 2) (blkf hbx6 2)) ?_
                      refine ⟨trivial, ?_⟩
                      try simp only [Act.put, List.getElem_toArray, List.getElem_cons_succ, List.getElem_cons_zero, List.setIfInBounds_toArray, List.set_cons_zero, List.set_cons_succ]
                      refine wpAnyH_done (by kernel_rfl) ?_ _
                      clear hbx6 ho hgr
                      go_wp2_with fail
                      go_roundw
                      · exact ⟨k - 1, _, _, _, _, by go_num, by omega, HE.out, by omega, by simp; omega, HTs.out⟩
                      · simp [intOf]; omega

            · have hkz : ¬ (k : Int) > 0 := by omega
              have HDz := hidd (HD3.out.draw HV.out.src HV.out.but)
              obtain ⟨v0, v1, v2, _, _⟩ := HV.out.cells
              have z1 := blkc HDz.out.box 1
              have z1f := blkf HDz.out.box 1
              simp only [List.getElem?_toArray, List.getElem?_cons_zero, List.getElem?_cons_succ] at z1
              have hnv5 : NV ≤ 5 := by have := HVi.out; have := HNV.out; omega
              go_wp2_with (at_builtin; refine wpList_append_own _ rfl _ _ 24 rfl w.heap.size 88 i0 (.agg #[.string ⟨#[]⟩, .slice none 0 0, .slice none 0 0]) 3 64 Tryz.underlying24 hi0 hz0 hz1 hz2 rfl (by decide) _ NV ys rfl ?d0 ⟨wr.heap.size, 0, none⟩ 1 1 [.string ⟨nm.toArray⟩, .slice a1 T.length c1, .slice a2 Z.length c2] rfl rfl ?d1 ?d2 ?d3 ?d4 ?d5 ?_)
              case d0 => have := own_keepD HDz.out.doc.row (KeepD.below ((Below.refl _ _).alloc (Nat.le_refl _) (.cells #[.string ⟨nm.toArray⟩, .slice a1 T.length c1, .slice a2 Z.length c2] 88))) (Or.inr (Or.inr rfl)); rw [HNV.out] at this; exact this
              case d2 => exact ⟨rfl, rfl, rfl⟩
              case d3 => unfold maxLen; omega
              case d4 => omega
              case d5 => have := HDz.out.but.size; simp; omega
              intro v9 w11 hown hgrow hne
              have hbB : Below wr.heap.size wr (wr.alloc (.cells #[.string ⟨nm.toArray⟩, .slice a1 T.length c1, .slice a2 Z.length c2] 88)) := (Below.refl _ _).alloc (Nat.le_refl _) _
              have hown2 : w11.ownsRow w.heap.size 88 3 v9 (V ++ [(nm, T, Z)]).length (ys ++ [.string ⟨nm.toArray⟩, .slice a1 T.length c1, .slice a2 Z.length c2]) := by rw [List.length_append, HNV.out]; exact hown
              have hxv : ValL (wr.alloc (.cells #[.string ⟨nm.toArray⟩, .slice a1 T.length c1, .slice a2 Z.length c2] 88)) w.heap.size (some (.string ⟨nm.toArray⟩)) (some (.slice a1 T.length c1)) (some (.slice a2 Z.length c2)) (nm, T, Z) :=
                ⟨rfl, ⟨_, rfl, own_keepD (own_low HV.out.txt HD3.out.but.size) (KeepD.below hbB) (Or.inl rfl)⟩, _, rfl, own_keepD (own_low HV.out.num HD3.out.but.size) (KeepD.below hbB) (Or.inr (Or.inl rfl))⟩
              have HDn := hidd ((HDz.out.below hbB).grow hgrow ((HDz.out.below hbB).doc.push hown2 hgrow hxv (HD3.out.doc.apart HV.out.txt HV.out.num)))
              have HSn : Hid (∀ x ∈ V ++ [(nm, T, Z)], SmX x) := fun x hx => by
                rcases List.mem_append.1 hx with hx | hx
                · exact HSx.out x hx
                · rw [List.mem_singleton.1 hx]
                  exact ⟨hnl, by show T.length ≤ 2; omega, HTs.out, by show Z.length ≤ 2; omega⟩
              have hg5b := (but_own hgrow).blk (HDz.out.below hbB).box (own_apartB (HDz.out.below hbB).doc.row (HDz.out.below hbB).box (by decide))
              have y1 := blkc hg5b 1
              have y1f := blkf hg5b 1
              simp only [List.getElem?_toArray, List.getElem?_cons_zero, List.getElem?_cons_succ] at y1
              obtain ⟨a9, c9, rfl⟩ := own_slice hown
              clear hown hown2 hgrow hne hbB hxv hg5b v0 v1 v2 z1 z1f HDz HV
              go_wp2_with fail
              go_roundw
              · exact ⟨i + 1, _, V ++ [(nm, T, Z)], _, by go_num, by omega, HDn.out.mono (by omega), by have := HVi.out; simp; omega, HSn.out⟩
              · simp [intOf]; omega
      · have hiz : ¬ (i : Int) < (m : Int) := by omega
        have z0 := blkc HD3.out.box 0
        have z1 := blkc HD3.out.box 1
        have r0 := blkc HD3.out.res 0
        have r1 := blkc HD3.out.res 1
        have f0 := blkf HD3.out.res 0
        have f1 := blkf HD3.out.res 1
        simp only [List.getElem?_toArray, List.getElem?_cons_zero, List.getElem?_cons_succ] at z0 z1 r0 r1
        go_wp2
        have k1 := blk_setk (blk_setk HD3.out.res 0 (.string ⟨did.toArray⟩)) 1 (.slice ad NV cd)
        have hS := (HD3.out.src.set g4 0 (.string ⟨did.toArray⟩) (by have := HD3.out.rl; omega) (fun j hj => by obtain ⟨blk, off, h1, h2⟩ := HC.out j hj; exact ⟨blk, off, h1, by have := HD3.out.rl; omega⟩)).set g4 1 (.slice ad NV cd) (by have := HD3.out.rl; omega) (fun j hj => by obtain ⟨blk, off, h1, h2⟩ := HC.out j hj; exact ⟨blk, off, h1, by have := HD3.out.rl; omega⟩)
        have hB := (HD3.out.but.setN g4 0 (.string ⟨did.toArray⟩) HD3.out.rl).setN g4 1 (.slice ad NV cd) HD3.out.rl
        have hDo := HD3.out.doc.keep ((KeepD.set (k := 0) (u := .string ⟨did.toArray⟩) HD3.out.res (by decide) (by decide) (by decide)).trans (KeepD.set (k := 1) (u := .slice ad NV cd) (blk_setk HD3.out.res 0 (.string ⟨did.toArray⟩)) (by decide) (by decide) (by decide)))
        refine bodyPost_ret (v := .agg #[.string ⟨did.toArray⟩, .slice ad NV cd]) ?_ rfl ⟨did, _, V, ys, rfl, hdl3, hDo, ⟨by have := HVi.out; omega, HSx.out⟩, hS.mono (by omega), hB⟩
        clear hS hB hDo z0 z1 r0 r1 f0 f1
        generalize (wo.setCell ⟨g4, 0, none⟩ (.string ⟨did.toArray⟩)).setCell ⟨g4, 1, none⟩ (.slice ad NV cd) = wf at *
        have z0 := blkc k1 0
        have z1 := blkc k1 1
        simp at z0 z1
        simp [results, Tryz.results31, go_sem, z0, z1]
end Go.Proofs.YtpdiaddgialanaaGreatDoor
