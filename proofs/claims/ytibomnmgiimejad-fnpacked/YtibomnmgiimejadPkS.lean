import Derived.Test.YtibomnmgiimejadPkM
import Derived.Test.YtibomnmgiimejadPkR
import Derived.Laws.ShiftsVar
namespace Go.Proofs.Ytibomnmgiimejad
open Go Go.RowKit
set_option linter.unusedVariables false

/-- A slice of numbers as it lies in a world. -/
def NumsAt (k : IntKind) (w : World) (b off : Nat) (vs : List Nat) : Prop := ∀ t, t < vs.length → w.cell? ⟨b, off + t, none⟩ = some (.int k ((vs.getD t 0 : Nat) : Int))
theorem NumsAt.below {k : IntKind} {w w' : World} {b off : Nat} {vs : List Nat} (h : NumsAt k w b off vs) (hb : Below w.heap.size w w') : NumsAt k w' b off vs :=
  fun t ht => (hb.cell (p := ⟨b, off + t, none⟩) (cell_lt (h t ht))).trans (h t ht)
theorem NumsAt.lower {k : IntKind} {w w' : World} {b off base : Nat} {vs : List Nat} (h : NumsAt k w b off vs) (hb : Below base w w') (hlt : b < base) : NumsAt k w' b off vs :=
  fun t ht => (hb.cell (p := ⟨b, off + t, none⟩) hlt).trans (h t ht)
theorem NumsAt.drop {kk : IntKind} {w : World} {b off : Nat} {vs : List Nat} (h : NumsAt kk w b off vs) (k : Nat) : NumsAt kk w b (off + k) (vs.drop k) := by
  intro t ht
  rw [List.length_drop] at ht
  have := h (k + t) (by omega)
  rw [← Nat.add_assoc] at this
  rw [this]
  simp
theorem NumsAt.take {kk : IntKind} {w : World} {b off : Nat} {vs : List Nat} (h : NumsAt kk w b off vs) (k : Nat) : NumsAt kk w b off (vs.take k) := by
  intro t ht
  rw [List.length_take] at ht
  rw [h t (by omega)]
  have : t < k := by omega
  simp [this]

theorem i64_and1 (x : Nat) (h : x < 9223372036854775808) : bits .and .i64 (x : Int) 1 = ((x % 2 : Nat) : Int) := by
  show IntKind.i64.wrap ((BitVec.ofInt 64 (x : Int) &&& BitVec.ofInt 64 (1 : Int)).toNat : Int) = _
  have e1 : (BitVec.ofInt 64 (1 : Int)).toNat = 1 := by decide
  rw [BitVec.toNat_and, ofInt_u64 x (by omega), e1, Nat.and_one_is_mod, IntKind.wrap_i64]
  omega
set_option maxHeartbeats 400000 in
theorem bit_any (v i : Nat) (w : World) (hv : v < 9223372036854775808) (hi : i < 64) :
    Calls Try.prog 70 #[.int .i64 (v : Int), .int .i64 (i : Int)] w fun e w' => e = .returned (.int .i64 ((v / 2 ^ i % 2 : Nat) : Int)) ∧ w' = w := by
  obtain ⟨x, hx, HX⟩ : ∃ x : Nat, (v : Int) / 2 ^ i = (x : Int) ∧ Hid (v / 2 ^ i = x) := by
    refine ⟨_, ?_, rfl⟩
    rw [Int.natCast_ediv, Int.natCast_pow]; rfl
  have hx63 : x < 9223372036854775808 := by rw [← HX.out]; exact Nat.lt_of_le_of_lt (Nat.div_le_self _ _) hv
  have hb := i64_and1 x hx63
  have HE : Hid (((v / 2 ^ i % 2 : Nat) : Int) = ((x % 2 : Nat) : Int)) := by show _ = _; rw [HX.out]
  generalize x % 2 = y at *
  go_enter Try.func70, Try.ntmps70
  go_wp2
  go_ret
  rw [HE.out]
  exact ⟨rfl, rfl⟩

theorem widthG_take (vs : List Nat) (k : Nat) (h : k < vs.length) : widthL (vs.take (k + 1)) = max (widthL (vs.take k)) (Lib.bitLen (vs.getD k 0)) := by
  have ht : vs.take (k + 1) = vs.take k ++ [vs.getD k 0] := by rw [List.take_succ_eq_append_getElem h]; simp [h]
  rw [ht, widthL, widthG, List.foldl_append]
  simp only [List.foldl_cons, List.foldl_nil, widthL, widthG]
theorem shr_pos (v k : Nat) (hv : v < 4611686018427387904) (hk : k ≤ 64) : 0 < v / 2 ^ k ↔ k < Lib.bitLen v := by
  have := bl_iff v k (by omega) hk
  rw [Nat.div_pos_iff]
  constructor
  · rintro ⟨_, h⟩
    have h2 : ¬ Lib.bitLen v ≤ k := fun h3 => by have := this.1 h3; omega
    omega
  · intro h
    refine ⟨Nat.pow_pos (by omega), ?_⟩
    have h2 : ¬ v < 2 ^ k := fun h3 => by have := this.2 h3; omega
    omega

set_option maxHeartbeats 1000000 in
theorem specWidth_any (b off cap : Nat) (vs : List Nat) (w : World) (hl : vs.length ≤ 4096) (hv : nums62 vs) (hc : NumsAt .i64 w b off vs) :
    Calls Try.prog 69 #[.slice (some ⟨b, off, none⟩) vs.length cap] w fun e w' => e = .returned (.int .i64 ((widthL vs : Nat) : Int)) ∧ w' = w := by
  have Hc := hidd hc
  have Hv := hidd hv
  clear hc hv
  go_enter Try.func69, Try.ntmps69
  go_wp2
  go_loop [3, 4] (fun wv i => ∃ k : Nat, k ≤ vs.length ∧ i = .int .i64 k ∧ wv = .int .i64 ((widthL (vs.take k) : Nat) : Int)) (fun _ i => vs.length - (intOf i).toNat)
  case atStart => exact ⟨0, Nat.zero_le _, rfl, rfl⟩
  case round =>
    obtain ⟨k, hk, rfl, rfl⟩ := hrel
    by_cases hlt : k < vs.length
    · have g1 := Hc.out k hlt
      have hvk := Hv.out (vs.getD k 0) (by rw [List.getD_eq_getElem?_getD, List.getElem?_eq_getElem hlt]; exact List.getElem_mem _)
      have Ht := hidd (widthG_take vs k hlt)
      have hw0 : widthL (vs.take k) ≤ 62 := widthL_62 _ (fun u hu => Hv.out u (List.mem_of_mem_take hu))
      generalize vs.getD k 0 = v at *
      generalize widthL (vs.take k) = w0 at *
      have Hbl := hidd (bl_iff v 62 (by omega) (by omega))
      have hbl : Lib.bitLen v ≤ 62 := Hbl.out.2 (by simpa using hvk)
      go_wp2
      go_loop [3] (fun wv => ∃ j : Nat, w0 ≤ j ∧ j ≤ max w0 (Lib.bitLen v) ∧ wv = .int .i64 (j : Int)) (fun wv => 64 - (intOf wv).toNat)
      case atStart => exact ⟨w0, Nat.le_refl _, Nat.le_max_left _ _, rfl⟩
      case round =>
        obtain ⟨j, hj1, hj2, rfl⟩ := hrel
        have hj62 : j ≤ 62 := by omega
        obtain ⟨x, hx, HX⟩ : ∃ x : Nat, (v : Int) / 2 ^ j = (x : Int) ∧ Hid (v / 2 ^ j = x) := by
          refine ⟨_, ?_, rfl⟩
          rw [Int.natCast_ediv, Int.natCast_pow]; rfl
        have Hs := hidd (shr_pos v j hvk (by omega))
        rw [HX.out] at Hs
        by_cases hx0 : 0 < x
        · have hxz : (0 : Int) < (x : Int) := by omega
          have hjb : j < Lib.bitLen v := Hs.out.1 hx0
          go_wp2
          go_round
          case rel => exact ⟨j + 1, by omega, by omega, by go_num⟩
          case measure => simp [intOf]; omega
        · have hxz : ¬ (0 : Int) < (x : Int) := by omega
          have hjb : Lib.bitLen v ≤ j := by
            have h1 := Hs.out
            by_cases h2 : j < Lib.bitLen v
            · exact absurd (h1.2 h2) hx0
            · omega
          have Hjm : Hid (j = max w0 (Lib.bitLen v)) := by show _ = _; omega
          clear hj2 hjb
          go_wp2
          go_round
          case rel => exact ⟨k + 1, by omega, by go_num, by rw [Ht.out, ← Hjm.out]⟩
          case measure => simp [intOf]; omega
    · have HK : Hid (vs.take k = vs) := by show _ = _; rw [List.take_of_length_le (by omega)]
      rw [HK.out]
      go_wp2
      go_ret
      exact ⟨rfl, rfl⟩
end Go.Proofs.Ytibomnmgiimejad
