import Derived.Test.YtjndogajdlophaaDcM
namespace Go.Proofs.Ytjndogajdlophaa
open Go Go.RowKit
set_option linter.unusedVariables false

def mixStep (h : Nat) (a : Ar) : Nat := (h * 31 + a.1.toNat * 7 + a.2.1.toNat * 131) % 1000003
def mixG (f : Bool) (l : List Ar) : Nat := l.foldl mixStep (if f then 8 else 7)
def mixOf (s : St) : Nat := mixG s.1 s.2 % 1024
theorem mixG_lt (f : Bool) (l : List Ar) : mixG f l < 1000003 := by
  unfold mixG
  have : ∀ (l : List Ar) (h : Nat), h < 1000003 → l.foldl mixStep h < 1000003 := by
    intro l
    induction l with
    | nil => intro h hh; exact hh
    | cons a t ih => intro h hh; rw [List.foldl_cons]; exact ih _ (Nat.mod_lt _ (by omega))
  exact this l _ (by cases f <;> decide)
theorem mixG_snoc (f : Bool) (l : List Ar) (k : Nat) (h : k < l.length) : mixG f (l.take (k + 1)) = mixStep (mixG f (l.take k)) (l.getD k ar0) := by
  have ht : l.take (k + 1) = l.take k ++ [l.getD k ar0] := by rw [List.take_succ_eq_append_getElem h]; simp [h]
  rw [mixG, ht, List.foldl_append]; rfl
/-- Arcs with small numbers. -/
def SmallA (l : List Ar) : Prop := ∀ a ∈ l, 0 ≤ a.1 ∧ a.1 ≤ 255 ∧ 0 ≤ a.2.1 ∧ a.2.1 ≤ 1000000
theorem SmallA.at {l : List Ar} (h : SmallA l) {k : Nat} (hk : k < l.length) : 0 ≤ (l.getD k ar0).1 ∧ (l.getD k ar0).1 ≤ 255 ∧ 0 ≤ (l.getD k ar0).2.1 ∧ (l.getD k ar0).2.1 ≤ 1000000 :=
  h _ (by rw [List.getD_eq_getElem?_getD, List.getElem?_eq_getElem hk]; exact List.getElem_mem _)

set_option maxHeartbeats 2000000 in
set_option maxRecDepth 100000 in
theorem mix_any (f : Bool) (a : Option Addr) (c : Nat) (l : List Ar) (w : World) (hn : l.length ≤ 1048576) (h1 : HoldA w a l) (hs : SmallA l) :
    Calls Try.prog 93 #[.agg #[.bool f, .slice a l.length c]] w fun e w' => e = .returned (.int .i64 (mixOf (f, l) : Nat)) ∧ Below w.heap.size w w' := by
  obtain ⟨R, hR⟩ : ∃ R, mixOf (f, l) = R := ⟨_, rfl⟩
  rw [hR]
  have HRR : Hid (mixG f l % 1024 = R) := hR
  clear hR
  have HBa : Hid (Below w.heap.size w (w.alloc (.cells #[.bool f, .slice a l.length c] 104))) := (Below.refl _ _).alloc (Nat.le_refl _) _
  have H1 := hidd (h1.below HBa.out)
  have HS := hidd hs
  have Hbx := hidd (heap_alloc_new w (.cells #[.bool f, .slice a l.length c] 104))
  clear h1 hs
  cases f with
  | false =>
    go_enter Try.func93, Try.ntmps93
    go_wp2_with fail
    generalize w.alloc (.cells #[.bool false, .slice a l.length c] 104) = wa at *
    have e1 : wa.cell? ⟨w.heap.size, 1, none⟩ = some (.slice a l.length c) := blkc Hbx.out 1
    go_loopw [3, 4] (fun hv iv wr => ∃ k : Nat, k ≤ l.length ∧ iv = .int .i64 (k : Int) ∧ hv = .int .i64 ((mixG false (l.take k) : Nat) : Int) ∧ ∃ q, wr = wa.drewN q) (fun _ iv _ => l.length - (intOf iv).toNat)
    case atStart => exact ⟨0, Nat.zero_le _, rfl, by simp [mixG], 0, rfl⟩
    case round =>
      obtain ⟨k, hk, rfl, rfl, q, rfl⟩ := hrel
      have hmx := mixG_lt false (l.take k)
      by_cases hlt : k < l.length
      · have hkz : (k : Int) < (l.length : Int) := by omega
        obtain ⟨b1, o1, rfl, hb1, hc1⟩ := H1.out.resolve_left (fun h => by rw [h] at hlt; simp at hlt)
        obtain ⟨x0, x1, x2⟩ := hc1 k hlt
        clear hc1
        have hsm := HS.out.at hlt
        have HM := hidd (mixG_snoc false l k hlt)
        rw [mixStep] at HM
        obtain ⟨p, hp⟩ : ∃ p, l.getD k ar0 = p := ⟨_, rfl⟩
        rw [hp] at x0 x1 x2 hsm HM
        clear hp
        obtain ⟨p0, p1, p2⟩ := p
        dsimp only at x0 x1 x2 hsm HM
        obtain ⟨g1, g2, g3, g4⟩ := hsm
        obtain ⟨P0, rfl⟩ := Int.eq_ofNat_of_zero_le g1
        obtain ⟨P1, rfl⟩ := Int.eq_ofNat_of_zero_le g3
        simp only [Int.toNat_natCast] at HM
        generalize mixG false (l.take k) = M at *
        go_wp2
        go_quiet (fail)
        go_wp2
        go_roundw
        case rel => exact ⟨k + 1, by omega, by go_num, by rw [HM.out]; go_num, _, rfl⟩
        case measure => simp [intOf]; omega
      · have HK : Hid (mixG false (l.take k) = mixG false l) := by show _ = _; rw [List.take_of_length_le (by omega)]
        have hkz : ¬ (k : Int) < (l.length : Int) := by omega
        rw [HK.out] at hmx ⊢
        have hR2 := HRR.out
        clear HRR HK
        generalize mixG false l = M at *
        go_wp2
        go_ret
        refine ⟨?_, below_drewN HBa.out _⟩
        rw [← hR2]
        go_num
  | true =>
    go_enter Try.func93, Try.ntmps93
    go_wp2_with fail
    generalize w.alloc (.cells #[.bool true, .slice a l.length c] 104) = wa at *
    have e1 : wa.cell? ⟨w.heap.size, 1, none⟩ = some (.slice a l.length c) := blkc Hbx.out 1
    go_loopw [3, 4] (fun hv iv wr => ∃ k : Nat, k ≤ l.length ∧ iv = .int .i64 (k : Int) ∧ hv = .int .i64 ((mixG true (l.take k) : Nat) : Int) ∧ ∃ q, wr = wa.drewN q) (fun _ iv _ => l.length - (intOf iv).toNat)
    case atStart => exact ⟨0, Nat.zero_le _, rfl, by simp [mixG], 0, rfl⟩
    case round =>
      obtain ⟨k, hk, rfl, rfl, q, rfl⟩ := hrel
      have hmx := mixG_lt true (l.take k)
      by_cases hlt : k < l.length
      · have hkz : (k : Int) < (l.length : Int) := by omega
        obtain ⟨b1, o1, rfl, hb1, hc1⟩ := H1.out.resolve_left (fun h => by rw [h] at hlt; simp at hlt)
        obtain ⟨x0, x1, x2⟩ := hc1 k hlt
        clear hc1
        have hsm := HS.out.at hlt
        have HM := hidd (mixG_snoc true l k hlt)
        rw [mixStep] at HM
        obtain ⟨p, hp⟩ : ∃ p, l.getD k ar0 = p := ⟨_, rfl⟩
        rw [hp] at x0 x1 x2 hsm HM
        clear hp
        obtain ⟨p0, p1, p2⟩ := p
        dsimp only at x0 x1 x2 hsm HM
        obtain ⟨g1, g2, g3, g4⟩ := hsm
        obtain ⟨P0, rfl⟩ := Int.eq_ofNat_of_zero_le g1
        obtain ⟨P1, rfl⟩ := Int.eq_ofNat_of_zero_le g3
        simp only [Int.toNat_natCast] at HM
        generalize mixG true (l.take k) = M at *
        go_wp2
        go_quiet (fail)
        go_wp2
        go_roundw
        case rel => exact ⟨k + 1, by omega, by go_num, by rw [HM.out]; go_num, _, rfl⟩
        case measure => simp [intOf]; omega
      · have HK : Hid (mixG true (l.take k) = mixG true l) := by show _ = _; rw [List.take_of_length_le (by omega)]
        have hkz : ¬ (k : Int) < (l.length : Int) := by omega
        rw [HK.out] at hmx ⊢
        have hR2 := HRR.out
        clear HRR HK
        generalize mixG true l = M at *
        go_wp2
        go_ret
        refine ⟨?_, below_drewN HBa.out _⟩
        rw [← hR2]
        go_num
end Go.Proofs.Ytjndogajdlophaa
