import Derived.Test.YtnekdkafhoacoaaDoorAzH
import Derived.Test.YtnekdkafhoacoaaDoorStrs
namespace Go.Proofs.YtnekdkafhoacoaaDoor
open Go Go.RowKit
set_option linter.unusedVariables false

def szGo (left : Int) : List (List UInt8) → Int
  | [] => left
  | t :: ts => if left - (t.length : Int) < 0 then -1 else szGo (left - (t.length : Int)) ts
def szStr (left : Int) (l : List (List UInt8)) : Int := if left - (l.length : Int) < 0 then -1 else szGo (left - (l.length : Int)) l
def syGo (left : Int) : List (List UInt8 × List UInt8) → Int
  | [] => left
  | t :: ts => if left - (t.1.length : Int) < 0 then -1 else if left - (t.1.length : Int) - (t.2.length : Int) < 0 then -1 else syGo (left - (t.1.length : Int) - (t.2.length : Int)) ts
def szSyn (left : Int) (l : List (List UInt8 × List UInt8)) : Int := if left - (l.length : Int) < 0 then -1 else syGo (left - (l.length : Int)) l
def szAz (left : Int) (s : List (List UInt8)) (y : List (List UInt8 × List UInt8)) : Int := if szStr left s < 0 then -1 else if szSyn (szStr left s) y < 0 then -1 else szSyn (szStr left s) y
theorem szGo_ok : ∀ (l : List (List UInt8)) (left : Int), 0 ≤ szGo left l → szGo left l ≤ left ∧ ∀ t ∈ l, (t.length : Int) ≤ left
  | [], left, h => ⟨Int.le_refl _, fun _ ht => by cases ht⟩
  | t :: ts, left, h => by
    rw [szGo] at h ⊢
    by_cases h1 : left - (t.length : Int) < 0
    · rw [if_pos h1] at h; omega
    · rw [if_neg h1] at h ⊢
      have ih := szGo_ok ts _ h
      refine ⟨by omega, fun u hu => ?_⟩
      rcases List.mem_cons.1 hu with rfl | hu
      · omega
      · have := ih.2 u hu; omega
theorem syGo_ok : ∀ (l : List (List UInt8 × List UInt8)) (left : Int), 0 ≤ syGo left l → syGo left l ≤ left ∧ ∀ t ∈ l, (t.1.length : Int) ≤ left ∧ (t.2.length : Int) ≤ left
  | [], left, h => ⟨Int.le_refl _, fun _ ht => by cases ht⟩
  | t :: ts, left, h => by
    rw [syGo] at h ⊢
    by_cases h1 : left - (t.1.length : Int) < 0
    · rw [if_pos h1] at h; omega
    · rw [if_neg h1] at h ⊢
      by_cases h2 : left - (t.1.length : Int) - (t.2.length : Int) < 0
      · rw [if_pos h2] at h; omega
      · rw [if_neg h2] at h ⊢
        have ih := syGo_ok ts _ h
        refine ⟨by omega, fun u hu => ?_⟩
        rcases List.mem_cons.1 hu with rfl | hu
        · omega
        · have := ih.2 u hu; omega
theorem getD_memS (l : List (List UInt8)) (k : Nat) (h : k < l.length) : l.getD k [] ∈ l := by
  rw [List.getD_eq_getElem?_getD, List.getElem?_eq_getElem h, Option.getD_some]
  exact List.getElem_mem _
theorem getD_memY (l : List (List UInt8 × List UInt8)) (k : Nat) (h : k < l.length) : l.getD k ([], []) ∈ l := by
  rw [List.getD_eq_getElem?_getD, List.getElem?_eq_getElem h, Option.getD_some]
  exact List.getElem_mem _
theorem szAz_ok {s : List (List UInt8)} {y : List (List UInt8 × List UInt8)} (h : 0 ≤ szAz 1048576 s y) : s.length ≤ 1048576 ∧ y.length ≤ 1048576 ∧ szS s ∧ szY y := by
  unfold szAz at h
  by_cases h1 : szStr 1048576 s < 0
  · rw [if_pos h1] at h; omega
  rw [if_neg h1] at h
  by_cases h2 : szSyn (szStr 1048576 s) y < 0
  · rw [if_pos h2] at h; omega
  have a1 : ¬ (1048576 : Int) - (s.length : Int) < 0 := by
    intro hh; rw [szStr, if_pos hh] at h1; omega
  have e1 : szStr 1048576 s = szGo (1048576 - (s.length : Int)) s := by rw [szStr, if_neg a1]
  have k1 := szGo_ok s _ (by rw [← e1]; omega)
  rw [← e1] at k1
  have a2 : ¬ szStr 1048576 s - (y.length : Int) < 0 := by
    intro hh; rw [szSyn, if_pos hh] at h2; omega
  have e2 : szSyn (szStr 1048576 s) y = syGo (szStr 1048576 s - (y.length : Int)) y := by rw [szSyn, if_neg a2]
  have k2 := syGo_ok y _ (by rw [← e2]; omega)
  refine ⟨by omega, by omega, fun t ht => ?_, fun t ht => ?_⟩
  · have := k1.2 _ (getD_memS s t ht); rw [bs_size]; omega
  · have := k2.2 _ (getD_memY y t ht); rw [bs_size, bs_size]; omega
theorem szGo_step (l : List (List UInt8)) (k : Nat) (left : Int) (h : k < l.length) : szGo left (l.drop k) = if left - ((l.getD k []).length : Int) < 0 then -1 else szGo (left - ((l.getD k []).length : Int)) (l.drop (k + 1)) := by
  rw [List.drop_eq_getElem_cons h, szGo]
  simp [h]
theorem syGo_step (l : List (List UInt8 × List UInt8)) (k : Nat) (left : Int) (h : k < l.length) : syGo left (l.drop k) = if left - ((l.getD k ([], [])).1.length : Int) < 0 then -1 else if left - ((l.getD k ([], [])).1.length : Int) - ((l.getD k ([], [])).2.length : Int) < 0 then -1 else syGo (left - ((l.getD k ([], [])).1.length : Int) - ((l.getD k ([], [])).2.length : Int)) (l.drop (k + 1)) := by
  rw [List.drop_eq_getElem_cons h, syGo]
  simp [h]

set_option maxHeartbeats 2000000 in
theorem szStrs_any (a : Option Addr) (cap : Nat) (l : List (List UInt8)) (left : Int) (w : World) (h0 : 0 ≤ left) (h1 : left ≤ 1048576) (hn : l.length ≤ 9223372036854775807) (hS : HoldS w a l) (hz : ∀ t, t < l.length → (bs (l.getD t [])).size ≤ 9223372036854775807) :
    Calls Tryd.prog 63 #[.slice a l.length cap, .int .i64 left] w fun e w' => e = .returned (.int .i64 (szStr left l)) ∧ w' = w := by
  have HS := hidd hS
  have HZ := hidd hz
  clear hS hz
  by_cases hb : left - (l.length : Int) < 0
  · have HR : Hid (szStr left l = -1) := by show _ = _; rw [szStr, if_pos hb]
    go_enter Tryd.func63, Tryd.ntmps63
    go_wp2
    go_ret
    rw [HR.out]
    exact ⟨rfl, rfl⟩
  · have HR : Hid (szStr left l = szGo (left - (l.length : Int)) l) := by show _ = _; rw [szStr, if_neg hb]
    generalize hG : szGo (left - (l.length : Int)) l = G at HR
    have HG := hidd hG
    clear hG
    go_enter Tryd.func63, Tryd.ntmps63
    go_wp2
    go_loop [1, 5] (fun c i => ∃ (k : Nat) (z : Int), k ≤ l.length ∧ i = .int .i64 k ∧ c = .int .i64 z ∧ 0 ≤ z ∧ z ≤ 1048576 ∧ szGo z (l.drop k) = G) (fun _ i => l.length - (intOf i).toNat)
    case atStart => exact ⟨0, _, by omega, rfl, rfl, by omega, by omega, HG.out⟩
    case round =>
      obtain ⟨k, z, hk, rfl, rfl, hz0, hz1, hg⟩ := hrel
      have HGk := hidd hg
      clear hg
      by_cases hlt : k < l.length
      · obtain ⟨b, off, rfl, hbl, hc⟩ := HS.out.resolve_left (fun h => by rw [h] at hlt; simp at hlt)
        have g1 := hc k hlt
        have hsz := HZ.out k hlt
        have HSt := hidd (szGo_step l k z hlt)
        have HLn : Hid ((l.getD k []).length = (bs (l.getD k [])).size) := (bs_size _).symm
        rw [HLn.out] at HSt
        clear hc HLn
        generalize bs (l.getD k []) = s at *
        by_cases hneg : z - (s.size : Int) < 0
        · have HF : Hid (G = -1) := by show _ = _; rw [← HGk.out, HSt.out, if_pos hneg]
          go_wp2
          go_ret
          rw [HR.out, HF.out]
          exact ⟨rfl, rfl⟩
        · have HF : Hid (szGo (z - (s.size : Int)) (l.drop (k + 1)) = G) := by show _ = _; rw [← HGk.out, HSt.out, if_neg hneg]
          go_wp2
          go_round
          case rel => exact ⟨k + 1, _, by omega, by go_num, rfl, by omega, by omega, HF.out⟩
          case measure => simp [intOf]; omega
      · have HF : Hid (G = z) := by show _ = _; rw [← HGk.out, List.drop_of_length_le (by omega), szGo]
        go_wp2
        go_ret
        rw [HR.out, HF.out]
        exact ⟨rfl, rfl⟩
end Go.Proofs.YtnekdkafhoacoaaDoor
