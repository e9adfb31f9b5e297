import Derived.Test.YtgoklapafidpkaaGreatDoorTermsJ03
import Derived.Test.YtgoklapafidpkaaGreatDoorTermsJ07
import Derived.WalkLawsBesides
import Derived.Handy
import Derived.Deep.RegionWith
import Derived.BigQuiet
import Derived.Deep.QuietTactic
namespace Go.Proofs.YtgoklapafidpkaaGreatDoor
open Go Go.RowKit
set_option linter.unusedVariables false

def szGo (left : Int) : List (List UInt8) → Int
  | [] => left
  | t :: ts => if left - (t.length : Int) < 0 then -1 else szGo (left - (t.length : Int)) ts
def szStr (left : Int) (l : List (List UInt8)) : Int := if left - (l.length : Int) < 0 then -1 else szGo (left - (l.length : Int)) l
def syGo (left : Int) : List (List UInt8 × List UInt8) → Int
  | [] => left
  | t :: ts => if left - (t.1.length : Int) < 0 then -1 else if left - (t.1.length : Int) - (t.2.length : Int) < 0 then -1 else syGo (left - (t.1.length : Int) - (t.2.length : Int)) ts
def szSyn (left : Int) (l : List (List UInt8 × List UInt8)) : Int := if left - (l.length : Int) < 0 then -1 else syGo (left - (l.length : Int)) l
def szAz (left : Int) (s : List (List UInt8)) (y : List (List UInt8 × List UInt8)) : Int := if szStr left s < 0 then -1 else if szSyn (szStr left s) y < 0 then -1 else szSyn (szStr left s) y
theorem szGo_ok : ∀ (l : List (List UInt8)) (left : Int), 0 ≤ szGo left l → szGo left l ≤ left ∧ ∀ t ∈ l, (t.length : Int) ≤ left
  | [], left, h => ⟨Int.le_refl _, fun _ ht => by cases ht⟩
  | t :: ts, left, h => by
    rw [szGo] at h ⊢
    by_cases h1 : left - (t.length : Int) < 0
    · rw [if_pos h1] at h; omega
    · rw [if_neg h1] at h ⊢
      have ih := szGo_ok ts _ h
      refine ⟨by omega, fun u hu => ?_⟩
      rcases List.mem_cons.1 hu with rfl | hu
      · omega
      · have := ih.2 u hu; omega
theorem syGo_ok : ∀ (l : List (List UInt8 × List UInt8)) (left : Int), 0 ≤ syGo left l → syGo left l ≤ left ∧ ∀ t ∈ l, (t.1.length : Int) ≤ left ∧ (t.2.length : Int) ≤ left
  | [], left, h => ⟨Int.le_refl _, fun _ ht => by cases ht⟩
  | t :: ts, left, h => by
    rw [syGo] at h ⊢
    by_cases h1 : left - (t.1.length : Int) < 0
    · rw [if_pos h1] at h; omega
    · rw [if_neg h1] at h ⊢
      by_cases h2 : left - (t.1.length : Int) - (t.2.length : Int) < 0
      · rw [if_pos h2] at h; omega
      · rw [if_neg h2] at h ⊢
        have ih := syGo_ok ts _ h
        refine ⟨by omega, fun u hu => ?_⟩
        rcases List.mem_cons.1 hu with rfl | hu
        · omega
        · have := ih.2 u hu; omega
theorem getD_memS (l : List (List UInt8)) (k : Nat) (h : k < l.length) : l.getD k [] ∈ l := by
  rw [List.getD_eq_getElem?_getD, List.getElem?_eq_getElem h, Option.getD_some]
  exact List.getElem_mem _
theorem getD_memY (l : List (List UInt8 × List UInt8)) (k : Nat) (h : k < l.length) : l.getD k ([], []) ∈ l := by
  rw [List.getD_eq_getElem?_getD, List.getElem?_eq_getElem h, Option.getD_some]
  exact List.getElem_mem _
theorem szGo_step (l : List (List UInt8)) (k : Nat) (left : Int) (h : k < l.length) : szGo left (l.drop k) = if left - ((l.getD k []).length : Int) < 0 then -1 else szGo (left - ((l.getD k []).length : Int)) (l.drop (k + 1)) := by
  rw [List.drop_eq_getElem_cons h, szGo]
  simp [h]
theorem syGo_step (l : List (List UInt8 × List UInt8)) (k : Nat) (left : Int) (h : k < l.length) : syGo left (l.drop k) = if left - ((l.getD k ([], [])).1.length : Int) < 0 then -1 else if left - ((l.getD k ([], [])).1.length : Int) - ((l.getD k ([], [])).2.length : Int) < 0 then -1 else syGo (left - ((l.getD k ([], [])).1.length : Int) - ((l.getD k ([], [])).2.length : Int)) (l.drop (k + 1)) := by
  rw [List.drop_eq_getElem_cons h, syGo]
  simp [h]
set_option maxHeartbeats 2000000 in
theorem szStrs_any (a : Option Addr) (cap : Nat) (l : List (List UInt8)) (left : Int) (w : World) (h0 : 0 ≤ left) (h1 : left ≤ 1048576) (hn : l.length ≤ 9223372036854775807) (hS : HoldS w a l) (hz : ∀ t, t < l.length → (bs (l.getD t [])).size ≤ 9223372036854775807) :
    Calls Tryz.prog 100 #[.slice a l.length cap, .int .i64 left] w fun e w' => e = .returned (.int .i64 (szStr left l)) ∧ w' = w := by
  have HS := hidd hS
  have HZ := hidd hz
  clear hS hz
  by_cases hb : left - (l.length : Int) < 0
  · have HR : Hid (szStr left l = -1) := by show _ = _; rw [szStr, if_pos hb]
    go_enter Tryz.func100, Tryz.ntmps100
    go_wp2
    go_ret
    rw [HR.out]
    exact ⟨rfl, rfl⟩
  · have HR : Hid (szStr left l = szGo (left - (l.length : Int)) l) := by show _ = _; rw [szStr, if_neg hb]
    generalize hG : szGo (left - (l.length : Int)) l = G at HR
    have HG := hidd hG
    clear hG
    go_enter Tryz.func100, Tryz.ntmps100
    go_wp2
    go_loop [1, 5] (fun c i => ∃ (k : Nat) (z : Int), k ≤ l.length ∧ i = .int .i64 k ∧ c = .int .i64 z ∧ 0 ≤ z ∧ z ≤ 1048576 ∧ szGo z (l.drop k) = G) (fun _ i => l.length - (intOf i).toNat)
    case atStart => exact ⟨0, _, by omega, rfl, rfl, by omega, by omega, HG.out⟩
    case round =>
      obtain ⟨k, z, hk, rfl, rfl, hz0, hz1, hg⟩ := hrel
      have HGk := hidd hg
      clear hg
      by_cases hlt : k < l.length
      · obtain ⟨b, off, rfl, hbl, hc⟩ := HS.out.resolve_left (fun h => by rw [h] at hlt; simp at hlt)
        have g1 := hc k hlt
        have hsz := HZ.out k hlt
        have HSt := hidd (szGo_step l k z hlt)
        have HLn : Hid ((l.getD k []).length = (bs (l.getD k [])).size) := (bs_size _).symm
        rw [HLn.out] at HSt
        clear hc HLn
        generalize bs (l.getD k []) = s at *
        by_cases hneg : z - (s.size : Int) < 0
        · have HF : Hid (G = -1) := by show _ = _; rw [← HGk.out, HSt.out, if_pos hneg]
          go_wp2
          go_ret
          rw [HR.out, HF.out]
          exact ⟨rfl, rfl⟩
        · have HF : Hid (szGo (z - (s.size : Int)) (l.drop (k + 1)) = G) := by show _ = _; rw [← HGk.out, HSt.out, if_neg hneg]
          go_wp2
          go_round
          case rel => exact ⟨k + 1, _, by omega, by go_num, rfl, by omega, by omega, HF.out⟩
          case measure => simp [intOf]; omega
      · have HF : Hid (G = z) := by show _ = _; rw [← HGk.out, List.drop_of_length_le (by omega), szGo]
        go_wp2
        go_ret
        rw [HR.out, HF.out]
        exact ⟨rfl, rfl⟩
end Go.Proofs.YtgoklapafidpkaaGreatDoor

namespace Go.Proofs.YtgoklapafidpkaaGreatDoor
open Go Go.RowKit
set_option linter.unusedVariables false

set_option maxHeartbeats 2000000 in
theorem szSynonym_any (f t : ByteArray) (left : Int) (w : World) (h0 : 0 ≤ left) (h1 : left ≤ 1048576) (hf : f.size ≤ 9223372036854775807) (ht : t.size ≤ 9223372036854775807) :
    Calls Tryz.prog 158 #[.agg #[.string f, .string t], .int .i64 left] w fun e w' => e = .returned (.int .i64 (if left - (f.size : Int) < 0 then -1 else if left - (f.size : Int) - (t.size : Int) < 0 then -1 else left - (f.size : Int) - (t.size : Int))) ∧ Below w.heap.size w w' := by
  by_cases c1 : left - (f.size : Int) < 0
  · rw [if_pos c1]
    go_enter Tryz.func158, Tryz.ntmps158
    go_wp2
    go_ret
    exact ⟨rfl, (Below.refl _ _).alloc (Nat.le_refl _) _⟩
  · rw [if_neg c1]
    by_cases c2 : left - (f.size : Int) - (t.size : Int) < 0
    · rw [if_pos c2]
      go_enter Tryz.func158, Tryz.ntmps158
      go_wp2
      go_ret
      exact ⟨rfl, (Below.refl _ _).alloc (Nat.le_refl _) _⟩
    · rw [if_neg c2]
      go_enter Tryz.func158, Tryz.ntmps158
      go_wp2
      go_ret
      exact ⟨rfl, (Below.refl _ _).alloc (Nat.le_refl _) _⟩
set_option maxHeartbeats 2000000 in
theorem szSyns_any (a : Option Addr) (cap : Nat) (l : List (List UInt8 × List UInt8)) (left : Int) (w : World) (h0 : 0 ≤ left) (h1 : left ≤ 1048576) (hn : l.length ≤ 9223372036854775807) (hY : HoldY w a l) (hz : ∀ t, t < l.length → (bs (l.getD t ([], [])).1).size ≤ 9223372036854775807 ∧ (bs (l.getD t ([], [])).2).size ≤ 9223372036854775807) :
    Calls Tryz.prog 133 #[.slice a l.length cap, .int .i64 left] w fun e w' => e = .returned (.int .i64 (szSyn left l)) ∧ Below w.heap.size w w' := by
  have HS := hidd hY
  have HZ := hidd hz
  clear hY hz
  by_cases hb : left - (l.length : Int) < 0
  · have HR : Hid (szSyn left l = -1) := by show _ = _; rw [szSyn, if_pos hb]
    go_enter Tryz.func133, Tryz.ntmps133
    go_wp2
    go_ret
    rw [HR.out]
    exact ⟨rfl, Below.refl _ _⟩
  · have HR : Hid (szSyn left l = syGo (left - (l.length : Int)) l) := by show _ = _; rw [szSyn, if_neg hb]
    generalize hG : syGo (left - (l.length : Int)) l = G at HR
    have HG := hidd hG
    clear hG
    go_enter Tryz.func133, Tryz.ntmps133
    go_wp2
    go_loopw [1, 5] (fun c i wr => ∃ (k : Nat) (z : Int), k ≤ l.length ∧ i = .int .i64 k ∧ c = .int .i64 z ∧ 0 ≤ z ∧ z ≤ 1048576 ∧ syGo z (l.drop k) = G ∧ Below w.heap.size w wr) (fun _ i _ => l.length - (intOf i).toNat)
    case atStart => exact ⟨0, _, by omega, rfl, rfl, by omega, by omega, HG.out, Below.refl _ _⟩
    case round =>
      obtain ⟨k, z, hk, rfl, rfl, hz0, hz1, hg, hbel⟩ := hrel
      have HGk := hidd hg
      have HB := hidd hbel
      clear hg hbel
      by_cases hlt : k < l.length
      · obtain ⟨b, off, rfl, hbl, hc⟩ := HS.out.resolve_left (fun h => by rw [h] at hlt; simp at hlt)
        have g1 := (HB.out.cell (p := ⟨b, off + k * 2, none⟩) hbl).trans (hc k hlt).1
        have g2 := (HB.out.cell (p := ⟨b, off + k * 2 + 1, none⟩) hbl).trans (hc k hlt).2
        have hsz := HZ.out k hlt
        have HSt := hidd (syGo_step l k z hlt)
        have HL1 : Hid ((l.getD k ([], [])).1.length = (bs (l.getD k ([], [])).1).size) := (bs_size _).symm
        have HL2 : Hid ((l.getD k ([], [])).2.length = (bs (l.getD k ([], [])).2).size) := (bs_size _).symm
        rw [HL1.out, HL2.out] at HSt
        clear hc HL1 HL2
        generalize bs (l.getD k ([], [])).1 = f at *
        generalize bs (l.getD k ([], [])).2 = t at *
        obtain ⟨hs1, hs2⟩ := hsz
        have HC := hidd (fun wx => szSynonym_any f t z wx hz0 hz1 hs1 hs2)
        by_cases c1 : z - (f.size : Int) < 0
        · rw [if_pos c1] at HC HSt
          have HF : Hid (G = -1) := by show _ = _; rw [← HGk.out, HSt.out]
          go_wp2_with fail
          refine (HC.out _).mono ?_
          rintro e w2 ⟨rfl, hb2⟩
          have HB2 := hidd (HB.out.trans (hb2.mono HB.out.size))
          clear hb2
          go_wp2
          go_ret
          rw [HR.out, HF.out]
          exact ⟨rfl, HB2.out⟩
        · rw [if_neg c1] at HC HSt
          by_cases c2 : z - (f.size : Int) - (t.size : Int) < 0
          · rw [if_pos c2] at HC HSt
            have HF : Hid (G = -1) := by show _ = _; rw [← HGk.out, HSt.out]
            go_wp2_with fail
            refine (HC.out _).mono ?_
            rintro e w2 ⟨rfl, hb2⟩
            have HB2 := hidd (HB.out.trans (hb2.mono HB.out.size))
            clear hb2
            go_wp2
            go_ret
            rw [HR.out, HF.out]
            exact ⟨rfl, HB2.out⟩
          · rw [if_neg c2] at HC HSt
            have HF : Hid (syGo (z - (f.size : Int) - (t.size : Int)) (l.drop (k + 1)) = G) := by show _ = _; rw [← HGk.out, HSt.out]
            go_wp2_with fail
            refine (HC.out _).mono ?_
            rintro e w2 ⟨rfl, hb2⟩
            have HB2 := hidd (HB.out.trans (hb2.mono HB.out.size))
            clear hb2
            go_wp2
            go_roundw
            case rel => exact ⟨k + 1, _, by omega, by go_num, rfl, by omega, by omega, HF.out, HB2.out⟩
            case measure => simp [intOf]; omega
      · have HF : Hid (G = z) := by show _ = _; rw [← HGk.out, List.drop_of_length_le (by omega), syGo]
        go_wp2
        go_ret
        rw [HR.out, HF.out]
        exact ⟨rfl, HB.out⟩
end Go.Proofs.YtgoklapafidpkaaGreatDoor

namespace Go.Proofs.YtgoklapafidpkaaGreatDoor
open Go Go.RowKit
set_option linter.unusedVariables false

theorem Tryz.infoStr2 : (Tryz.prog.info? 9).map (fun i => (i.zero, i.size, i.bytes)) = some (some (.string ⟨#[]⟩), 1, 16) := by kernel_rfl
theorem Tryz.infoSyn : (Tryz.prog.info? 156).map (fun i => (i.zero, i.size, i.bytes)) = some (some (.agg #[.string ⟨#[]⟩, .string ⟨#[]⟩]), 2, 32) := by kernel_rfl
theorem sSet (l : List (List UInt8)) (k : Nat) (xs : List Value) (hl : xs.length = l.length) (hk : k < l.length) : (sCells (l.take k) ++ xs.drop k).set k (.string (bs (l.getD k []))) = sCells (l.take (k + 1)) ++ xs.drop (k + 1) := by
  have e : (sCells (l.take k)).length = k := by rw [sCells_len, List.length_take]; omega
  rw [List.set_append_right _ _ (by omega), e, Nat.sub_self, List.drop_eq_getElem_cons (by omega : k < xs.length), List.set_cons_zero, List.take_succ_eq_append_getElem hk, sCells_snoc, List.append_assoc]
  simp [hk]
def yCells (l : List (List UInt8 × List UInt8)) : List Value := l.flatMap fun y => [Value.string (bs y.1), Value.string (bs y.2)]
theorem yCells_len : ∀ l : List (List UInt8 × List UInt8), (yCells l).length = l.length * 2
  | [] => rfl
  | y :: t => by have := yCells_len t; simp only [yCells, List.flatMap_cons, List.length_append, List.length_cons, List.length_nil] at *; omega
theorem yCells_snoc (l : List (List UInt8 × List UInt8)) (y : List UInt8 × List UInt8) : yCells (l ++ [y]) = yCells l ++ [.string (bs y.1), .string (bs y.2)] := by simp [yCells]
theorem yCells_at : ∀ (l : List (List UInt8 × List UInt8)) (k : Nat), k < l.length → (yCells l)[k * 2]? = some (.string (bs (l.getD k ([], [])).1)) ∧ (yCells l)[k * 2 + 1]? = some (.string (bs (l.getD k ([], [])).2))
  | y :: t, 0, _ => ⟨rfl, rfl⟩
  | y :: t, k + 1, h => by
    have ih := yCells_at t k (by simpa using h)
    have e : yCells (y :: t) = [.string (bs y.1), .string (bs y.2)] ++ yCells t := by simp [yCells]
    rw [e, List.getElem?_append_right (by simp; omega), List.getElem?_append_right (by simp; omega)]
    simp only [List.length_cons, List.length_nil, List.getD_cons_succ]
    rw [show (k + 1) * 2 - (0 + 1 + 1) = k * 2 by omega, show (k + 1) * 2 + 1 - (0 + 1 + 1) = k * 2 + 1 by omega]
    exact ih
theorem ySet (l : List (List UInt8 × List UInt8)) (k : Nat) (xs : List Value) (hl : xs.length = l.length * 2) (hk : k < l.length) : ((yCells (l.take k) ++ xs.drop (k * 2)).set (k * 2) (.string (bs (l.getD k ([], [])).1))).set (k * 2 + 1) (.string (bs (l.getD k ([], [])).2)) = yCells (l.take (k + 1)) ++ xs.drop ((k + 1) * 2) := by
  have e : (yCells (l.take k)).length = k * 2 := by rw [yCells_len, List.length_take]; omega
  have d1 : xs.drop (k * 2) = xs[k * 2]'(by omega) :: xs[k * 2 + 1]'(by omega) :: xs.drop ((k + 1) * 2) := by
    rw [List.drop_eq_getElem_cons (by omega : k * 2 < xs.length), List.drop_eq_getElem_cons (by omega : k * 2 + 1 < xs.length), show k * 2 + 1 + 1 = (k + 1) * 2 by omega]
  rw [List.set_append_right _ _ (by omega), e, Nat.sub_self, d1, List.set_cons_zero, List.set_append_right _ _ (by omega), e, show k * 2 + 1 - k * 2 = 1 by omega, List.take_succ_eq_append_getElem hk, yCells_snoc, List.append_assoc]
  simp [hk]
theorem holdS_own {w : World} {base g cap : Nat} {l : List (List UInt8)} (h : w.ownsRow base 9 1 (.slice (some ⟨g, 0, none⟩) l.length cap) l.length (sCells l)) : HoldS w (some ⟨g, 0, none⟩) l :=
  Or.inr ⟨g, 0, rfl, own_lt h, fun t ht => by rw [Nat.zero_add]; exact ownS_cells h t ht⟩
theorem own2_lt {w : World} {base e g n cap : Nat} {xs : List Value} (h : w.ownsRow base e 2 (.slice (some ⟨g, 0, none⟩) n cap) n xs) : g < w.heap.size := by
  rcases h.2 with ⟨h', _⟩ | ⟨g', cap', cur, h', _, hg, _⟩
  · simp at h'
  · simp only [Value.slice.injEq, Option.some.injEq, Addr.mk.injEq, and_true, true_and] at h'
    obtain ⟨rfl, rfl⟩ := h'
    exact (Array.getElem?_eq_some_iff.1 hg).1
theorem own2_below {w w' : World} {base e n : Nat} {v : Value} {xs : List Value} (h : w.ownsRow base e 2 v n xs) (hb : Below w.heap.size w w') : w'.ownsRow base e 2 v n xs := by
  refine ⟨h.1, ?_⟩
  rcases h.2 with h' | ⟨g, cap, cur, h1, h2, h3, h4⟩
  · exact Or.inl h'
  · exact Or.inr ⟨g, cap, cur, h1, h2, by rw [hb.block g (Array.getElem?_eq_some_iff.1 h3).1]; exact h3, h4⟩
theorem holdY_own {w : World} {base g cap : Nat} {l : List (List UInt8 × List UInt8)} (h : w.ownsRow base 156 2 (.slice (some ⟨g, 0, none⟩) l.length cap) l.length (yCells l)) : HoldY w (some ⟨g, 0, none⟩) l :=
  Or.inr ⟨g, 0, rfl, own2_lt h, fun t ht => by
    rw [Nat.zero_add]
    exact ⟨by rw [h.cellAt (t * 2) (by omega)]; exact (yCells_at l t ht).1, by rw [h.cellAt (t * 2 + 1) (by omega)]; exact (yCells_at l t ht).2⟩⟩
set_option maxHeartbeats 2000000 in
theorem toStrs_any (a : Option Addr) (cap : Nat) (l : List (List UInt8)) (w : World) (hn : l.length ≤ 1048576) (hS : HoldS w a l) :
    Calls Tryz.prog 105 #[.slice a l.length cap] w fun e w' => e = .returned (.slice (some ⟨w.heap.size, 0, none⟩) l.length l.length) ∧
      w'.ownsRow w.heap.size 9 1 (.slice (some ⟨w.heap.size, 0, none⟩) l.length l.length) l.length (sCells l) ∧ Below w.heap.size w w' := by
  obtain ⟨i0, hi, hz0, hz1, hz2⟩ := info_parts Tryz.infoStr2
  have HS := hidd hS
  clear hS
  go_enter Tryz.func105, Tryz.ntmps105
  go_wp2_with (at_make; refine wpList_make_full _ rfl _ _ 57 rfl w.heap.size 9 i0 (.string ⟨#[]⟩) 1 Tryz.underlying57 hi hz0 hz1 _ _ _ _ l.length rfl rfl (by omega) (by omega) ?b2 ?b3 (Nat.le_refl _) ?_)
  case b2 => (first | omega | (rw [hz2]; omega))
  case b3 => unfold maxLen; omega
  intro w0 hown0 hgrow0
  generalize (madeCells #[Value.string ⟨#[]⟩] l.length).toList = xs at hown0
  have hxl : xs.length = l.length := by have := hown0.1; omega
  have HO0 := hidd hown0
  have HB0 : Hid (Below w.heap.size w w0) := (Below.refl _ _).grown hgrow0 (Nat.le_refl _) (fun k h => by cases h)
  clear hown0 hgrow0
  go_wp2
  go_loopw [4] (fun i wr => ∃ k : Nat, k ≤ l.length ∧ i = .int .i64 k ∧ wr.ownsRow w.heap.size 9 1 (.slice (some ⟨w.heap.size, 0, none⟩) l.length l.length) l.length (sCells (l.take k) ++ xs.drop k) ∧ Below w.heap.size w wr) (fun i _ => l.length - (intOf i).toNat)
  case atStart => exact ⟨0, Nat.zero_le _, rfl, HO0.out, HB0.out⟩
  case round =>
    obtain ⟨k, hk, rfl, hown, hbel⟩ := hrel
    have HO := hidd hown
    have HB := hidd hbel
    by_cases hlt : k < l.length
    · obtain ⟨b, off, rfl, hbl, hc⟩ := HS.out.resolve_left (fun h => by rw [h] at hlt; simp at hlt)
      have g1 := (hbel.cell (p := ⟨b, off + k, none⟩) hbl).trans (hc k hlt)
      have f1 := hown.frozenAt k
      have hex : ∃ u, wr.cell? ⟨w.heap.size, k, none⟩ = some u := by
        rw [hown.cellAt k (by omega)]
        have hlen : k < (sCells (l.take k) ++ xs.drop k).length := by rw [List.length_append, sCells_len, List.length_take, List.length_drop]; omega
        exact ⟨_, List.getElem?_eq_getElem hlen⟩
      obtain ⟨u, q1⟩ := hex
      have HSet := hidd (sSet l k xs hxl hlt)
      generalize bs (l.getD k []) = t at *
      clear hown hbel hc
      go_wp2
      go_roundw
      case rel =>
        have st := (HO.out.stored k (.string t)).1
        rw [HSet.out] at st
        exact ⟨k + 1, by omega, by go_num, st, HB.out.setCell (p := ⟨w.heap.size, k, none⟩) (Nat.le_refl _) _⟩
      case measure => simp [intOf]; omega
    · have HF := HO.out
      rw [List.take_of_length_le (by omega), List.drop_of_length_le (by omega), List.append_nil] at HF
      have HF2 := hidd HF
      clear HF hown hbel
      go_wp2
      go_ret
      exact ⟨rfl, HF2.out, HB.out⟩
set_option maxHeartbeats 2000000 in
theorem toSyn_any (f t : ByteArray) (w : World) :
    Calls Tryz.prog 160 #[.agg #[.string f, .string t]] w fun e w' => e = .returned (.agg #[.string f, .string t]) ∧ Below w.heap.size w w' := by
  go_enter Tryz.func160, Tryz.ntmps160
  go_wp2
  go_returns
  refine ⟨rfl, ?_⟩
  repeat (first | exact Below.refl _ _ | refine Below.alloc ?_ (by simp; try omega) _ | refine Below.setCell ?_ (by simp; try omega) _)
set_option maxHeartbeats 2000000 in
theorem eqSyn_any (f t : ByteArray) (w : World) :
    Calls Tryz.prog 162 #[.agg #[.string f, .string t], .agg #[.string f, .string t]] w fun e w' => e = .returned (.bool true) ∧ Below w.heap.size w w' := by
  go_enter Tryz.func162, Tryz.ntmps162
  go_wp2
  go_ret
  refine ⟨rfl, ?_⟩
  repeat (first | exact Below.refl _ _ | refine Below.alloc ?_ (by simp; try omega) _)
set_option maxHeartbeats 4000000 in
theorem toSyns_any (a : Option Addr) (cap : Nat) (l : List (List UInt8 × List UInt8)) (w : World) (hn : l.length ≤ 1048576) (hS : HoldY w a l) :
    Calls Tryz.prog 135 #[.slice a l.length cap] w fun e w' => e = .returned (.slice (some ⟨w.heap.size, 0, none⟩) l.length l.length) ∧
      w'.ownsRow w.heap.size 156 2 (.slice (some ⟨w.heap.size, 0, none⟩) l.length l.length) l.length (yCells l) ∧ Below w.heap.size w w' := by
  obtain ⟨i0, hi, hz0, hz1, hz2⟩ := info_parts Tryz.infoSyn
  have HS := hidd hS
  clear hS
  go_enter Tryz.func135, Tryz.ntmps135
  go_wp2_with (at_make; refine wpList_make_full _ rfl _ _ 75 rfl w.heap.size 156 i0 (.agg #[.string ⟨#[]⟩, .string ⟨#[]⟩]) 2 Tryz.underlying75 hi hz0 hz1 _ _ _ _ l.length rfl rfl (by omega) (by omega) ?b2 ?b3 (Nat.le_refl _) ?_)
  case b2 => (first | omega | (rw [hz2]; omega))
  case b3 => unfold maxLen; omega
  intro w0 hown0 hgrow0
  generalize (madeCells #[.string ⟨#[]⟩, .string ⟨#[]⟩] (l.length * 2)).toList = xs at hown0
  have hxl : xs.length = l.length * 2 := by have := hown0.1; omega
  have HO0 := hidd hown0
  have HB0 : Hid (Below w.heap.size w w0) := (Below.refl _ _).grown hgrow0 (Nat.le_refl _) (fun k h => by cases h)
  clear hown0 hgrow0
  go_wp2
  go_loopw [4] (fun i wr => ∃ k : Nat, k ≤ l.length ∧ i = .int .i64 k ∧ wr.ownsRow w.heap.size 156 2 (.slice (some ⟨w.heap.size, 0, none⟩) l.length l.length) l.length (yCells (l.take k) ++ xs.drop (k * 2)) ∧ Below w.heap.size w wr) (fun i _ => l.length - (intOf i).toNat)
  case atStart => exact ⟨0, Nat.zero_le _, rfl, HO0.out, HB0.out⟩
  case round =>
    obtain ⟨k, hk, rfl, hown, hbel⟩ := hrel
    have HO := hidd hown
    have HB := hidd hbel
    by_cases hlt : k < l.length
    · obtain ⟨b, off, rfl, hbl, hc⟩ := HS.out.resolve_left (fun h => by rw [h] at hlt; simp at hlt)
      have g1 := (hbel.cell (p := ⟨b, off + k * 2, none⟩) hbl).trans (hc k hlt).1
      have g2 := (hbel.cell (p := ⟨b, off + k * 2 + 1, none⟩) hbl).trans (hc k hlt).2
      have HSet := hidd (ySet l k xs hxl hlt)
      generalize bs (l.getD k ([], [])).1 = f at *
      generalize bs (l.getD k ([], [])).2 = t at *
      clear hown hbel hc
      go_wp2_with fail
      refine (toSyn_any f t _).mono ?_
      rintro e w2 ⟨rfl, hb2⟩
      have hown2 := own2_below HO.out hb2
      have HB2 := hidd (HB.out.trans (hb2.mono HB.out.size))
      have f1 := hown2.frozenAt (k * 2)
      have f2 := hown2.frozenAt (k * 2 + 1)
      have hlen : (yCells (l.take k) ++ xs.drop (k * 2)).length = l.length * 2 := by rw [List.length_append, yCells_len, List.length_take, List.length_drop]; omega
      have hex : ∀ j, j < l.length * 2 → ∃ u, w2.cell? ⟨w.heap.size, j, none⟩ = some u := fun j hj => by
        rw [hown2.cellAt j hj]
        exact ⟨_, List.getElem?_eq_getElem (by omega)⟩
      obtain ⟨u1, q1⟩ := hex (k * 2) (by omega)
      obtain ⟨u2, q2⟩ := hex (k * 2 + 1) (by omega)
      have HO2 := hidd hown2
      clear hown2 hb2 hex hlen HO HB g1 g2
      go_wp2
      go_roundw
      case rel =>
        have s0 := HO2.out.stored (k * 2) (.string f)
        have s1 := s0.1.stored (k * 2 + 1) (.string t)
        have st := s1.1
        rw [HSet.out] at st
        exact ⟨k + 1, by omega, by go_num, st, (HB2.out.setCell (p := ⟨w.heap.size, k * 2, none⟩) (Nat.le_refl _) _).setCell (p := ⟨w.heap.size, k * 2 + 1, none⟩) (Nat.le_refl _) _⟩
      case measure => simp [intOf]; omega
    · have HF := HO.out
      rw [List.take_of_length_le (by omega), List.drop_of_length_le (by omega), List.append_nil] at HF
      have HF2 := hidd HF
      clear HF hown hbel
      go_wp2
      go_ret
      exact ⟨rfl, HF2.out, HB.out⟩
set_option maxHeartbeats 4000000 in
theorem eqSyns_any (b1 c1 b2 c2 : Nat) (l : List (List UInt8 × List UInt8)) (w : World) (hn : l.length ≤ 1048576) (hY1 : HoldY w (some ⟨b1, 0, none⟩) l) (hY2 : HoldY w (some ⟨b2, 0, none⟩) l) :
    Calls Tryz.prog 140 #[.slice (some ⟨b1, 0, none⟩) l.length c1, .slice (some ⟨b2, 0, none⟩) l.length c2] w fun e w' => e = .returned (.bool true) ∧ Below w.heap.size w w' := by
  have H1 := hidd hY1
  have H2 := hidd hY2
  clear hY1 hY2
  go_enter Tryz.func140, Tryz.ntmps140
  go_wp2
  go_loopw [5] (fun i wr => ∃ k : Nat, k ≤ l.length ∧ i = .int .i64 k ∧ Below w.heap.size w wr) (fun i _ => l.length - (intOf i).toNat)
  case atStart => exact ⟨0, Nat.zero_le _, rfl, Below.refl _ _⟩
  case round =>
    obtain ⟨k, hk, rfl, hbel⟩ := hrel
    by_cases hlt : k < l.length
    · obtain ⟨x1, o1, e1, hb1, hc1⟩ := H1.out.resolve_left (fun h => by rw [h] at hlt; simp at hlt)
      obtain ⟨x2, o2, e2, hb2, hc2⟩ := H2.out.resolve_left (fun h => by rw [h] at hlt; simp at hlt)
      simp only [Option.some.injEq, Addr.mk.injEq, and_true] at e1 e2
      obtain ⟨rfl, rfl⟩ := e1
      obtain ⟨rfl, rfl⟩ := e2
      have g1 := (hbel.cell (p := ⟨b1, 0 + k * 2, none⟩) hb1).trans (hc1 k hlt).1
      have g2 := (hbel.cell (p := ⟨b1, 0 + k * 2 + 1, none⟩) hb1).trans (hc1 k hlt).2
      have g3 := (hbel.cell (p := ⟨b2, 0 + k * 2, none⟩) hb2).trans (hc2 k hlt).1
      have g4 := (hbel.cell (p := ⟨b2, 0 + k * 2 + 1, none⟩) hb2).trans (hc2 k hlt).2
      rw [Nat.zero_add] at g1 g2 g3 g4
      generalize bs (l.getD k ([], [])).1 = f at *
      generalize bs (l.getD k ([], [])).2 = t at *
      have hz := hbel.size
      have HB := hidd hbel
      have HE := hidd (fun wx => eqSyn_any f t wx)
      clear hc1 hc2 hbel
      go_wp2_with fail
      go_region_with (go_at_call 162; refine (HE.out _).mono ?_; rintro e' w2 ⟨rfl, hb2⟩)
      all_goals
        have HB3 : Hid (Below w.heap.size w w2) := by first | exact HB.out.trans (hb2.mono hz) | exact HB.out.drew.trans (hb2.mono hz) | exact HB.out.drew.drew.trans (hb2.mono hz)
        clear hb2 g1 g2 g3 g4
        go_wp2
        go_roundw
        case rel => exact ⟨k + 1, by omega, by go_num, HB3.out⟩
        case measure => simp [intOf]; omega
    · go_wp2
      go_ret
      exact ⟨rfl, hbel⟩
end Go.Proofs.YtgoklapafidpkaaGreatDoor
