import Derived.Test.YtefhmbnhhkgifaaDoorReadLogJ04
import Derived.Test.YtefhmbnhhkgifaaDoorReadLogJ09
import Derived.Deep.RegionLaw
import Derived.Deep.AppendLies
import Derived.Deep.DeepCutAuto
import Derived.Test.YtefhmbnhhkgifaaDoorReadLogJ02
namespace Go.Proofs.YtefhmbnhhkgifaaDoor
open Go Go.RowKit
set_option linter.unusedVariables false
set_option maxRecDepth 100000

/-- Where value i of a row of values keeps a list. -/
def LiesV (xs : List Value) (i b : Nat) : Prop := ∃ v, (xs[i * 3 + 1]? = some v ∨ xs[i * 3 + 2]? = some v) ∧ v.ownBlock = some b
/-- One value by its three cells, its lists of their own from lo on. -/
def ValO (w : World) (lo : Nat) (xs : List Value) (j : Nat) (v : Vl) : Prop := ∃ vt vn, xs[j * 3]? = some (mkS v.1) ∧ xs[j * 3 + 1]? = some vt ∧ xs[j * 3 + 2]? = some vn ∧
  w.ownsRow lo 9 1 vt v.2.1.length (v.2.1.map mkS) ∧ w.ownsRow lo 3 1 vn v.2.2.length (v.2.2.map mkI)
/-- The values of an answer: all that they keep lies from lo on, ahead of hi, and no two lists in one place. -/
structure AnsV (w : World) (lo hi : Nat) (va : Value) (V : List Vl) (xs : List Value) : Prop where
  row : w.ownsRow lo 64 3 va V.length xs
  top : ∀ b, va.ownBlock = some b → b < hi
  val : ∀ j, j < V.length → ValO w lo xs j (V.getD j vl0)
  lie : ∀ j b, j < V.length → LiesV xs j b → lo ≤ b ∧ b < hi
  dis : ∀ i j b, i < j → j < V.length → LiesV xs i b → ¬ LiesV xs j b
theorem own_keep {w w' : World} {base e sz n : Nat} {v : Value} {xs : List Value} (h : w.ownsRow base e sz v n xs) (hk : ∀ b, v.ownBlock = some b → w'.heap[b]? = w.heap[b]?) : w'.ownsRow base e sz v n xs := own_congr h hk
theorem AnsV.keep {w w' : World} {lo hi : Nat} {va : Value} {V : List Vl} {xs : List Value} (h : AnsV w lo hi va V xs) (hk : ∀ b, lo ≤ b → b < hi → w'.heap[b]? = w.heap[b]?) : AnsV w' lo hi va V xs := by
  refine ⟨own_keep h.row fun b hb => hk b (h.row.lt b hb).1 (h.top b hb), h.top, fun j hj => ?_, h.lie, h.dis⟩
  obtain ⟨vt, vn, h0, h1, h2, h3, h4⟩ := h.val j hj
  refine ⟨vt, vn, h0, h1, h2, own_keep h3 fun b hb => ?_, own_keep h4 fun b hb => ?_⟩
  · have := h.lie j b hj ⟨vt, Or.inl h1, hb⟩; exact hk b this.1 this.2
  · have := h.lie j b hj ⟨vn, Or.inr h2, hb⟩; exact hk b this.1 this.2
theorem AnsV.mono {w : World} {lo hi hi' : Nat} {va : Value} {V : List Vl} {xs : List Value} (h : AnsV w lo hi va V xs) (hh : hi ≤ hi') : AnsV w lo hi' va V xs :=
  ⟨h.row, fun b hb => by have := h.top b hb; omega, h.val, fun j b hj hl => by have := h.lie j b hj hl; omega, h.dis⟩
theorem AnsV.nil (w : World) (lo hi : Nat) : AnsV w lo hi (.slice none 0 0) [] [] :=
  ⟨World.ownsRow_nil _ _ _ _, fun b hb => by simp [Value.ownBlock] at hb, fun j hj => absurd hj (by simp), fun j b hj _ => absurd hj (by simp), fun i j b _ hj _ => absurd hj (by simp)⟩
theorem own_tyne {w : World} {base base' e e' sz sz' n n' : Nat} {v v' : Value} {xs xs' : List Value} (h : w.ownsRow base e sz v n xs) (h' : w.ownsRow base' e' sz' v' n' xs') (hne : e ≠ e') : v.ownBlock = none ∨ v.ownBlock ≠ v'.ownBlock := by
  rcases h.2 with ⟨rfl, _⟩ | ⟨g, cap, cur, rfl, _, hg, _⟩
  · exact Or.inl rfl
  · refine Or.inr fun e0 => ?_
    rcases h'.2 with ⟨rfl, _⟩ | ⟨g', cap', cur', rfl, _, hg', _⟩
    · simp [Value.ownBlock] at e0
    · simp only [Value.ownBlock, Option.some.injEq] at e0
      subst e0
      rw [hg] at hg'
      simp only [Option.some.injEq, Obj.cells.injEq] at hg'
      exact hne hg'.2.1
theorem own_monoR {w : World} {base base' e n size : Nat} {v : Value} {xs : List Value} (h : w.ownsRow base e size v n xs) (hb : base' ≤ base) : w.ownsRow base' e size v n xs := by
  refine ⟨h.1, ?_⟩
  rcases h.2 with h' | ⟨g, cap, cur, h1, h2, h3⟩
  · exact Or.inl h'
  · exact Or.inr ⟨g, cap, cur, h1, by omega, h3⟩
/-- A value put behind the others. -/
theorem AnsV.snoc {w w' : World} {lo hi lo2 hi' : Nat} {va va' vt vn : Value} {V : List Vl} {v : Vl} {xs : List Value} (h : AnsV w lo hi va V xs)
    (hl : lo ≤ lo2) (hh : hi ≤ lo2) (hr : w'.ownsRow lo 64 3 va' (V.length + 1) (xs ++ [mkS v.1, vt, vn])) (ht : ∀ b, va'.ownBlock = some b → b < hi')
    (h1 : w'.ownsRow lo2 9 1 vt v.2.1.length (v.2.1.map mkS)) (h2 : w'.ownsRow lo2 3 1 vn v.2.2.length (v.2.2.map mkI)) (hb : ∀ b, vt.ownBlock = some b ∨ vn.ownBlock = some b → b < hi') (hhi : hi ≤ hi')
    (hk : ∀ b j, j < V.length → LiesV xs j b → w'.heap[b]? = w.heap[b]?) : AnsV w' lo hi' va' (V ++ [v]) (xs ++ [mkS v.1, vt, vn]) := by
  have hxl := h.row.1
  have old : ∀ i j, i < V.length → j < 3 → (xs ++ [mkS v.1, vt, vn])[i * 3 + j]? = xs[i * 3 + j]? := fun i j hi hj => List.getElem?_append_left (by omega)
  have new : ∀ j, j < 3 → (xs ++ [mkS v.1, vt, vn])[V.length * 3 + j]? = [mkS v.1, vt, vn][j]? := fun j hj => by rw [List.getElem?_append_right (by omega), hxl, Nat.add_sub_cancel_left]
  have oldL : ∀ i b, i < V.length → LiesV (xs ++ [mkS v.1, vt, vn]) i b → LiesV xs i b := fun i b hi ⟨u, hu, hub⟩ => ⟨u, by rw [old i 1 hi (by omega), old i 2 hi (by omega)] at hu; exact hu, hub⟩
  have newL : ∀ b, LiesV (xs ++ [mkS v.1, vt, vn]) V.length b → lo2 ≤ b ∧ b < hi' := fun b ⟨u, hu, hub⟩ => by
    rw [new 1 (by omega), new 2 (by omega)] at hu
    simp only [List.getElem?_cons_succ, List.getElem?_cons_zero, Option.some.injEq] at hu
    rcases hu with rfl | rfl
    · exact ⟨(h1.lt b hub).1, hb b (Or.inl hub)⟩
    · exact ⟨(h2.lt b hub).1, hb b (Or.inr hub)⟩
  refine ⟨by rw [List.length_append]; exact hr, ht, fun j hj => ?_, fun j b hj hlie => ?_, fun i j b hij hj hi1 hj1 => ?_⟩
  · rw [List.length_append] at hj
    by_cases e : j = V.length
    · subst e
      have g : (V ++ [v]).getD V.length vl0 = v := by simp
      rw [g]
      have n0 := new 0 (by omega)
      exact ⟨vt, vn, n0, new 1 (by omega), new 2 (by omega), own_monoR h1 hl, own_monoR h2 hl⟩
    · have hj' : j < V.length := by simp at hj; omega
      have g : (V ++ [v]).getD j vl0 = V.getD j vl0 := by simp [List.getD_eq_getElem?_getD, List.getElem?_append_left hj']
      rw [g]
      obtain ⟨ut, un, q0, q1, q2, q3, q4⟩ := h.val j hj'
      have o0 := old j 0 hj' (by omega)
      exact ⟨ut, un, o0.trans q0, (old j 1 hj' (by omega)).trans q1, (old j 2 hj' (by omega)).trans q2, own_keep q3 fun b hb' => hk b j hj' ⟨ut, Or.inl q1, hb'⟩, own_keep q4 fun b hb' => hk b j hj' ⟨un, Or.inr q2, hb'⟩⟩
  · rw [List.length_append] at hj
    by_cases e : j = V.length
    · subst e
      have := newL b hlie; omega
    · have hj' : j < V.length := by simp at hj; omega
      have := h.lie j b hj' (oldL j b hj' hlie); omega
  · rw [List.length_append] at hj
    by_cases e : j = V.length
    · subst e
      have a := newL b hj1
      have c := h.lie i b (by omega) (oldL i b (by omega) hi1)
      omega
    · have hj' : j < V.length := by simp at hj; omega
      exact h.dis i j b hij hj' (oldL i b (by omega) hi1) (oldL j b hj' hj1)
end Go.Proofs.YtefhmbnhhkgifaaDoor

namespace Go.Proofs.YtefhmbnhhkgifaaDoor
open Go Go.RowKit
set_option linter.unusedVariables false
set_option maxHeartbeats 1000000 in
/-- spec's l03Get at a place: what stands there. -/
theorem specGet_any (b off cap k : Nat) (bs : List UInt8) (w : World) (hl : bs.length ≤ 1048576) (hk : k ≤ bs.length) (hc : BytesAt w b off bs) :
    Calls Tryd.prog 18 #[.slice (some ⟨b, off, none⟩) bs.length cap, .int .i64 (k : Int)] w fun e w' => (∃ m, w' = w.drewN m) ∧
      ((getL (bs.drop k) = none ∧ ∃ x y : Int, e = .returned (.tuple #[.int .i64 x, .int .i64 y, .bool false])) ∨ ∃ v s, getL (bs.drop k) = some (v, s) ∧ e = .returned (.tuple #[.int .i64 (v : Int), .int .i64 ((k : Int) + (s : Int)), .bool true])) := by
  have Hc := hidd hc
  clear hc
  go_enter Tryd.func18, Tryd.ntmps18
  go_wp2
  go_loop [7, 8, 9] (fun vv uu nn => ∃ j y U : Nat, j ≤ 8 ∧ k + j ≤ bs.length ∧ nn = .int .i64 j ∧ vv = .int .i64 (y : Int) ∧ uu = .int .i64 (U : Int) ∧ U = 128 ^ j ∧ y < 128 ^ j ∧ getL (bs.drop k) = getGo (bs.drop (k + j)) j y) (fun _ _ nn => 9 - (intOf nn).toNat)
  case atStart => exact ⟨0, 0, 1, by omega, by omega, rfl, rfl, rfl, rfl, by omega, rfl⟩
  case round =>
    obtain ⟨j, y, U, hj, hkj, rfl, rfl, rfl, hU, hy, hget⟩ := hrel
    have hU8 : U ≤ 72057594037927936 := by rw [hU]; have := Nat.pow_le_pow_right (n := 128) (by omega) hj; omega
    have hyU : y < U := by omega
    have HG := hidd hget
    have HU := hidd hU
    clear hget hU hy
    have hj9 : (j : Int) < 9 := by omega
    by_cases hlt : k + j < bs.length
    · have hlz : (k : Int) + (j : Int) < (bs.length : Int) := by omega
      have g1 := Hc.out (k + j) hlt
      have hc256 : (bs.getD (k + j) 0).toNat < 256 := UInt8.toNat_lt _
      have Hd : Hid (bs.drop (k + j) = bs.getD (k + j) 0 :: bs.drop (k + j + 1)) := by show _ = _; rw [List.drop_eq_getElem_cons hlt]; simp [hlt]
      generalize hcc : bs.getD (k + j) 0 = cb at *
      clear hcc
      obtain ⟨T, hT⟩ : ∃ T : Nat, T = cb.toNat % 128 * U := ⟨_, rfl⟩
      have hTle : T ≤ 127 * U := by rw [hT]; exact Nat.mul_le_mul_right _ (by omega)
      have hTz : (cb.toNat : Int) % 128 * (U : Int) = (T : Int) := by rw [hT]; simp
      have HT := hidd hT
      clear hT
      by_cases h8 : j = 8 ∧ 63 < cb.toNat
      · obtain ⟨h8, h63⟩ := h8
        have hb8 : ((j : Int) == 8) = true := by simp; omega
        have h63z : (63 : Int) < (cb.toNat : Int) := by omega
        have HN : Hid (getL (bs.drop k) = none) := by show _ = _; rw [HG.out, Hd.out, getGo, if_pos (Or.inr ⟨h8, h63⟩)]
        clear h8
        go_wp2
        go_ret3
        exact ⟨⟨0, rfl⟩, Or.inl ⟨HN.out, _, _, rfl⟩⟩
      · have HS : Hid (cb.toNat < 128 → (j = 0 ∨ 0 < cb.toNat) → getL (bs.drop k) = some (y + T, j + 1)) := by
          intro h1 h2
          rw [HG.out, Hd.out, getGo, if_neg (by omega), if_pos h1, if_pos h2, HT.out, HU.out]
        have HN : Hid (cb.toNat < 128 → ¬ (j = 0 ∨ 0 < cb.toNat) → getL (bs.drop k) = none) := by
          intro h1 h2
          rw [HG.out, Hd.out, getGo, if_neg (by omega), if_pos h1, if_neg h2]
        have HX : Hid (¬ cb.toNat < 128 → getL (bs.drop k) = getGo (bs.drop (k + (j + 1))) (j + 1) (y + T)) := by
          intro h1
          rw [HG.out, Hd.out, getGo, if_neg (by omega), if_neg h1, HT.out, HU.out, Nat.add_assoc]
        have Hn8 : Hid (¬ (j = 8 ∧ 63 < cb.toNat)) := h8
        clear h8 Hd HG
        by_cases hj8 : j = 8
        · have h63 : cb.toNat ≤ 63 := by have := Hn8.out; omega
          have hb8 : ((j : Int) == 8) = true := by simp; omega
          have hcz : ¬ (63 : Int) < (cb.toNat : Int) := by omega
          have hc128 : (cb.toNat : Int) < 128 := by omega
          have hb0 : ((j : Int) == 0) = false := by simp; omega
          have hTle' : T ≤ 63 * U := by rw [HT.out]; exact Nat.mul_le_mul_right _ (by omega)
          by_cases hc0 : 0 < cb.toNat
          · have hc0z : (0 : Int) < (cb.toNat : Int) := by omega
            have HE := hidd (HS.out (by omega) (Or.inr hc0))
            clear hj8
            go_wp2
            go_ret3
            refine ⟨⟨0, rfl⟩, Or.inr ⟨y + T, _, HE.out, ?_⟩⟩
            congr 3
            try (simp; try omega)
          · have hc0z : ¬ (0 : Int) < (cb.toNat : Int) := by omega
            have HE := hidd (HN.out (by omega) (by omega))
            clear hj8
            go_wp2
            go_ret3
            exact ⟨⟨0, rfl⟩, Or.inl ⟨HE.out, _, _, rfl⟩⟩
        · have hb8 : ((j : Int) == 8) = false := by simp; omega
          by_cases hc128 : cb.toNat < 128
          · have hc128z : (cb.toNat : Int) < 128 := by omega
            by_cases hj0 : j = 0
            · have HE := hidd (HS.out hc128 (Or.inl hj0))
              have hb0 : ((j : Int) == 0) = true := by simp; omega
              clear hj0
              go_wp2
              go_ret3
              refine ⟨⟨0, rfl⟩, Or.inr ⟨y + T, _, HE.out, ?_⟩⟩
              congr 3
              try (simp; try omega)
            · have hb0 : ((j : Int) == 0) = false := by simp; omega
              by_cases hc0 : 0 < cb.toNat
              · have hc0z : (0 : Int) < (cb.toNat : Int) := by omega
                have HE := hidd (HS.out (by omega) (Or.inr hc0))
                go_wp2
                go_ret3
                refine ⟨⟨0, rfl⟩, Or.inr ⟨y + T, _, HE.out, ?_⟩⟩
                congr 3
                try (simp; try omega)
              · have hc0z : ¬ (0 : Int) < (cb.toNat : Int) := by omega
                have HE := hidd (HN.out (by omega) (by omega))
                go_wp2
                go_ret3
                exact ⟨⟨0, rfl⟩, Or.inl ⟨HE.out, _, _, rfl⟩⟩
          · have hc128z : ¬ (cb.toNat : Int) < 128 := by omega
            have hjlt : (j : Int) < 8 := by omega
            have hU7 : U ≤ 562949953421312 := by rw [HU.out]; have := Nat.pow_le_pow_right (n := 128) (i := j) (j := 7) (by omega) (by omega); omega
            have HE := hidd (HX.out hc128)
            go_wp2
            go_round
            case rel =>
              refine ⟨j + 1, y + T, U * 128, by omega, by omega, by go_num, by go_num, by go_num, by rw [HU.out, Nat.pow_succ], ?_, HE.out⟩
              rw [Nat.pow_succ, ← HU.out]; omega
            case measure => simp [intOf]; omega
    · have hlz : ¬ (k : Int) + (j : Int) < (bs.length : Int) := by omega
      have HN : Hid (getL (bs.drop k) = none) := by show _ = _; rw [HG.out, List.drop_of_length_le (by omega)]; rfl
      go_wp2
      go_ret3
      exact ⟨⟨0, rfl⟩, Or.inl ⟨HN.out, _, _, rfl⟩⟩
end Go.Proofs.YtefhmbnhhkgifaaDoor
