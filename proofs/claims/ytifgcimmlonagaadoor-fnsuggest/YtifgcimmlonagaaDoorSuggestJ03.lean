import Derived.Lib.Strings
import Derived.Test.YtifgcimmlonagaaDoorSuggestJ00
import Derived.Test.YtifgcimmlonagaaDoorSuggestJ02
import Derived.Deep.RegionHeld3
import Derived.Deep.AppendLies
import Derived.Deep.RegionLaw
import Derived.Deep.DeepCutAuto
import Derived.Test.YtifgcimmlonagaaDoorProg
import Derived.OrdersHeld
import Derived.WalkKit
import Derived.ProofKit
namespace Go.Proofs.YtifgcimmlonagaaDoor
open Go

def bs (l : List UInt8) : ByteArray := ⟨l.toArray⟩
def lst (s : ByteArray) : List UInt8 := s.data.toList
theorem lst_bs (l : List UInt8) : lst (bs l) = l := by simp [bs, lst]
theorem lst_len (s : ByteArray) : (lst s).length = s.size := (Lib.size_eq s).symm
theorem bs_size (l : List UInt8) : (bs l).size = l.length := by rw [← lst_len, lst_bs]
def vow (c : UInt8) : Bool := c == 97 || c == 101 || c == 105 || c == 111 || c == 117 || c == 121
def ends (l e : List UInt8) : Bool := Lib.hasSuffix l e
def lastB (l : List UInt8) (n : Nat) : UInt8 := l.getD (l.length - n) 0
def alike (l : List UInt8) : Bool := decide (2 ≤ l.length) && lastB l 1 == lastB l 2 && !vow (lastB l 1) && lastB l 1 != 108 && lastB l 1 != 115 && lastB l 1 != 122
end Go.Proofs.YtifgcimmlonagaaDoor

namespace Go.Proofs.YtifgcimmlonagaaDoor
open Go Go.RowKit
set_option linter.unusedVariables false
set_option maxRecDepth 100000

/-! Comparing. -/
def cmpI (x y : Int) : Int := if x < y then -1 else if y < x then 1 else 0
def cmpT (x y : Tx) : Int := if ltT x y = true then -1 else if ltT y x = true then 1 else 0
theorem less_lt : ∀ (x y : Tx), Op.bytesLess x y = ltT x y
  | [], [] => rfl
  | _ :: _, [] => rfl
  | [], _ :: _ => rfl
  | a :: x, b :: y => by
    rw [Op.bytesLess, ltT, less_lt x y]
    rfl
theorem bs_tl (x : List UInt8) : (bs x).toList = x := by rw [Lib.toList_data]; exact lst_bs x
theorem isNaN_any (x : Int) (w : World) : Calls Tryd.prog 68 #[.int .i64 x] w fun e w' => e = .returned (.bool false) ∧ w' = w := by
  have hx : (x != x) = false := by simp
  go_enter Tryd.func68, Tryd.ntmps68
  go_wp2
  go_ret
  exact ⟨rfl, rfl⟩
theorem isNaNs_any (x : ByteArray) (w : World) : Calls Tryd.prog 69 #[.string x] w fun e w' => e = .returned (.bool false) ∧ w' = w := by
  go_enter Tryd.func69, Tryd.ntmps69
  go_wp2
  go_ret
  simp
set_option maxHeartbeats 1000000 in
theorem compare_any (x y : Int) (w : World) : Calls Tryd.prog 54 #[.int .i64 x, .int .i64 y] w fun e w' => e = .returned (.int .i64 (cmpI x y)) ∧ w' = w := by
  go_enter Tryd.func54, Tryd.ntmps54
  by_cases h1 : x < y
  · have hc : cmpI x y = -1 := by rw [cmpI, if_pos h1]
    have HC := hidd hc
    clear hc
    go_wp2_with (go_at_call 68; refine (isNaN_any _ _).mono ?_; rintro e w' ⟨rfl, rfl⟩)
    go_ret
    exact ⟨by rw [HC.out]; rfl, rfl⟩
  · by_cases h2 : y < x
    · have hc : cmpI x y = 1 := by rw [cmpI, if_neg h1, if_pos h2]
      have HC := hidd hc
      have h3 : x > y := h2
      clear hc h2
      go_wp2_with (go_at_call 68; refine (isNaN_any _ _).mono ?_; rintro e w' ⟨rfl, rfl⟩)
      go_ret
      exact ⟨by rw [HC.out]; rfl, rfl⟩
    · have hc : cmpI x y = 0 := by rw [cmpI, if_neg h1, if_neg h2]
      have HC := hidd hc
      have h3 : ¬ x > y := h2
      clear hc h2
      go_wp2_with (go_at_call 68; refine (isNaN_any _ _).mono ?_; rintro e w' ⟨rfl, rfl⟩)
      go_ret
      exact ⟨by rw [HC.out]; rfl, rfl⟩
theorem binOp_string_gtr (t : TypeId) (a b : ByteArray) : binOp .gtr t (.string a) (.string b) = pure (.bool !(Op.bytesLess a.toList b.toList || a.toList == b.toList)) := by simp [binOp, Op.stringOp]
theorem gtr_lt (x y : Tx) : (!(Op.bytesLess x y || x == y)) = ltT y x := by
  rw [less_lt]
  cases e1 : ltT x y with
  | true => rw [ltT_asym x y e1]; rfl
  | false =>
    cases e2 : ltT y x with
    | true =>
      have hne : ¬ x = y := fun e => by rw [e, ltT_irr] at e2; cases e2
      simp [hne]
    | false => rw [ltT_tri x y e1 e2]; simp
set_option maxHeartbeats 1000000 in
theorem compareS_any (x y : Tx) (w : World) : Calls Tryd.prog 55 #[.string (bs x), .string (bs y)] w fun e w' => e = .returned (.int .i64 (cmpT x y)) ∧ w' = w := by
  have k1 : Op.bytesLess (bs x).toList (bs y).toList = ltT x y := by rw [bs_tl, bs_tl, less_lt]
  have k2 : ∀ t, binOp .gtr t (.string (bs x)) (.string (bs y)) = pure (.bool (ltT y x)) := by
    intro t
    rw [binOp_string_gtr, bs_tl, bs_tl, gtr_lt]
  generalize bs x = X at *
  generalize bs y = Y at *
  go_enter Tryd.func55, Tryd.ntmps55
  cases h1 : ltT x y with
  | true =>
    rw [h1] at k1
    have HC : Hid (cmpT x y = -1) := by show _ = _; rw [cmpT, if_pos h1]
    clear h1
    go_wp2_with (go_at_call 69; refine (isNaNs_any _ _).mono ?_; rintro e w' ⟨rfl, rfl⟩)
    go_ret
    exact ⟨by rw [HC.out]; rfl, rfl⟩
  | false =>
    rw [h1] at k1
    cases h2 : ltT y x with
    | true =>
      rw [h2] at k2
      have HC : Hid (cmpT x y = 1) := by show _ = _; rw [cmpT, if_neg (by simp [h1]), if_pos h2]
      clear h1 h2
      go_wp2_with (go_at_call 69; refine (isNaNs_any _ _).mono ?_; rintro e w' ⟨rfl, rfl⟩)
      go_ret
      exact ⟨by rw [HC.out]; rfl, rfl⟩
    | false =>
      rw [h2] at k2
      have HC : Hid (cmpT x y = 0) := by show _ = _; rw [cmpT, if_neg (by simp [h1]), if_neg (by simp [h2])]
      clear h1 h2
      go_wp2_with (go_at_call 69; refine (isNaNs_any _ _).mono ?_; rintro e w' ⟨rfl, rfl⟩)
      go_ret
      exact ⟨by rw [HC.out]; rfl, rfl⟩
set_option maxHeartbeats 1000000 in
theorem or_any (x y : Int) (g c : Nat) (w : World) (c0 : w.cell? ⟨g, 0, none⟩ = some (.int .i64 x)) (c1 : w.cell? ⟨g, 1, none⟩ = some (.int .i64 y)) (R : Int) (HR : Hid ((if x ≠ 0 then x else y) = R)) :
    Calls Tryd.prog 53 #[.slice (some ⟨g, 0, none⟩) 2 c] w fun e w' => e = .returned (.int .i64 R) ∧ w' = w := by
  go_enter Tryd.func53, Tryd.ntmps53
  go_wp2
  go_loopw [8] (fun iv wr => ∃ i : Nat, i ≤ 2 ∧ iv = .int .i64 (i : Int) ∧ (0 < i → x = 0) ∧ (1 < i → y = 0) ∧ wr = w) (fun iv _ => 2 - (intOf iv).toNat)
  case atStart => exact ⟨0, by omega, rfl, fun h => by omega, fun h => by omega, rfl⟩
  case round =>
    obtain ⟨i, hi, rfl, h0, h1, hww⟩ := hrel
    obtain rfl := hww.symm
    rcases (show i = 0 ∨ i = 1 ∨ i = 2 by omega) with rfl | rfl | rfl
    · by_cases hx : x = 0
      · have hb : (x != 0) = false := by simp [hx]
        have HX := hidd hx
        clear h0 h1 hx
        go_wp2
        go_roundw
        case rel => exact ⟨1, by omega, rfl, fun _ => HX.out, fun h => by omega, by first | trivial | rfl⟩
        case measure => simp [intOf]
      · have hb : (x != 0) = true := by simp [hx]
        have HE : Hid (x = R) := by show _ = _; rw [← HR.out, if_pos hx]
        clear h0 h1 HR
        go_wp2
        go_ret
        exact ⟨by rw [← HE.out]; rfl, rfl⟩
    · have HX := hidd (h0 (by omega))
      by_cases hy : y = 0
      · have hb : (y != 0) = false := by simp [hy]
        have HY := hidd hy
        clear h0 h1 hy
        go_wp2
        go_roundw
        case rel => exact ⟨2, by omega, rfl, fun _ => HX.out, fun _ => HY.out, by first | trivial | rfl⟩
        case measure => simp [intOf]
      · have hb : (y != 0) = true := by simp [hy]
        have HE : Hid (y = R) := by show _ = _; rw [← HR.out, if_neg (by simp [HX.out])]
        clear h0 h1 HR
        go_wp2
        go_ret
        exact ⟨by rw [← HE.out]; rfl, rfl⟩
    · have HE : Hid (0 = R) := by show _ = _; rw [← HR.out, if_neg (by simp [h0]), h1 (by omega)]
      clear h0 h1 HR
      go_wp2
      go_ret
      exact ⟨by rw [← HE.out]; rfl, rfl⟩
theorem cmp_gt (a b : NW) : decide ((if cmpI (a.1 : Int) (b.1 : Int) ≠ 0 then cmpI (a.1 : Int) (b.1 : Int) else cmpT a.2 b.2) > 0) = gtW a b := by
  cases e : gtW a b with
  | true =>
    rw [decide_eq_true_eq]
    rcases (gtW_iff a b).1 e with h | ⟨h, h'⟩
    · have : cmpI (a.1 : Int) (b.1 : Int) = 1 := by rw [cmpI, if_neg (by omega), if_pos (by omega)]
      rw [this, if_pos (by decide)]; decide
    · have h1 : cmpI (a.1 : Int) (b.1 : Int) = 0 := by rw [cmpI, if_neg (by omega), if_neg (by omega)]
      rw [h1, if_neg (by simp), cmpT, if_neg (by rw [ltT_asym _ _ h']; simp), if_pos h']; decide
  | false =>
    rw [decide_eq_false_iff_not]
    rw [gtW_false] at e
    by_cases h : a.1 = b.1
    · have h1 : cmpI (a.1 : Int) (b.1 : Int) = 0 := by rw [cmpI, if_neg (by omega), if_neg (by omega)]
      rw [h1, if_neg (by simp), cmpT]
      split
      · decide
      · rw [if_neg (by rw [e.2 h]; simp)]; decide
    · have : cmpI (a.1 : Int) (b.1 : Int) = -1 := by rw [cmpI, if_pos (by omega)]
      rw [this, if_pos (by decide)]; decide
set_option maxHeartbeats 4000000 in
theorem cmpW_any (a b : NW) (w : World) : Calls Tryd.prog 31 #[.agg #[.int .i64 (a.1 : Int), .string (bs a.2)], .agg #[.int .i64 (b.1 : Int), .string (bs b.2)]] w fun e w' => ∃ z, e = .returned (.int .i64 z) ∧ decide (z > 0) = gtW a b ∧ Below w.heap.size w w' := by
  have HG := hidd (cmp_gt a b)
  have HCi : Hid (∀ W, Calls Tryd.prog 54 #[.int .i64 (a.1 : Int), .int .i64 (b.1 : Int)] W fun e w' => e = .returned (.int .i64 (cmpI (a.1 : Int) (b.1 : Int))) ∧ w' = W) := fun W => compare_any _ _ W
  have HCs : Hid (∀ W, Calls Tryd.prog 55 #[.string (bs a.2), .string (bs b.2)] W fun e w' => e = .returned (.int .i64 (cmpT a.2 b.2)) ∧ w' = W) := fun W => compareS_any _ _ W
  generalize cmpI (a.1 : Int) (b.1 : Int) = x at *
  generalize cmpT a.2 b.2 = y at *
  generalize (a.1 : Int) = a1 at *
  generalize (b.1 : Int) = b1 at *
  generalize bs a.2 = a2 at *
  generalize bs b.2 = b2 at *
  have HB := hidd ((((Below.refl w.heap.size w).alloc (Nat.le_refl _) (.cells #[.int .i64 a1, .string a2] 59))).alloc (by simp) (.cells #[.int .i64 b1, .string b2] 59))
  go_enter Tryd.func31, Tryd.ntmps31
  go_wp2_with fail
  obtain ⟨R, hR⟩ : ∃ R, (if x ≠ 0 then x else y) = R := ⟨_, rfl⟩
  have HR := hidd hR
  rw [hR] at HG
  clear hR
  generalize hW : (w.alloc (Obj.cells #[Value.int IntKind.i64 a1, Value.string a2] 59)).alloc (Obj.cells #[Value.int IntKind.i64 b1, Value.string b2] 59) = W at *
  have hz : W.heap.size = w.heap.size + 1 + 1 := by rw [← hW]; simp
  have hb2 := box_two w (Obj.cells #[Value.int IntKind.i64 a1, Value.string a2] 59) (Obj.cells #[Value.int IntKind.i64 b1, Value.string b2] 59)
  rw [hW] at hb2
  have x0 : W.cell? ⟨w.heap.size, 0, none⟩ = some (.int .i64 a1) := blkc hb2.1 0
  have x1 : W.cell? ⟨w.heap.size, 1, none⟩ = some (.string a2) := blkc hb2.1 1
  have y0 : W.cell? ⟨w.heap.size + 1, 0, none⟩ = some (.int .i64 b1) := blkc hb2.2 0
  have y1 : W.cell? ⟨w.heap.size + 1, 1, none⟩ = some (.string b2) := blkc hb2.2 1
  clear hb2 hW
  generalize hn0 : w.heap.size = n0 at *
  have Hn0 := hidd hn0
  clear hn0
  go_region_held3 (fun W => W.cell? ⟨n0, 0, none⟩ = some (.int .i64 a1) ∧ W.cell? ⟨n0, 1, none⟩ = some (.string a2) ∧ W.cell? ⟨n0 + 1, 0, none⟩ = some (.int .i64 b1) ∧ W.cell? ⟨n0 + 1, 1, none⟩ = some (.string b2))
    (first | exact ⟨x0, x1, y0, y1⟩ | go_keep)
    (first
    | (go_at_call 54; refine (HCi.out _).mono ?_; rintro e w' ⟨rfl, rfl⟩)
    | (go_at_call 55; refine (HCs.out _).mono ?_; rintro e w' ⟨rfl, rfl⟩)
    | (go_at_call 53; refine (or_any x y _ _ _ (by go_simp) (by go_simp) R HR).mono ?_; rintro e w' ⟨rfl, rfl⟩))
  all_goals
    go_wp2
    go_ret
    exact ⟨R, rfl, HG.out, by rw [Hn0.out]; exact (HB.out.alloc (by omega) _).drew⟩
end Go.Proofs.YtifgcimmlonagaaDoor

namespace Go.Proofs.YtifgcimmlonagaaDoor
open Go Go.RowKit
set_option linter.unusedVariables false

section
variable {ops : Array Oper} {Q : Exit → Act → World → Prop} {S : World → Prop} {md : Region.Mode} {fuel : Nat} {listed : Array Bool} {a : Act} {w : World}
/-- An operation that is wanted, taken in a drawn region. -/
theorem tkW (i : Nat) {oi : Oper} {v : Value} (hi : ops[i]? = some oi := by rfl) (hs : Region.noSelect ops = true := by kernel_rfl) (hf : Region.free md ops listed i = true := by kernel_rfl) (hr : (Region.ready md ops listed).contains i = true := by kernel_rfl)
    (hQ : ∀ c a w, Q (.panic c) (a.put oi.dst v) w → Q (.panic c) a w := by exact fun _ _ _ h => h) (hw : Region.wanted oi (yielded ops a.tmps) = true := by kernel_rfl) (hx : ∀ w, S w → (execOp a.eval oi).run Tryd.prog w = .ok (.value v) w)
    (hS : S w := by assumption) (h : wpAnyH Tryd.prog md ops Q S fuel (listed.setIfInBounds i true) (a.put oi.dst v) w) : wpAnyH Tryd.prog md ops Q S (fuel + 1) listed a w :=
  wpAnyH_take hi hs hf hr hQ (Or.inl ⟨hw, hx⟩) hS h
/-- The same, with the value read off. -/
theorem tkX (i : Nat) {oi : Oper} {v : Value} (hi : ops[i]? = some oi := by rfl) (hs : Region.noSelect ops = true := by kernel_rfl) (hf : Region.free md ops listed i = true := by kernel_rfl) (hr : (Region.ready md ops listed).contains i = true := by kernel_rfl)
    (hQ : ∀ c a w, Q (.panic c) (a.put oi.dst v) w → Q (.panic c) a w := by exact fun _ _ _ h => h) (hw : Region.wanted oi (yielded ops a.tmps) = true := by kernel_rfl) (hx : ∀ w, S w → (execOp a.eval oi).run Tryd.prog w = .ok (.value v) w := by (intro w hSw; (try dsimp only at hSw); go_simp <;> with_reducible rfl))
    (hS : S w := by assumption) (h : wpAnyH Tryd.prog md ops Q S fuel (listed.setIfInBounds i true) (a.put oi.dst v) w) : wpAnyH Tryd.prog md ops Q S (fuel + 1) listed a w :=
  wpAnyH_take hi hs hf hr hQ (Or.inl ⟨hw, hx⟩) hS h
/-- One that is not wanted. -/
theorem tkS (i : Nat) {oi : Oper} (hi : ops[i]? = some oi := by rfl) (hs : Region.noSelect ops = true := by kernel_rfl) (hf : Region.free md ops listed i = true := by kernel_rfl) (hr : (Region.ready md ops listed).contains i = true := by kernel_rfl)
    (hQ : ∀ c a w, Q (.panic c) (a.put oi.dst undef) w → Q (.panic c) a w := by exact fun _ _ _ h => h) (hw : Region.wanted oi (yielded ops a.tmps) = false := by kernel_rfl)
    (hS : S w := by assumption) (h : wpAnyH Tryd.prog md ops Q S fuel (listed.setIfInBounds i true) (a.put oi.dst undef) w) : wpAnyH Tryd.prog md ops Q S (fuel + 1) listed a w :=
  wpAnyH_take hi hs hf hr hQ (Or.inr ⟨hw, rfl⟩) hS h
end
end Go.Proofs.YtifgcimmlonagaaDoor

namespace Go.Proofs.YtifgcimmlonagaaDoor
open Go Go.RowKit
set_option linter.unusedVariables false

/-! The operations of a drawn region, one by one. -/
section
variable {ops : Array Oper} {Q : Exit → Act → World → Prop} {S : World → Prop} {md : Region.Mode} {a : Act} {w : World}
theorem wpAnyH_one (i : Nat) {fuel : Nat} {listed : Array Bool} (hr : Region.ready md ops listed = [i])
    (h : wpOp Tryd.prog ops Q i (fun a' w' => S w' ∧ wpAnyH Tryd.prog md ops Q S fuel (listed.setIfInBounds i true) a' w') a w) : wpAnyH Tryd.prog md ops Q S (fuel + 1) listed a w :=
  wpAnyH_all hr (by simp) (fun j hj => by
    have e : j = i := by simpa using hj
    subst e
    exact h)
theorem wpAnyH_two (i j : Nat) {fuel : Nat} {listed : Array Bool} (hr : Region.ready md ops listed = [i, j])
    (h1 : wpOp Tryd.prog ops Q i (fun a' w' => S w' ∧ wpAnyH Tryd.prog md ops Q S fuel (listed.setIfInBounds i true) a' w') a w)
    (h2 : wpOp Tryd.prog ops Q j (fun a' w' => S w' ∧ wpAnyH Tryd.prog md ops Q S fuel (listed.setIfInBounds j true) a' w') a w) : wpAnyH Tryd.prog md ops Q S (fuel + 1) listed a w :=
  wpAnyH_all hr (by simp) (fun k hk => by
    have e : k = i ∨ k = j := by simpa using hk
    rcases e with rfl | rfl
    · exact h1
    · exact h2)
theorem wpOp_val {K : Act → World → Prop} {i : Nat} {o : Oper} (v : Value) (w' : World) (hi : ops[i]? = some o) (hw : Region.wanted o (yielded ops a.tmps) = true) (ho : (execOp a.eval o).run Tryd.prog w = .ok (.value v) w')
    (h : K (a.put o.dst v) w') : wpOp Tryd.prog ops Q i K a w := by
  unfold wpOp
  simp only [hi, hw, if_true, Oper.wp, ho, Oper.upon]
  exact .inl h
theorem wpOp_skip {K : Act → World → Prop} {i : Nat} {o : Oper} (w' : World) (hi : ops[i]? = some o) (hw : Region.wanted o (yielded ops a.tmps) = true) (ho : (execOp a.eval o).run Tryd.prog w = .ok .skip w')
    (h : K (a.put o.dst undef) w') : wpOp Tryd.prog ops Q i K a w := by
  unfold wpOp
  simp only [hi, hw, if_true, Oper.wp, ho, Oper.upon]
  exact .inl h
theorem wpOp_wp {K : Act → World → Prop} {i : Nat} {o : Oper} (hi : ops[i]? = some o) (hw : Region.wanted o (yielded ops a.tmps) = true) (h : o.wp Tryd.prog a w K Q) : wpOp Tryd.prog ops Q i K a w := by
  unfold wpOp
  simp only [hi, hw, if_true]
  exact .inl h
end
end Go.Proofs.YtifgcimmlonagaaDoor
