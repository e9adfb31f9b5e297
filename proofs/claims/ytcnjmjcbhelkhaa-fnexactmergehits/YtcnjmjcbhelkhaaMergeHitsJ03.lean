import Derived.Lib.Strings
import Derived.Test.YtcnjmjcbhelkhaaMergeHitsJ00
import Derived.Test.YtcnjmjcbhelkhaaMergeHitsJ02
import Derived.Deep.RegionHeld3
import Derived.Deep.AppendLies
import Derived.Deep.RegionLaw
import Derived.Deep.DeepCutAuto
import Derived.Test.YtcnjmjcbhelkhaaProg
import Derived.OrdersHeld
import Derived.WalkKit
import Derived.ProofKit
namespace Go.Proofs.Ytcnjmjcbhelkhaa
open Go

def bs (l : List UInt8) : ByteArray := ⟨l.toArray⟩
def lst (s : ByteArray) : List UInt8 := s.data.toList
theorem lst_bs (l : List UInt8) : lst (bs l) = l := by simp [bs, lst]
theorem lst_len (s : ByteArray) : (lst s).length = s.size := (Lib.size_eq s).symm
theorem bs_size (l : List UInt8) : (bs l).size = l.length := by rw [← lst_len, lst_bs]
def ends (l e : List UInt8) : Bool := Lib.hasSuffix l e
end Go.Proofs.Ytcnjmjcbhelkhaa

namespace Go.Proofs.Ytcnjmjcbhelkhaa
open Go Go.RowKit
set_option linter.unusedVariables false
set_option maxRecDepth 100000

/-! Comparing. -/
def cmpI (x y : Int) : Int := if x < y then -1 else if y < x then 1 else 0
def cmpT (x y : Tx) : Int := if ltT x y = true then -1 else if ltT y x = true then 1 else 0
theorem less_lt : ∀ (x y : Tx), Op.bytesLess x y = ltT x y
  | [], [] => rfl
  | _ :: _, [] => rfl
  | [], _ :: _ => rfl
  | a :: x, b :: y => by
    rw [Op.bytesLess, ltT, less_lt x y]
    rfl
theorem bs_tl (x : List UInt8) : (bs x).toList = x := by rw [Lib.toList_data]; exact lst_bs x
theorem isNaN_any (x : Int) (w : World) : Calls Try.prog 66 #[.int .i64 x] w fun e w' => e = .returned (.bool false) ∧ w' = w := by
  have hx : (x != x) = false := by simp
  go_enter Try.func66, Try.ntmps66
  go_wp2
  go_ret
  exact ⟨rfl, rfl⟩
theorem isNaNs_any (x : ByteArray) (w : World) : Calls Try.prog 67 #[.string x] w fun e w' => e = .returned (.bool false) ∧ w' = w := by
  go_enter Try.func67, Try.ntmps67
  go_wp2
  go_ret
  simp
set_option maxHeartbeats 1000000 in
theorem compare_any (x y : Int) (w : World) : Calls Try.prog 63 #[.int .i64 x, .int .i64 y] w fun e w' => e = .returned (.int .i64 (cmpI x y)) ∧ w' = w := by
  go_enter Try.func63, Try.ntmps63
  by_cases h1 : x < y
  · have hc : cmpI x y = -1 := by rw [cmpI, if_pos h1]
    have HC := hidd hc
    clear hc
    go_wp2_with (go_at_call 66; refine (isNaN_any _ _).mono ?_; rintro e w' ⟨rfl, rfl⟩)
    go_ret
    exact ⟨by rw [HC.out]; rfl, rfl⟩
  · by_cases h2 : y < x
    · have hc : cmpI x y = 1 := by rw [cmpI, if_neg h1, if_pos h2]
      have HC := hidd hc
      have h3 : x > y := h2
      clear hc h2
      go_wp2_with (go_at_call 66; refine (isNaN_any _ _).mono ?_; rintro e w' ⟨rfl, rfl⟩)
      go_ret
      exact ⟨by rw [HC.out]; rfl, rfl⟩
    · have hc : cmpI x y = 0 := by rw [cmpI, if_neg h1, if_neg h2]
      have HC := hidd hc
      have h3 : ¬ x > y := h2
      clear hc h2
      go_wp2_with (go_at_call 66; refine (isNaN_any _ _).mono ?_; rintro e w' ⟨rfl, rfl⟩)
      go_ret
      exact ⟨by rw [HC.out]; rfl, rfl⟩
theorem binOp_string_gtr (t : TypeId) (a b : ByteArray) : binOp .gtr t (.string a) (.string b) = pure (.bool !(Op.bytesLess a.toList b.toList || a.toList == b.toList)) := by simp [binOp, Op.stringOp]
theorem gtr_lt (x y : Tx) : (!(Op.bytesLess x y || x == y)) = ltT y x := by
  rw [less_lt]
  cases e1 : ltT x y with
  | true => rw [ltT_asym x y e1]; rfl
  | false =>
    cases e2 : ltT y x with
    | true =>
      have hne : ¬ x = y := fun e => by rw [e, ltT_irr] at e2; cases e2
      simp [hne]
    | false => rw [ltT_tri x y e1 e2]; simp
set_option maxHeartbeats 1000000 in
theorem compareS_any (x y : Tx) (w : World) : Calls Try.prog 65 #[.string (bs x), .string (bs y)] w fun e w' => e = .returned (.int .i64 (cmpT x y)) ∧ w' = w := by
  have k1 : Op.bytesLess (bs x).toList (bs y).toList = ltT x y := by rw [bs_tl, bs_tl, less_lt]
  have k2 : ∀ t, binOp .gtr t (.string (bs x)) (.string (bs y)) = pure (.bool (ltT y x)) := by
    intro t
    rw [binOp_string_gtr, bs_tl, bs_tl, gtr_lt]
  generalize bs x = X at *
  generalize bs y = Y at *
  go_enter Try.func65, Try.ntmps65
  cases h1 : ltT x y with
  | true =>
    rw [h1] at k1
    have HC : Hid (cmpT x y = -1) := by show _ = _; rw [cmpT, if_pos h1]
    clear h1
    go_wp2_with (go_at_call 67; refine (isNaNs_any _ _).mono ?_; rintro e w' ⟨rfl, rfl⟩)
    go_ret
    exact ⟨by rw [HC.out]; rfl, rfl⟩
  | false =>
    rw [h1] at k1
    cases h2 : ltT y x with
    | true =>
      rw [h2] at k2
      have HC : Hid (cmpT x y = 1) := by show _ = _; rw [cmpT, if_neg (by simp [h1]), if_pos h2]
      clear h1 h2
      go_wp2_with (go_at_call 67; refine (isNaNs_any _ _).mono ?_; rintro e w' ⟨rfl, rfl⟩)
      go_ret
      exact ⟨by rw [HC.out]; rfl, rfl⟩
    | false =>
      rw [h2] at k2
      have HC : Hid (cmpT x y = 0) := by show _ = _; rw [cmpT, if_neg (by simp [h1]), if_neg (by simp [h2])]
      clear h1 h2
      go_wp2_with (go_at_call 67; refine (isNaNs_any _ _).mono ?_; rintro e w' ⟨rfl, rfl⟩)
      go_ret
      exact ⟨by rw [HC.out]; rfl, rfl⟩
set_option maxHeartbeats 1000000 in
theorem or_any (x y : Int) (g c : Nat) (w : World) (c0 : w.cell? ⟨g, 0, none⟩ = some (.int .i64 x)) (c1 : w.cell? ⟨g, 1, none⟩ = some (.int .i64 y)) (R : Int) (HR : Hid ((if x ≠ 0 then x else y) = R)) :
    Calls Try.prog 64 #[.slice (some ⟨g, 0, none⟩) 2 c] w fun e w' => e = .returned (.int .i64 R) ∧ w' = w := by
  go_enter Try.func64, Try.ntmps64
  go_wp2
  go_loopw [8] (fun iv wr => ∃ i : Nat, i ≤ 2 ∧ iv = .int .i64 (i : Int) ∧ (0 < i → x = 0) ∧ (1 < i → y = 0) ∧ wr = w) (fun iv _ => 2 - (intOf iv).toNat)
  case atStart => exact ⟨0, by omega, rfl, fun h => by omega, fun h => by omega, rfl⟩
  case round =>
    obtain ⟨i, hi, rfl, h0, h1, hww⟩ := hrel
    obtain rfl := hww.symm
    rcases (show i = 0 ∨ i = 1 ∨ i = 2 by omega) with rfl | rfl | rfl
    · by_cases hx : x = 0
      · have hb : (x != 0) = false := by simp [hx]
        have HX := hidd hx
        clear h0 h1 hx
        go_wp2
        go_roundw
        case rel => exact ⟨1, by omega, rfl, fun _ => HX.out, fun h => by omega, by first | trivial | rfl⟩
        case measure => simp [intOf]
      · have hb : (x != 0) = true := by simp [hx]
        have HE : Hid (x = R) := by show _ = _; rw [← HR.out, if_pos hx]
        clear h0 h1 HR
        go_wp2
        go_ret
        exact ⟨by rw [← HE.out]; rfl, rfl⟩
    · have HX := hidd (h0 (by omega))
      by_cases hy : y = 0
      · have hb : (y != 0) = false := by simp [hy]
        have HY := hidd hy
        clear h0 h1 hy
        go_wp2
        go_roundw
        case rel => exact ⟨2, by omega, rfl, fun _ => HX.out, fun _ => HY.out, by first | trivial | rfl⟩
        case measure => simp [intOf]
      · have hb : (y != 0) = true := by simp [hy]
        have HE : Hid (y = R) := by show _ = _; rw [← HR.out, if_neg (by simp [HX.out])]
        clear h0 h1 HR
        go_wp2
        go_ret
        exact ⟨by rw [← HE.out]; rfl, rfl⟩
    · have HE : Hid (0 = R) := by show _ = _; rw [← HR.out, if_neg (by simp [h0]), h1 (by omega)]
      clear h0 h1 HR
      go_wp2
      go_ret
      exact ⟨by rw [← HE.out]; rfl, rfl⟩
end Go.Proofs.Ytcnjmjcbhelkhaa

namespace Go.Proofs.Ytcnjmjcbhelkhaa
open Go Go.RowKit
set_option linter.unusedVariables false

section
variable {ops : Array Oper} {Q : Exit → Act → World → Prop} {S : World → Prop} {md : Region.Mode} {fuel : Nat} {listed : Array Bool} {a : Act} {w : World}
/-- An operation that is wanted, taken in a drawn region. -/
theorem tkW (i : Nat) {oi : Oper} {v : Value} (hi : ops[i]? = some oi := by rfl) (hs : Region.noSelect ops = true := by kernel_rfl) (hf : Region.free md ops listed i = true := by kernel_rfl) (hr : (Region.ready md ops listed).contains i = true := by kernel_rfl)
    (hQ : ∀ c a w, Q (.panic c) (a.put oi.dst v) w → Q (.panic c) a w := by exact fun _ _ _ h => h) (hw : Region.wanted oi (yielded ops a.tmps) = true := by kernel_rfl) (hx : ∀ w, S w → (execOp a.eval oi).run Try.prog w = .ok (.value v) w)
    (hS : S w := by assumption) (h : wpAnyH Try.prog md ops Q S fuel (listed.setIfInBounds i true) (a.put oi.dst v) w) : wpAnyH Try.prog md ops Q S (fuel + 1) listed a w :=
  wpAnyH_take hi hs hf hr hQ (Or.inl ⟨hw, hx⟩) hS h
/-- The same, with the value read off. -/
theorem tkX (i : Nat) {oi : Oper} {v : Value} (hi : ops[i]? = some oi := by rfl) (hs : Region.noSelect ops = true := by kernel_rfl) (hf : Region.free md ops listed i = true := by kernel_rfl) (hr : (Region.ready md ops listed).contains i = true := by kernel_rfl)
    (hQ : ∀ c a w, Q (.panic c) (a.put oi.dst v) w → Q (.panic c) a w := by exact fun _ _ _ h => h) (hw : Region.wanted oi (yielded ops a.tmps) = true := by kernel_rfl) (hx : ∀ w, S w → (execOp a.eval oi).run Try.prog w = .ok (.value v) w := by (intro w hSw; (try dsimp only at hSw); go_simp <;> with_reducible rfl))
    (hS : S w := by assumption) (h : wpAnyH Try.prog md ops Q S fuel (listed.setIfInBounds i true) (a.put oi.dst v) w) : wpAnyH Try.prog md ops Q S (fuel + 1) listed a w :=
  wpAnyH_take hi hs hf hr hQ (Or.inl ⟨hw, hx⟩) hS h
/-- One that is not wanted. -/
theorem tkS (i : Nat) {oi : Oper} (hi : ops[i]? = some oi := by rfl) (hs : Region.noSelect ops = true := by kernel_rfl) (hf : Region.free md ops listed i = true := by kernel_rfl) (hr : (Region.ready md ops listed).contains i = true := by kernel_rfl)
    (hQ : ∀ c a w, Q (.panic c) (a.put oi.dst undef) w → Q (.panic c) a w := by exact fun _ _ _ h => h) (hw : Region.wanted oi (yielded ops a.tmps) = false := by kernel_rfl)
    (hS : S w := by assumption) (h : wpAnyH Try.prog md ops Q S fuel (listed.setIfInBounds i true) (a.put oi.dst undef) w) : wpAnyH Try.prog md ops Q S (fuel + 1) listed a w :=
  wpAnyH_take hi hs hf hr hQ (Or.inr ⟨hw, rfl⟩) hS h
end
end Go.Proofs.Ytcnjmjcbhelkhaa

namespace Go.Proofs.Ytcnjmjcbhelkhaa
open Go Go.RowKit
set_option linter.unusedVariables false

/-! The operations of a drawn region, one by one. -/
section
variable {ops : Array Oper} {Q : Exit → Act → World → Prop} {S : World → Prop} {md : Region.Mode} {a : Act} {w : World}
theorem wpAnyH_one (i : Nat) {fuel : Nat} {listed : Array Bool} (hr : Region.ready md ops listed = [i])
    (h : wpOp Try.prog ops Q i (fun a' w' => S w' ∧ wpAnyH Try.prog md ops Q S fuel (listed.setIfInBounds i true) a' w') a w) : wpAnyH Try.prog md ops Q S (fuel + 1) listed a w :=
  wpAnyH_all hr (by simp) (fun j hj => by
    have e : j = i := by simpa using hj
    subst e
    exact h)
theorem wpAnyH_two (i j : Nat) {fuel : Nat} {listed : Array Bool} (hr : Region.ready md ops listed = [i, j])
    (h1 : wpOp Try.prog ops Q i (fun a' w' => S w' ∧ wpAnyH Try.prog md ops Q S fuel (listed.setIfInBounds i true) a' w') a w)
    (h2 : wpOp Try.prog ops Q j (fun a' w' => S w' ∧ wpAnyH Try.prog md ops Q S fuel (listed.setIfInBounds j true) a' w') a w) : wpAnyH Try.prog md ops Q S (fuel + 1) listed a w :=
  wpAnyH_all hr (by simp) (fun k hk => by
    have e : k = i ∨ k = j := by simpa using hk
    rcases e with rfl | rfl
    · exact h1
    · exact h2)
theorem wpOp_val {K : Act → World → Prop} {i : Nat} {o : Oper} (v : Value) (w' : World) (hi : ops[i]? = some o) (hw : Region.wanted o (yielded ops a.tmps) = true) (ho : (execOp a.eval o).run Try.prog w = .ok (.value v) w')
    (h : K (a.put o.dst v) w') : wpOp Try.prog ops Q i K a w := by
  unfold wpOp
  simp only [hi, hw, if_true, Oper.wp, ho, Oper.upon]
  exact .inl h
theorem wpOp_skip {K : Act → World → Prop} {i : Nat} {o : Oper} (w' : World) (hi : ops[i]? = some o) (hw : Region.wanted o (yielded ops a.tmps) = true) (ho : (execOp a.eval o).run Try.prog w = .ok .skip w')
    (h : K (a.put o.dst undef) w') : wpOp Try.prog ops Q i K a w := by
  unfold wpOp
  simp only [hi, hw, if_true, Oper.wp, ho, Oper.upon]
  exact .inl h
theorem wpOp_wp {K : Act → World → Prop} {i : Nat} {o : Oper} (hi : ops[i]? = some o) (hw : Region.wanted o (yielded ops a.tmps) = true) (h : o.wp Try.prog a w K Q) : wpOp Try.prog ops Q i K a w := by
  unfold wpOp
  simp only [hi, hw, if_true]
  exact .inl h
end
end Go.Proofs.Ytcnjmjcbhelkhaa

namespace Go.Proofs.Ytcnjmjcbhelkhaa
open Go Go.RowKit
set_option linter.unusedVariables false
set_option linter.unusedSimpArgs false
set_option maxRecDepth 100000

/-! The operations of the regions that draw, by hand. -/
theorem rbx_call1 (W : World) (a : Act) (o : Oper) (f : FuncId) (x : Operand) (t : TypeId) (ho : o.op = .call { callee := .value (.func f), args := #[x], argTypes := #[t] }) (v : Value) (hx : a.eval x = v)
    (hf : (callFunc f #[v]).run Try.prog W = .ok (.enter f #[v]) W) : (execOp a.eval o).run Try.prog W = .ok (.enter f #[v]) W := by
  have hfn : a.eval (.func f) = .func (.func f) #[] #[] := rfl
  unfold execOp
  simp [ho, resolve, invoke, Deferred.ofValue, hfn, hx, hf]
section
variable {ops : Array Oper} {Q : Exit → Act → World → Prop} {K : Act → World → Prop} {a : Act} {w : World}
theorem wpOp_call {i : Nat} {o : Oper} (f : FuncId) (args : Array Value) (hi : ops[i]? = some o) (hw : Region.wanted o (yielded ops a.tmps) = true) (ho : (execOp a.eval o).run Try.prog w = .ok (.enter f args) w)
    (h : Calls Try.prog f args w fun e w' => match e, w' with
      | .returned v, w'' => K (a.put o.dst v) w''
      | .panicked c, w'' => Q (.panic c) a w''
      | .outgrown, _ => LetsOut Q) : wpOp Try.prog ops Q i K a w := by
  unfold wpOp
  simp only [hi, hw, if_true, Oper.wp, ho, Oper.upon]
  exact .inl h
end
end Go.Proofs.Ytcnjmjcbhelkhaa
