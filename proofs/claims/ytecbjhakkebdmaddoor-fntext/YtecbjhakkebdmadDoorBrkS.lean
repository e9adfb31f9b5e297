import Derived.Test.YtecbjhakkebdmadDoorBrkI
import Derived.Test.YtecbjhakkebdmadDoorClassS
import Derived.Test.YtecbjhakkebdmadDoorDecS
import Derived.Test.YtecbjhakkebdmadDoorEncO
namespace Go.Proofs.YtecbjhakkebdmadDoor
open Go Go.RowKit
set_option linter.unusedVariables false

set_option maxHeartbeats 400000 in
theorem inner_any (r : Int) (w : World) : Calls Tryd.prog 30 #[.int .i64 r] w fun e w' => e = .returned (.bool (innB r)) ∧ w' = w := by
  have Hi : Hid (innB r = (clsZ r == 1 || clsZ r == 2)) := rfl
  have hch := hidd (specClass_any r)
  generalize clsZ r = c at *
  by_cases h1 : (c == 1) = true
  · have HV : Hid (innB r = true) := by show _ = _; rw [Hi.out, h1]; rfl
    clear Hi
    go_enter Tryd.func30, Tryd.ntmps30
    go_wp2_with fail
    refine (hch.out _).mono ?_
    rintro e w1 ⟨rfl, rfl⟩
    go_wp2
    go_ret
    rw [HV.out]
    exact ⟨rfl, rfl⟩
  · have h1' : (c == 1) = false := by simpa using h1
    have HV : Hid (innB r = (c == 2)) := by show _ = _; rw [Hi.out, h1']; rfl
    clear Hi h1
    go_enter Tryd.func30, Tryd.ntmps30
    go_wp2_with fail
    refine (hch.out _).mono ?_
    rintro e w1 ⟨rfl, rfl⟩
    go_wp2
    go_ret
    rw [HV.out]
    exact ⟨rfl, rfl⟩

/-- Where the words that are told stand against the list of characters. -/
def SpAt (L : List Int) (i a : Nat) (acc all : List Tk) : Prop := ∃ f, (L.drop i).length ≤ f ∧ acc ++ toks f (L.drop i) a acc.length = all
theorem SpAt_start (L : List Int) : SpAt L 0 0 [] (toks L.length L 0 0) := ⟨L.length, Nat.le_refl _, rfl⟩
theorem SpAt_end (L : List Int) (i a : Nat) (acc all : List Tk) (hi : ¬ i < L.length) (h : SpAt L i a acc all) : all = acc := by
  obtain ⟨f, _, h⟩ := h
  rw [List.drop_of_length_le (by omega), toks_nil, List.append_nil] at h
  exact h.symm
theorem drop_cons (L : List Int) (i : Nat) (h : i < L.length) : L.drop i = L[i] :: L.drop (i + 1) := by rw [List.drop_eq_getElem_cons h]
theorem SpAt_skip (L : List Int) (i a : Nat) (acc all : List Tk) (hi : i < L.length) (hk : wordK (L.drop i) = 0) (h : SpAt L i a acc all) : SpAt L (i + 1) (a + (Lib.runeCells L[i]).length) acc all := by
  obtain ⟨f, hf, h⟩ := h
  rw [drop_cons L i hi] at h hf hk
  obtain ⟨g, rfl⟩ : ∃ g, f = g + 1 := ⟨f - 1, by simp at hf; omega⟩
  rw [toks_skip g _ _ _ _ hk] at h
  have eb : blen [L[i]] = (Lib.runeCells L[i]).length := by rw [blen_cons, blen_nil, Lib.runeCells_length]; rfl
  rw [eb] at h
  exact ⟨g, by simp at hf ⊢; omega, h⟩
theorem SpAt_word (L : List Int) (i a k : Nat) (acc all : List Tk) (hi : i < L.length) (hk : wordK (L.drop i) = k) (hk0 : ¬ k = 0) (h : SpAt L i a acc all) :
    (acc ++ [(encs ((L.drop i).take k), acc.length, a, a + blen ((L.drop i).take k))]).length ≤ all.length ∧ SpAt L (i + k) (a + blen ((L.drop i).take k)) (acc ++ [(encs ((L.drop i).take k), acc.length, a, a + blen ((L.drop i).take k))]) all := by
  obtain ⟨f, hf, h⟩ := h
  have hx := h
  rw [drop_cons L i hi] at hx hf hk
  obtain ⟨g, rfl⟩ : ∃ g, f = g + 1 := ⟨f - 1, by simp at hf; omega⟩
  rw [toks_word g _ _ _ _ (by rw [hk]; exact hk0), hk, ← drop_cons L i hi, List.drop_drop] at hx
  have hx2 : (acc ++ [(encs ((L.drop i).take k), acc.length, a, a + blen ((L.drop i).take k))]) ++ toks g (L.drop (i + k)) (a + blen ((L.drop i).take k)) (acc ++ [(encs ((L.drop i).take k), acc.length, a, a + blen ((L.drop i).take k))]).length = all := by
    rw [← hx, List.length_append]
    simp
  refine ⟨by have := congrArg List.length hx2; rw [List.length_append] at this; omega, g, ?_, hx2⟩
  simp at hf ⊢
  omega

/-- The walk along a run of the list. -/
def RunL (L : List Int) (i k : Nat) : Prop := i + runK (L.drop i) = k + runK (L.drop k) ∧ (k = i ∨ (i < k ∧ (innB (L.getD (k - 1) 0) = true ∨ headInn (L.drop k) = true)))
theorem RunL_inn (L : List Int) (i k : Nat) (hk : k < L.length) (hi : i ≤ k) (h : RunL L i k) (hin : innB L[k] = true) : RunL L i (k + 1) := by
  obtain ⟨h1, h2⟩ := h
  refine ⟨?_, Or.inr ⟨by omega, Or.inl ?_⟩⟩
  · rw [h1, drop_cons L k hk, runK_inn _ _ hin]; omega
  · have e : L.getD (k + 1 - 1) 0 = L[k] := by simp [hk]
    rw [e]; exact hin
theorem RunL_mark (L : List Int) (i k : Nat) (hk : k < L.length) (hi : i ≤ k) (h : RunL L i k) (hin : innB L[k] = false) (hm : (clsZ L[k] == 3) = true) (hn : headInn (L.drop (k + 1)) = true) : RunL L i (k + 1) := by
  obtain ⟨h1, h2⟩ := h
  refine ⟨?_, Or.inr ⟨by omega, Or.inr hn⟩⟩
  rw [h1, drop_cons L k hk, runK_mark _ _ hin hm hn]; omega
theorem RunL_stop (L : List Int) (i k : Nat) (hk : k < L.length) (h : RunL L i k) (hin : innB L[k] = false) (hm : (clsZ L[k] == 3) = false ∨ headInn (L.drop (k + 1)) = false) : runK (L.drop i) = k - i := by
  obtain ⟨h1, h2⟩ := h
  rw [drop_cons L k hk, runK_stop _ _ hin hm] at h1
  omega
theorem RunL_end (L : List Int) (i k : Nat) (hk : ¬ k < L.length) (h : RunL L i k) : runK (L.drop i) = k - i := by
  obtain ⟨h1, h2⟩ := h
  rw [List.drop_of_length_le (by omega : L.length ≤ k)] at h1
  simp [runK] at h1
  omega
theorem RunL_prev (L : List Int) (i k : Nat) (hk : k < L.length) (hi : i < k) (h : RunL L i k) (hin : innB L[k] = false) : innB (L.getD (k - 1) 0) = true := by
  rcases h.2 with rfl | ⟨_, h | h⟩
  · omega
  · exact h
  · rw [drop_cons L k hk] at h
    exact absurd h (by show ¬ innB L[k] = true; rw [hin]; simp)
theorem head_at (L : List Int) (k : Nat) (hk : k < L.length) : headInn (L.drop k) = innB L[k] := by rw [drop_cons L k hk]; rfl
theorem head_none (L : List Int) (k : Nat) (hk : ¬ k < L.length) : headInn (L.drop k) = false := by rw [List.drop_of_length_le (by omega)]; rfl
theorem own_cap {w : World} {base e g n cap : Nat} {xs : List Value} (h : w.ownsRow base e 1 (.slice (some ⟨g, 0, none⟩) n cap) n xs) : n ≤ cap := by
  rcases h.2 with ⟨h', _⟩ | ⟨g', cap', cur, h', _, _, hc, _⟩
  · simp at h'
  · simp only [Value.slice.injEq, Option.some.injEq, Addr.mk.injEq, and_true, true_and] at h'
    obtain ⟨_, rfl⟩ := h'
    exact hc
end Go.Proofs.YtecbjhakkebdmadDoor
