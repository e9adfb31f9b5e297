import Derived.Test.YtoinajfliogcdaaDoorNearJ42
import Derived.Test.YtoinajfliogcdaaDoorNearJ45
import Derived.Test.YtoinajfliogcdaaDoorNearJ39
import Derived.Test.YtoinajfliogcdaaDoorNearJ41
import Derived.Test.YtoinajfliogcdaaDoorNearJ00
import Derived.Test.YtoinajfliogcdaaDoorNearJ18
import Derived.Test.YtoinajfliogcdaaDoorNearJ07
import Derived.Test.YtoinajfliogcdaaDoorNearJ20
namespace Go.Proofs.YtoinajfliogcdaaDoor
open Go Go.RowKit
set_option linter.unusedVariables false
set_option maxRecDepth 100000

def FzAll (s : ByteArray) (k head : Int) (w : World) (e : Ending) (w' : World) : Prop :=
 (fzCode s k head ≠ 0 ∧ e = .returned (.tuple #[.agg #[.slice none 0 0], .int .i64 (fzCode s k head)]) ∧ Below w.heap.size w w') ∨ (fzCode s k head = 0 ∧ FzPost (decList s) k head w e w')
theorem least_all : LeastC := fun vl vf vn ls fins nxt w h1 h2 => least_any vl vf vn ls fins nxt w h1 h2
theorem fzCode_ok {s : ByteArray} {k head : Int} (h : fzCode s k head = 0) : decCode s = 0 ∧ (decList s).length ≤ 30 ∧ 0 ≤ k ∧ k ≤ 2 ∧ 0 ≤ head ∧ head ≤ (decList s).length := by
 unfold fzCode at h
 split at h
 ·split at h
  ·exact ⟨by assumption, by assumption⟩
  ·omega
 ·exact absurd h (by assumption)
theorem specFuzzy_any (s : ByteArray) (k head : Int) (w : World) (hs : s.size ≤ 1048576) :
  Calls Tryd.prog 8 #[.string s, .int .i64 k, .int .i64 head] w (FzAll s k head w) := by
 by_cases hc : fzCode s k head = 0
 ·obtain ⟨h1, h2, h3, h4, h5, h6⟩ := fzCode_ok hc
  exact (fuzzy_good least_all s k head w hs h1 h2 ⟨h3, h4⟩ ⟨h5, h6⟩).mono fun e w' h => Or.inr ⟨hc, h⟩
 ·exact (fuzzy_bad s k head w hs hc).mono fun e w' h => Or.inl ⟨hc, h.1, h.2⟩
end Go.Proofs.YtoinajfliogcdaaDoor

namespace Go.Proofs.YtoinajfliogcdaaDoor
open Go Go.RowKit
set_option linter.unusedVariables false
set_option maxRecDepth 100000

theorem hit_eq (word ls : List Int) (hz : ∀ z ∈ word, 0 ≤ z) (a : Nat) : hitZ word (letS ls a) = hitP word (letN ls a) := by
 funext i
 unfold hitZ hitP letS letN
 by_cases ha : a < ls.length
 ·rw [if_pos ha, if_pos ha]
 ·rw [if_neg ha, if_neg ha]
  have h0 : 0 ≤ word.getD i 0 := by
   rw [List.getD_eq_getElem?_getD]
   cases hx : word[i]? with
   | none => simp
   | some z => exact hz z (List.mem_of_getElem? hx)
  rw [decide_eq_false (by omega), decide_eq_false (by omega)]
theorem near_lang (word ls : List Int) (k head S : Nat) (hk : k ≤ 2) (hz : ∀ z ∈ word, 0 ≤ z) : (fzK word ls k head).lang S (firstS word.length k) = (nrK word ls k head).lang S (firstI word.length k) := by
 rw [← firstI_near (len := word.length) (head := head) hk]
 refine Kaut.lang_map (nearOf word.length k head) (RowOK word.length k head) (fun x hx a _ => hx.step (by omega) (by omega) _) (fun x hx a _ => ?_) (fun x hx => ?_) _ (firstS_ok (by omega) (by omega))
 ·show nearOf word.length k head (stepS word.length k head (hitZ word (letS ls a)) x) = stepI word.length k head (hitP word (letN ls a)) (nearOf word.length k head x)
  rw [nearOf_step hx, hit_eq word ls hz]
 ·exact nearOf_fin hx hk
end Go.Proofs.YtoinajfliogcdaaDoor

namespace Go.Proofs.YtoinajfliogcdaaDoor
open Go

def ne1 (x y : Int) : Nat := if x = y then 0 else 1
def ed : List Int → List Int → Nat
 | [], b => b.length
 | a, [] => a.length
 | x :: a, y :: b => min (ed a b + ne1 x y) (min (ed a (y :: b) + 1) (ed (x :: a) b + 1))
termination_by a b => a.length + b.length
theorem ed_nil (b : List Int) : ed [] b = b.length := by rw [ed]
theorem ed_nil_right (a : List Int) : ed a [] = a.length := by cases a <;> simp [ed]
theorem ed_cons (x : Int) (a : List Int) (y : Int) (b : List Int) : ed (x :: a) (y :: b) = min (ed a b + ne1 x y) (min (ed a (y :: b) + 1) (ed (x :: a) b + 1)) := by rw [ed]
theorem ne1_le (x y : Int) : ne1 x y ≤ 1 := by unfold ne1; split <;> omega
theorem ne1_comm (x y : Int) : ne1 x y = ne1 y x := by
 unfold ne1
 by_cases h : x = y
 ·rw [if_pos h, if_pos h.symm]
 ·rw [if_neg h, if_neg (fun e => h e.symm)]
theorem ne1_tri (x y z : Int) : ne1 x z ≤ ne1 x y + ne1 y z := by
 simp only [ne1]
 by_cases h : x = y <;> by_cases h2 : y = z <;> simp_all
 split <;> omega
theorem ed_comm (a b : List Int) : ed a b = ed b a := by
 match a, b with
 | [], b => rw [ed_nil, ed_nil_right]
 | x :: a, [] => rw [ed_nil, ed_nil_right]
 | x :: a, y :: b =>
  rw [ed_cons, ed_cons, ed_comm a b, ed_comm a (y :: b), ed_comm (x :: a) b, ne1_comm x y]
  omega
termination_by a.length + b.length
theorem ed_near (a b : List Int) : (∀ x, ed (x :: a) b ≤ ed a b + 1) ∧ (∀ x, ed a b ≤ ed (x :: a) b + 1) := by
 match a, b with
 | a, [] => simp only [ed_nil_right, List.length_cons]; exact ⟨fun _ => by omega, fun _ => by omega⟩
 | [], y :: b =>
  have h := ed_near [] b
  refine ⟨fun x => ?_, fun x => ?_⟩
  ·rw [ed_cons]; omega
  ·rw [ed_cons]
   have h1 := h.2 x
   simp only [ed_nil, List.length_cons] at h1 ⊢
   omega
 | z :: a, y :: b =>
  refine ⟨fun x => ?_, fun x => ?_⟩
  ·rw [ed_cons x]; omega
  ·have h1 := (ed_near (z :: a) b).2 x
   have h2 := (ed_near a (y :: b)).1 z
   have h3 := ed_cons z a y b
   rw [ed_cons x]
   omega
termination_by a.length + b.length
theorem ed_near_r (a b : List Int) : (∀ y, ed a (y :: b) ≤ ed a b + 1) ∧ (∀ y, ed a b ≤ ed a (y :: b) + 1) := by
 have h := ed_near b a
 refine ⟨fun y => ?_, fun y => ?_⟩
 ·rw [ed_comm a, ed_comm a b]; exact h.1 y
 ·rw [ed_comm a, ed_comm a (y :: b)]; exact h.2 y
theorem ed_same (x : Int) (a b : List Int) : ed (x :: a) (x :: b) = ed a b := by
 have h1 := (ed_near_r a b).2 x
 have h2 := (ed_near a b).2 x
 have h0 : ne1 x x = 0 := by simp [ne1]
 rw [ed_cons, h0]
 omega
theorem ed_other {x y : Int} (h : ¬ x = y) (a b : List Int) : ed (x :: a) (y :: b) = 1 + min (ed a b) (min (ed (x :: a) b) (ed a (y :: b))) := by
 have h0 : ne1 x y = 1 := by simp [ne1, h]
 rw [ed_cons, h0]
 omega
theorem ed_tri (a b c : List Int) : ed a c ≤ ed a b + ed b c := by
 match a, b, c with
 | [], b, c =>
  have : ∀ (b c : List Int), c.length ≤ b.length + ed b c := by
   intro b
   induction b with
   | nil => intro c; rw [ed_nil]; omega
   | cons y b ih =>
    intro c
    have h1 := ih c
    have h2 := (ed_near b c).2 y
    simp only [List.length_cons]
    omega
  rw [ed_nil, ed_nil]
  exact this b c
 | x :: a, b, [] =>
  have : ∀ (b a : List Int), a.length ≤ ed a b + b.length := by
   intro b
   induction b with
   | nil => intro a; rw [ed_nil_right]; omega
   | cons y b ih =>
    intro a
    have h1 := ih a
    have h2 := (ed_near_r a b).2 y
    simp only [List.length_cons]
    omega
  rw [ed_nil_right, ed_nil_right]
  exact this b (x :: a)
 | x :: a, [], z :: c =>
  have h1 := ed_tri a [] c
  have h2 := ne1_le x z
  rw [ed_cons]
  simp only [ed_nil, ed_nil_right, List.length_cons] at h1 ⊢
  omega
 | x :: a, y :: b, z :: c =>
  have t1 := ed_tri a b c
  have t2 := ed_tri a (y :: b) (z :: c)
  have t3 := ed_tri (x :: a) (y :: b) c
  have t4 := ed_tri a b (z :: c)
  have t5 := ed_tri (x :: a) b c
  have t6 := ed_tri (x :: a) b (z :: c)
  have h1 := ed_cons x a y b
  have h2 := ed_cons y b z c
  have h3 := ed_cons x a z c
  have h4 := ne1_tri x y z
  omega
termination_by a.length + b.length + c.length
theorem ed_le (a b : List Int) : ed a b ≤ a.length + b.length := by
 have := ed_tri a [] b
 rw [ed_nil, ed_nil_right] at this
 exact this
def edAt (a b : List Int) (i k : Nat) : Nat := ed (a.take i).reverse (b.take k).reverse
theorem edAt_zero_left (a b : List Int) (k : Nat) (h : k ≤ b.length) : edAt a b 0 k = k := by simp [edAt, ed_nil]; omega
theorem edAt_zero_right (a b : List Int) (i : Nat) (h : i ≤ a.length) : edAt a b i 0 = i := by simp [edAt, ed_nil_right]; omega
theorem rev_take (a : List Int) (i : Nat) (h : i < a.length) : (a.take (i + 1)).reverse = a.getD i 0 :: (a.take i).reverse := by
 rw [take_snoc a i h, List.reverse_append]
 rfl
theorem edAt_same (a b : List Int) (i k : Nat) (hi : i < a.length) (hk : k < b.length) (h : a.getD i 0 = b.getD k 0) : edAt a b (i + 1) (k + 1) = edAt a b i k := by
 rw [edAt, rev_take a i hi, rev_take b k hk, h, ed_same, edAt]
theorem edAt_other (a b : List Int) (i k : Nat) (hi : i < a.length) (hk : k < b.length) (h : ¬ a.getD i 0 = b.getD k 0) : edAt a b (i + 1) (k + 1) = 1 + min (edAt a b i k) (min (edAt a b (i + 1) k) (edAt a b i (k + 1))) := by
 rw [edAt, edAt, edAt, edAt, rev_take a i hi, rev_take b k hk, ed_other h]
theorem edAt_step (a b : List Int) (i k : Nat) (hi : i < a.length) (hk : k < b.length) : edAt a b (i + 1) (k + 1) = min (edAt a b i k + ne1 (a.getD i 0) (b.getD k 0)) (min (edAt a b i (k + 1) + 1) (edAt a b (i + 1) k + 1)) := by
 rw [edAt, edAt, edAt, edAt, rev_take a i hi, rev_take b k hk, ed_cons]
theorem edAt_le (a b : List Int) (i k : Nat) : edAt a b i k ≤ a.length + b.length := by
 have h := ed_le (a.take i).reverse (b.take k).reverse
 have h1 := List.length_take_le i a
 have h2 := List.length_take_le k b
 simp only [List.length_reverse] at h
 have h3 : (a.take i).length ≤ a.length := by simp [List.length_take]; omega
 have h4 : (b.take k).length ≤ b.length := by simp [List.length_take]; omega
 unfold edAt
 omega
def edits (a b : List Int) : Nat := edAt a b a.length b.length
end Go.Proofs.YtoinajfliogcdaaDoor

namespace Go.Proofs.YtoinajfliogcdaaDoor
open Go
set_option linter.unusedVariables false

def rowsZ (word : List Int) (k head : Int) (rs : List Int) (j : Nat) : List Int := (rs.take j).foldl (fun z r => stepS word.length k head (hitZ word r) z) (firstS word.length k)
theorem rowsZ_zero (word : List Int) (k head : Int) (rs : List Int) : rowsZ word k head rs 0 = firstS word.length k := rfl
theorem rowsZ_succ {word : List Int} {k head : Int} {rs : List Int} {j : Nat} (hj : j < rs.length) : rowsZ word k head rs (j + 1) = stepS word.length k head (hitZ word (rs.getD j 0)) (rowsZ word k head rs j) := by
 unfold rowsZ
 rw [List.take_succ_eq_append_getElem hj, List.foldl_append, List.getD_eq_getElem?_getD, List.getElem?_eq_getElem hj]
 rfl
theorem nextF_ed (word rs : List Int) (k : Int) (j : Nat) (hj : j < rs.length) (f : Nat → Int) (hf : ∀ i, i ≤ word.length → f i = min (edAt word rs i j : Int) (k + 1)) : ∀ i, i ≤ word.length → nextF (hitZ word (rs.getD j 0)) k f i = min (edAt word rs i (j + 1) : Int) (k + 1)
 | 0, _ => by
  have h0 := hf 0 (by omega)
  rw [edAt_zero_left word rs j (by omega)] at h0
  rw [edAt_zero_left word rs (j + 1) (by omega)]
  simp only [nextF, h0]
  omega
 | i + 1, h => by
  have ih := nextF_ed word rs k j hj f hf i (by omega)
  have h1 := hf i (by omega)
  have h2 := hf (i + 1) h
  have h3 := edAt_step word rs i j (by omega) hj
  have h4 : dst (hitZ word (rs.getD j 0)) i = (ne1 (word.getD i 0) (rs.getD j 0) : Int) := by
   unfold dst hitZ ne1
   by_cases e : word.getD i 0 = rs.getD j 0
   ·rw [if_pos (by simpa using e), if_pos e]; rfl
   ·rw [if_neg (by simpa using e), if_neg e]; rfl
  simp only [nextF, ih, h1, h2, h4]
  omega
theorem rows_ed (word rs : List Int) (k head : Int) (hk : 0 ≤ k) : ∀ j, j ≤ rs.length → ∀ i, i ≤ word.length → fOf (rowsZ word k head rs j) i = min (edAt word rs i j : Int) (k + 1)
 | 0, _, i, hi => by
  rw [rowsZ_zero, firstS, fOf_row _ _ hi, edAt_zero_right word rs i hi]
 | j + 1, h, i, hi => by
  have hj : j < rs.length := by omega
  rw [rowsZ_succ hj, stepS, fOf_row _ _ hi]
  exact nextF_ed word rs k j hj _ (rows_ed word rs k head hk j (by omega)) i hi
def begB (word rs : List Int) (n : Nat) : Bool := (List.range n).all fun x => decide (word.getD x 0 = rs.getD x 0)
theorem begB_succ (word rs : List Int) (n : Nat) : begB word rs (n + 1) = (begB word rs n && decide (word.getD n 0 = rs.getD n 0)) := by
 unfold begB
 rw [List.range_succ, List.all_append]
 simp
theorem rows_came (word rs : List Int) (k : Int) (head : Nat) : ∀ j, j ≤ rs.length → fOf (rowsZ word k head rs j) (word.length + 1) = if begB word rs (min j head) = true then ((min j head : Nat) : Int) else (head : Int) + 1
 | 0, _ => by
  rw [rowsZ_zero, firstS, fOf_last, Nat.zero_min]
  rfl
 | j + 1, h => by
  have hj : j < rs.length := by omega
  have ih := rows_came word rs k head j (by omega)
  rw [rowsZ_succ hj, stepS, fOf_last, ih]
  by_cases hh : j < head
  ·rw [Nat.min_eq_left (by omega : j ≤ head), Nat.min_eq_left (by omega : j + 1 ≤ head), begB_succ]
   by_cases hb : begB word rs j = true
   ·rw [if_pos hb, hb, Bool.true_and]
    unfold cameN
    rw [if_pos (by omega), Int.toNat_natCast]
    unfold hitZ
    by_cases e : word.getD j 0 = rs.getD j 0
    ·rw [if_pos (by simpa using e), if_pos (by simpa using e)]; omega
    ·rw [if_neg (by simpa using e), if_neg (by simpa using e)]
   ·rw [if_neg hb]
    have hb' : begB word rs j = false := by simpa using hb
    rw [hb', Bool.false_and, if_neg (by simp)]
    unfold cameN
    rw [if_neg (by omega)]
  ·rw [Nat.min_eq_right (by omega : head ≤ j), Nat.min_eq_right (by omega : head ≤ j + 1)]
   unfold cameN
   by_cases hb : begB word rs head = true
   ·rw [if_pos hb, if_neg (by omega)]
   ·rw [if_neg hb, if_neg (by omega)]
def nearB (word rs : List Int) (k head : Nat) : Bool := decide (edits word rs ≤ k) && (decide (head ≤ rs.length) && begB word rs head)
theorem fin_near (word rs : List Int) (k head : Nat) : finS word.length k head (rowsZ word k head rs rs.length) = nearB word rs k head := by
 have h1 := rows_ed word rs (k : Int) (head : Int) (by omega) rs.length (Nat.le_refl _) word.length (Nat.le_refl _)
 have h2 := rows_came word rs (k : Int) head rs.length (Nat.le_refl _)
 unfold finS nearB
 rw [h1, h2]
 congr 1
 ·unfold edits
  by_cases e : edAt word rs word.length rs.length ≤ k
  ·rw [decide_eq_true e, decide_eq_true (by omega)]
  ·rw [decide_eq_false e, decide_eq_false (by omega)]
 ·by_cases hh : head ≤ rs.length
  ·rw [Nat.min_eq_right hh, decide_eq_true hh, Bool.true_and]
   by_cases hb : begB word rs head = true
   ·rw [if_pos hb, hb, decide_eq_true rfl]
   ·rw [if_neg hb]
    have hb' : begB word rs head = false := by simpa using hb
    rw [hb', decide_eq_false (by omega)]
  ·rw [Nat.min_eq_left (by omega), decide_eq_false hh, Bool.false_and]
   split
   ·rw [decide_eq_false (by omega)]
   ·rw [decide_eq_false (by omega)]
theorem sym_hit {word ls : List Int} (hm : ∀ y, y ∈ ls ↔ y ∈ word) (hz : ∀ z ∈ word, 0 ≤ z) {r : Int} (hr : 0 ≤ r) : ∀ i, i < word.length → hitZ word (letS ls (symZ ls r)) i = hitZ word r i := by
 intro i hi
 have hw : word.getD i 0 ∈ word := by rw [List.getD_eq_getElem?_getD, List.getElem?_eq_getElem hi]; exact List.getElem_mem hi
 unfold hitZ letS
 by_cases h : r ∈ ls
 ·have hlt : symZ ls r < ls.length := List.idxOf_lt_length_iff.2 h
  rw [if_pos hlt]
  have : ls.getD (symZ ls r) 0 = r := by
   rw [List.getD_eq_getElem?_getD, List.getElem?_eq_getElem hlt]
   exact List.getElem_idxOf hlt
  rw [this]
 ·have hge : symZ ls r = ls.length := List.idxOf_eq_length h
  rw [if_neg (by omega)]
  have h1 : word.getD i 0 ≠ r := fun e => h ((hm r).2 (e ▸ hw))
  have h2 := hz _ hw
  rw [decide_eq_false h1, decide_eq_false (by omega)]
theorem nextF_sameB {hit hit' : Nat → Bool} {k : Int} {f : Nat → Int} : ∀ (i : Nat), (∀ j, j < i → hit j = hit' j) → nextF hit k f i = nextF hit' k f i
 | 0, _ => rfl
 | i + 1, h => by
  have ih := nextF_sameB (k := k) (f := f) i (fun j hj => h j (by omega))
  simp only [nextF, ih]
  unfold dst
  rw [h i (by omega)]
theorem stepS_sameB {len : Nat} {k head : Int} {hit hit' : Nat → Bool} {z : List Int} (h : ∀ j, j < len → hit j = hit' j) (hh : head ≤ len) (hc : 0 ≤ fOf z (len + 1)) : stepS len k head hit z = stepS len k head hit' z := by
 unfold stepS
 rw [row_ext (fun i hi => nextF_sameB (k := k) (f := fOf z) i (fun j hj => h j (by omega)))]
 congr 2
 unfold cameN
 by_cases e : fOf z (len + 1) < head
 ·rw [if_pos e, if_pos e, h _ (by omega)]
 ·rw [if_neg e, if_neg e]
theorem Kaut.acc_fold {X : Type} (K : Kaut X) : ∀ (w : List Nat) (x : X), K.acc x w = K.fin (w.foldl K.step x)
 | [], _ => rfl
 | a :: w, x => Kaut.acc_fold K w (K.step x a)
theorem lang_near (word ls rs : List Int) (k head : Nat) (hm : ∀ y, y ∈ ls ↔ y ∈ word) (hz : ∀ z ∈ word, 0 ≤ z) (hr : ∀ r ∈ rs, 0 ≤ r) (hh : head ≤ word.length) : (fzK word ls k head).lang (ls.length + 1) (firstS word.length k) (rs.map (symZ ls)) = nearB word rs k head := by
 have hall : (rs.map (symZ ls)).all (fun a => decide (a < ls.length + 1)) = true := by
  rw [List.all_eq_true]
  intro a ha
  obtain ⟨r, _, rfl⟩ := List.mem_map.1 ha
  have := symZ_le ls r
  simp
  omega
 unfold Kaut.lang
 rw [hall, Bool.true_and, Kaut.acc_fold, ← fin_near]
 show finS word.length k head _ = _
 congr 1
 have key : ∀ j, j ≤ rs.length → ((rs.map (symZ ls)).take j).foldl (fzK word ls k head).step (firstS word.length k) = rowsZ word k head rs j ∧ RowOK word.length k head (rowsZ word k head rs j) := by
  intro j
  induction j with
  | zero => intro _; exact ⟨rfl, by rw [rowsZ_zero]; exact firstS_ok (by omega) (by omega)⟩
  | succ j ih =>
   intro h
   obtain ⟨i1, i2⟩ := ih (by omega)
   have hj : j < rs.length := by omega
   have hg : rs.getD j 0 = rs[j] := by rw [List.getD_eq_getElem?_getD, List.getElem?_eq_getElem hj]; rfl
   refine ⟨?_, by rw [rowsZ_succ hj]; exact i2.step (by omega) (by omega) _⟩
   rw [List.take_succ_eq_append_getElem (by rw [List.length_map]; exact hj), List.foldl_append, i1, rowsZ_succ hj, List.getElem_map]
   show stepS word.length k head (hitZ word (letS ls (symZ ls rs[j]))) (rowsZ word k head rs j) = _
   rw [hg]
   exact stepS_sameB (sym_hit hm hz (hr _ (List.getElem_mem hj))) (by omega) i2.came.1
 have := (key rs.length (Nat.le_refl _)).1
 rw [List.take_of_length_le (by rw [List.length_map]; exact Nat.le_refl _)] at this
 exact this
theorem near_run {word ls : List Int} {k head : Nat} {D : List PSt} (hD : sysL.Least ls.length ls ((fzK word ls k head).lang (ls.length + 1) (firstS word.length k)) D) (hn : ls.Nodup) (hm : ∀ y, y ∈ ls ↔ y ∈ word) (hz : ∀ z ∈ word, 0 ≤ z) (hh : head ≤ word.length) (rs : List Int) (hr : ∀ r ∈ rs, 0 ≤ r) : finP D (rs.foldl (stepP D) 0) = nearB word rs k head := by
 rw [least_run hD hn rfl rs, lang_near word ls rs k head hm hz hr hh]
end Go.Proofs.YtoinajfliogcdaaDoor

namespace Go.Proofs.YtoinajfliogcdaaDoor
open Go
set_option maxRecDepth 100000 in
set_option maxHeartbeats 1000000 in
theorem decodeN_chr (n b0 b1 b2 b3 : Nat) (h : ¬ Lib.decodeN n b0 b1 b2 b3 = (65533, 1)) : chr ((Lib.decodeN n b0 b1 b2 b3).1 : Int) = true := by
 revert h
 unfold Lib.decodeN
 repeat' split
 all_goals intro h
 all_goals first | (exact absurd rfl h) | (rw [chr_iff]; simp only; omega)
theorem rune_chr (s : ByteArray) (p : Nat) (h : ¬ bad s p) : chr ((Utf8.decode s p).1 : Int) = true := by
 rw [bad_iff, decode_bytes] at h
 rw [decode_bytes]
 exact decodeN_chr _ _ _ _ _ h
theorem good_of (s : ByteArray) (p : Nat) (h : p < s.size) (hv : vFrom s p = true) : ¬ bad s p := by
 intro hb
 rw [vFrom_bad s p h hb] at hv
 cases hv
theorem runesFrom_chr (s : ByteArray) : ∀ f p, vFrom s p = true → ∀ r ∈ runesFrom s f p, chr r = true
 | 0, _, _, r, hr => by simp [runesFrom] at hr
 | f + 1, p, hv, r, hr => by
  by_cases h : p < s.size
  ·have hg := good_of s p h hv
   rw [runesFrom_step s f p h] at hr
   rcases List.mem_cons.1 hr with rfl | hr
   ·exact rune_chr s p hg
   ·exact runesFrom_chr s f _ (by rw [vFrom_good s p h hg]; exact hv) r hr
  ·rw [runesFrom_end s _ p h] at hr; cases hr
theorem runes_chr (s : ByteArray) (hv : validB s = true) : ∀ r ∈ runes s, chr r = true := runesFrom_chr s _ _ (by rw [vFrom_zero]; exact hv)
end Go.Proofs.YtoinajfliogcdaaDoor
