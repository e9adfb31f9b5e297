import Derived.Test.YtefhmbnhhkgifaaDoK
import Derived.Test.YtefhmbnhhkgifaaRbP
namespace Go.Proofs.Ytefhmbnhhkgifaa
open Go Go.RowKit
set_option linter.unusedVariables false
set_option maxRecDepth 100000

def szN (left : Int) (n : Nat) : Int := if left - (n : Int) < 0 then -1 else left - (n : Int)
theorem szN_le (left : Int) (n : Nat) (h0 : 0 ≤ left) : -1 ≤ szN left n ∧ szN left n ≤ left := by
  unfold szN; split <;> omega
def szG {X : Type} (g : Int → X → Int) : Int → List X → Int
  | left, [] => left
  | left, x :: t => if g left x < 0 then -1 else szG g (g left x) t
theorem szG_step {X : Type} (g : Int → X → Int) (l : List X) (d : X) (k : Nat) (left : Int) (h : k < l.length) : szG g left (l.drop k) = if g left (l.getD k d) < 0 then -1 else szG g (g left (l.getD k d)) (l.drop (k + 1)) := by
  rw [List.drop_eq_getElem_cons h, szG]; simp [h]
theorem szG_ge {X : Type} (g : Int → X → Int) : ∀ (l : List X) (left : Int), 0 ≤ left → -1 ≤ szG g left l
  | [], left, h => by simp only [szG]; omega
  | x :: t, left, h => by
    simp only [szG]
    split
    · omega
    · exact szG_ge g t _ (by omega)
theorem szG_le {X : Type} (g : Int → X → Int) (hg : ∀ a x, 0 ≤ a → g a x ≤ a) : ∀ (l : List X) (left : Int), 0 ≤ left → szG g left l ≤ left
  | [], left, h => by simp only [szG]; omega
  | x :: t, left, h => by
    simp only [szG]
    split
    · omega
    · have h1 := hg left x h
      have h2 := szG_le g hg t (g left x) (by omega)
      omega
theorem szG_mem {X : Type} (g : Int → X → Int) (hg : ∀ a x, 0 ≤ a → g a x ≤ a) : ∀ (l : List X) (left : Int), 0 ≤ left → 0 ≤ szG g left l → ∀ x ∈ l, ∃ a, 0 ≤ a ∧ a ≤ left ∧ 0 ≤ g a x
  | [], left, h, h0, x, hx => by simp at hx
  | y :: t, left, h, h0, x, hx => by
    simp only [szG] at h0
    split at h0
    · omega
    · rename_i hn
      rcases List.mem_cons.1 hx with rfl | hx
      · exact ⟨left, h, by omega, by omega⟩
      · obtain ⟨a, h1, h2, h3⟩ := szG_mem g hg t _ (by omega) h0 x hx
        have := hg left y h
        exact ⟨a, h1, by omega, h3⟩
theorem szG_len {X : Type} (g : Int → X → Int) (f : X → List UInt8) (P : X → Prop) (hg : ∀ a x, P x → 0 ≤ a → a ≤ 1048576 → 0 ≤ g a x → g a x ≤ a ∧ ((f x).length : Int) ≤ 27 + 27 * (a - g a x)) : ∀ (l : List X) (left : Int), (∀ x ∈ l, P x) → 0 ≤ left → left ≤ 1048576 → 0 ≤ szG g left l → szG g left l ≤ left ∧ ((l.flatMap f).length : Int) ≤ 27 * (l.length : Int) + 27 * (left - szG g left l)
  | [], left, hp, h, h1, h0 => by simp only [szG]; simp
  | y :: t, left, hp, h, h1, h0 => by
    simp only [szG] at h0 ⊢
    split at h0
    · omega
    · rename_i hn
      rw [if_neg hn]
      obtain ⟨a1, a2⟩ := hg left y (hp y List.mem_cons_self) h h1 (by omega)
      obtain ⟨b1, b2⟩ := szG_len g f P hg t (g left y) (fun x hx => hp x (List.mem_cons_of_mem _ hx)) (by omega) (by omega) h0
      rw [List.flatMap_cons, List.length_append, List.length_cons]
      push_cast
      omega
def szTx (left : Int) (l : List (List UInt8)) : Int := if left - (l.length : Int) < 0 then -1 else szG (fun a t => szN a t.length) (left - (l.length : Int)) l
def szVl (left : Int) (v : Vl) : Int := if szN left v.1.length < 0 then -1 else if szTx (szN left v.1.length) v.2.1 < 0 then -1 else szN (szTx (szN left v.1.length) v.2.1) v.2.2.length
def szVs (left : Int) (V : List Vl) : Int := if left - (V.length : Int) < 0 then -1 else szG szVl (left - (V.length : Int)) V
def szDcL (left : Int) (d : Dc) : Int := if szN left d.1.length < 0 then -1 else szVs (szN left d.1.length) d.2
theorem szTx_le (left : Int) (l : List (List UInt8)) (h : 0 ≤ left) : -1 ≤ szTx left l ∧ szTx left l ≤ left := by
  unfold szTx
  split
  · omega
  · have h1 := szG_ge (fun a (t : List UInt8) => szN a t.length) l (left - (l.length : Int)) (by omega)
    have h2 := szG_le (fun a (t : List UInt8) => szN a t.length) (fun a t ha => (szN_le a t.length ha).2) l (left - (l.length : Int)) (by omega)
    omega
theorem szVl_le (left : Int) (v : Vl) (h : 0 ≤ left) : -1 ≤ szVl left v ∧ szVl left v ≤ left := by
  unfold szVl
  have h1 := szN_le left v.1.length h
  split
  · omega
  · have h2 := szTx_le (szN left v.1.length) v.2.1 (by omega)
    split
    · omega
    · have h3 := szN_le (szTx (szN left v.1.length) v.2.1) v.2.2.length (by omega)
      omega
theorem szVs_le (left : Int) (V : List Vl) (h : 0 ≤ left) : -1 ≤ szVs left V ∧ szVs left V ≤ left := by
  unfold szVs
  split
  · omega
  · have h1 := szG_ge szVl V (left - (V.length : Int)) (by omega)
    have h2 := szG_le szVl (fun a v ha => (szVl_le a v ha).2) V (left - (V.length : Int)) (by omega)
    omega
theorem szN_ok {left : Int} {n : Nat} (h : 0 ≤ szN left n) : szN left n = left - (n : Int) ∧ (n : Int) ≤ left := by
  unfold szN at h ⊢
  split at h
  · omega
  · rename_i hn; rw [if_neg hn]; omega
theorem szVl_ok {a : Int} {v : Vl} (h0 : 0 ≤ a) (h : 0 ≤ szVl a v) : 0 ≤ szN a v.1.length ∧ 0 ≤ szTx (szN a v.1.length) v.2.1 ∧ szVl a v = szN (szTx (szN a v.1.length) v.2.1) v.2.2.length := by
  unfold szVl at h ⊢
  split at h
  · omega
  · rename_i h1
    rw [if_neg h1]
    split at h
    · omega
    · rename_i h2
      rw [if_neg h2]
      exact ⟨by omega, by omega, rfl⟩
theorem szTx_ok {a : Int} {l : List (List UInt8)} (h : 0 ≤ szTx a l) : (l.length : Int) ≤ a ∧ szTx a l = szG (fun a t => szN a t.length) (a - (l.length : Int)) l := by
  unfold szTx at h ⊢
  split at h
  · omega
  · rename_i h1; rw [if_neg h1]; exact ⟨by omega, rfl⟩
theorem szVl_lens {a : Int} {v : Vl} (h0 : 0 ≤ a) (h1 : a ≤ 1048576) (h : 0 ≤ szVl a v) : v.1.length ≤ 1048576 ∧ v.2.1.length ≤ 1048576 ∧ v.2.2.length ≤ 1048576 := by
  obtain ⟨a1, a2, a3⟩ := szVl_ok h0 h
  have b1 := szN_ok a1
  have b2 := szTx_ok a2
  have b3 := szTx_le (szN a v.1.length) v.2.1 a1
  have b4 := szN_ok (left := szTx (szN a v.1.length) v.2.1) (n := v.2.2.length) (by rw [← a3]; exact h)
  omega
theorem szVl_len {a : Int} {v : Vl} (hok : vlOK v = true) (h0 : 0 ≤ a) (h1 : a ≤ 1048576) (h : 0 ≤ szVl a v) : szVl a v ≤ a ∧ ((vlB v).length : Int) ≤ 27 + 27 * (a - szVl a v) := by
  refine ⟨(szVl_le a v h0).2, ?_⟩
  obtain ⟨a1, a2, a3⟩ := szVl_ok h0 h
  have b1 := szN_ok a1
  have b2 := szTx_ok a2
  have b4 := szN_ok (left := szTx (szN a v.1.length) v.2.1) (n := v.2.2.length) (by rw [← a3]; exact h)
  obtain ⟨⟨p1, p2, p3⟩, p4, p5⟩ := vlOK_parts hok
  have c1 := putL_length9 v.1.length (by omega)
  have c2 := putL_length9 v.2.1.length (by omega)
  have c3 := putL_length9 v.2.2.length (by omega)
  have c5 := flat_len nuB v.2.2 9 (fun z hz => nuB_len (p5 z hz))
  have c6 := szG_len (fun a (t : List UInt8) => szN a t.length) txB (fun t => t.length ≤ 65536) (fun x t ht hx0 hx1 hx2 => by
    have q1 := szN_ok hx2
    have q2 := putL_length9 t.length (by omega)
    refine ⟨by omega, ?_⟩
    rw [txB, List.length_append]
    push_cast
    omega) v.2.1 (szN a v.1.length - (v.2.1.length : Int)) p4 (by omega) (by omega) (by rw [← b2.2]; exact a2)
  rw [← b2.2] at c6
  simp only [vlB, txB, List.length_append]
  push_cast
  omega
theorem szDcL_ok {left : Int} {d : Dc} (hl0 : 0 ≤ left) (hl1 : left ≤ 1048576) (h : 0 ≤ szDcL left d) : d.1.length ≤ 1048576 ∧ d.2.length ≤ 1048576 ∧ (∀ i, (d.2.getD i vl0).1.length ≤ 1048576 ∧ (d.2.getD i vl0).2.1.length ≤ 1048576 ∧ (d.2.getD i vl0).2.2.length ≤ 1048576) ∧ (dcOK d = true → (dcB d).length ≤ 500000000) := by
  unfold szDcL at h
  split at h
  · omega
  · rename_i h1
    have b1 := szN_ok (left := left) (n := d.1.length) (by omega)
    unfold szVs at h
    split at h
    · omega
    · rename_i h2
      refine ⟨by omega, by omega, fun i => ?_, fun hok => ?_⟩
      · by_cases hi : i < d.2.length
        · obtain ⟨a, q1, q2, q3⟩ := szG_mem szVl (fun a v ha => (szVl_le a v ha).2) d.2 _ (by omega) h _ (getD_mem (d := vl0) hi)
          exact szVl_lens q1 (by omega) q3
        · simp [hi, vl0]
      · obtain ⟨⟨p1, p2⟩, p3⟩ := dcOK_parts hok
        have c6 := szG_len szVl vlB (fun v => vlOK v = true) (fun a v hv ha0 ha1 ha2 => szVl_len hv ha0 ha1 ha2) d.2 _ p3 (by omega) (by omega) h
        have c1 := putL_length9 d.1.length (by omega)
        have c2 := putL_length9 d.2.length (by omega)
        simp only [dcB, txB, List.length_append]
        omega
theorem szG_sum {X : Type} (g : Int → X → Int) (f : X → Nat) (hg : ∀ a x, 0 ≤ a → 0 ≤ g a x → g a x ≤ a ∧ (f x : Int) ≤ a - g a x) : ∀ (l : List X) (left : Int), 0 ≤ left → 0 ≤ szG g left l → szG g left l ≤ left ∧ (((l.map f).sum : Nat) : Int) ≤ left - szG g left l
  | [], left, h, h0 => by simp only [szG]; simp
  | y :: t, left, h, h0 => by
    simp only [szG] at h0 ⊢
    split at h0
    · omega
    · rename_i hn
      rw [if_neg hn]
      obtain ⟨a1, a2⟩ := hg left y h (by omega)
      obtain ⟨b1, b2⟩ := szG_sum g f hg t (g left y) (by omega) h0
      simp only [List.map_cons, List.sum_cons]
      push_cast
      omega
theorem szTx_sum {a : Int} {l : List (List UInt8)} (h0 : 0 ≤ a) (h : 0 ≤ szTx a l) : (txSum l : Int) + (l.length : Int) ≤ a - szTx a l := by
  obtain ⟨h1, h2⟩ := szTx_ok h
  rw [h2] at h ⊢
  have := (szG_sum (fun a (t : List UInt8) => szN a t.length) List.length (fun x t hx hx2 => by have := szN_ok hx2; omega) l _ (by omega) h).2
  unfold txSum
  omega
theorem szVl_sum {a : Int} {v : Vl} (h0 : 0 ≤ a) (h : 0 ≤ szVl a v) : szVl a v ≤ a ∧ ((txSum v.2.1 + vlL v : Nat) : Int) ≤ a - szVl a v := by
  obtain ⟨a1, a2, a3⟩ := szVl_ok h0 h
  have b1 := szN_ok a1
  have b2 := szTx_sum a1 a2
  have b4 := szN_ok (left := szTx (szN a v.1.length) v.2.1) (n := v.2.2.length) (by rw [← a3]; exact h)
  unfold vlL
  omega
theorem leV_sum (V : List Vl) : leV V = (V.map fun v => txSum v.2.1 + vlL v).sum := by
  unfold leV bodyV lsV
  induction V with
  | nil => rfl
  | cons v t ih => simp only [List.map_cons, List.sum_cons]; omega
theorem szDcL_sum {left : Int} {d : Dc} (hl0 : 0 ≤ left) (hl1 : left ≤ 1048576) (h : 0 ≤ szDcL left d) : leV d.2 ≤ 1048576 := by
  unfold szDcL at h
  split at h
  · omega
  · rename_i h1
    have b1 := szN_ok (left := left) (n := d.1.length) (by omega)
    unfold szVs at h
    split at h
    · omega
    · rename_i h2
      have := (szG_sum szVl (fun v => txSum v.2.1 + vlL v) (fun a v ha hv => szVl_sum ha hv) d.2 _ (by omega) h).2
      rw [leV_sum]
      omega
end Go.Proofs.Ytefhmbnhhkgifaa
