import Derived.Test.YtjndogajdlophaaDictRangeJ10
import Derived.Test.YtjndogajdlophaaDictRangeJ13
import Derived.Test.YtjndogajdlophaaDictRangeJ04
import Derived.Deep.AppendLies
namespace Go.Proofs.Ytjndogajdlophaa
open Go Go.RowKit
set_option linter.unusedVariables false
set_option maxRecDepth 100000

/-- The terms of a dictionary, if it is one. -/
noncomputable def dictT (c : Int) (S : List St) : Option (List Tx) := @dite _ (∃ ts, IsDict (c, S) ts) (Classical.propDecidable _) (fun h => some (Classical.choose h)) (fun _ => none)
theorem dictT_some {c : Int} {S : List St} {ts : List Tx} (h : IsDict (c, S) ts) : dictT c S = some ts := by
  have he : ∃ ts, IsDict (c, S) ts := ⟨ts, h⟩
  unfold dictT
  rw [dif_pos he, (Classical.choose_spec he).uniq h]
theorem dictT_none {c : Int} {S : List St} (h : ¬ ∃ ts, IsDict (c, S) ts) : dictT c S = none := by
  unfold dictT
  rw [dif_neg h]
theorem okD_cases (c : Int) (S : List St) : (okD c S = true ∧ ∃ ts, IsDict (c, S) ts) ∨ (okD c S = false ∧ ¬ ∃ ts, IsDict (c, S) ts) := by
  rcases Classical.em (∃ ts, IsDict (c, S) ts) with h | h
  · exact Or.inl ⟨okD_true h, h⟩
  · exact Or.inr ⟨okD_false h, h⟩
/-- What DictFind tells. -/
def findO (d : Option (List Tx)) (t : Tx) : Int × Int := if 65536 < t.length then (0, 2) else match d with
  | none => (0, 1)
  | some ts => if t ∈ ts then (((ts.idxOf t : Nat) : Int), 0) else (0, 8)
def FindC (fn : Nat) : Prop := ∀ (c : Int) (a : Option Addr) (cap : Nat) (S : List St) (t : Tx) (w : World), S.length ≤ 1048576 → (∀ i, (arcsAt S i).length ≤ 1048576) → HoldS w a S →
  Calls Try.prog fn #[.agg #[.int .i64 c, .slice a S.length cap], .string ⟨t.toArray⟩] w fun e w' => e = .returned (.tuple #[.int .i64 (findO (dictT c S) t).1, .int .i64 (findO (dictT c S) t).2]) ∧ Below w.heap.size w w'
theorem findO_long {d : Option (List Tx)} {t : Tx} (h : 65536 < t.length) : findO d t = (0, 2) := by unfold findO; rw [if_pos h]
theorem findO_none {t : Tx} (h : ¬ 65536 < t.length) : findO none t = (0, 1) := by rw [findO, if_neg h]
theorem findO_in {t : Tx} {ts : List Tx} (h : ¬ 65536 < t.length) (hm : t ∈ ts) : findO (some ts) t = (((ts.idxOf t : Nat) : Int), 0) := by rw [findO, if_neg h]; simp [hm]
theorem findO_out {t : Tx} {ts : List Tx} (h : ¬ 65536 < t.length) (hm : t ∉ ts) : findO (some ts) t = (0, 8) := by rw [findO, if_neg h]; simp [hm]
theorem lst_str (x y : Tx) : ((⟨x.toArray⟩ : ByteArray).toList == (⟨y.toArray⟩ : ByteArray).toList) = decide (x = y) := by
  rw [Lib.toList_data, Lib.toList_data]
  by_cases h : x = y <;> simp [h]

end Go.Proofs.Ytjndogajdlophaa

namespace Go.Proofs.Ytjndogajdlophaa
open Go
set_option linter.unusedVariables false

/-! The way of a number through a dictionary, in plain words. -/
theorem rk_append : ∀ (p q : Tx) (L : List Tx), rk (p ++ q) L = rk p L + rk q (subs p L)
  | [], q, L => by rw [List.nil_append, rk_nil, subs]; omega
  | a :: p, q, L => by rw [List.cons_append, rk_cons, rk_append p q, rk_cons, subs]; omega
theorem ahead_mono {n n' : Nat} (h : n ≤ n') (L : List Tx) : aheadT n L ≤ aheadT n' L := by
  refine List.countP_mono_left fun s _ hs => ?_
  cases s with
  | nil => rfl
  | cons c r =>
    simp only [isAhead, decide_eq_true_eq] at hs ⊢
    omega
theorem ahead_add {n n' : Nat} (h : n < n') : ∀ L : List Tx, aheadT n L + (subT n L).length ≤ aheadT n' L
  | [] => Nat.le_refl _
  | s :: L => by
    have ih := ahead_add h L
    unfold aheadT subT at ih ⊢
    rw [List.countP_cons, List.countP_cons, List.filterMap_cons]
    cases s with
    | nil => simp [isAhead, tailIf]; omega
    | cons c r =>
      by_cases h1 : c.toNat = n
      · have h2 : c.toNat < n' := by omega
        have h3 : ¬ c.toNat < n := by omega
        simp only [tailIf, if_pos h1, isAhead, h2, h3, decide_true, decide_false, if_true, List.length_cons]
        simp; omega
      · simp only [tailIf, if_neg h1, isAhead]
        by_cases h2 : c.toNat < n
        · have h3 : c.toNat < n' := by omega
          simp [h2, h3]; omega
        · simp [h2]; omega
theorem sub_pos {L : List Tx} {n : Nat} (h : n ∈ labelsT L) : 1 ≤ (subT n L).length := by
  have := (labelsT_mem.1 h).2
  exact List.length_pos_iff.2 this
theorem stOf_ahead (ord : List (List Tx)) (L : List Tx) : (stOf ord L).2.Pairwise fun a b => a.2.2 < b.2.2 := by
  unfold stOf
  rw [List.pairwise_map]
  refine (labelsT_lt L).imp_of_mem fun {a b} ha hb h => ?_
  have h1 := ahead_add h L
  have h2 := sub_pos ha
  show ((aheadT a L : Nat) : Int) < ((aheadT b L : Nat) : Int)
  omega
theorem rise_lt {L : List Tx} {q : Tx} (hr : RiseT L) (hq : q ∈ L) : rk q L < L.length := by
  rw [← rise_rk hr hq]
  exact List.idxOf_lt_length_of_mem hq
theorem rk_pos {L : List Tx} {q : Tx} (h0 : [] ∈ L) (hq : q ≠ []) : 0 < rk q L := by
  unfold rk
  rw [List.countP_pos_iff]
  refine ⟨[], h0, ?_⟩
  cases q with
  | nil => exact absurd rfl hq
  | cons b r => rfl
/-- Which arc leads on to a text. -/
theorem seek_arc {ord : List (List Tx)} {L : List Tx} {b : UInt8} {q : Tx} (hr : RiseT L) (hm : (b :: q) ∈ L) :
    b.toNat ∈ labelsT L ∧ q ∈ subT b.toNat L ∧ ∃ k, below (fun a => a.2.2) (((rk (b :: q) L : Nat) : Int) + 1) (stOf ord L).2 = k + 1 ∧ (stOf ord L).2[k]? = some ((b.toNat : Int), ((ord.idxOf (subT b.toNat L) : Nat) : Int), ((aheadT b.toNat L : Nat) : Int)) := by
  have hq : q ∈ subT b.toNat L := subT_mem.2 ⟨b, rfl, hm⟩
  have hl : b.toNat ∈ labelsT L := labelsT_mem.2 ⟨UInt8.toNat_lt b, fun e => by rw [e] at hq; simp at hq⟩
  refine ⟨hl, hq, ?_⟩
  obtain ⟨k, hk, hkb⟩ := List.getElem_of_mem hl
  have hk' : (labelsT L)[k]? = some b.toNat := by rw [List.getElem?_eq_getElem hk, hkb]
  have hlen : (stOf ord L).2.length = (labelsT L).length := by simp [stOf]
  have hrk := rk_cons b q L
  have hlt := rise_lt (subT_rise (n := b.toNat) hr) hq
  have hget : ∀ t (ht : t < (labelsT L).length), ((stOf ord L).2.getD t ar0).2.2 = ((aheadT (labelsT L)[t] L : Nat) : Int) := fun t ht => by
    have := stOf_at (ord := ord) (List.getElem?_eq_getElem ht)
    rw [List.getD_eq_getElem?_getD, this]; rfl
  refine ⟨k, below_edge _ _ _ _ (by omega) (fun t ht => ?_) (fun t ht1 ht2 => ?_), stOf_at hk'⟩
  · have htl : t < (labelsT L).length := by omega
    rw [hget t htl]
    have : (labelsT L)[t] ≤ b.toNat := by
      by_cases e : t = k
      · subst e; omega
      · have := List.pairwise_iff_getElem.1 (labelsT_lt L) t k htl hk (by omega); omega
    have := ahead_mono this L
    omega
  · have htl : t < (labelsT L).length := by omega
    rw [hget t htl]
    have h1 : b.toNat < (labelsT L)[t] := by
      have := List.pairwise_iff_getElem.1 (labelsT_lt L) k t hk htl (by omega); omega
    have := ahead_add h1 L
    omega
end Go.Proofs.Ytjndogajdlophaa

namespace Go.Proofs.Ytjndogajdlophaa
open Go
set_option linter.unusedVariables false

/-! The terms that begin with given bytes, in plain words. -/
def begs (p s : Tx) : Bool := p.isPrefixOf s
theorem begs_nil (s : Tx) : begs [] s = true := by cases s <;> rfl
theorem begs_cons (b c : UInt8) (p s : Tx) : begs (b :: p) (c :: s) = (b == c && begs p s) := rfl
theorem subT_count (b : UInt8) (p : Tx) : ∀ L : List Tx, (subT b.toNat L).countP (begs p) = L.countP (begs (b :: p))
  | [] => rfl
  | s :: L => by
    have ih := subT_count b p L
    unfold subT at ih ⊢
    rw [List.filterMap_cons, List.countP_cons]
    cases s with
    | nil => simp only [tailIf]; rw [ih]; simp [begs]
    | cons c r =>
      by_cases h : c.toNat = b.toNat
      · have e : c = b := UInt8.toNat_inj.1 h
        subst e
        simp only [tailIf, if_true]
        rw [List.countP_cons, ih]
        simp [begs]
      · have e : ¬ b = c := fun e => h (by rw [e])
        simp only [tailIf, if_neg h]
        rw [ih]
        simp [begs, e]
theorem subs_count : ∀ (p : Tx) (L : List Tx), (subs p L).length = L.countP (begs p)
  | [], L => by
    rw [subs]
    exact (List.countP_eq_length.2 fun s _ => begs_nil s).symm
  | b :: p, L => by rw [subs, subs_count p, subT_count]
theorem begs_ge : ∀ {p s : Tx}, begs p s = true → ltT s p = false
  | [], s, _ => by cases s <;> rfl
  | b :: p, [], h => by simp [begs] at h
  | b :: p, c :: s, h => by
    rw [begs_cons, Bool.and_eq_true, beq_iff_eq] at h
    obtain ⟨rfl, h2⟩ := h
    have := begs_ge h2
    simp [ltT, this]
/-- What lies between a beginning and a text with it has it, too. -/
theorem begs_mid : ∀ {p x y : Tx}, ltT x p = false → begs p y = true → (x = y ∨ ltT x y = true) → begs p x = true
  | [], x, y, _, _, _ => begs_nil x
  | b :: p, x, [], _, h, _ => by simp [begs] at h
  | b :: p, [], c :: y, h1, _, _ => by simp [ltT] at h1
  | b :: p, a :: x, c :: y, h1, h2, h3 => by
    rw [begs_cons, Bool.and_eq_true, beq_iff_eq] at h2
    obtain ⟨rfl, h2⟩ := h2
    have h4 : ¬ a.toNat < b.toNat := by
      intro e
      simp [ltT, e] at h1
    rcases h3 with h3 | h3
    · obtain ⟨rfl, rfl⟩ := List.cons.inj h3
      rw [begs_cons, h2]; simp
    · rw [ltT_cons] at h3
      rcases h3 with h3 | ⟨rfl, h3⟩
      · omega
      · have h5 : ltT x p = false := by
          cases e : ltT x p with
          | false => rfl
          | true => simp [ltT, e] at h1
        rw [begs_cons, begs_mid h5 h2 (Or.inr h3)]; simp
theorem rk_edge : ∀ {L : List Tx} {p : Tx}, RiseT L → (∀ j, j < rk p L → ltT (L.getD j []) p = true) ∧ (∀ j, rk p L ≤ j → j < L.length → ltT (L.getD j []) p = false)
  | [], p, _ => ⟨fun j h => by simp [rk] at h, fun j _ h => by simp at h⟩
  | s :: L, p, hr => by
    have hr' := List.pairwise_cons.1 hr
    have ih := rk_edge (p := p) hr'.2
    by_cases h : ltT s p = true
    · have e : rk p (s :: L) = rk p L + 1 := by unfold rk; rw [List.countP_cons_of_pos (by simpa using h)]
      rw [e]
      refine ⟨fun j hj => ?_, fun j h1 h2 => ?_⟩
      · cases j with
        | zero => simpa using h
        | succ j => simpa using ih.1 j (by omega)
      · cases j with
        | zero => omega
        | succ j => simpa using ih.2 j (by omega) (by simpa using h2)
    · have h' : ltT s p = false := by simpa using h
      have hz : rk p (s :: L) = 0 := by
        unfold rk
        rw [List.countP_eq_zero]
        intro x hx hlt
        rcases List.mem_cons.1 hx with rfl | hx
        · exact h hlt
        · exact h (ltT_trans (hr'.1 x hx) hlt)
      rw [hz]
      refine ⟨fun j hj => by omega, fun j _ h2 => ?_⟩
      cases j with
      | zero => simpa using h'
      | succ j =>
        have hj : j < L.length := by simpa using h2
        cases e : ltT ((s :: L).getD (j + 1) []) p with
        | false => rfl
        | true =>
          have e2 : (s :: L).getD (j + 1) [] = L[j] := by simp [hj]
          rw [e2] at e
          exact absurd (ltT_trans (hr'.1 _ (List.getElem_mem hj)) e) h
/-- The first one that begins so. -/
theorem first_rk {L : List Tx} {p : Tx} {i : Nat} (hr : RiseT L) (hi : i < L.length) (hb : begs p (L.getD i []) = true) (hn : ∀ j, j < i → begs p (L.getD j []) = false) : i = rk p L := by
  obtain ⟨e1, e2⟩ := rk_edge (p := p) hr
  have h1 : rk p L ≤ i := by
    rcases Nat.lt_or_ge i (rk p L) with h | h
    · have := e1 i h
      rw [begs_ge hb] at this; cases this
    · exact h
  rcases Nat.lt_or_ge (rk p L) i with h | h
  · have h3 := hn _ h
    have h4 := begs_mid (e2 _ (Nat.le_refl _) (by omega)) hb (Or.inr (by
      rw [getD_at hi, getD_at (show rk p L < L.length by omega)]
      exact List.pairwise_iff_getElem.1 hr _ _ (by omega) hi h))
    rw [h3] at h4; cases h4
  · omega
/-- What DictRange tells. -/
def rangeO (d : Option (List Tx)) (p : Tx) : Int × Int × Int := if 65536 < p.length then (0, 0, 2) else match d with
  | none => (0, 0, 1)
  | some ts => if (subs p ts).length = 0 then (0, 0, 8) else (((rk p ts : Nat) : Int), (((subs p ts).length : Nat) : Int), 0)
theorem rangeO_long {d : Option (List Tx)} {t : Tx} (h : 65536 < t.length) : rangeO d t = (0, 0, 2) := by unfold rangeO; rw [if_pos h]
theorem rangeO_none {t : Tx} (h : ¬ 65536 < t.length) : rangeO none t = (0, 0, 1) := by unfold rangeO; rw [if_neg h]
theorem rangeO_out {t : Tx} {ts : List Tx} (h : ¬ 65536 < t.length) (hm : (subs t ts).length = 0) : rangeO (some ts) t = (0, 0, 8) := by unfold rangeO; rw [if_neg h]; simp only [if_pos hm]
theorem rangeO_in {t : Tx} {ts : List Tx} (h : ¬ 65536 < t.length) (hm : ¬ (subs t ts).length = 0) : rangeO (some ts) t = (((rk t ts : Nat) : Int), (((subs t ts).length : Nat) : Int), 0) := by unfold rangeO; rw [if_neg h]; simp only [if_neg hm]
/-- Where the search from the end stands. -/
structure Back (ts : List Tx) (p : Tx) (m first n : Nat) : Prop where
  le : m ≤ ts.length
  cnt : n = (ts.drop m).countP (begs p)
  zero : n = 0 → first = 0
  pos : 0 < n → m ≤ first ∧ first < ts.length ∧ begs p (ts.getD first []) = true ∧ ∀ j, m ≤ j → j < first → begs p (ts.getD j []) = false
theorem Back.start (ts : List Tx) (p : Tx) : Back ts p ts.length 0 0 := ⟨Nat.le_refl _, by simp, fun _ => rfl, fun h => by omega⟩
theorem drop_count {ts : List Tx} {p : Tx} {m : Nat} (h : m < ts.length) : (ts.drop m).countP (begs p) = (ts.drop (m + 1)).countP (begs p) + (if begs p (ts.getD m []) then 1 else 0) := by
  rw [List.drop_eq_getElem_cons h, List.countP_cons, getD_at h]
theorem Back.hit {ts : List Tx} {p : Tx} {m first n : Nat} (h : Back ts p (m + 1) first n) (hb : begs p (ts.getD m []) = true) : Back ts p m m (n + 1) := by
  have hm : m < ts.length := by have := h.le; omega
  refine ⟨by omega, by rw [drop_count hm, ← h.cnt, hb]; rfl, fun e => by omega, fun _ => ⟨Nat.le_refl _, hm, hb, fun j h1 h2 => by omega⟩⟩
theorem Back.miss {ts : List Tx} {p : Tx} {m first n : Nat} (h : Back ts p (m + 1) first n) (hb : begs p (ts.getD m []) = false) : Back ts p m first n := by
  have hm : m < ts.length := by have := h.le; omega
  refine ⟨by omega, by rw [drop_count hm, ← h.cnt, hb]; rfl, h.zero, fun e => ?_⟩
  obtain ⟨h1, h2, h3, h4⟩ := h.pos e
  refine ⟨by omega, h2, h3, fun j hj1 hj2 => ?_⟩
  by_cases e2 : j = m
  · rw [e2]; exact hb
  · exact h4 j (by omega) hj2
theorem Back.done {ts : List Tx} {p : Tx} {first n : Nat} (hr : RiseT ts) (h : Back ts p 0 first n) : n = (subs p ts).length ∧ (0 < n → first = rk p ts) := by
  refine ⟨by rw [subs_count, h.cnt, List.drop_zero], fun e => ?_⟩
  obtain ⟨_, h2, h3, h4⟩ := h.pos e
  exact first_rk hr h2 h3 fun j hj => h4 j (Nat.zero_le _) hj
end Go.Proofs.Ytjndogajdlophaa

namespace Go.Proofs.Ytjndogajdlophaa
open Go Go.RowKit
set_option linter.unusedVariables false
set_option maxRecDepth 100000

def RangeC (fn : Nat) : Prop := ∀ (c : Int) (a : Option Addr) (cap : Nat) (S : List St) (t : Tx) (w : World), S.length ≤ 1048576 → (∀ i, (arcsAt S i).length ≤ 1048576) → HoldS w a S →
  Calls Try.prog fn #[.agg #[.int .i64 c, .slice a S.length cap], .string ⟨t.toArray⟩] w fun e w' => e = .returned (.tuple #[.int .i64 (rangeO (dictT c S) t).1, .int .i64 (rangeO (dictT c S) t).2.1, .int .i64 (rangeO (dictT c S) t).2.2]) ∧ Below w.heap.size w w'
theorem begins_take (p s : Tx) (h : p.length ≤ s.length) : (s.take p.length == p) = begs p s := by
  unfold begs
  rw [Bool.eq_iff_iff, beq_iff_eq, List.isPrefixOf_iff_prefix]
  exact ⟨fun e => List.prefix_iff_eq_take.2 e.symm, fun e => (List.prefix_iff_eq_take.1 e).symm⟩
theorem ext_take (s : Tx) (n : Nat) : ((⟨s.toArray⟩ : ByteArray).extract 0 n).toList = s.take n := by
  rw [Lib.toList_data, ByteArray.data_extract]
  simp
set_option maxHeartbeats 1000000 in
theorem begins_any (s p : Tx) (w : World) : Calls Try.prog 27 #[.string ⟨s.toArray⟩, .string ⟨p.toArray⟩] w fun e w' => e = .returned (.bool (begs p s)) ∧ ∃ m, w' = w.drewN m := by
  have hs : (⟨s.toArray⟩ : ByteArray).size = s.length := by rw [Lib.size_eq]
  have hp : (⟨p.toArray⟩ : ByteArray).size = p.length := by rw [Lib.size_eq]
  go_enter Try.func27, Try.ntmps27
  by_cases h : p.length ≤ s.length
  · have hz : (s.length : Int) ≥ (p.length : Int) := by omega
    have HB := hidd (begins_take p s h)
    go_wp2_with fail
    go_ret
    exact ⟨by rw [← HB.out, ← ext_take]; rfl, 0, rfl⟩
  · have hz : ¬ (s.length : Int) ≥ (p.length : Int) := by omega
    have HB : Hid (begs p s = false) := by
      show _ = _
      unfold begs
      cases e : p.isPrefixOf s with
      | false => rfl
      | true => exact absurd ((List.isPrefixOf_iff_prefix.1 e).length_le) h
    go_wp2_with fail
    go_ret
    exact ⟨by rw [HB.out]; rfl, 0, rfl⟩
set_option maxHeartbeats 4000000 in
theorem specRange_any (hmake : ∀ (base bm bb : Nat) (aT : Option Addr) (cT : Nat) (ts : List Tx) (f : Nat), MakeC base bm bb aT cT ts (f + 1)) : RangeC 7 := by
  intro c a cap S t w hn hA hS
  have HAll := hidd (fun W (hW : Below w.heap.size w W) => all_any hmake c a cap S W hn hA (hS.below hW))
  clear hmake hA hS
  have HBa : Hid (Below w.heap.size w (w.alloc (.cells #[.int .i64 c, .slice a S.length cap] 30))) := (Below.refl _ _).alloc (Nat.le_refl _) _
  have hsl : (⟨t.toArray⟩ : ByteArray).size = t.length := by rw [Lib.size_eq]
  go_enter Try.func7, Try.ntmps7
  by_cases hl : 65536 < t.length
  · have hlz : (t.length : Int) > 65536 := by omega
    have HF := hidd (rangeO_long (d := dictT c S) hl)
    go_wp2_with fail
    go_ret3
    exact ⟨by rw [HF.out]; rfl, HBa.out⟩
  have hlz : ¬ (t.length : Int) > 65536 := by omega
  go_wp2_with fail
  refine (HAll.out _ HBa.out).mono ?_
  rintro e w1 ⟨v, rfl, hb1, hown⟩
  have HB1 := hidd (HBa.out.trans (hb1.mono HBa.out.size))
  clear hb1
  dsimp only
  rcases okD_cases c S with ⟨hok, ts, hts⟩ | ⟨hok, hno⟩
  · rw [hok]
    have HD := hidd (dictT_some hts)
    have HR := hidd hts.1.1
    obtain ⟨av, cv, rfl⟩ := own_form (hown ts hts)
    have HO := hidd (hown ts hts)
    have hfew : ts.length ≤ 4096 := hts.1.2.1
    clear hok hown hts
    go_wp2_with fail
    go_loopw [9, 10, 11] (fun fv nv iv wr => ∃ m first n q : Nat, fv = .int .i64 (first : Int) ∧ nv = .int .i64 (n : Int) ∧ iv = .int .i64 ((m : Int) - 1) ∧ Back ts t m first n ∧ n ≤ ts.length ∧ wr = w1.drewN q) (fun _ _ iv _ => (intOf iv + 1).toNat)
    case atStart => exact ⟨ts.length, 0, 0, 0, rfl, rfl, rfl, Back.start ts t, Nat.zero_le _, rfl⟩
    case round =>
      obtain ⟨m, first, n, q, rfl, rfl, rfl, hbk, hnl, rfl⟩ := hrel
      have HBk := hidd hbk
      have hml := hbk.le
      clear hbk
      cases m with
      | zero =>
        have hgz : ¬ ((0 : Nat) : Int) - 1 ≥ 0 := by omega
        obtain ⟨e1, e2⟩ := HBk.out.done HR.out
        have E2 := hidd e2
        by_cases h0 : n = 0
        · have hz0 : ((n : Int) == 0) = true := by simp [h0]
          have HR2 : Hid (rangeO (dictT c S) t = (0, 0, 8)) := by
            show _ = _
            rw [HD.out, rangeO_out hl (by omega)]
          clear e1 e2 h0
          go_wp2_with fail
          go_ret3
          exact ⟨by rw [HR2.out]; rfl, below_drewN HB1.out q⟩
        · have hz0 : ((n : Int) == 0) = false := beq_false_of_ne (by omega)
          have HR2 : Hid (rangeO (dictT c S) t = ((first : Int), (n : Int), 0)) := by
            show _ = _
            rw [HD.out, rangeO_in hl (by omega), ← e1, e2 (by omega)]
          clear e1 e2 h0
          go_wp2_with fail
          go_ret3
          exact ⟨by rw [HR2.out]; rfl, below_drewN HB1.out q⟩
      | succ m =>
        have hgz : ((m + 1 : Nat) : Int) - 1 ≥ 0 := by omega
        have hmz : ((m + 1 : Nat) : Int) - 1 = (m : Int) := by omega
        rw [hmz] at hgz
        try rw [hmz]
        clear hmz
        have hltz : (m : Int) < (ts.length : Int) := by omega
        rcases own_cases HO.out with ⟨_, h0⟩ | ⟨g, c', e1, _, hg⟩
        · omega
        simp only [Value.slice.injEq, true_and] at e1
        obtain ⟨rfl, rfl⟩ := e1
        have c1 : w1.cell? ⟨g, m, none⟩ = some (.string ⟨(ts.getD m []).toArray⟩) := (HO.out.cellAt m (by omega)).trans (by simp [tCells, txV, show m < ts.length by omega])
        obtain ⟨x, hx⟩ : ∃ x, ts.getD m [] = x := ⟨_, rfl⟩
        rw [hx] at c1
        have Hx := hidd hx
        clear hx
        have HBe := hidd (fun (W : World) => begins_any x t W)
        cases hbg : begs t x with
        | true =>
          rw [hbg] at HBe
          have HBk2 : Hid (Back ts t m m (n + 1)) := HBk.out.hit (by rw [Hx.out]; exact hbg)
          have hn2 : n + 1 ≤ ts.length := by have := HBk2.out.cnt; have := List.countP_le_length (p := begs t) (l := ts.drop m); rw [List.length_drop] at this; omega
          clear hbg
          go_wp2_with (go_at_call 27; refine (HBe.out _).mono ?_; rintro e w' ⟨rfl, q2, rfl⟩)
          go_roundw
          case rel => exact ⟨m, m, n + 1, q + q2, rfl, by go_num, by go_num, HBk2.out, hn2, by first | rfl | simp [World.drewN, Nat.add_assoc]⟩
          case measure => simp [intOf]
        | false =>
          rw [hbg] at HBe
          have HBk2 : Hid (Back ts t m first n) := HBk.out.miss (by rw [Hx.out]; exact hbg)
          clear hbg
          go_wp2_with (go_at_call 27; refine (HBe.out _).mono ?_; rintro e w' ⟨rfl, q2, rfl⟩)
          go_roundw
          case rel => exact ⟨m, first, n, q + q2, rfl, rfl, by go_num, HBk2.out, hnl, by first | rfl | simp [World.drewN, Nat.add_assoc]⟩
          case measure => simp [intOf]
  · rw [hok]
    have HR : Hid (rangeO (dictT c S) t = (0, 0, 1)) := by
      show _ = _
      rw [dictT_none hno, rangeO_none hl]
    clear hok hown hno
    go_wp2_with fail
    go_ret3
    exact ⟨by rw [HR.out]; rfl, HB1.out⟩
end Go.Proofs.Ytjndogajdlophaa

namespace Go.Proofs.Ytjndogajdlophaa
open Go Go.RowKit
set_option linter.unusedVariables false

set_option maxHeartbeats 4000000 in
set_option maxRecDepth 100000 in
theorem rangeLaw_any (hSp : RangeC 7) (hIm : RangeC 9) (c : Int) (a : Option Addr) (cap : Nat) (S : List St) (t : Tx) (w : World) (hn : S.length ≤ 9223372036854775807) (hA : ∀ i, (arcsAt S i).length ≤ 9223372036854775807) (hS : HoldS w a S) :
    Calls Try.prog 3 #[.agg #[.int .i64 c, .slice a S.length cap], .string ⟨t.toArray⟩] w fun e w' => e = .returned (.bool true) ∧ Below w.heap.size w w' := by
  have HS := hidd hS
  have HSp := hidd hSp
  have HIm := hidd hIm
  clear hS hSp hIm
  have HBa : Hid (Below w.heap.size w (w.alloc (.cells #[.int .i64 c, .slice a S.length cap] 24))) := (Below.refl _ _).alloc (Nat.le_refl _) _
  have HSz : Hid (∀ W, HoldS W a S → Calls Try.prog 6 #[.agg #[.int .i64 c, .slice a S.length cap], .int .i64 1048576] W fun e w' => e = .returned (.int .i64 (szD 1048576 S)) ∧ Below W.heap.size W w') := fun W hW => szDict_any c a cap S W hn hA hW
  obtain ⟨X, hX⟩ : ∃ X, szD 1048576 S = X := ⟨_, rfl⟩
  rw [hX] at HSz
  have hbx := hidd (heap_alloc_new w (.cells #[.int .i64 c, .slice a S.length cap] 24))
  have hsl : (⟨t.toArray⟩ : ByteArray).size = t.length := by rw [Lib.size_eq]
  go_enter Try.func3, Try.ntmps3
  by_cases hlong : 1048576 < t.length
  · have hlongz : (t.length : Int) > 1048576 := by omega
    go_wp2_with fail
    go_ret
    exact ⟨rfl, HBa.out⟩
  have hlongz : ¬ (t.length : Int) > 1048576 := by omega
  go_wp2_with fail
  refine (HSz.out _ (HS.out.below HBa.out)).mono ?_
  rintro e w1 ⟨rfl, hb1⟩
  have HB1 := hidd (HBa.out.trans (hb1.mono HBa.out.size))
  have Hbox1 := hidd (blko hbx.out hb1)
  have hw1 : w.heap.size < w1.heap.size := (Array.getElem?_eq_some_iff.1 Hbox1.out).1
  clear hb1
  by_cases hX0 : X < 0
  · go_wp2_with fail
    go_ret
    exact ⟨rfl, HB1.out⟩
  · obtain ⟨hn2, hA2⟩ := szD_ok (S := S) (by omega)
    have HA2 := hidd hA2
    have HTo : Hid (∀ W, HoldS W a S → Calls Try.prog 8 #[.agg #[.int .i64 c, .slice a S.length cap]] W fun e w' => ∃ g, e = .returned (.agg #[.int .i64 c, .slice (some ⟨g, 0, none⟩) S.length S.length]) ∧ W.heap.size ≤ g ∧ HoldN w' g (some ⟨g, 0, none⟩) S ∧ Below W.heap.size W w') := fun W hW => toDict_any c a cap S W hn2 HA2.out hW
    clear hA2 hX hA HSz hbx HBa
    have b0 : w1.cell? ⟨w.heap.size, 0, none⟩ = some (.int .i64 c) := blkc Hbox1.out 0
    have b1 : w1.cell? ⟨w.heap.size, 1, none⟩ = some (.slice a S.length cap) := blkc Hbox1.out 1
    go_wp2_with fail
    refine (HTo.out _ (HS.out.below HB1.out)).mono ?_
    rintro e w2 ⟨g2, rfl, hg2, hh2, hb2⟩
    have HB2 := hidd (HB1.out.trans (hb2.mono HB1.out.size))
    have HH2 := hidd hh2.now
    have Hbox2 := hidd (blko Hbox1.out hb2)
    clear hh2 hb2 b0 b1 Hbox1
    go_wp2_with fail
    refine (HSp.out c _ _ S t _ hn2 HA2.out HH2.out).mono ?_
    rintro e w3 ⟨rfl, hb3⟩
    have HB3 := hidd (HB2.out.trans (hb3.mono HB2.out.size))
    have Hbox3 := hidd (blko Hbox2.out hb3)
    clear hb3 HH2 Hbox2 HSp
    have b0 : w3.cell? ⟨w.heap.size, 0, none⟩ = some (.int .i64 c) := blkc Hbox3.out 0
    have b1 : w3.cell? ⟨w.heap.size, 1, none⟩ = some (.slice a S.length cap) := blkc Hbox3.out 1
    go_wp2_with fail
    refine (HTo.out _ (HS.out.below HB3.out)).mono ?_
    rintro e w4 ⟨g4, rfl, hg4, hh4, hb4⟩
    have HB4 := hidd (HB3.out.trans (hb4.mono HB3.out.size))
    have HBx : Hid (Below w4.heap.size w4 (w4.alloc (.cells #[.int .i64 c, .slice (some ⟨g4, 0, none⟩) S.length S.length] 30))) := (Below.refl _ _).alloc (Nat.le_refl _) _
    have Hbx5 := hidd (heap_alloc_new w4 (.cells #[.int .i64 c, .slice (some ⟨g4, 0, none⟩) S.length S.length] 30))
    have Hbox4 := hidd (blko Hbox3.out hb4)
    have HH4 := hidd hh4
    clear hh4 hb4 b0 b1 Hbox3
    go_upto_region 9 with fail
    obtain ⟨w5, hw5⟩ : ∃ w5, w4.alloc (.cells #[.int .i64 c, .slice (some ⟨g4, 0, none⟩) S.length S.length] 30) = w5 := ⟨_, rfl⟩
    rw [hw5] at HBx Hbx5
    try rw [hw5]
    clear hw5
    have HB5 := hidd (HB4.out.trans (HBx.out.mono HB4.out.size))
    have HH5 := hidd (HH4.out.below HBx.out)
    have Hbox5 := hidd (blko Hbox4.out HBx.out)
    have d0 : w5.cell? ⟨w4.heap.size, 0, none⟩ = some (.int .i64 c) := blkc Hbx5.out 0
    have d1 : w5.cell? ⟨w4.heap.size, 1, none⟩ = some (.slice (some ⟨g4, 0, none⟩) S.length S.length) := blkc Hbx5.out 1
    clear HH4 Hbox4
    go_wp2_with fail
    refine (HIm.out c _ _ S t _ hn2 HA2.out HH5.out.now).mono ?_
    rintro e w6 ⟨rfl, hb6⟩
    have HB6 := hidd (HB5.out.trans (hb6.mono HB5.out.size))
    have HH6 := hidd (HH5.out.below hb6)
    have Hbox6 := hidd (blko Hbox5.out hb6)
    have Hbx6 := hidd (blko Hbx5.out hb6)
    clear hb6 HH5 Hbox5 Hbx5 d0 d1 HIm HBx
    have hneq1 : ((rangeO (dictT c S) t).1 != (rangeO (dictT c S) t).1) = false := by simp
    have hneq2 : ((rangeO (dictT c S) t).2.1 != (rangeO (dictT c S) t).2.1) = false := by simp
    have hneq3 : ((rangeO (dictT c S) t).2.2 != (rangeO (dictT c S) t).2.2) = false := by simp
    generalize (rangeO (dictT c S) t).1 = R1 at *
    generalize (rangeO (dictT c S) t).2.1 = R2 at *
    generalize (rangeO (dictT c S) t).2.2 = R3 at *
    dsimp only
    have b0 : w6.cell? ⟨w.heap.size, 0, none⟩ = some (.int .i64 c) := blkc Hbox6.out 0
    have b1 : w6.cell? ⟨w.heap.size, 1, none⟩ = some (.slice a S.length cap) := blkc Hbox6.out 1
    have d0 : w6.cell? ⟨w4.heap.size, 0, none⟩ = some (.int .i64 c) := blkc Hbx6.out 0
    have d1 : w6.cell? ⟨w4.heap.size, 1, none⟩ = some (.slice (some ⟨g4, 0, none⟩) S.length S.length) := blkc Hbx6.out 1
    have hbd : Below w6.heap.size w6 w6.drew := below_drewN (Below.refl _ _) 1
    have HSd := hidd ((HS.out.below HB6.out).below hbd)
    have HHd := hidd (HH6.out.below hbd)
    have Hbxd := hidd (blko Hbx6.out hbd)
    have HBd := hidd (HB6.out.trans (hbd.mono HB6.out.size))
    clear hbd
    go_wp2_with fail
    go_region_with (first
      | (go_at_call 8; refine (HTo.out _ HSd.out).mono ?_; rintro e' w7 ⟨g7, rfl, hg7, hh7, hb7⟩; have y0 : w7.cell? ⟨w4.heap.size, 0, none⟩ = some (.int .i64 c) := blkc (blko Hbxd.out hb7) 0; have y1 : w7.cell? ⟨w4.heap.size, 1, none⟩ = some (.slice (some ⟨g4, 0, none⟩) S.length S.length) := blkc (blko Hbxd.out hb7) 1)
      | (go_at_call 10; refine (eqDict_same c _ _ _ _ S _ hn2 HA2.out (HHd.out.below hb7).now hh7.now).mono ?_; rintro e'' w8 ⟨rfl, hb8⟩))
    all_goals
      go_wp2_with fail
      go_ret
      exact ⟨rfl, HBd.out.trans ((hb7.trans (hb8.mono hb7.size)).mono HBd.out.size)⟩
end Go.Proofs.Ytjndogajdlophaa

namespace Go.Proofs.Ytjndogajdlophaa
open Go Go.RowKit
set_option linter.unusedVariables false
set_option maxRecDepth 100000

/-! How many terms stand ahead of a byte, one byte after the other. -/
theorem aheadT_succ (n : Nat) : ∀ L : List Tx, aheadT (n + 1) L = aheadT n L + (subT n L).length
  | [] => rfl
  | s :: L => by
    have ih := aheadT_succ n L
    unfold aheadT subT at ih ⊢
    rw [List.countP_cons, List.countP_cons, List.filterMap_cons, ih]
    cases s with
    | nil => simp [tailIf, isAhead]; omega
    | cons c r =>
      simp only [isAhead, tailIf]
      by_cases h1 : c.toNat < n
      · have h2 : ¬ c.toNat = n := by omega
        have h3 : c.toNat < n + 1 := by omega
        simp [h1, h2, h3]; omega
      · by_cases h2 : c.toNat = n
        · simp [h2]; omega
        · have h3 : ¬ c.toNat < n + 1 := by omega
          simp [h1, h2, h3]
theorem aheadT_gap {L : List Tx} {a : Nat} : ∀ {b : Nat}, a ≤ b → (∀ n, a ≤ n → n < b → subT n L = []) → aheadT b L = aheadT a L
  | 0, h, _ => by rw [show a = 0 by omega]
  | b + 1, h, hn => by
    by_cases e : a = b + 1
    · rw [e]
    · rw [aheadT_succ, aheadT_gap (b := b) (by omega) (fun n h1 h2 => hn n h1 (by omega)), hn b (by omega) (by omega)]; rfl
theorem aheadT_256 (L : List Tx) : aheadT 256 L = L.length := by
  unfold aheadT
  rw [List.countP_eq_length]
  intro s _
  cases s with
  | nil => rfl
  | cons c r => simp [isAhead]; have := UInt8.toNat_lt c; omega
theorem aheadT_zero {L : List Tx} (h : RiseT L) : aheadT 0 L = if finT L then 1 else 0 := by
  cases L with
  | nil => rfl
  | cons s L =>
    have hr := List.pairwise_cons.1 h
    have hz : ∀ x ∈ L, isAhead 0 x = false := fun x hx => by
      have := hr.1 x hx
      cases x with
      | nil => cases s <;> simp [ltT] at this
      | cons c r => simp [isAhead]
    have h0 : L.countP (isAhead 0) = 0 := by rw [List.countP_eq_zero]; intro x hx; rw [hz x hx]; simp
    have h1 : L.any List.isEmpty = false := by
      rw [List.any_eq_false]
      intro x hx
      have := hz x hx
      cases x with
      | nil => simp [isAhead] at this
      | cons c r => simp
    unfold aheadT finT
    rw [List.countP_cons, h0, List.any_cons, h1]
    cases s <;> simp [isAhead]
/-- What has been told when the arc k is come to. -/
def toldAt (L : List Tx) (k : Nat) : Nat := aheadT ((labelsT L).getD k 256) L
theorem lab_not {L : List Tx} {n : Nat} (h : n < 256) (hn : n ∉ labelsT L) : subT n L = [] := by
  rw [labelsT_mem] at hn
  cases e : subT n L with
  | nil => rfl
  | cons a b => exact absurd ⟨h, by rw [e]; simp⟩ hn
theorem lab_lt {L : List Tx} {k : Nat} (h : k < (labelsT L).length) : (labelsT L).getD k 256 < 256 := by
  rw [List.getD_eq_getElem?_getD, List.getElem?_eq_getElem h]
  exact (labelsT_mem.1 (List.getElem_mem h)).1
theorem lab_between {L : List Tx} {k n : Nat} (hlo : ∀ j, j < k → ∀ hj : j < (labelsT L).length, (labelsT L)[j] < n) (hk : k ≤ (labelsT L).length) (hn : n < (labelsT L).getD k 256) : n ∉ labelsT L := by
  intro hm
  obtain ⟨j, hj, e⟩ := List.getElem_of_mem hm
  rcases Nat.lt_or_ge j k with h | h
  · have := hlo j h hj; omega
  · have hkl : k < (labelsT L).length := by omega
    rw [List.getD_eq_getElem?_getD, List.getElem?_eq_getElem hkl] at hn
    simp at hn
    rcases Nat.lt_or_ge k j with h2 | h2
    · have := List.pairwise_iff_getElem.1 (labelsT_lt L) k j hkl hj h2
      omega
    · have : j = k := by omega
      subst this; omega
theorem toldAt_zero {L : List Tx} (h : RiseT L) : toldAt L 0 = if finT L then 1 else 0 := by
  unfold toldAt
  rw [← aheadT_zero h]
  refine aheadT_gap (Nat.zero_le _) fun n _ hn => lab_not ?_ (lab_between (fun j hj => by omega) (Nat.zero_le _) hn)
  have : (labelsT L).getD 0 256 ≤ 256 := by
    rcases Nat.lt_or_ge 0 (labelsT L).length with h | h
    · exact Nat.le_of_lt (lab_lt h)
    · rw [List.getD_eq_getElem?_getD, List.getElem?_eq_none h]; simp
  omega
theorem toldAt_end (L : List Tx) : toldAt L (labelsT L).length = L.length := by
  unfold toldAt
  rw [List.getD_eq_getElem?_getD, List.getElem?_eq_none (Nat.le_refl _)]
  exact aheadT_256 L
theorem toldAt_next {L : List Tx} {k n : Nat} (h : (labelsT L)[k]? = some n) : toldAt L (k + 1) = toldAt L k + (subT n L).length := by
  obtain ⟨hk, e⟩ := List.getElem?_eq_some_iff.1 h
  have e1 : (labelsT L).getD k 256 = n := by rw [List.getD_eq_getElem?_getD, h]; rfl
  have hn : n < 256 := by have := lab_lt hk; omega
  unfold toldAt
  rw [e1, ← aheadT_succ]
  have hle : n + 1 ≤ (labelsT L).getD (k + 1) 256 := by
    rcases Nat.lt_or_ge (k + 1) (labelsT L).length with h1 | h1
    · rw [List.getD_eq_getElem?_getD, List.getElem?_eq_getElem h1]
      have := List.pairwise_iff_getElem.1 (labelsT_lt L) k (k + 1) hk h1 (by omega)
      simp; omega
    · rw [List.getD_eq_getElem?_getD, List.getElem?_eq_none h1]; simp; omega
  refine aheadT_gap hle fun m h1 h2 => ?_
  have hm : m < 256 := by
    rcases Nat.lt_or_ge (k + 1) (labelsT L).length with h3 | h3
    · have := lab_lt h3; omega
    · rw [List.getD_eq_getElem?_getD, List.getElem?_eq_none h3] at h2; simpa using h2
  refine lab_not hm (lab_between (k := k + 1) (fun j hj hjl => ?_) (by omega) h2)
  rcases Nat.lt_or_ge j k with h3 | h3
  · have := List.pairwise_iff_getElem.1 (labelsT_lt L) j k hjl hk h3
    omega
  · have : j = k := by omega
    subst this; omega

/-! A row that grows in place keeps its room; one that doesn't is a new one. -/
/-- All stays but what X names. -/
structure But (X : Nat → Prop) (w w' : World) : Prop where
  os : w'.os = w.os
  tape : w'.tape = w.tape
  output : w'.output = w.output
  size : w.heap.size ≤ w'.heap.size
  block : ∀ b, b < w.heap.size → ¬ X b → w'.heap[b]? = w.heap[b]?
theorem But.refl (X : Nat → Prop) (w : World) : But X w w := ⟨rfl, rfl, rfl, Nat.le_refl _, fun _ _ _ => rfl⟩
theorem But.trans {X Y Z : Nat → Prop} {a b c : World} (h : But X a b) (k : But Y b c) (hx : ∀ i, i < a.heap.size → X i → Z i) (hy : ∀ i, i < a.heap.size → Y i → Z i) : But Z a c :=
  ⟨k.os.trans h.os, k.tape.trans h.tape, k.output.trans h.output, Nat.le_trans h.size k.size, fun i hi hn =>
    (k.block i (Nat.lt_of_lt_of_le hi h.size) fun e => hn (hy i hi e)).trans (h.block i hi fun e => hn (hx i hi e))⟩
theorem But.mono {X Z : Nat → Prop} {a b : World} (h : But X a b) (hx : ∀ i, i < a.heap.size → X i → Z i) : But Z a b :=
  ⟨h.os, h.tape, h.output, h.size, fun i hi hn => h.block i hi fun e => hn (hx i hi e)⟩
theorem But.of_below {X : Nat → Prop} {a b : World} (h : Below a.heap.size a b) : But X a b := ⟨h.os, h.tape, h.output, h.size, fun i hi _ => h.block i hi⟩
theorem But.below {X : Nat → Prop} {n : Nat} {a b : World} (h : But X a b) (hn : n ≤ a.heap.size) (hx : ∀ i, i < n → ¬ X i) : Below n a b :=
  ⟨h.os, h.tape, h.output, h.size, fun i hi => h.block i (by omega) (hx i hi)⟩
theorem But.grown {w w' : World} {row : Option Nat} (h : w.grownBy w' row) : But (fun b => row = some b) w w' :=
  ⟨h.os, h.tape, h.output, h.size, fun i hi hn => h.block i hi fun e => hn e.symm⟩
section
variable {P : Program} {w : World}
/-- How a row has grown by one more. -/
def GrewX (v v' : Value) (n m : Nat) (w w' : World) : Prop := (∃ g cap, v = .slice (some ⟨g, 0, none⟩) n cap ∧ v' = .slice (some ⟨g, 0, none⟩) (n + m) cap) ∨ ((∃ cap, v' = .slice (some ⟨w.heap.size, 0, none⟩) (n + m) cap) ∧ ∀ k, k < w.heap.size → w'.heap[k]? = w.heap[k]?)
theorem run_append_two (t ty : TypeId) (base : Nat) (e : TypeId) (i : TypeInfo) (z : Value) (size bytes : Nat) (ht : P.underlying t = some (.slice e)) (hi : P.info? e = some i) (hz : i.zero = some z)
    (hsize : i.size = size) (hby : i.bytes = bytes) (hzs : z.cells.size = size) (hsz : 0 < size)
    (v : Value) (n : Nat) (xs : List Value) (hown : w.ownsRow base e size v n xs)
    (ad : Addr) (m c : Nat) (news : List Value) (hl : news.length = m * size) (hnews : ∀ j u, news[j]? = some u → w.cell? (ad.add j) = some u) (h1 : ∀ u ∈ news, u.oneCell' = true)
    (hm : 0 < m) (h63 : n + m ≤ maxLen) (hbytes : (n + m) * bytes ≤ 140737488355328) (hbase : base ≤ w.heap.size) :
    ∃ g cap w', (Builtin.append_ #[t, t] ty #[v, .slice (some ad) m c]).run P w = .ok (.slice (some ⟨g, 0, none⟩) (n + m) cap) w' ∧
      w'.ownsRow base e size (.slice (some ⟨g, 0, none⟩) (n + m) cap) (n + m) (xs ++ news) ∧ w.grownBy w' v.ownBlock ∧ GrewX v (.slice (some ⟨g, 0, none⟩) (n + m) cap) n m w w' ∧ g < w'.heap.size := by
  obtain ⟨g, cap, w', hr, h2, h3, h4, h5⟩ := run_append_lies (P := P) w t ty base e i z size bytes ht hi hz hsize hby hzs hsz v n xs hown ad m c news hl hnews h1 hm h63 hbytes hbase _ rfl
  refine ⟨g, cap, w', hr, h2, h3, ?_, h5⟩
  rcases hown.2 with ⟨rfl, rfl⟩ | ⟨g0, cap0, cur, rfl, hbg, hg, hnc, hcm, hcs, htake⟩
  · right
    rcases h4 with h4 | h4
    · simp [Value.ownBlock] at h4
    · exact ⟨⟨cap, by rw [h4]⟩, fun k hk => h3.block k hk (by simp [Value.ownBlock])⟩
  · subst hsize
    by_cases hroom : n + m ≤ cap0
    · have hfit : n * i.size + news.length ≤ cur.size := by rw [hl, hcs, ← Nat.add_mul]; exact Nat.mul_le_mul_right _ hroom
      have hr2 := run_append_room (P := P) w t ty e i ht hi g0 n cap0 cur hg ad m c news hl hnews h1 hroom hfit
      rw [hr] at hr2
      injection hr2 with e1 e2
      exact .inl ⟨g0, cap0, rfl, e1⟩
    · have holds : ∀ j u, xs[j]? = some u → w.cell? ((⟨g0, 0, none⟩ : Addr).add j) = some u := hown.cells (g := g0) rfl
      have hr2 := run_append_grow (P := P) w t ty e i z ht hi hz ⟨g0, 0, none⟩ n cap0 xs hown.1 holds ad m c news hl hnews (by omega) (by simp only [maxLen] at h63; omega) (growslice_fits (by omega) (by rw [hby]; exact hbytes))
      rw [hr] at hr2
      injection hr2 with e1 e2
      right
      refine ⟨⟨_, e1⟩, fun k hk => ?_⟩
      rw [e2]
      exact Below.heap_alloc w.drew _ k hk
theorem step_append_two {ops : Array Oper} {o : Oper} {a : Act} {K : Act → World → Prop} {Q : Exit → Act → World → Prop} {E : Prop} (hgd : o.guard = none) (s x : Operand) (t : TypeId)
    (ho : o.op = .call { callee := .builtin .append, args := #[s, x], argTypes := #[t, t] })
    (base : Nat) (e : TypeId) (i : TypeInfo) (z : Value) (size bytes : Nat) (ht : P.underlying t = some (.slice e)) (hi : P.info? e = some i) (hz : i.zero = some z)
    (hsize : i.size = size) (hby : i.bytes = bytes) (hzs : z.cells.size = size) (hsz : 0 < size)
    (v : Value) (n : Nat) (xs : List Value) (hs : a.eval s = v) (hown : w.ownsRow base e size v n xs)
    (ad : Addr) (m c : Nat) (news : List Value) (hx : a.eval x = .slice (some ad) m c) (hl : news.length = m * size) (hnews : ∀ j u, news[j]? = some u → w.cell? (ad.add j) = some u) (h1 : ∀ u ∈ news, u.oneCell' = true)
    (hm : 0 < m) (h63 : n + m ≤ maxLen) (hbytes : (n + m) * bytes ≤ 140737488355328) (hbase : base ≤ w.heap.size)
    (h : ∀ g cap w', w'.ownsRow base e size (.slice (some ⟨g, 0, none⟩) (n + m) cap) (n + m) (xs ++ news) → w.grownBy w' v.ownBlock → GrewX v (.slice (some ⟨g, 0, none⟩) (n + m) cap) n m w w' → g < w'.heap.size → K (a.put o.dst (.slice (some ⟨g, 0, none⟩) (n + m) cap)) w') :
    if Region.wanted o (yielded ops a.tmps) = true then Oper.wp P o a w K Q else E := by
  rw [if_pos (by simp [Region.wanted, hgd])]
  obtain ⟨g, cap, w', hr, h2, h3, h4, h5⟩ := run_append_two (P := P) (w := w) t o.type base e i z size bytes ht hi hz hsize hby hzs hsz v n xs hown ad m c news hl hnews h1 hm h63 hbytes hbase
  unfold Oper.wp execOp
  simp only [ho, resolve, invoke, builtin, Sem.run_bind, Sem.run_pure, Result.andThen_ok, List.map_toArray, List.map_cons, List.map_nil, hs, hx, hr]
  exact h g cap w' h2 h3 h4 h5
end
end Go.Proofs.Ytjndogajdlophaa

namespace Go.Proofs.Ytjndogajdlophaa
open Go Go.RowKit
set_option linter.unusedVariables false
set_option maxRecDepth 100000

/-- A cursor whose bytes may lie ahead of its own box. -/
structure CurX (w0 W : World) (lo B : Nat) (aS : Option Addr) (cS : Nat) (S : List St) (i k : Nat) (p : Tx) (gv : Value) : Prop where
  old : Below w0.heap.size w0 W
  hold : HoldS w0 aS S
  new : w0.heap.size ≤ B
  newl : w0.heap.size ≤ lo
  ne : gv.ownBlock ≠ some B
  box : W.heap[B]? = some (.cells #[.slice aS S.length cS, .int .i64 (i : Int), gv, .int .i64 (k : Int)] 63)
  row : W.ownsRow lo 5 1 gv p.length (Lib.byteCells p)
theorem CurX.below {w0 W W' : World} {lo B : Nat} {aS : Option Addr} {cS : Nat} {S : List St} {i k : Nat} {p : Tx} {gv : Value} (h : CurX w0 W lo B aS cS S i k p gv) (hb : Below W.heap.size W W') : CurX w0 W' lo B aS cS S i k p gv :=
  ⟨h.old.trans (hb.mono h.old.size), h.hold, h.new, h.newl, h.ne, blko h.box hb, own_below h.row hb⟩
section
variable {w0 W : World} {lo B : Nat} {aS : Option Addr} {cS : Nat} {S : List St} {i k : Nat} {p : Tx} {gv : Value}
set_option maxHeartbeats 1000000 in
theorem arcsX_any (h : CurX w0 W lo B aS cS S i k p gv) (hi : i < S.length) : Calls Try.prog 58 #[.pointer (some ⟨B, 0, none⟩)] W fun e w' => ∃ ai ci m, e = .returned (.slice ai (arcsAt S i).length ci) ∧ HoldA w0 ai (arcsAt S i) ∧ w' = W.drewN m := by
  obtain ⟨b, off, rfl, hb, hc⟩ := h.hold.resolve_left (fun e => by rw [e] at hi; simp at hi)
  obtain ⟨_, ai, ci, c1, hA⟩ := hc i hi
  have c1' := (h.old.cell (p := ⟨b, off + i * 2 + 1, none⟩) hb).trans c1
  have x0 := blkc h.box 0
  have x1 := blkc h.box 1
  have hiz : (i : Int) < (S.length : Int) := by omega
  have HA : Hid (HoldA w0 ai (arcsAt S i)) := hA
  clear h hc hA c1
  change W.cell? _ = some (.slice ai (arcsAt S i).length ci) at c1'
  generalize (arcsAt S i).length = n at *
  go_enter Try.func58, Try.ntmps58
  go_wp2_with fail
  go_quiet (fail)
  go_wp2_with fail
  go_ret
  exact ⟨ai, ci, nq, rfl, HA.out, rfl⟩
set_option maxHeartbeats 1000000 in
theorem finalX_any (h : CurX w0 W lo B aS cS S i k p gv) (hi : i < S.length) : Calls Try.prog 91 #[.pointer (some ⟨B, 0, none⟩)] W fun e w' => e = .returned (.bool (finAt S i)) ∧ ∃ m, w' = W.drewN m := by
  obtain ⟨b, off, rfl, hb, hc⟩ := h.hold.resolve_left (fun e => by rw [e] at hi; simp at hi)
  obtain ⟨c0, _⟩ := hc i hi
  have c0' := (h.old.cell (p := ⟨b, off + i * 2, none⟩) hb).trans c0
  have x0 := blkc h.box 0
  have x1 := blkc h.box 1
  have hiz : (i : Int) < (S.length : Int) := by omega
  clear h hc c0
  change W.cell? _ = some (.bool (finAt S i)) at c0'
  generalize finAt S i = F at *
  go_enter Try.func91, Try.ntmps91
  go_wp2_with fail
  go_quiet (fail)
  go_wp2_with fail
  go_ret
  exact ⟨rfl, nq, rfl⟩
theorem CurX.setSt (h : CurX w0 W lo B aS cS S i k p gv) (j : Nat) : CurX w0 (W.setCell ⟨B, 1, none⟩ (.int .i64 (j : Int))) lo B aS cS S j k p gv :=
  ⟨h.old.setCell (p := ⟨B, 1, none⟩) h.new _, h.hold, h.new, h.newl, h.ne, blk_setk h.box 1 _, own_congr h.row fun b hb => heap_set_other W B 1 _ b (fun e => h.ne (by rw [hb, e]))⟩
theorem CurX.setNum (h : CurX w0 W lo B aS cS S i k p gv) (j : Nat) : CurX w0 (W.setCell ⟨B, 3, none⟩ (.int .i64 (j : Int))) lo B aS cS S i j p gv :=
  ⟨h.old.setCell (p := ⟨B, 3, none⟩) h.new _, h.hold, h.new, h.newl, h.ne, blk_setk h.box 3 _, own_congr h.row fun b hb => heap_set_other W B 3 _ b (fun e => h.ne (by rw [hb, e]))⟩
theorem CurX.push {V w6 : World} {g6 cp6 : Nat} {x : UInt8} (h : CurX w0 W lo B aS cS S i k p gv) (hV : Below W.heap.size W V) (hown : w6.ownsRow lo 5 1 (.slice (some ⟨g6, 0, none⟩) (p.length + 1) cp6) (p.length + 1) (Lib.byteCells p ++ [.int .u8 (x.toNat : Int)])) (hg : V.grownBy w6 gv.ownBlock) (hat : GrewX gv (.slice (some ⟨g6, 0, none⟩) (p.length + 1) cp6) p.length 1 V w6) :
    w6.heap[B]? = some (.cells #[.slice aS S.length cS, .int .i64 (i : Int), gv, .int .i64 (k : Int)] 63) ∧ CurX w0 (w6.setCell ⟨B, 2, none⟩ (.slice (some ⟨g6, 0, none⟩) (p.length + 1) cp6)) lo B aS cS S i k (p ++ [x]) (.slice (some ⟨g6, 0, none⟩) (p.length + 1) cp6) := by
  have hBl := (Array.getElem?_eq_some_iff.1 h.box).1
  have hVs := hV.size
  have hgv : ∀ b, gv.ownBlock = some b → lo ≤ b := fun b hb => (own_blk h.row hb).1
  have hbox : w6.heap[B]? = some (.cells #[.slice aS S.length cS, .int .i64 (i : Int), gv, .int .i64 (k : Int)] 63) := by
    rw [hg.block B (by omega) (fun e => h.ne e.symm), hV.block B hBl]
    exact h.box
  have hg6 : g6 ≠ B := by
    rcases hat with ⟨g, cap, e1, e2⟩ | ⟨⟨cap, e⟩, _⟩
    · rintro rfl
      apply h.ne
      rw [e1]
      simp only [Value.slice.injEq, Option.some.injEq, Addr.mk.injEq] at e2
      rw [← e2.1.1]; rfl
    · simp only [Value.slice.injEq, Option.some.injEq, Addr.mk.injEq] at e
      omega
  have hb2 : Below w0.heap.size w0 V := h.old.trans (hV.mono h.old.size)
  have hb3 : Below w0.heap.size w0 w6 := hb2.grown hg hb2.size (fun b e => by have := hgv b e; have := h.newl; omega)
  refine ⟨hbox, hb3.setCell (p := ⟨B, 2, none⟩) h.new _, h.hold, h.new, h.newl, fun e => hg6 (by simpa [Value.ownBlock] using e), blk_setk hbox 2 _, ?_⟩
  rw [List.length_append, byteCells_snoc]
  exact own_congr hown fun b hb => heap_set_other w6 B 2 _ b (by cases hb; exact hg6)
theorem vOf {wb V w6 : World} {row : Option Nat} (h : V.grownBy w6 row) (hb : Below wb.heap.size wb V) : Hid (Below wb.heap.size wb V) := hidd hb
/-- What follow leaves of the bytes that were. -/
def Kin (lo B : Nat) (gv gv' : Value) (p : Tx) (W w' : World) : Prop := (∃ g cap cap', gv = .slice (some ⟨g, 0, none⟩) p.length cap ∧ gv' = .slice (some ⟨g, 0, none⟩) cap' cap) ∨ ((∀ b, gv'.ownBlock = some b → W.heap.size ≤ b) ∧ ∀ b, b < W.heap.size → b ≠ B → w'.heap[b]? = W.heap[b]?)
end
set_option maxHeartbeats 4000000 in
theorem followX_any {w0 W : World} {lo B : Nat} {aS : Option Addr} {cS : Nat} {S : List St} {i k : Nat} {p : Tx} {gv : Value} {x : UInt8} {j m : Nat} (h : CurX w0 W lo B aS cS S i k p gv) (hlo : lo ≤ W.heap.size) (hp : p.length ≤ 1000000) (hk : k ≤ 1000000) (hm : m ≤ 4096) :
    Calls Try.prog 61 #[.pointer (some ⟨B, 0, none⟩), .agg #[.int .i64 (x.toNat : Int), .int .i64 (j : Int), .int .i64 (m : Int)]] W fun e w' => ∃ gv', e = .returned (.tuple #[]) ∧ CurX w0 w' lo B aS cS S j (k + m) (p ++ [x]) gv' ∧ But (fun b => b = B ∨ gv.ownBlock = some b) W w' ∧ Kin lo B gv gv' p W w' := by
  obtain ⟨i1, hi1, hy0, hy1, hy2⟩ := info_parts Try.infoByte
  have hBl := (Array.getElem?_eq_some_iff.1 h.box).1
  have HBa := hidd ((Below.refl W.heap.size W).alloc (Nat.le_refl _) (.cells #[.int .i64 (x.toNat : Int), .int .i64 (j : Int), .int .i64 (m : Int)] 110))
  have HQ := hidd (heap_alloc_new W (.cells #[.int .i64 (x.toNat : Int), .int .i64 (j : Int), .int .i64 (m : Int)] 110))
  have Hc := hidd h
  clear h
  go_enter Try.func61, Try.ntmps61
  go_upto_region 1 with fail
  obtain ⟨Q, hQ⟩ : ∃ Q, W.heap.size = Q := ⟨_, rfl⟩
  obtain ⟨wa, hwa⟩ : ∃ wa, W.alloc (.cells #[.int .i64 (x.toNat : Int), .int .i64 (j : Int), .int .i64 (m : Int)] 110) = wa := ⟨_, rfl⟩
  rw [hwa] at HBa HQ
  try rw [hwa]
  clear hwa
  have Hca := hidd (Hc.out.below HBa.out)
  rw [hQ] at HQ hBl
  try rw [hQ]
  have a1 := blkc HQ.out 1
  have x1 := blkc Hca.out.box 1
  have f1 := blkf Hca.out.box 1
  have Hcs := hidd (Hca.out.setSt j)
  have HQs := hidd ((heap_set_other wa B 1 (.int .i64 (j : Int)) Q (by omega)).trans HQ.out)
  go_upto_region 2 with fail
  obtain ⟨wb, hwb⟩ : ∃ wb, wa.setCell ⟨B, 1, none⟩ (.int .i64 (j : Int)) = wb := ⟨_, rfl⟩
  have HFr0 : Hid (But (fun b => b = B) W wb) := by
    refine ⟨?_, ?_, ?_, ?_, fun b hb hne => ?_⟩
    · rw [← hwb]; exact HBa.out.os
    · rw [← hwb]; exact HBa.out.tape
    · rw [← hwb]; exact HBa.out.output
    · rw [← hwb]; simpa using HBa.out.size
    · rw [← hwb, heap_set_other wa B 1 _ b hne]
      exact HBa.out.block b hb
  have hsz0 : Q < wb.heap.size := by
    rw [← hwb]
    have := (Array.getElem?_eq_some_iff.1 HQ.out).1
    simpa using this
  rw [hwb] at Hcs HQs
  try rw [hwb]
  clear hwb a1 x1 f1 Hca HBa HQ
  have c2 := blkc Hcs.out.box 2
  have a0 := blkc HQs.out 0
  have HO := hidd Hcs.out.row
  obtain ⟨ag, cg, rfl⟩ := own_form Hcs.out.row
  have hxl := UInt8.toNat_lt x
  have hwx : IntKind.u8.wrap (x.toNat : Int) = (x.toNat : Int) := u8_in_b hxl
  have hBb : B < wb.heap.size := by omega
  have HP := hidd (fun V w6 g6 cp6 => Hcs.out.push (V := V) (w6 := w6) (g6 := g6) (cp6 := cp6) (x := x))
  go_cut [9] (fun v9 wy => ∃ gv', CurX w0 wy lo B aS cS S j k (p ++ [x]) gv' ∧ wy.heap[Q]? = some (.cells #[.int .i64 (x.toNat : Int), .int .i64 (j : Int), .int .i64 (m : Int)] 110) ∧ But (fun b => b = B ∨ (Value.slice ag p.length cg).ownBlock = some b) W wy ∧ Kin lo B (Value.slice ag p.length cg) gv' p W wy)
  case first =>
    go_region_law (refine step_append_two rfl (.tmp 13) (.tmp 17) 34 rfl lo 5 i1 (.int .u8 0) 1 1 Try.underlying34 hi1 hy0 hy1 hy2 rfl (by decide) (.slice ag p.length cg) p.length (Lib.byteCells p) (by simp [Act.eval]) (by first | exact HO.out.drew.alloc _ | exact HO.out.alloc _) ⟨wb.heap.size, 0, none⟩ 1 1 [.int .u8 (x.toNat : Int)] (by simp [Act.eval]) rfl (by intro j' u' hj'; match j', hj' with | 0, hj' => simp at hj'; subst hj'; simp [Addr.add]) (by intro u' hu'; simp at hu'; subst hu'; rfl) (by omega) (by unfold maxLen; omega) (by omega) (by first | omega | (simp; omega)) ?_; intro g6 cp6 w6 hown6 hgrow6 hat6 hlt6; have HV := vOf (wb := wb) hgrow6 (by first | exact (below_drewN (Below.refl _ _) 1).alloc (by simp) _ | exact (Below.refl _ _).alloc (by simp) _); obtain ⟨t1, t2⟩ := HP.out _ w6 g6 cp6 HV.out hown6 hgrow6 hat6; have s2 := blkc t1 2; have sf := blkf t1 2; have HT2 := hidd t2; have HG6 := hidd hgrow6; have HA6 := hidd hat6; clear t1 t2 hown6 hgrow6 hat6 hlt6)
    all_goals
      go_wp2_with fail
      go_meet
      have hVs := HV.out.size
      have hset : But (fun b => b = B) w6 (w6.setCell ⟨B, 2, none⟩ (.slice (some ⟨g6, 0, none⟩) (p.length + 1) cp6)) := ⟨rfl, rfl, rfl, by simp, fun b hb hne => heap_set_other w6 B 2 _ b hne⟩
      refine ⟨_, HT2.out, ?_, ?_, ?_⟩
      · rw [heap_set_other w6 B 2 _ Q (by omega), HG6.out.block Q (by omega) (fun e => by
          obtain ⟨_, cur, hc⟩ := own_blk HO.out e.symm
          exact blk_ne hc HQs.out (by decide) rfl), HV.out.block Q hsz0]
        exact HQs.out
      · refine But.trans (HFr0.out.trans ((But.of_below (X := fun _ => False) HV.out).trans (But.grown HG6.out) (Z := fun b => (Value.slice ag p.length cg).ownBlock = some b) (fun _ _ h => h.elim) (fun _ _ h => h)) (Z := fun b => b = B ∨ (Value.slice ag p.length cg).ownBlock = some b) (fun _ _ h => .inl h) (fun _ _ h => .inr h)) hset (fun _ _ h => h) (fun _ _ h => .inl h)
      · rcases HA6.out with ⟨g, cap, e1, e2⟩ | ⟨⟨cap, e⟩, hk6⟩
        · exact .inl ⟨g, cap, _, e1, e2⟩
        · right
          rw [hQ]
          refine ⟨fun b hb => ?_, fun b hb hne => ?_⟩
          · rw [e] at hb
            simp [Value.ownBlock] at hb
            omega
          · rw [heap_set_other w6 B 2 _ b hne, hk6 b (by omega), HV.out.block b (by omega)]
            exact HFr0.out.block b (by omega) hne
  case rest =>
    obtain ⟨gv', hcu, hq, hfr, hkin⟩ := hcut
    have Hcu := hidd hcu
    have Hq := hidd hq
    have Hfr := hidd hfr
    have Hkin := hidd hkin
    clear hcu hq hfr hkin HO HP HFr0 Hcs HQs c2 a0
    have a2 := blkc Hq.out 2
    have c3 := blkc Hcu.out.box 3
    have f3 := blkf Hcu.out.box 3
    have hsum : IntKind.i64.wrap ((k : Int) + (m : Int)) = ((k + m : Nat) : Int) := by
      have : (k : Int) + (m : Int) = ((k + m : Nat) : Int) := by omega
      rw [this]
      exact IntWalk.i64_in _ ⟨by omega, by omega⟩
    obtain ⟨km, hkm⟩ : ∃ km, k + m = km := ⟨_, rfl⟩
    rw [hkm] at hsum
    have Hkm := hidd hkm
    clear hkm
    have Hset := hidd (Hcu.out.setNum km)
    have hBc : B < wc.heap.size := (Array.getElem?_eq_some_iff.1 Hcu.out.box).1
    have hQc : Q < wc.heap.size := (Array.getElem?_eq_some_iff.1 Hq.out).1
    go_wp2_with fail
    go_region
    all_goals
      go_wp2_with fail
      go_end0
      refine ⟨gv', rfl, ?_, ?_, ?_⟩
      · rw [Hkm.out]
        first | exact Hset.out | exact Hset.out.below (below_drewN (Below.refl _ _) 1)
      · exact Hfr.out.trans (Y := fun b => b = B) ⟨rfl, rfl, rfl, by simp, fun b hb hne => heap_set_other wc B 3 _ b hne⟩ (fun _ _ h => h) (fun _ _ h => .inl h)
      · rcases Hkin.out with h | ⟨h1, h2⟩
        · exact .inl h
        · exact .inr ⟨h1, fun b hb hne => (heap_set_other wc B 3 _ b hne).trans (h2 b hb hne)⟩
end Go.Proofs.Ytjndogajdlophaa
