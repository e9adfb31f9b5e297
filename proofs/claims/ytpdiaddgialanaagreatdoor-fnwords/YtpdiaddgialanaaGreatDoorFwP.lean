import Derived.Test.YtpdiaddgialanaaGreatDoorFwK
import Derived.Test.YtpdiaddgialanaaGreatDoorEncR
namespace Go.Proofs.YtpdiaddgialanaaGreatDoor
open Go Go.RowKit
set_option linter.unusedVariables false
set_option linter.unusedSimpArgs false

/-! The law's text, plain. -/
theorem wd_chr : ∀ r ∈ wdR, chr r = true := by decide
theorem wd_sign : ∀ r ∈ wdR, ∀ c ∈ Lib.encodeRune r, c ∉ sgL := by decide
theorem wd_small : ∀ r ∈ wdR, (Lib.encodeRune r).length ≤ 2 := by decide
theorem wds_sign (ws : List Int) (h : ∀ r ∈ ws, r ∈ wdR) : ∀ c ∈ encs ws, c ∉ sgL := by
  intro c hc
  unfold encs at hc
  obtain ⟨r, hr, hcr⟩ := List.mem_flatMap.1 hc
  exact wd_sign r (h r hr) c hcr
theorem wds_small : ∀ (ws : List Int), (∀ r ∈ ws, r ∈ wdR) → (encs ws).length ≤ 2 * ws.length
  | [], _ => by simp [encs]
  | r :: t, h => by
    have h1 := wd_small r (h r (List.mem_cons_self ..))
    have h2 := wds_small t fun x hx => h x (List.mem_cons_of_mem _ hx)
    rw [show encs (r :: t) = Lib.encodeRune r ++ encs t from by simp [encs], List.length_append, List.length_cons]
    omega
/-- The text: a word with a field and a boost that must be, and the word that must not be. -/
def lwL (wd db : List UInt8) : List UInt8 := 43 :: 102 :: 49 :: 58 :: (wd ++ 94 :: (db ++ 32 :: 45 :: wd))
theorem lw_len (wd db : List UInt8) : (lwL wd db).length = 7 + wd.length + db.length + wd.length := by simp [lwL]; omega
theorem lw_drop4 (wd db : List UInt8) : (lwL wd db).drop 4 = wd ++ 94 :: (db ++ 32 :: 45 :: wd) := rfl
theorem lw_drop5 (wd db : List UInt8) : (lwL wd db).drop (4 + wd.length) = 94 :: (db ++ 32 :: 45 :: wd) := by
  rw [← List.drop_drop, lw_drop4, List.drop_left]
theorem lw_drop6 (wd db : List UInt8) : (lwL wd db).drop (4 + wd.length + 1) = db ++ 32 :: 45 :: wd := by
  rw [← List.drop_drop, lw_drop5]; rfl
theorem lw_drop7 (wd db : List UInt8) : (lwL wd db).drop (4 + wd.length + 1 + db.length) = 32 :: 45 :: wd := by
  rw [← List.drop_drop, lw_drop6, List.drop_left]
theorem lw_drop8 (wd db : List UInt8) : (lwL wd db).drop (4 + wd.length + 1 + db.length + 1) = 45 :: wd := by
  rw [← List.drop_drop, lw_drop7]; rfl
theorem lw_drop9 (wd db : List UInt8) : (lwL wd db).drop (4 + wd.length + 1 + db.length + 1 + 1) = wd := by
  rw [← List.drop_drop, lw_drop8]; rfl
theorem drop_at {l r : List UInt8} {p k : Nat} (h : l.drop p = r) : l[p + k]? = r[k]? := by rw [← h, List.getElem?_drop]
theorem drop_at0 {l r : List UInt8} {p : Nat} (h : l.drop p = r) : l[p]? = r[0]? := by have := drop_at (k := 0) h; simpa using this
theorem ascii_enc : ∀ (l : List UInt8), (∀ c ∈ l, c.toNat < 128) → encs (l.map fun c => (c.toNat : Int)) = l
  | [], _ => rfl
  | c :: t, h => by
    have h1 := h c (List.mem_cons_self ..)
    have ih := ascii_enc t fun x hx => h x (List.mem_cons_of_mem _ hx)
    have h2 : Lib.encodeRune (c.toNat : Int) = [c] := by
      unfold Lib.encodeRune
      rw [Lib.encodeRuneZ_one (by omega) (by omega)]
      simp
    rw [List.map_cons, show encs ((c.toNat : Int) :: t.map fun c => (c.toNat : Int)) = Lib.encodeRune (c.toNat : Int) ++ encs (t.map fun c => (c.toNat : Int)) from by simp [encs], ih, h2]
    rfl
theorem ascii_chr (l : List UInt8) (h : ∀ c ∈ l, c.toNat < 128) : ∀ r ∈ l.map (fun c => (c.toNat : Int)), chr r = true := by
  intro r hr
  obtain ⟨c, hc, rfl⟩ := List.mem_map.1 hr
  have := h c hc
  simp only [chr, decide_eq_true_eq]
  omega
theorem lw_valid (ws : List Int) (db : List UInt8) (h : ∀ r ∈ ws, r ∈ wdR) (hd : ∀ c ∈ db, c.toNat < 128) : validB (bs (lwL (encs ws) db)) = true := by
  have hA : lwL (encs ws) db = encs (([43, 102, 49, 58] : List UInt8).map (fun c => (c.toNat : Int)) ++ (ws ++ (((94 :: (db ++ [32, 45])).map fun c => (c.toNat : Int)) ++ ws))) := by
    rw [encs_append, encs_append, encs_append, ascii_enc _ (by decide), ascii_enc (94 :: (db ++ [32, 45])) (by
      intro c hc
      simp only [List.mem_cons, List.mem_append, List.not_mem_nil, or_false] at hc
      rcases hc with rfl | hc | rfl | rfl
      · decide
      · exact hd c hc
      · decide
      · decide)]
    simp [lwL]
  rw [hA]
  refine (runes_encs _ ?_).2
  intro r hr
  simp only [List.mem_append] at hr
  rcases hr with hr | hr | hr | hr
  · exact ascii_chr _ (by decide) r hr
  · exact wd_chr r (h r hr)
  · refine ascii_chr _ ?_ r hr
    intro c hc
    simp only [List.mem_cons, List.mem_append, List.not_mem_nil, or_false] at hc
    rcases hc with rfl | hc | rfl | rfl
    · decide
    · exact hd c hc
    · decide
    · decide
  · exact wd_chr r (h r hr)
theorem wd_valid (ws : List Int) (h : ∀ r ∈ ws, r ∈ wdR) : runes (bs (encs ws)) = ws ∧ validB (bs (encs ws)) = true := runes_encs ws fun r hr => wd_chr r (h r hr)
theorem bs_extW (t : List UInt8) (a : Nat) : (bs t).extract a (bs t).size = bs (t.drop a) := by
  apply ByteArray.ext
  simp only [bs, ByteArray.data_extract, ByteArray.size]
  apply Array.ext'
  simp [Array.toList_extract, List.extract_eq_take_drop]
  exact List.take_of_length_le (by simp)
/-- Digits of a number from 1 to 99. -/
def decB (n : Nat) : List UInt8 := if n < 10 then [(48 + n).toUInt8] else [(48 + n / 10).toUInt8, (48 + n % 10).toUInt8]
theorem dig_nat (k : Nat) (h : k < 10) : ((48 + k).toUInt8).toNat = 48 + k := by
  rw [show ((48 + k).toUInt8).toNat = (48 + k) % 256 from rfl]
  omega
theorem decB_ascii (n : Nat) (h : n < 100) : ∀ c ∈ decB n, c.toNat < 128 := by
  intro c hc
  unfold decB at hc
  split at hc
  · have := dig_nat n (by omega)
    simp only [List.mem_cons, List.not_mem_nil, or_false] at hc
    subst hc; omega
  · have h1 := dig_nat (n / 10) (by omega)
    have h2 := dig_nat (n % 10) (by omega)
    simp only [List.mem_cons, List.not_mem_nil, or_false] at hc
    rcases hc with rfl | rfl <;> omega
end Go.Proofs.YtpdiaddgialanaaGreatDoor
