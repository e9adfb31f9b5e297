import Derived.Test.YtfdmahbjofolhamDoorLkS
namespace Go.Proofs.YtfdmahbjofolhamDoor
open Go Go.RowKit
set_option linter.unusedVariables false
set_option maxRecDepth 100000

/-! impl.startsWith. -/
def zR (l : List Int) : List Value := l.map (Value.int .i32)
theorem zR_at (l : List Int) {t : Nat} (h : t < l.length) : (zR l)[t]? = some (.int .i32 (l.getD t 0)) := by simp [zR, h]
theorem zI_at (l : List Int) {t : Nat} (h : t < l.length) : (zI l)[t]? = some (.int .i64 (l.getD t 0)) := by simp [zI, h]
theorem zR_len (l : List Int) : (zR l).length = l.length := by simp [zR]
theorem zR_drop (l : List Int) (k : Nat) : (zR l).drop k = zR (l.drop k) := by simp [zR]
theorem zR_take (l : List Int) (k : Nat) : (zR l).take k = zR (l.take k) := by simp [zR]
theorem zI_drop (l : List Int) (k : Nat) : (zI l).drop k = zI (l.drop k) := by simp [zI]
theorem zI_take (l : List Int) (k : Nat) : (zI l).take k = zI (l.take k) := by simp [zI]
theorem pcs_at (l : List Int) {t : Nat} (h : t < l.length) : (pcs l).getD t 0 = pieceI (l.getD t 0) := by simp [pcs, h]
theorem pcs_len (l : List Int) : (pcs l).length = l.length := by simp [pcs]
theorem seg_step (s t : List Int) (k : Nat) (hk : k < s.length) (hl : s.length ≤ t.length) : seg (s.take (k + 1)) t = (seg (s.take k) t && one (s.getD k 0) (t.getD k 0)) := by
  rw [take_snoc s k hk, seg_snoc]
  have h1 : (s.take k).length = k := by rw [List.length_take]; omega
  rw [h1, List.drop_eq_getElem_cons (by omega : k < t.length)]
  simp [show k < t.length by omega]
theorem seg_stop (s t : List Int) (k : Nat) (h : seg (s.take k) t = false) : seg s t = false := by
  have hlen : ∀ (a b t : List Int), seg (a ++ b) t = true → seg a t = true := by
    intro a
    induction a with
    | nil => intro b t _; rfl
    | cons x a ih =>
      intro b t h
      cases t with
      | nil => simp [seg] at h
      | cons c t =>
        simp only [List.cons_append, seg, Bool.and_eq_true] at h ⊢
        exact ⟨h.1, ih b t h.2⟩
  cases hs : seg s t with
  | false => rfl
  | true =>
    rw [← List.take_append_drop k s] at hs
    rw [hlen _ _ _ hs] at h
    cases h
theorem seg_short (s t : List Int) (h : t.length < s.length) : seg s t = false := by
  cases hs : seg s t with
  | false => rfl
  | true => have := seg_len hs; omega

set_option maxHeartbeats 4000000 in
set_option maxRecDepth 100000 in
theorem startsWith_any (vt vp : Value) (t s : List Int) (w : World) (hs : noStar s) (ht : StrV w vt (zR t)) (hp : StrV w vp (zI (pcs s))) (htl : t.length ≤ 1048576) (hr : ∀ c ∈ t, 0 ≤ c ∧ c ≤ 1114111) :
    Calls Tryd.prog 86 #[vt, vp] w fun e w' => e = .returned (.bool (seg s t)) ∧ w' = w := by
  obtain ⟨at', ct, rfl, hct, hst⟩ := ht
  obtain ⟨ap, cp, rfl, hcp, hsp⟩ := hp
  rw [zR_len] at hct hst
  rw [zI_len, pcs_len] at hcp hsp
  rw [zR_len, zI_len, pcs_len]
  have HT := hidd hst
  have HP := hidd hsp
  have HR := hidd hr
  have HN := hidd hs
  clear hst hsp hr hs hct hcp
  by_cases hlt : t.length < s.length
  · have hz : (t.length : Int) < (s.length : Int) := by omega
    have HE := hidd (seg_short s t hlt)
    go_enter Tryd.func86, Tryd.ntmps86
    go_wp2
    go_ret
    rw [HE.out]
    exact ⟨rfl, rfl⟩
  · have hz : ¬ (t.length : Int) < (s.length : Int) := by omega
    go_enter Tryd.func86, Tryd.ntmps86
    go_wp2
    go_loopw [14] (fun kv wr => ∃ k : Nat, k ≤ s.length ∧ kv = .int .i64 (k : Int) ∧ seg (s.take k) t = true ∧ wr = w) (fun kv _ => s.length - (intOf kv).toNat)
    case atStart => exact ⟨0, Nat.zero_le _, rfl, by simp [seg], rfl⟩
    case round =>
      obtain ⟨k, hk, rfl, hsg, hw'⟩ := hrel
      obtain rfl := hw'.symm
      clear hw'
      have HSg := hidd hsg
      clear hsg
      by_cases hkl : k < s.length
      · have hkz : (k : Int) < (s.length : Int) := by omega
        have hkt : (k : Int) < (t.length : Int) := by omega
        obtain ⟨gt, ot, rfl, hgt, hct⟩ := HT.out.resolve_left (fun h => by have := congrArg List.length h; rw [zR_len, List.length_nil] at this; omega)
        obtain ⟨gp, op, rfl, hgp, hcp⟩ := HP.out.resolve_left (fun h => by have := congrArg List.length h; rw [zI_len, pcs_len, List.length_nil] at this; omega)
        have c1 := (hct k (by omega)).trans (zR_at t (by omega))
        have c2 := (hcp k (by omega)).trans (zI_at (pcs s) (by rw [pcs_len]; omega))
        rw [pcs_at s hkl] at c2
        have Hst := hidd (seg_step s t k hkl (by omega))
        have Hstop := hidd (seg_stop s t (k + 1))
        have hcb := HR.out (t.getD k 0) (by rw [List.getD_eq_getElem?_getD, List.getElem?_eq_getElem (by omega : k < t.length)]; exact List.getElem_mem _)
        have Ho := hidd (pieceI_one (t.getD k 0) (HN.out (s.getD k 0) (by rw [List.getD_eq_getElem?_getD, List.getElem?_eq_getElem hkl]; exact List.getElem_mem _)))
        clear hct hcp
        generalize t.getD k 0 = c at *
        generalize s.getD k 0 = x at *
        generalize pieceI x = y at *
        by_cases h1 : y = c
        · have b1 : (y != c) = false := by simp [h1]
          have HG : Hid (seg (s.take (k + 1)) t = true) := by show _ = _; rw [Hst.out, HSg.out, Ho.out]; simp [h1]
          clear h1
          go_wp2
          go_roundw
          case rel => exact ⟨k + 1, by omega, by go_num, HG.out, by first | rfl | trivial⟩
          case measure => simp [intOf]; omega
        · have b1 : (y != c) = true := by simp [h1]
          by_cases h2 : y = -2
          · have HG : Hid (seg (s.take (k + 1)) t = true) := by show _ = _; rw [Hst.out, HSg.out, Ho.out]; simp [h2]
            subst h2
            go_wp2
            go_roundw
            case rel => exact ⟨k + 1, by omega, by go_num, HG.out, by first | rfl | trivial⟩
            case measure => simp [intOf]; omega
          · have b2 : (y != -2) = true := by simp [h2]
            have HG : Hid (seg s t = false) := Hstop.out (by rw [Hst.out, Ho.out]; simp [h1, h2])
            clear h1 h2
            go_wp2
            go_ret
            rw [HG.out]
            exact ⟨rfl, by first | rfl | trivial⟩
      · have hkz : ¬ (k : Int) < (s.length : Int) := by omega
        have HE : Hid (seg s t = true) := by have := HSg.out; rw [List.take_of_length_le (by omega)] at this; exact this
        go_wp2
        go_ret
        rw [HE.out]
        exact ⟨rfl, by first | rfl | trivial⟩
end Go.Proofs.YtfdmahbjofolhamDoor
