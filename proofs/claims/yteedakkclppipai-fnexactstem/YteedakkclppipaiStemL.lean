import Derived.Test.YteedakkclppipaiStemK
import Derived.Laws.EntriesVeiled
namespace Go.Proofs.Yteedakkclppipai
open Go Go.RowKit
set_option linter.unusedVariables false

def cutOr (l e : List UInt8) : List UInt8 := if ends l e = true then cutB l e.length else l
theorem cutSuffix_any (s : ByteArray) (e : List UInt8) (w : World) (hs : s.size ≤ 64) :
    Calls Try.prog 45 #[.string s, .string (bs e)] w fun x w' => x = .returned (.tuple #[.string (bs (cutOr (lst s) e)), .bool (ends (lst s) e)]) ∧ w' = w := by
  refine (Try.strings_CutSuffix s (bs e) w (by omega)).mono ?_
  rintro x w' ⟨rfl, rfl⟩
  rw [show (bs e).data.toList = e from lst_bs e]
  exact ⟨rfl, rfl⟩

theorem drop_getD (es : List (List UInt8)) (k : Nat) (h : k < es.length) : es.drop k = es.getD k [] :: es.drop (k + 1) := by
  rw [List.drop_eq_getElem_cons h]
  simp [h]
theorem getD_mem (es : List (List UInt8)) (k : Nat) (h : k < es.length) : es.getD k [] ∈ es := by
  rw [List.getD_eq_getElem?_getD, List.getElem?_eq_getElem h, Option.getD_some]
  exact List.getElem_mem _

set_option maxHeartbeats 2000000 in
theorem apply_any (es : List (List UInt8)) (F : List UInt8 → List UInt8 → List UInt8) (g b n cap : Nat) (s : ByteArray) (w : World) (hs : s.size ≤ 64)
    (eg : ∀ args w, (callFunc g args).run Try.prog w = .ok (.enter g args) w) (hl : es.length = n) (hn : n ≤ 8) (hbl : b < w.heap.size)
    (hc : ∀ t, t < n → w.cell? ⟨b, t, none⟩ = some (.string (bs (es.getD t []))))
    (HF : Hid (∀ e ∈ es, ∀ W, ends (lst s) e = true → Calls Try.prog g #[.string (bs (cutB (lst s) e.length)), .string (bs e)] W fun x W' => x = .returned (.string (bs (F (cutB (lst s) e.length) e))) ∧ Below W.heap.size W W')) :
    Calls Try.prog 35 #[.agg #[.slice (some ⟨b, 0, none⟩) n cap, .func (.func g) #[] #[]], .string s] w fun e w' => e = .returned (.string (bs (firstOf F (lst s) es))) ∧ Below w.heap.size w w' := by
  have Hc := hidd hc
  clear hc
  go_enter Try.func35, Try.ntmps35
  go_wp2_with fail
  have HB : Hid (Below w.heap.size w (w.alloc (.cells #[.slice (some ⟨b, 0, none⟩) n cap, .func (.func g) #[] #[]] 53))) := (Below.refl _ _).alloc (Nat.le_refl _) _
  go_loop [12] (fun i => ∃ k : Nat, k ≤ n ∧ i = .int .i64 k ∧ firstOf F (lst s) es = firstOf F (lst s) (es.drop k)) (fun i => n - (intOf i).toNat)
  case atStart => exact ⟨0, Nat.zero_le _, rfl, rfl⟩
  case round =>
    obtain ⟨k, hk, rfl, hfst⟩ := hrel
    have HK := hidd hfst
    clear hfst
    by_cases hlt : k < n
    · have g1 := (HB.out.cell (p := ⟨b, k, none⟩) hbl).trans (Hc.out k hlt)
      have hkl : k < es.length := by omega
      have HD := hidd (drop_getD es k hkl)
      have HM := hidd (getD_mem es k hkl)
      generalize hee : es.getD k [] = e at *
      clear hee
      by_cases he : ends (lst s) e = true
      · have HR : Hid (firstOf F (lst s) es = F (cutB (lst s) e.length) e) := by show _ = _; rw [HK.out, HD.out, firstOf, if_pos he]
        have HE := hidd he
        have HO : Hid (cutOr (lst s) e = cutB (lst s) e.length) := by show _ = _; rw [cutOr, if_pos he]
        clear he
        go_wp2_with fail
        refine (cutSuffix_any s e _ hs).mono ?_
        rintro x w' ⟨rfl, hw⟩
        obtain rfl := hw.symm
        rw [HE.out, HO.out]
        go_wp2_with (go_at_fn g; refine (HF.out e HM.out _ HE.out).mono ?_; rintro x w2 ⟨rfl, hb2⟩)
        go_ret
        rw [HR.out]
        exact ⟨rfl, HB.out.trans (hb2.mono (by simp))⟩
      · have he' : ends (lst s) e = false := by simpa using he
        have HN : Hid (firstOf F (lst s) es = firstOf F (lst s) (es.drop (k + 1))) := by show _ = _; rw [HK.out, HD.out, firstOf, if_neg he]
        have HE := hidd he'
        clear he he'
        go_wp2_with fail
        refine (cutSuffix_any s e _ hs).mono ?_
        rintro x w' ⟨rfl, hw⟩
        obtain rfl := hw.symm
        rw [HE.out]
        go_wp2_with fail
        go_round
        case rel => exact ⟨k + 1, by omega, by go_num, HN.out⟩
        case measure => simp [intOf]; omega
    · have HR : Hid (firstOf F (lst s) es = lst s) := by show _ = _; rw [HK.out, List.drop_of_length_le (by omega), firstOf]
      go_wp2_with fail
      go_ret
      rw [HR.out, bs_lst]
      exact ⟨rfl, HB.out⟩
end Go.Proofs.Yteedakkclppipai
