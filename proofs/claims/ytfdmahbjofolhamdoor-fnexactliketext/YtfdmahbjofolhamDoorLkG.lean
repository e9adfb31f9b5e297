import Derived.Test.YtfdmahbjofolhamDoorLkF
import Derived.Test.YtfdmahbjofolhamDoorLkB
import Derived.Test.YtfdmahbjofolhamDoorEdK
namespace Go.Proofs.YtfdmahbjofolhamDoor
open Go Go.RowKit
set_option linter.unusedVariables false
set_option maxRecDepth 100000

theorem runesFrom_bd (s : ByteArray) : ∀ (f p : Nat) (x : Int), x ∈ runesFrom s f p → 0 ≤ x ∧ x ≤ 1114111
  | 0, p, x, h => by simp [runesFrom] at h
  | f + 1, p, x, h => by
    by_cases hp : p < s.size
    · rw [runesFrom_step s f p hp] at h
      rcases List.mem_cons.1 h with rfl | h
      · have := rune_le s p; omega
      · exact runesFrom_bd s f _ x h
    · rw [runesFrom_end s _ p hp] at h; simp at h
theorem runes_bd (s : ByteArray) : chars (runes s) := fun x h => runesFrom_bd s _ _ x h
theorem parts_ok (s : ByteArray) : ∀ x ∈ partsL (runes s), okP x := by
  rw [← goP_parts]
  exact goP_ok false (runes s) (runes_bd s)
theorem StrV.runes {w : World} {g n cap : Nat} {zs : List Int} (h : RunesAt w g zs) (hg : g < w.heap.size) (hn : zs.length = n) (hc : zs.length ≤ cap) : StrV w (.slice (some ⟨g, 0, none⟩) n cap) (zR zs) := by
  subst hn
  exact ⟨_, cap, by rw [zR_len], by rw [zR_len]; exact hc, Or.inr ⟨g, 0, rfl, hg, fun t ht => by rw [zR_len] at ht; rw [Nat.zero_add, zR_at zs ht]; exact h t ht⟩⟩
theorem run_runes' (s : ByteArray) (W : World) (hs : s.size ≤ 1048576) : ∃ cap W', (convert 9 83 (.string s)).run Tryd.prog W = .ok (.slice (some ⟨W.heap.size, 0, none⟩) (runes s).length cap) W' ∧ Below W.heap.size W W' ∧ W'.heap.size = W.heap.size + 1 ∧ StrV W' (.slice (some ⟨W.heap.size, 0, none⟩) (runes s).length cap) (zR (runes s)) := by
  have hsz := conv_runes_size s
  have hle := runes_le s
  have h := run_runes_of_string (P := Tryd.prog) W 9 83 21 s Tryd.underlying9 Tryd.underlying83 Tryd.underlying21 (by rw [hsz]; omega)
  rw [hsz] at h
  obtain ⟨cap, W', h1, h2, h3, h4⟩ := run_runes s W hs
  rw [h] at h1
  simp only [Result.ok.injEq, Value.slice.injEq, true_and] at h1
  obtain ⟨e1, e2⟩ := h1
  refine ⟨_, _, h, by rw [e2]; exact h2, by rw [e2]; exact h3, ?_⟩
  rw [e2]
  exact StrV.runes h4 (by omega) rfl (grownCap_ge W _ 0 _)

set_option maxHeartbeats 4000000 in
set_option maxRecDepth 100000 in
theorem implLike_any (s t : ByteArray) (w : World) (hs : s.size ≤ 1048576) (ht : t.size ≤ 1048576) (hT : Tabs w) :
    Calls Tryd.prog 18 #[.string s, .string t] w fun e w' => e = .returned (.tuple #[.bool (lkVal s t), .int .i64 (txCode [s, t])]) ∧ Below w.heap.size w w' := by
  have HT := hidd hT
  clear hT
  have HBa : Hid (Below w.heap.size w (w.alloc (.cells #[.string s, .string t] 9))) := (Below.refl _ _).alloc (Nat.le_refl _) _
  have Htx := hidd (textsTwo_any w.heap.size 2 s t (w.alloc (.cells #[.string s, .string t] 9)) hs ht (by simp) (texts_new w s t _) (HT.out.below HBa.out))
  by_cases hc : txCode [s, t] = 0
  · have HC := hidd hc
    have HV : Hid (lkVal s t = fit (partsL (runes s)) (runes t)) := by show _ = _; rw [lkVal, if_pos hc]
    have hss : s.size ≤ 65536 ∧ t.size ≤ 65536 := by
      rw [txCode_two] at hc
      split at hc
      · omega
      · omega
    clear hc
    go_enter Tryd.func18, Tryd.ntmps18
    go_wp2_with fail
    refine Htx.out.mono ?_
    rintro e w1 ⟨rfl, hb1⟩
    rw [HC.out]
    have HB1 := hidd (HBa.out.trans (hb1.mono HBa.out.size))
    clear hb1
    go_wp2_with fail
    refine (piecesOf_any s _ hss.1).mono ?_
    rintro e w2 ⟨vp, rfl, hown, hb2⟩
    have HB2 := hidd (HB1.out.trans (hb2.mono HB1.out.size))
    obtain ⟨cf, wf, hcf, hbf, hsf, hvf⟩ := run_runes' t w2 ht
    have HVp : Hid (StrV wf vp (zI (pcs (partsL (runes s))))) := (StrV.own hown (zI_len _)).below hbf
    have HVt := hidd hvf
    have HB3 := hidd (HB2.out.trans (hbf.mono HB2.out.size))
    clear hown hb2 hbf hvf
    have hpl := partsL_len (runes s)
    have hr1 := runes_le s
    have hr2 := runes_le t
    have Hfi := hidd (fits_any vp _ (partsL (runes s)) (runes t) wf (parts_ok s) (by omega) (by omega) (runes_bd t) HVp.out HVt.out)
    go_wp2_with fail
    refine Hfi.out.mono ?_
    rintro e w4 ⟨rfl, hb4⟩
    have HB4 := hidd (HB3.out.trans (hb4.mono HB3.out.size))
    clear hb4
    go_wp2
    go_ret2
    rw [HV.out, HC.out]
    exact ⟨rfl, HB4.out⟩
  · have hcn : (txCode [s, t] != 0) = true := by rw [bne_iff_ne]; exact hc
    have HV := hidd (lkVal_ne hc)
    clear hc
    go_enter Tryd.func18, Tryd.ntmps18
    go_wp2_with fail
    refine Htx.out.mono ?_
    rintro e w1 ⟨rfl, hb1⟩
    have HB1 := hidd (HBa.out.trans (hb1.mono HBa.out.size))
    clear hb1
    go_wp2
    go_ret2
    rw [HV.out]
    exact ⟨rfl, HB1.out⟩
end Go.Proofs.YtfdmahbjofolhamDoor
