import Derived.Test.YtfdmahbjofolhamDoorTextCode
import Derived.Test.YtfdmahbjofolhamDoorEdT
namespace Go.Proofs.YtfdmahbjofolhamDoor
open Go Go.RowKit
set_option linter.unusedVariables false

/-! impl.textsCode: what is wrong with texts. -/
def bs0 : ByteArray := ⟨#[]⟩
def txCode (l : List ByteArray) : Int := if l.any (fun s => decide (65536 < s.size)) = true then 2 else if l.all validB = true then 0 else 3
def TextsAt (w : World) (g : Nat) (l : List ByteArray) : Prop := ∀ t, t < l.length → w.cell? ⟨g, t, none⟩ = some (.string (l.getD t bs0))
theorem getD_mem' {l : List ByteArray} {k : Nat} (h : k < l.length) : l.getD k bs0 ∈ l := by
  rw [List.getD_eq_getElem?_getD, List.getElem?_eq_getElem h]; exact List.getElem_mem _
theorem mem_getD {l : List ByteArray} {s : ByteArray} (h : s ∈ l) : ∃ k, k < l.length ∧ l.getD k bs0 = s := by
  obtain ⟨k, hk, e⟩ := List.getElem_of_mem h
  exact ⟨k, hk, by rw [List.getD_eq_getElem?_getD, List.getElem?_eq_getElem hk]; exact e⟩

set_option maxHeartbeats 2000000 in
set_option maxRecDepth 100000 in
theorem textsCode_any (g cap : Nat) (l : List ByteArray) (w : World) (hl : l.length ≤ 4096) (hsz : ∀ s ∈ l, s.size ≤ 1048576) (hg : g < w.heap.size) (hc : TextsAt w g l) (hT : Tabs w) :
    Calls Tryd.prog 49 #[.slice (some ⟨g, 0, none⟩) l.length cap] w fun e w' => e = .returned (.int .i64 (txCode l)) ∧ Below w.heap.size w w' := by
  have HT := hidd hT
  have HC := hidd hc
  have HS := hidd hsz
  clear hT hc hsz
  go_enter Tryd.func49, Tryd.ntmps49
  go_wp2
  go_loopw [10] (fun kv wr => ∃ k : Nat, k ≤ l.length ∧ kv = .int .i64 (k : Int) ∧ (∀ j, j < k → ¬ 65536 < (l.getD j bs0).size) ∧ wr = w) (fun kv _ => l.length - (intOf kv).toNat)
  case atStart => exact ⟨0, Nat.zero_le _, rfl, fun j h => by omega, rfl⟩
  case round =>
    obtain ⟨k, hk, rfl, hsh, hw'⟩ := hrel
    obtain rfl := hw'.symm
    have HSh := hidd hsh
    clear hsh
    by_cases hlt : k < l.length
    · have hltz : (k : Int) < (l.length : Int) := by omega
      have c1 := HC.out k hlt
      have Hm := hidd (getD_mem' hlt)
      have Hnx : Hid (¬ 65536 < (l.getD k bs0).size → ∀ j, j < k + 1 → ¬ 65536 < (l.getD j bs0).size) := fun h j hj => by
        by_cases e : j = k
        · rw [e]; exact h
        · exact HSh.out j (by omega)
      generalize hsk : l.getD k bs0 = s at *
      clear hsk
      by_cases hlong : 65536 < s.size
      · have hlz : (65536 : Int) < (s.size : Int) := by omega
        have HX : Hid (txCode l = 2) := by show _ = _; rw [txCode, if_pos (List.any_eq_true.2 ⟨s, Hm.out, by simpa using hlong⟩)]
        go_wp2
        go_ret
        rw [HX.out]
        exact ⟨rfl, Below.refl _ _⟩
      · have hlz : ¬ (65536 : Int) < (s.size : Int) := by omega
        go_wp2
        go_roundw
        case rel => exact ⟨k + 1, by omega, by go_num, Hnx.out hlong, by first | rfl | trivial⟩
        case measure => simp [intOf]; omega
    · have hltz : ¬ (k : Int) < (l.length : Int) := by omega
      obtain rfl : k = l.length := by omega
      have HNo : Hid (¬ l.any (fun s => decide (65536 < s.size)) = true) := by
        intro h
        obtain ⟨s, hs, h1⟩ := List.any_eq_true.1 h
        obtain ⟨j, hj, e⟩ := mem_getD hs
        exact HSh.out j hj (by rw [e]; simpa using h1)
      go_wp2
      go_loopw [20] (fun kv wr => ∃ k : Nat, k ≤ l.length ∧ kv = .int .i64 (k : Int) ∧ (∀ j, j < k → validB (l.getD j bs0) = true) ∧ Below w.heap.size w wr) (fun kv _ => l.length - (intOf kv).toNat)
      case atStart => exact ⟨0, Nat.zero_le _, rfl, fun j h => by omega, Below.refl _ _⟩
      case round =>
        obtain ⟨k, hk2, rfl, hva, hbel⟩ := hrel
        have HVa := hidd hva
        have HB := hidd hbel
        clear hva hbel
        by_cases hlt : k < l.length
        · have hltz : (k : Int) < (l.length : Int) := by omega
          have c1 := (HB.out.cell (p := ⟨g, k, none⟩) hg).trans (HC.out k hlt)
          have Hm := hidd (getD_mem' hlt)
          have Hle := hidd (HSh.out k hlt)
          have Hnx : Hid (validB (l.getD k bs0) = true → ∀ j, j < k + 1 → validB (l.getD j bs0) = true) := fun h j hj => by
            by_cases e : j = k
            · rw [e]; exact h
            · exact HVa.out j (by omega)
          have hs1 := HS.out _ Hm.out
          have Htc := hidd (textCode_any (l.getD k bs0) wr hs1 (HT.out.below HB.out))
          generalize hsk : l.getD k bs0 = s at *
          clear hsk
          cases hv : validB s with
          | true =>
            have Hc0 : Hid (decCode s = 0) := (decList_ok Hle.out hv).2
            have HV2 := hidd (Hnx.out hv)
            clear hv
            go_wp2_with fail
            refine Htc.out.mono ?_
            rintro e w1 ⟨rfl, hb1⟩
            rw [Hc0.out]
            have HB1 := hidd (HB.out.trans (hb1.mono HB.out.size))
            clear hb1
            go_wp2
            go_roundw
            case rel => exact ⟨k + 1, by omega, by go_num, HV2.out, HB1.out⟩
            case measure => simp [intOf]; omega
          | false =>
            have Hc0 : Hid (decCode s = 3) := decCode_bad Hle.out hv
            have HX : Hid (txCode l = 3) := by
              show _ = _
              rw [txCode, if_neg HNo.out, if_neg]
              intro h
              have := List.all_eq_true.1 h s Hm.out
              rw [hv] at this
              cases this
            clear hv
            go_wp2_with fail
            refine Htc.out.mono ?_
            rintro e w1 ⟨rfl, hb1⟩
            rw [Hc0.out]
            have HB1 := hidd (HB.out.trans (hb1.mono HB.out.size))
            clear hb1
            go_wp2
            go_ret
            rw [HX.out]
            exact ⟨rfl, HB1.out⟩
        · have hltz : ¬ (k : Int) < (l.length : Int) := by omega
          obtain rfl : k = l.length := by omega
          have HX : Hid (txCode l = 0) := by
            show _ = _
            rw [txCode, if_neg HNo.out, if_pos]
            refine List.all_eq_true.2 fun s hs => ?_
            obtain ⟨j, hj, e⟩ := mem_getD hs
            rw [← e]; exact HVa.out j hj
          go_wp2
          go_ret
          rw [HX.out]
          exact ⟨rfl, HB.out⟩
end Go.Proofs.YtfdmahbjofolhamDoor
