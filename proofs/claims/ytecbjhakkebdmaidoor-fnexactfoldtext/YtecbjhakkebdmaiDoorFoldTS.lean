import Derived.Test.YtecbjhakkebdmaiDoorDecS
import Derived.Test.YtecbjhakkebdmaiDoorEncO
import Derived.Test.YtecbjhakkebdmaiDoorFoldS
import Derived.Test.YtecbjhakkebdmaiDoorRunesC
namespace Go.Proofs.YtecbjhakkebdmaiDoor
open Go Go.RowKit
set_option linter.unusedVariables false

def foldR (s : ByteArray) : List Int := (runes s).map foldZ
def foldText (s : ByteArray) : List UInt8 := if decCode s = 0 then encs (foldR s) else []
theorem dec_ok (s : ByteArray) (h : decCode s = 0) : validB s = true ∧ s.size ≤ 65536 := by
  unfold decCode at h
  by_cases h1 : 65536 < s.size
  · rw [if_pos h1] at h; omega
  · rw [if_neg h1] at h
    by_cases h2 : validB s = true
    · exact ⟨h2, by omega⟩
    · rw [if_neg h2] at h; omega
theorem foldR_chr (s : ByteArray) (hv : validB s = true) : ∀ r ∈ foldR s, chr r = true := by
  intro r hr
  simp only [foldR, List.mem_map] at hr
  obtain ⟨x, hx, rfl⟩ := hr
  exact (foldZ_bd x (runes_chr s hv x hx)).2.2
theorem fold_set (zs : List Int) (k : Nat) (hk : k < zs.length) :
    (((zs.take k).map foldZ ++ zs.drop k).map (Value.int .i64)).set k (.int .i64 (foldZ zs[k])) = ((zs.take (k + 1)).map foldZ ++ zs.drop (k + 1)).map (Value.int .i64) := by
  have hd : zs.drop k = zs[k] :: zs.drop (k + 1) := by rw [List.drop_eq_getElem_cons hk]
  have ht : zs.take (k + 1) = zs.take k ++ [zs[k]] := List.take_succ_eq_append_getElem hk
  have e : (((zs.take k).map foldZ).map (Value.int .i64)).length = k := by simp; omega
  rw [List.map_append, List.set_append_right _ _ (by omega), e, Nat.sub_self, hd, ht]
  simp only [List.map_append, List.map_cons, List.map_nil, List.set_cons_zero, List.append_assoc, List.cons_append, List.nil_append]
theorem fold_at (zs : List Int) (k : Nat) (hk : k < zs.length) : (((zs.take k).map foldZ ++ zs.drop k).map (Value.int .i64))[k]? = some (.int .i64 zs[k]) := by
  have e : (((zs.take k).map foldZ).map (Value.int .i64)).length = k := by simp; omega
  rw [List.map_append, List.getElem?_append_right (by omega), e, Nat.sub_self]
  simp [hk]

set_option maxHeartbeats 1000000 in
set_option maxRecDepth 100000 in
theorem l01Fold_any (s : ByteArray) (w : World) (hs : s.size ≤ 65536) (hv : validB s = true) :
    Calls Tryd.prog 13 #[.string s] w fun e w' => e = .returned (.string ⟨(encs (foldR s)).toArray⟩) ∧ Below w.heap.size w w' := by
  have HL : Hid (decL s = runes s) := by show _ = _; rw [decL, if_pos hv]
  have hn := runes_le s
  have Hch := hidd (foldR_chr s hv)
  have HR : Hid (foldR s = (runes s).map foldZ) := rfl
  go_enter Tryd.func13, Tryd.ntmps13
  go_wp2_with fail
  refine (decode_any s _ (by omega)).mono ?_
  rintro e w1 ⟨v, rfl, hown, hb1⟩
  rw [HL.out] at hown
  rw [HR.out] at Hch
  obtain ⟨zs, hzs⟩ : ∃ zs, zs = runes s := ⟨_, rfl⟩
  rw [← hzs] at hown Hch hn HR
  clear HL hzs
  rcases own_cases hown with ⟨rfl, hz⟩ | ⟨g, cap, rfl, hbg, hgl⟩
  · obtain rfl : zs = [] := List.eq_nil_of_length_eq_zero hz
    clear hown Hch
    go_wp2
    refine wp_loop_rounds 1 ?_
    rw [rounds_succ]
    go_wp2_with fail
    refine (encode_zero none 0 _).mono ?_
    rintro e w2 ⟨rfl, hb2⟩
    go_wp2
    go_ret
    rw [HR.out]
    exact ⟨rfl, hb1.trans (hb2.mono hb1.size)⟩
  · have HO := hidd hown
    clear hown
    go_wp2
    go_loopw [5] (fun i wr => ∃ k : Nat, k ≤ zs.length ∧ i = .int .i64 k ∧ wr.ownsRow w.heap.size 3 1 (.slice (some ⟨g, 0, none⟩) zs.length cap) zs.length (((zs.take k).map foldZ ++ zs.drop k).map (Value.int .i64)) ∧ Below w.heap.size w wr) (fun i _ => zs.length - (intOf i).toNat)
    case atStart => exact ⟨0, Nat.zero_le _, rfl, by simpa using HO.out, hb1⟩
    case round =>
      obtain ⟨k, hk, rfl, hown, hbel⟩ := hrel
      by_cases hlt : k < zs.length
      · have q1 : wr.cell? ⟨g, k, none⟩ = some (.int .i64 zs[k]) := by rw [hown.cellAt k (by omega)]; exact fold_at zs k hlt
        have f1 := hown.frozenAt k
        have st := hidd (hown.stored k (.int .i64 (foldZ zs[k])))
        clear hown
        go_wp2_with fail
        refine (specFold_any _ _).mono ?_
        rintro e w2 ⟨rfl, rfl⟩
        generalize hfz : foldZ zs[k] = fz at st ⊢
        have Hfz := hidd hfz
        clear hfz
        go_wp2
        go_roundw
        case rel =>
          refine ⟨k + 1, by omega, by go_num, ?_, hbel.setCell (p := ⟨g, k, none⟩) hbg _⟩
          have h := st.out.1
          rw [← Hfz.out, fold_set zs k hlt] at h
          rw [← Hfz.out]
          exact h
        case measure => simp [intOf]; omega
      · have HK : Hid (k = zs.length) := by show k = zs.length; omega
        rw [HK.out, List.take_of_length_le (Nat.le_refl _), List.drop_of_length_le (Nat.le_refl _), List.append_nil] at hown
        have HO2 := hidd hown
        clear hown
        go_wp2_with fail
        refine (encode_own _ zs.length _ (zs.map foldZ) _ (by omega) (by simp) Hch.out HO2.out).mono ?_
        rintro e w2 ⟨rfl, hb2⟩
        go_wp2
        go_ret
        rw [HR.out]
        exact ⟨rfl, hbel.trans (hb2.mono hbel.size)⟩

set_option maxHeartbeats 1000000 in
theorem specFoldText_any (s : ByteArray) (w : World) (hs : s.size ≤ 1048576) :
    Calls Tryd.prog 5 #[.string s] w fun e w' => e = .returned (.tuple #[.string ⟨(foldText s).toArray⟩, .int .i64 (decCode s)]) ∧ Below w.heap.size w w' := by
  by_cases hc : decCode s = 0
  · have HD := hidd (dec_ok s hc)
    have HC := hidd hc
    have HT : Hid (foldText s = encs (foldR s)) := by show _ = _; rw [foldText, if_pos hc]
    clear hc
    go_enter Tryd.func5, Tryd.ntmps5
    go_wp2_with fail
    refine (specDecode_any s _ hs).mono ?_
    rintro e w1 ⟨v, rfl, _, hb1⟩
    rw [HC.out]
    go_wp2_with fail
    refine (l01Fold_any s _ HD.out.2 HD.out.1).mono ?_
    rintro e w2 ⟨rfl, hb2⟩
    go_wp2
    go_ret2
    rw [HT.out, HC.out]
    exact ⟨rfl, hb1.trans (hb2.mono hb1.size)⟩
  · have hcn : (decCode s != 0) = true := by rw [bne_iff_ne]; exact hc
    have HT : Hid (foldText s = []) := by show _ = _; rw [foldText, if_neg hc]
    clear hc
    go_enter Tryd.func5, Tryd.ntmps5
    go_wp2_with fail
    refine (specDecode_any s _ hs).mono ?_
    rintro e w1 ⟨v, rfl, _, hb1⟩
    go_wp2
    go_ret2
    rw [HT.out]
    exact ⟨rfl, hb1⟩
end Go.Proofs.YtecbjhakkebdmaiDoor
