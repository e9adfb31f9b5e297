import Derived.Test.YtgoklapafidpkaaGreatDoorDocOKJ19
import Derived.Test.YtgoklapafidpkaaGreatDoorDocOKJ21
import Derived.Test.YtgoklapafidpkaaGreatDoorDocOKJ20
import Derived.Test.YtgoklapafidpkaaGreatDoorDocOKJ02
import Derived.Test.YtgoklapafidpkaaGreatDoorDocOKJ15
import Derived.Test.YtgoklapafidpkaaGreatDoorDocOKJ22
import Derived.Deep.DeepCutAuto
namespace Go.Proofs.YtgoklapafidpkaaGreatDoor
open Go Go.RowKit
set_option linter.unusedVariables false

theorem fold_set (zs : List Int) (k : Nat) (hk : k < zs.length) :
    (((zs.take k).map foldZ ++ zs.drop k).map (Value.int .i64)).set k (.int .i64 (foldZ zs[k])) = ((zs.take (k + 1)).map foldZ ++ zs.drop (k + 1)).map (Value.int .i64) := by
  have hd : zs.drop k = zs[k] :: zs.drop (k + 1) := by rw [List.drop_eq_getElem_cons hk]
  have ht : zs.take (k + 1) = zs.take k ++ [zs[k]] := List.take_succ_eq_append_getElem hk
  have e : (((zs.take k).map foldZ).map (Value.int .i64)).length = k := by simp; omega
  rw [List.map_append, List.set_append_right _ _ (by omega), e, Nat.sub_self, hd, ht]
  simp only [List.map_append, List.map_cons, List.map_nil, List.set_cons_zero, List.append_assoc, List.cons_append, List.nil_append]
theorem fold_at (zs : List Int) (k : Nat) (hk : k < zs.length) : (((zs.take k).map foldZ ++ zs.drop k).map (Value.int .i64))[k]? = some (.int .i64 zs[k]) := by
  have e : (((zs.take k).map foldZ).map (Value.int .i64)).length = k := by simp; omega
  rw [List.map_append, List.getElem?_append_right (by omega), e, Nat.sub_self]
  simp [hk]
set_option maxHeartbeats 1000000 in
set_option maxRecDepth 100000 in
theorem l01Fold_any (s : ByteArray) (w : World) (hs : s.size ≤ 65536) (hv : validB s = true) :
    Calls Tryz.prog 141 #[.string s] w fun e w' => e = .returned (.string ⟨(encs (foldR s)).toArray⟩) ∧ Below w.heap.size w w' := by
  have HL : Hid (decL s = runes s) := by show _ = _; rw [decL, if_pos hv]
  have hn := runes_le s
  have Hch := hidd (foldR_chr s hv)
  have HR : Hid (foldR s = (runes s).map foldZ) := rfl
  go_enter Tryz.func141, Tryz.ntmps141
  go_wp2_with fail
  refine (decode_any s _ (by omega)).mono ?_
  rintro e w1 ⟨v, rfl, hown, hb1⟩
  rw [HL.out] at hown
  rw [HR.out] at Hch
  obtain ⟨zs, hzs⟩ : ∃ zs, zs = runes s := ⟨_, rfl⟩
  rw [← hzs] at hown Hch hn HR
  clear HL hzs
  rcases own_cases hown with ⟨rfl, hz⟩ | ⟨g, cap, rfl, hbg, hgl⟩
  · obtain rfl : zs = [] := List.eq_nil_of_length_eq_zero hz
    clear hown Hch
    go_wp2
    refine wp_loop_rounds 1 ?_
    rw [rounds_succ]
    go_wp2_with fail
    refine (encode_zero none 0 _).mono ?_
    rintro e w2 ⟨rfl, hb2⟩
    go_wp2
    go_ret
    rw [HR.out]
    exact ⟨rfl, hb1.trans (hb2.mono hb1.size)⟩
  · have HO := hidd hown
    clear hown
    go_wp2
    go_loopw [5] (fun i wr => ∃ k : Nat, k ≤ zs.length ∧ i = .int .i64 k ∧ wr.ownsRow w.heap.size 3 1 (.slice (some ⟨g, 0, none⟩) zs.length cap) zs.length (((zs.take k).map foldZ ++ zs.drop k).map (Value.int .i64)) ∧ Below w.heap.size w wr) (fun i _ => zs.length - (intOf i).toNat)
    case atStart => exact ⟨0, Nat.zero_le _, rfl, by simpa using HO.out, hb1⟩
    case round =>
      obtain ⟨k, hk, rfl, hown, hbel⟩ := hrel
      by_cases hlt : k < zs.length
      · have q1 : wr.cell? ⟨g, k, none⟩ = some (.int .i64 zs[k]) := by rw [hown.cellAt k (by omega)]; exact fold_at zs k hlt
        have f1 := hown.frozenAt k
        have st := hidd (hown.stored k (.int .i64 (foldZ zs[k])))
        clear hown
        go_wp2_with fail
        refine (specFold_any _ _).mono ?_
        rintro e w2 ⟨rfl, rfl⟩
        generalize hfz : foldZ zs[k] = fz at st ⊢
        have Hfz := hidd hfz
        clear hfz
        go_wp2
        go_roundw
        case rel =>
          refine ⟨k + 1, by omega, by go_num, ?_, hbel.setCell (p := ⟨g, k, none⟩) hbg _⟩
          have h := st.out.1
          rw [← Hfz.out, fold_set zs k hlt] at h
          rw [← Hfz.out]
          exact h
        case measure => simp [intOf]; omega
      · have HK : Hid (k = zs.length) := by show k = zs.length; omega
        rw [HK.out, List.take_of_length_le (Nat.le_refl _), List.drop_of_length_le (Nat.le_refl _), List.append_nil] at hown
        have HO2 := hidd hown
        clear hown
        go_wp2_with fail
        refine (encode_own _ zs.length _ (zs.map foldZ) _ (by omega) (by simp) Hch.out HO2.out).mono ?_
        rintro e w2 ⟨rfl, hb2⟩
        go_wp2
        go_ret
        rw [HR.out]
        exact ⟨rfl, hbel.trans (hb2.mono hbel.size)⟩
end Go.Proofs.YtgoklapafidpkaaGreatDoor

namespace Go.Proofs.YtgoklapafidpkaaGreatDoor
open Go Go.RowKit
set_option linter.unusedVariables false

theorem beq_txt (a b : List UInt8) : ((bs a).toList == (bs b).toList) = (a == b) := by
  rw [Lib.toList_data, Lib.toList_data, show (bs a).data.toList = a from lst_bs a, show (bs b).data.toList = b from lst_bs b]
set_option maxHeartbeats 2000000 in
theorem has_any (a : Option Addr) (cap : Nat) (l : List (List UInt8)) (t : List UInt8) (w : World) (hn : l.length ≤ 1048576) (hS : HoldS w a l) :
    Calls Tryz.prog 142 #[.slice a l.length cap, .string (bs t)] w fun e w' => e = .returned (.bool (hasT l t)) ∧ w' = w := by
  have HS := hidd hS
  clear hS
  go_enter Tryz.func142, Tryz.ntmps142
  go_wp2
  go_loop [5] (fun i => ∃ k : Nat, k ≤ l.length ∧ i = .int .i64 k ∧ hasT (l.take k) t = false) (fun i => l.length - (intOf i).toNat)
  case atStart => exact ⟨0, Nat.zero_le _, rfl, rfl⟩
  case round =>
    obtain ⟨k, hk, rfl, hno⟩ := hrel
    have HN := hidd hno
    clear hno
    by_cases hlt : k < l.length
    · obtain ⟨b, off, rfl, hbl, hc⟩ := HS.out.resolve_left (fun h => by rw [h] at hlt; simp at hlt)
      have g1 := hc k hlt
      have HE := hidd (beq_txt (l.getD k []) t)
      have HS1 := hidd (hasT_snoc l k t hlt)
      have HY : Hid ((l.getD k [] == t) = true → hasT l t = true) := hasT_yes hlt
      generalize l.getD k [] = x at *
      clear hc
      cases hx : (x == t)
      · have he : ((bs x).toList == (bs t).toList) = false := by rw [HE.out]; exact hx
        have HN2 : Hid (hasT (l.take (k + 1)) t = false) := by show _ = _; rw [HS1.out, HN.out, hx]; rfl
        clear HE hx
        go_wp2
        go_round
        case rel => exact ⟨k + 1, by omega, by go_num, HN2.out⟩
        case measure => simp [intOf]; omega
      · have he : ((bs x).toList == (bs t).toList) = true := by rw [HE.out]; exact hx
        have HR := hidd (HY.out hx)
        clear HE hx
        go_wp2
        go_ret
        rw [HR.out]
        exact ⟨rfl, rfl⟩
    · have HR : Hid (hasT l t = false) := by have h := HN.out; rw [List.take_of_length_le (by omega)] at h; exact h
      go_wp2
      go_ret
      rw [HR.out]
      exact ⟨rfl, rfl⟩
end Go.Proofs.YtgoklapafidpkaaGreatDoor
