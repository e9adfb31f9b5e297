import Derived.Test.YtionicjnoogpjaaGreatDoorAnalyzJ04
import Derived.Test.YtionicjnoogpjaaGreatDoorAnalyzJ19
import Derived.Test.YtionicjnoogpjaaGreatDoorAnalyzJ20
import Derived.Test.YtionicjnoogpjaaGreatDoorAnalyzJ00
import Derived.Deep.DeepCutAuto
import Derived.Test.YtionicjnoogpjaaGreatDoorAnalyzJ03
import Derived.Test.YtionicjnoogpjaaGreatDoorAnalyzJ01
namespace Go.Proofs.YtionicjnoogpjaaGreatDoor
open Go Go.RowKit
set_option linter.unusedVariables false

theorem toList_ne {o : ByteArray} (h : 0 < o.size) : (o.toList == []) = false := by
  rw [beq_eq_false_iff_ne, Lib.toList_data]
  intro e
  have := lst_len o
  rw [lst, e] at this
  simp at this
  omega
theorem cat_lst (a b : ByteArray) : lst (a ++ b) = lst a ++ lst b := by simp [lst]
theorem conv_one (w : World) (r : Int) (h0 : 0 ≤ r) (h1 : r ≤ 255) : (convert 22 9 (.slice (some ⟨w.heap.size, 0, none⟩) 1 1)).run Tryz.prog (w.alloc (.cells #[.int .u8 r] 5)) = .ok (.string (bs [UInt8.ofNat r.toNat])) (w.alloc (.cells #[.int .u8 r] 5)) := by
  refine run_convert_bytes_back _ 22 9 5 ⟨w.heap.size, 0, none⟩ 1 [UInt8.ofNat r.toNat] Tryz.underlying22 Tryz.underlying5 Tryz.underlying9 fun j hj => ?_
  rw [add_head, World.cell?_alloc_at (hn := rfl)]
  match j, hj with
  | 0, _ => exact congrArg (fun z => some (Value.int .u8 z)) (byte_back r h0 h1).symm
theorem take4_pad (q : List UInt8) : (q ++ [48, 48, 48]).take 4 = (q.take 4 ++ [48, 48, 48]).take 4 := by
  by_cases h : q.length ≤ 4
  · rw [List.take_of_length_le (l := q) h]
  · rw [List.take_append_of_le_length (by omega), List.take_append_of_le_length (by rw [List.length_take]; omega), List.take_take]; rfl
theorem pad_more (q : List UInt8) (h : 1 ≤ q.length) : (q ++ [48, 48, 48]).take 4 = (q ++ [48] ++ [48, 48, 48]).take 4 := by
  match q, h with
  | a :: t, _ =>
    match t with
    | [] => rfl
    | [b] => rfl
    | [b, c] => rfl
    | b :: c :: d :: u => simp
def strOf : Value → ByteArray
  | .string s => s
  | _ => ⟨#[]⟩
set_option maxHeartbeats 4000000 in
set_option maxRecDepth 100000 in
theorem specPhone_some (s : ByteArray) (w : World) (hs : s.size ≤ 1048576) (hc : decCode s = 0) :
    Calls Tryz.prog 72 #[.string s] w fun e w' => e = .returned (.string (bs (phoneL (decList s)))) ∧ Below w.heap.size w w' := by
  have HC := hidd hc
  clear hc
  have hn := decList_le s
  go_enter Tryz.func72, Tryz.ntmps72
  go_wp2_with fail
  refine (specDecode_any s _ (by omega)).mono ?_
  rintro e w1 ⟨v0, rfl, hown0, hb1⟩
  rw [HC.out]
  generalize hz : decList s = l at *
  have Hz := hidd hz
  clear hz
  rcases own_cases hown0 with ⟨rfl, hl0⟩ | ⟨g, cap, rfl, hgb, hgl⟩
  · have hl : l = [] := List.length_eq_zero_iff.1 hl0
    subst hl
    clear hl0 hown0
    go_wp2_with fail
    go_loop [5, 7] (fun c i => c = .string ⟨#[]⟩ ∧ i = .int .i64 0) (fun _ _ => 0)
    case atStart => exact ⟨rfl, rfl⟩
    case round =>
      obtain ⟨rfl, rfl⟩ := hrel
      go_wp2_with fail
      go_loop [5] (fun c => c = .string ⟨#[]⟩) (fun _ => 0)
      case atStart => rfl
      case round =>
        obtain rfl := hrel
        go_wp2_with fail
        go_ret
        rw [Hz.out]
        exact ⟨rfl, hb1⟩
  · have HO := hidd hown0
    have HB := hidd hb1
    have Hcell := hidd (own_cells hown0 rfl)
    clear hown0 hb1
    have ho0 : lst (⟨#[]⟩ : ByteArray) = [] := rfl
    go_wp2_with fail
    go_loopw [5, 6, 7] (fun c d i wr => ∃ (k : Nat) (q : List UInt8) (z : Int) (o : ByteArray), k ≤ l.length ∧ i = .int .i64 k ∧ d = .int .i64 z ∧ c = .string o ∧ lst o = q.take 4 ∧ PAt l k q z ∧ Below w1.heap.size w1 wr) (fun _ _ i _ => l.length - (intOf i).toNat)
    case atStart => exact ⟨0, [], 0, ⟨#[]⟩, by omega, rfl, rfl, rfl, rfl, PAt.zero l, Below.refl _ _⟩
    case round =>
      obtain ⟨k, q, z, o, hk, rfl, rfl, rfl, hq, hat, hbr⟩ := hrel
      have Hq := hidd hq
      have HA := hidd hat
      have HBr := hidd hbr
      have hosz : o.size ≤ 4 := by rw [← lst_len, hq, List.length_take]; omega
      clear hq hat hbr
      by_cases hlt : k < l.length
      · have g1 := (HBr.out.cell (p := ⟨g, 0 + k, none⟩) hgl).trans (Hcell.out k hlt)
        rw [Nat.zero_add] at g1
        have hzd := HA.out.last
        generalize hr0 : l.getD k 0 = r0 at *
        have Hr0 := hidd hr0
        clear hr0
        have HS : Hid (∀ q' d', pstep (q, z) (foldZ r0) = (q', d') → PAt l (k + 1) q' d') := by
          intro q' d' h
          exact HA.out.step hlt (by rw [Hr0.out]; exact h)
        go_wp2_with fail
        refine (specFold_any _ _).mono ?_
        rintro e w' ⟨rfl, hw⟩
        obtain rfl := hw.symm
        clear hw
        generalize foldZ r0 = r at *
        by_cases h97 : r < 97
        · have HN := hidd (HS.out _ _ (ps_out q z r (Or.inl h97)))
          clear HS
          go_wp2_with fail
          go_roundw
          case rel => exact ⟨k + 1, q, z, o, by omega, by go_num, rfl, rfl, Hq.out, HN.out, HBr.out⟩
          case measure => simp [intOf]; omega
        have h97b : decide (r < 97) = false := decide_eq_false h97
        by_cases h122 : 122 < r
        · have HN := hidd (HS.out _ _ (ps_out q z r (Or.inr h122)))
          clear HS
          go_wp2_with fail
          go_roundw
          case rel => exact ⟨k + 1, q, z, o, by omega, by go_num, rfl, rfl, Hq.out, HN.out, HBr.out⟩
          case measure => simp [intOf]; omega
        have h122b : decide (122 < r) = false := decide_eq_false h122
        have hsd := sdig_bd r
        have hr97 : 97 ≤ r := by omega
        have hr122 : r ≤ 122 := by omega
        by_cases hq0 : q = []
        · subst hq0
          have HN := hidd (HS.out _ _ (ps_first z r (by omega) (by omega)))
          clear HS
          obtain rfl : o = ⟨#[]⟩ := by rw [← bs_lst o, Hq.out]; rfl
          by_cases h1 : r = 104
          · have h1b : (r == 104) = true := beq_iff_eq.2 h1
            have h2b : (r == 119) = false := beq_eq_false_iff_ne.2 (by omega)
            clear h1
            have hcv : (convert 22 9 (.slice (some ⟨wr.heap.size, 0, none⟩) 1 1)).run Tryz.prog (wr.alloc (.cells #[.int .u8 (r)] 5)) = .ok (.string (bs [UInt8.ofNat (r).toNat])) (wr.alloc (.cells #[.int .u8 (r)] 5)) := conv_one wr (r) (by omega) (by omega)
            go_wp2_with fail
            refine (sound_any r _ (by omega) (by omega)).mono ?_
            rintro e w' ⟨rfl, hw⟩
            obtain rfl := hw.symm
            clear hw
            go_wp2_with fail
            go_roundw
            case rel => exact ⟨k + 1, [UInt8.ofNat r.toNat], sdig r, _, by omega, by go_num, rfl, rfl, lst_bs _, HN.out, (HBr.out.alloc HBr.out.size _)⟩
            case measure => simp [intOf]; omega
          have h1b : (r == 104) = false := beq_eq_false_iff_ne.2 h1
          by_cases h2 : r = 119
          · have h2b : (r == 119) = true := beq_iff_eq.2 h2
            clear h2 h1
            have hcv : (convert 22 9 (.slice (some ⟨wr.heap.size, 0, none⟩) 1 1)).run Tryz.prog (wr.alloc (.cells #[.int .u8 (r)] 5)) = .ok (.string (bs [UInt8.ofNat (r).toNat])) (wr.alloc (.cells #[.int .u8 (r)] 5)) := conv_one wr (r) (by omega) (by omega)
            go_wp2_with fail
            refine (sound_any r _ (by omega) (by omega)).mono ?_
            rintro e w' ⟨rfl, hw⟩
            obtain rfl := hw.symm
            clear hw
            go_wp2_with fail
            go_roundw
            case rel => exact ⟨k + 1, [UInt8.ofNat r.toNat], sdig r, _, by omega, by go_num, rfl, rfl, lst_bs _, HN.out, (HBr.out.alloc HBr.out.size _)⟩
            case measure => simp [intOf]; omega
          have h2b : (r == 119) = false := beq_eq_false_iff_ne.2 h2
          clear h1 h2
          have hcv : (convert 22 9 (.slice (some ⟨wr.heap.size, 0, none⟩) 1 1)).run Tryz.prog (wr.alloc (.cells #[.int .u8 (r)] 5)) = .ok (.string (bs [UInt8.ofNat (r).toNat])) (wr.alloc (.cells #[.int .u8 (r)] 5)) := conv_one wr (r) (by omega) (by omega)
          go_wp2_with fail
          refine (sound_any r _ (by omega) (by omega)).mono ?_
          rintro e w' ⟨rfl, hw⟩
          obtain rfl := hw.symm
          clear hw
          go_wp2_with fail
          go_roundw
          case rel => exact ⟨k + 1, [UInt8.ofNat r.toNat], sdig r, _, by omega, by go_num, rfl, rfl, lst_bs _, HN.out, (HBr.out.alloc HBr.out.size _)⟩
          case measure => simp [intOf]; omega
        · have hql : 0 < q.length := List.length_pos_iff.2 hq0
          have ho1 : 0 < o.size := by rw [← lst_len, Hq.out, List.length_take]; omega
          have hoe : (o.toList == []) = false := toList_ne ho1
          have hon : (o.toList != []) = true := by rw [bne, hoe]; rfl
          by_cases h1 : r = 104
          · have HN := hidd (HS.out _ _ (ps_mute q z r (by omega) (by omega) hq0 (Or.inl h1)))
            clear HS
            have h1b : (r == 104) = true := beq_iff_eq.2 h1
            clear h1
            go_wp2_with fail
            go_roundw
            case rel => exact ⟨k + 1, q, z, o, by omega, by go_num, rfl, rfl, Hq.out, HN.out, HBr.out⟩
            case measure => simp [intOf]; omega
          have h1b : (r == 104) = false := beq_eq_false_iff_ne.2 h1
          by_cases h2 : r = 119
          · have HN := hidd (HS.out _ _ (ps_mute q z r (by omega) (by omega) hq0 (Or.inr h2)))
            clear HS
            have h2b : (r == 119) = true := beq_iff_eq.2 h2
            clear h1 h2
            go_wp2_with fail
            go_roundw
            case rel => exact ⟨k + 1, q, z, o, by omega, by go_num, rfl, rfl, Hq.out, HN.out, HBr.out⟩
            case measure => simp [intOf]; omega
          have h2b : (r == 119) = false := beq_eq_false_iff_ne.2 h2
          have HP := hidd (fun hn => HS.out _ _ (ps_same q z r (by omega) (by omega) hq0 (by omega) hn))
          have HQ := hidd (fun hn hd => HS.out _ _ (ps_new q z r (by omega) (by omega) hq0 (by omega) hn hd))
          clear HS h1 h2
          go_wp2_with fail
          refine (sound_any r _ (by omega) (by omega)).mono ?_
          rintro e w' ⟨rfl, hw⟩
          obtain rfl := hw.symm
          clear hw
          generalize sdig r = d at *
          by_cases hd0 : d = 0
          · have HN := hidd (HP.out (Or.inl hd0))
            subst hd0
            go_wp2_with fail
            go_roundw
            case rel => exact ⟨k + 1, q, 0, o, by omega, by go_num, rfl, rfl, Hq.out, HN.out, HBr.out⟩
            case measure => simp [intOf]; omega
          have hd0n : (d != 0) = true := bne_iff_ne.2 hd0
          by_cases hdz : d = z
          · have HN := hidd (HP.out (Or.inr hdz))
            subst hdz
            go_wp2_with fail
            go_roundw
            case rel => exact ⟨k + 1, q, d, o, by omega, by go_num, rfl, rfl, Hq.out, HN.out, HBr.out⟩
            case measure => simp [intOf]; omega
          have hdzn : (d != z) = true := bne_iff_ne.2 hdz
          have HN := hidd (HQ.out hd0 hdz)
          clear hdz hd0 HP HQ
          by_cases h4 : o.size < 4
          · have h4z : (o.size : Int) < 4 := by omega
            have hq4 : q.length < 4 := by rw [← lst_len, Hq.out, List.length_take] at h4; omega
            have hbz : (bs [UInt8.ofNat (48 + d).toNat]).size ≤ 1 := by rw [bs_size]; exact Nat.le_refl _
            have HO : Hid (lst (o ++ bs [UInt8.ofNat (48 + d).toNat]) = (q ++ [UInt8.ofNat (48 + d).toNat]).take 4) := by
              show _ = _
              rw [cat_lst, Hq.out, lst_bs, List.take_of_length_le (by omega), List.take_of_length_le (by simp; omega)]
            have hcv : (convert 22 9 (.slice (some ⟨wr.heap.size, 0, none⟩) 1 1)).run Tryz.prog (wr.alloc (.cells #[.int .u8 (48 + d)] 5)) = .ok (.string (bs [UInt8.ofNat (48 + d).toNat])) (wr.alloc (.cells #[.int .u8 (48 + d)] 5)) := conv_one wr (48 + d) (by omega) (by omega)
            go_wp2_with fail
            go_roundw
            case rel => exact ⟨k + 1, q ++ [UInt8.ofNat (48 + d).toNat], d, _, by omega, by go_num, rfl, rfl, HO.out, HN.out, (HBr.out.alloc HBr.out.size _)⟩
            case measure => simp [intOf]; omega
          · have h4b : decide ((o.size : Int) < 4) = false := decide_eq_false (by omega)
            have HO : Hid (lst o = (q ++ [UInt8.ofNat (48 + d).toNat]).take 4) := by
              show _ = _
              rw [Hq.out, List.take_append_of_le_length]
              rw [← lst_len, Hq.out, List.length_take] at h4; omega
            go_wp2_with fail
            go_roundw
            case rel => exact ⟨k + 1, q ++ [UInt8.ofNat (48 + d).toNat], d, o, by omega, by go_num, rfl, rfl, HO.out, HN.out, HBr.out⟩
            case measure => simp [intOf]; omega
      · have HD : Hid (phoneL l = if q = [] then [] else (q ++ [48, 48, 48]).take 4) := HA.out.done hlt
        clear HA
        by_cases hq0 : q = []
        · have HE : Hid (phoneL l = []) := by show _ = _; rw [HD.out, if_pos hq0]
          subst hq0
          obtain rfl : o = ⟨#[]⟩ := by rw [← bs_lst o, Hq.out]; rfl
          go_wp2_with fail
          go_loop [5] (fun c => c = .string ⟨#[]⟩) (fun _ => 0)
          case atStart => rfl
          case round =>
            obtain rfl := hrel
            go_wp2_with fail
            go_ret
            rw [Hz.out, HE.out]
            exact ⟨rfl, HB.out.trans (HBr.out.mono HB.out.size)⟩
        · have hql : 0 < q.length := List.length_pos_iff.2 hq0
          have HE : Hid (phoneL l = (lst o ++ [48, 48, 48]).take 4) := by show _ = _; rw [HD.out, if_neg hq0, Hq.out, take4_pad]
          have ho1 : 0 < o.size := by rw [← lst_len, Hq.out, List.length_take]; omega
          go_wp2_with fail
          go_loop [5] (fun c => ∃ t : ByteArray, c = .string t ∧ 0 < t.size ∧ t.size ≤ 4 ∧ phoneL l = (lst t ++ [48, 48, 48]).take 4) (fun c => 4 - (strOf c).size)
          case atStart => exact ⟨o, rfl, ho1, hosz, HE.out⟩
          case round =>
            obtain ⟨t, rfl, ht1, ht4, htp⟩ := hrel
            have HTP := hidd htp
            clear htp
            have hoe : (t.toList == []) = false := toList_ne ht1
            have hon : (t.toList != []) = true := by rw [bne, hoe]; rfl
            by_cases h4 : t.size < 4
            · have h4z : (t.size : Int) < 4 := by omega
              have HM : Hid (phoneL l = (lst (t ++ (⟨#[48]⟩ : ByteArray)) ++ [48, 48, 48]).take 4) := by
                show _ = _
                rw [HTP.out, show (⟨#[48]⟩ : ByteArray) = bs [48] from rfl, cat_lst, lst_bs, pad_more _ (by rw [lst_len]; omega)]
              have HZ : Hid ((t ++ (⟨#[48]⟩ : ByteArray)).size = t.size + 1) := by show _ = _; rw [← lst_len, show (⟨#[48]⟩ : ByteArray) = bs [48] from rfl, cat_lst, lst_bs, List.length_append, lst_len]; rfl
              go_wp2_with fail
              go_round
              case rel => exact ⟨_, rfl, by rw [HZ.out]; omega, by rw [HZ.out]; omega, HM.out⟩
              case measure => simp only [strOf]; show 4 - (t ++ (⟨#[48]⟩ : ByteArray)).size < 4 - t.size; rw [HZ.out]; omega
            · have h4b : decide ((t.size : Int) < 4) = false := decide_eq_false (by omega)
              have HF : Hid (phoneL l = lst t) := by
                show _ = _
                rw [HTP.out, List.take_append_of_le_length (by rw [lst_len]; omega), List.take_of_length_le (by rw [lst_len]; omega)]
              go_wp2_with fail
              go_ret
              rw [Hz.out, HF.out, bs_lst]
              exact ⟨rfl, HB.out.trans (HBr.out.mono HB.out.size)⟩
set_option maxHeartbeats 1000000 in
theorem specPhone_any (s : ByteArray) (w : World) (hs : s.size ≤ 1048576) :
    Calls Tryz.prog 72 #[.string s] w fun e w' => e = .returned (.string (bs (phoneL (decList s)))) ∧ Below w.heap.size w w' := by
  by_cases hc : decCode s = 0
  · exact specPhone_some s w hs hc
  · have hcn : (decCode s != 0) = true := by rw [bne_iff_ne]; exact hc
    have HL := hidd (dec_none s hc)
    clear hc
    go_enter Tryz.func72, Tryz.ntmps72
    go_wp2_with fail
    refine (specDecode_any s _ (by omega)).mono ?_
    rintro e w1 ⟨v0, rfl, hown0, hb1⟩
    generalize decCode s = c at *
    clear hown0
    go_wp2_with fail
    go_ret
    rw [HL.out]
    exact ⟨rfl, hb1⟩
end Go.Proofs.YtionicjnoogpjaaGreatDoor

namespace Go.Proofs.YtionicjnoogpjaaGreatDoor
open Go Go.RowKit
set_option linter.unusedVariables false

theorem Tryz.infoStr : (Tryz.prog.info? 9).map (fun i => (i.zero, i.size, i.bytes)) = some (some (.string ⟨#[]⟩), 1, 16) := by kernel_rfl
theorem take_drop_chr {l : List Int} (h : ∀ r ∈ l, chr r = true) (i n t : Nat) (ht : t < ((l.drop i).take n).length) : chr (((l.drop i).take n).getD t 0) = true := by
  apply h
  rw [List.getD_eq_getElem?_getD, List.getElem?_eq_getElem ht, Option.getD_some]
  exact List.mem_of_mem_drop (List.mem_of_mem_take (List.getElem_mem _))
theorem take_drop_at (l : List Int) (i n t : Nat) (ht : t < ((l.drop i).take n).length) : ((l.drop i).take n).getD t 0 = l.getD (i + t) 0 := by
  rw [List.length_take, List.length_drop] at ht
  rw [List.getD_eq_getElem?_getD, List.getD_eq_getElem?_getD, List.getElem?_take, if_pos (by omega), List.getElem?_drop]
theorem dec_okV (s : ByteArray) (h : decCode s = 0) : validB s = true ∧ s.size ≤ 65536 := by
  unfold decCode at h
  by_cases h1 : 65536 < s.size
  · rw [if_pos h1] at h; omega
  · rw [if_neg h1] at h
    by_cases h2 : validB s = true
    · exact ⟨h2, by omega⟩
    · rw [if_neg h2] at h; omega
theorem own_form {w : World} {base e n : Nat} {v : Value} {xs : List Value} (h : w.ownsRow base e 1 v n xs) (hn : v ≠ .slice none 0 0) : ∃ g cap, v = .slice (some ⟨g, 0, none⟩) n cap := by
  rcases own_cases h with ⟨h1, _⟩ | ⟨g, cap, h1, _, _⟩
  · exact absurd h1 hn
  · exact ⟨g, cap, h1⟩
set_option maxHeartbeats 4000000 in
set_option maxRecDepth 100000 in
theorem specGrams_in (s : ByteArray) (L H : Nat) (w : World) (hs : s.size ≤ 1048576) (HC : Hid (decCode s = 0)) (h1 : 1 ≤ L) (h2 : L ≤ H) (h8 : H ≤ 8) (G : List (List UInt8)) (HG : Hid (gAll L (H + 1 - L) (decList s) = G)) (HK : Hid (∀ r ∈ decList s, chr r = true)) (R : List (List UInt8)) (c : Int) (HR : Hid ((G.length ≤ 4096 → R = G ∧ c = 0) ∧ (¬ G.length ≤ 4096 → R = [] ∧ c = 11))) :
    Calls Tryz.prog 73 #[.string s, .int .i64 L, .int .i64 H] w fun e w' => ∃ v, e = .returned (.tuple #[v, .int .i64 c]) ∧ w'.ownsRow w.heap.size 9 1 v R.length (sCells R) ∧ Below w.heap.size w w' := by
  obtain ⟨i0, hi, hz0, hz1, hz2⟩ := info_parts Tryz.infoStr
  have hn := decList_le s
  have b1 : decide ((L : Int) < 1) = false := decide_eq_false (by omega)
  have b2 : decide ((H : Int) < (L : Int)) = false := decide_eq_false (by omega)
  have b2n : decide (H < L) = false := decide_eq_false (by omega)
  have b3 : decide ((8 : Int) < (H : Int)) = false := decide_eq_false (by omega)
  go_enter Tryz.func73, Tryz.ntmps73
  go_wp2_with fail
  refine (specDecode_any s _ (by omega)).mono ?_
  rintro e w1 ⟨v0, rfl, hown0, hb1⟩
  rw [HC.out]
  generalize decList s = l at *
  rcases own_cases hown0 with ⟨rfl, hl0⟩ | ⟨g, cap, rfl, hgb, hgl⟩
  · have hl : l = [] := List.length_eq_zero_iff.1 hl0
    subst hl
    have HF : Hid (R = [] ∧ c = 0) := by
      have hG : G = [] := by rw [← HG.out]; rfl
      have := HR.out.1 (by rw [hG]; simp)
      rw [hG] at this
      exact this
    clear hl0 hown0
    go_wp2_with fail
    go_loop [10, 11] (fun v i => v = .slice (some ⟨w1.heap.size, 0, none⟩) 0 0 ∧ i = .int .i64 0) (fun _ _ => 0)
    case atStart => exact ⟨rfl, rfl⟩
    case round =>
      obtain ⟨rfl, rfl⟩ := hrel
      go_wp2_with fail
      go_ret2
      rw [HF.out.1, HF.out.2]
      exact ⟨_, rfl, own_mono (own_empty w1 9) hb1.size, hb1.alloc hb1.size _⟩
  · have HB := hidd hb1
    have Hcell := hidd (own_cells hown0 rfl)
    have hlcap : l.length ≤ cap := by
      rcases hown0.2 with ⟨h, _⟩ | ⟨g', cap', cur, h, _, _, hc, _⟩
      · cases h
      · cases h; exact hc
    clear hown0 hb1
    go_wp2_with fail
    go_loopw [10, 11] (fun v i wr => ∃ (k : Nat) (out : List (List UInt8)), k ≤ l.length ∧ i = .int .i64 k ∧ wr.ownsRow w1.heap.size 9 1 v out.length (sCells out) ∧ v ≠ .slice none 0 0 ∧ out.length ≤ 4096 ∧ out ++ gAll L (H + 1 - L) (l.drop k) = G ∧ Below w1.heap.size w1 wr) (fun _ i _ => l.length - (intOf i).toNat)
    case atStart => exact ⟨0, [], by omega, rfl, own_empty w1 9, by simp, by simp, HG.out, (Below.refl _ _).alloc (Nat.le_refl _) _⟩
    case round =>
      obtain ⟨k, out, hk, rfl, hown, hnn, ho, hG, hbr⟩ := hrel
      have HO := hidd hown
      have HN := hidd hnn
      have HBr := hidd hbr
      have HGk := hidd hG
      clear hown hnn hbr hG
      by_cases hlt : k < l.length
      · have HD := hidd (gAll_drop L (H + 1 - L) l k hlt)
        go_wp2_with fail
        go_loopw [10, 12] (fun v i wr => ∃ (n f : Nat) (out : List (List UInt8)), n + f = H + 1 ∧ L ≤ n ∧ i = .int .i64 n ∧ wr.ownsRow w1.heap.size 9 1 v out.length (sCells out) ∧ v ≠ .slice none 0 0 ∧ out.length ≤ 4096 ∧ out ++ (gAt (l.drop k) n f ++ gAll L (H + 1 - L) (l.drop (k + 1))) = G ∧ Below w1.heap.size w1 wr) (fun _ i _ => H + 1 - (intOf i).toNat)
        case atStart => exact ⟨L, H + 1 - L, out, by omega, by omega, rfl, HO.out, HN.out, ho, by rw [← HD.out]; exact HGk.out, HBr.out⟩
        case round =>
          clear HO HN HBr HGk ho
          obtain ⟨n, f, out, hnf, hLn, rfl, hown, hnn, ho, hG, hbr⟩ := hrel
          have HO := hidd hown
          have HN := hidd hnn
          have HBr := hidd hbr
          have HGk := hidd hG
          clear hown hnn hbr hG
          have hform := own_form HO.out HN.out
          have hsz1 := HBr.out.size
          by_cases hnH : n ≤ H
          · have hnz : (n : Int) ≤ (H : Int) := by omega
            by_cases hfit : k + n ≤ l.length
            · have hfz : (k : Int) + (n : Int) ≤ (l.length : Int) := by omega
              obtain ⟨f, rfl⟩ : ∃ f', f = f' + 1 := ⟨f - 1, by omega⟩
              have HST := hidd (gAt_step (l.drop k) n f (by rw [List.length_drop]; omega))
              obtain ⟨g2, c2, rfl⟩ := hform
              by_cases hfull : out.length = 4096
              · have HBIG : Hid (¬ G.length ≤ 4096) := by
                  show ¬ _
                  have := congrArg List.length HGk.out
                  rw [HST.out, List.length_append, List.length_append, List.length_cons] at this
                  omega
                rw [hfull] at *
                go_wp2_with fail
                go_ret2
                rw [(HR.out.2 HBIG.out).1, (HR.out.2 HBIG.out).2]
                exact ⟨_, rfl, own_mono (own_empty wr 9) (by have := HB.out.size; omega), HB.out.trans ((HBr.out.alloc HBr.out.size _).mono HB.out.size)⟩
              · have hfb : ((out.length : Int) == 4096) = false := beq_eq_false_iff_ne.2 (by omega)
                have hzl : ((l.drop k).take n).length = n := by rw [List.length_take, List.length_drop]; omega
                go_wp2_with fail
                refine (encode_some g k n (cap - k) ((l.drop k).take n) _ (by omega) hzl (by omega) (fun t ht => ?_) (fun t ht => take_drop_chr HK.out k n t (by omega))).mono ?_
                · rw [take_drop_at l k n t (by omega), ← Hcell.out (k + t) (by omega), Nat.zero_add]
                  exact HBr.out.cell (p := ⟨g, k + t, none⟩) hgl
                · rintro e w5 ⟨rfl, hb5⟩
                  have HB5 := hidd (HBr.out.trans (hb5.mono HBr.out.size))
                  have HO5 := hidd (own_below HO.out hb5)
                  have hz5 := HB5.out.size
                  clear hb5 HO HBr hzl
                  generalize hT : encs ((l.drop k).take n) = T
                  have HT := hidd hT
                  clear hT
                  rw [show (⟨T.toArray⟩ : ByteArray) = bs T from rfl]
                  go_wp2_with (at_builtin; refine wpList_append_own _ rfl _ _ 23 rfl w1.heap.size 9 i0 (.string ⟨#[]⟩) 1 16 Tryz.underlying23 hi hz0 hz1 hz2 rfl (by decide) _ _ _ rfl (HO5.out.alloc _) ⟨w5.heap.size, 0, none⟩ 1 1 [.string (bs T)] rfl rfl ?c1 ?c2 ?c3 ?c4 ?c5 ?_)
                  case c1 =>
                    intro j u hj
                    match j, hj with
                    | 0, hj => simp at hj; subst hj; simp [Addr.add]
                  case c2 => intro u hu; simp at hu; subst hu; rfl
                  case c3 => unfold maxLen; omega
                  case c4 => omega
                  case c5 => simp; omega
                  intro v' w6 hown' hgrow hne
                  have RR : Hid (w6.ownsRow w1.heap.size 9 1 v' (out ++ [T]).length (sCells (out ++ [T])) ∧ v' ≠ .slice none 0 0 ∧ Below w1.heap.size w1 w6) := by
                    refine ⟨?_, ?_, (HB5.out.alloc hz5 _).grown hgrow (by simp; omega) (own_block HO5.out)⟩
                    · rw [sCells_snoc, List.length_append]
                      exact hown'
                    · exact hne
                  have HE : Hid (out ++ [T] ++ (gAt (l.drop k) (n + 1) f ++ gAll L (H + 1 - L) (l.drop (k + 1))) = G) := by
                    show _ = _
                    rw [← HGk.out, HST.out, HT.out]
                    simp
                  clear hown' hgrow hne HO5 HB5 HGk HST HT
                  go_wp2_with fail
                  go_roundw
                  case rel => exact ⟨n + 1, f, out ++ [T], by omega, by omega, by go_num, RR.out.1, RR.out.2.1, by simp; omega, HE.out, RR.out.2.2⟩
                  case measure => simp [intOf]; omega
            · have hfb : decide ((k : Int) + (n : Int) ≤ (l.length : Int)) = false := decide_eq_false (by omega)
              have HE : Hid (out ++ gAll L (H + 1 - L) (l.drop (k + 1)) = G) := by
                have h := HGk.out
                rw [gAt_none (l.drop k) n f (by rw [List.length_drop]; omega), List.nil_append] at h
                exact h
              go_wp2_with fail
              go_roundw
              case rel => exact ⟨k + 1, out, by omega, by go_num, HO.out, HN.out, ho, HE.out, HBr.out⟩
              case measure => simp [intOf]; omega
          · have hnb : decide ((n : Int) ≤ (H : Int)) = false := decide_eq_false (by omega)
            have HE : Hid (out ++ gAll L (H + 1 - L) (l.drop (k + 1)) = G) := by
              have h := HGk.out
              rw [show f = 0 by omega] at h
              exact h
            go_wp2_with fail
            go_roundw
            case rel => exact ⟨k + 1, out, by omega, by go_num, HO.out, HN.out, ho, HE.out, HBr.out⟩
            case measure => simp [intOf]; omega
      · have HF : Hid (G = out) := by
          show _ = _
          rw [← HGk.out, gAll_end _ _ _ _ hlt, List.append_nil]
        have HFl : Hid (G.length ≤ 4096) := by show _ ≤ _; rw [HF.out]; exact ho
        go_wp2_with fail
        go_ret2
        rw [(HR.out.1 HFl.out).1, (HR.out.1 HFl.out).2, HF.out]
        exact ⟨_, rfl, own_mono HO.out HB.out.size, HB.out.trans (HBr.out.mono HB.out.size)⟩
theorem gOK_iff (lo hi : Int) : gOK lo hi = true ↔ (1 ≤ lo ∧ lo ≤ hi ∧ hi ≤ 8) := by simp [gOK]
set_option maxHeartbeats 2000000 in
theorem specGrams_any (s : ByteArray) (lo hi : Int) (w : World) (hs : s.size ≤ 1048576) :
    Calls Tryz.prog 73 #[.string s, .int .i64 lo, .int .i64 hi] w fun e w' => ∃ v, e = .returned (.tuple #[v, .int .i64 (gCode s lo hi)]) ∧ w'.ownsRow w.heap.size 9 1 v (gList s lo hi).length (sCells (gList s lo hi)) ∧ Below w.heap.size w w' := by
  by_cases hc : decCode s = 0
  · by_cases hok : gOK lo hi = true
    · have hb := (gOK_iff lo hi).1 hok
      obtain ⟨L, rfl⟩ := Int.eq_ofNat_of_zero_le (by omega : 0 ≤ lo)
      obtain ⟨H, rfl⟩ := Int.eq_ofNat_of_zero_le (by omega : 0 ≤ hi)
      have hd := (dec_okV s hc)
      refine specGrams_in s L H w hs hc (by omega) (by omega) (by omega) (gFull s L H) ?_ ?_ _ _ ?_
      · show _ = _
        rw [gFull, Int.toNat_natCast, show ((H : Int) + 1 - (L : Int)).toNat = H + 1 - L by omega]
      · intro r hr
        rw [decList, if_neg (by omega), decL, if_pos hd.1] at hr
        exact runes_chr s hd.1 r hr
      · refine ⟨fun h => ?_, fun h => ?_⟩
        · have e : gCode s L H = 0 := by rw [gCode, if_pos hc, if_pos hok, if_pos h]
          exact ⟨by rw [gList, if_pos e], e⟩
        · have e : gCode s L H = 11 := by rw [gCode, if_pos hc, if_pos hok, if_neg h]
          exact ⟨by rw [gList, if_neg (by omega)], e⟩
    · have HM : Hid (gCode s lo hi = 1 ∧ gList s lo hi = []) := by
        have e : gCode s lo hi = 1 := by rw [gCode, if_pos hc, if_neg hok]
        exact ⟨e, by rw [gList, if_neg (by omega)]⟩
      have HC := hidd hc
      have hnb : ¬ (1 ≤ lo ∧ lo ≤ hi ∧ hi ≤ 8) := fun h => hok ((gOK_iff lo hi).2 h)
      clear hc hok
      by_cases h1 : lo < 1
      · clear hnb
        go_enter Tryz.func73, Tryz.ntmps73
        go_wp2_with fail
        refine (specDecode_any s _ (by omega)).mono ?_
        rintro e w1 ⟨v0, rfl, hown0, hb1⟩
        rw [HC.out]
        clear hown0
        go_wp2_with fail
        go_ret2
        rw [HM.out.1, HM.out.2]
        exact ⟨_, rfl, own_mono (own_empty w1 9) hb1.size, hb1.alloc hb1.size _⟩
      have h1b : decide (lo < 1) = false := decide_eq_false h1
      by_cases h2 : hi < lo
      · clear hnb
        go_enter Tryz.func73, Tryz.ntmps73
        go_wp2_with fail
        refine (specDecode_any s _ (by omega)).mono ?_
        rintro e w1 ⟨v0, rfl, hown0, hb1⟩
        rw [HC.out]
        clear hown0
        go_wp2_with fail
        go_ret2
        rw [HM.out.1, HM.out.2]
        exact ⟨_, rfl, own_mono (own_empty w1 9) hb1.size, hb1.alloc hb1.size _⟩
      have h2b : decide (hi < lo) = false := decide_eq_false h2
      have h3 : 8 < hi := by omega
      clear hnb
      go_enter Tryz.func73, Tryz.ntmps73
      go_wp2_with fail
      refine (specDecode_any s _ (by omega)).mono ?_
      rintro e w1 ⟨v0, rfl, hown0, hb1⟩
      rw [HC.out]
      clear hown0
      go_wp2_with fail
      go_ret2
      rw [HM.out.1, HM.out.2]
      exact ⟨_, rfl, own_mono (own_empty w1 9) hb1.size, hb1.alloc hb1.size _⟩
  · have HM : Hid (gCode s lo hi = decCode s ∧ gList s lo hi = []) := by
      have e : gCode s lo hi = decCode s := by rw [gCode, if_neg hc]
      exact ⟨e, by rw [gList, if_neg (by rw [e]; exact hc)]⟩
    have hcn : (decCode s != 0) = true := by rw [bne_iff_ne]; exact hc
    clear hc
    go_enter Tryz.func73, Tryz.ntmps73
    go_wp2_with fail
    refine (specDecode_any s _ (by omega)).mono ?_
    rintro e w1 ⟨v0, rfl, hown0, hb1⟩
    clear hown0
    generalize decCode s = c at *
    go_wp2_with fail
    go_ret2
    rw [HM.out.1, HM.out.2]
    exact ⟨_, rfl, own_mono (own_empty w1 9) hb1.size, hb1.alloc hb1.size _⟩
end Go.Proofs.YtionicjnoogpjaaGreatDoor
