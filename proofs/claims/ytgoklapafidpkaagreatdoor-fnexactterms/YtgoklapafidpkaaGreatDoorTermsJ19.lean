import Derived.Test.YtgoklapafidpkaaGreatDoorTermsJ02
import Derived.Test.YtgoklapafidpkaaGreatDoorTermsJ17
import Derived.Test.YtgoklapafidpkaaGreatDoorTermsJ18
import Derived.Test.YtgoklapafidpkaaGreatDoorTermsJ00
import Derived.Deep.DeepCutAuto
import Derived.Test.YtgoklapafidpkaaGreatDoorTermsJ12
namespace Go.Proofs.YtgoklapafidpkaaGreatDoor
open Go Go.RowKit
set_option linter.unusedVariables false

theorem toList_ne {o : ByteArray} (h : 0 < o.size) : (o.toList == []) = false := by
  rw [beq_eq_false_iff_ne, Lib.toList_data]
  intro e
  have := lst_len o
  rw [lst, e] at this
  simp at this
  omega
theorem cat_lst (a b : ByteArray) : lst (a ++ b) = lst a ++ lst b := by simp [lst]
theorem conv_one (w : World) (r : Int) (h0 : 0 ≤ r) (h1 : r ≤ 255) : (convert 50 9 (.slice (some ⟨w.heap.size, 0, none⟩) 1 1)).run Tryz.prog (w.alloc (.cells #[.int .u8 r] 5)) = .ok (.string (bs [UInt8.ofNat r.toNat])) (w.alloc (.cells #[.int .u8 r] 5)) := by
  refine run_convert_bytes_back _ 50 9 5 ⟨w.heap.size, 0, none⟩ 1 [UInt8.ofNat r.toNat] Tryz.underlying50 Tryz.underlying5 Tryz.underlying9 fun j hj => ?_
  rw [add_head, World.cell?_alloc_at (hn := rfl)]
  match j, hj with
  | 0, _ => exact congrArg (fun z => some (Value.int .u8 z)) (byte_back r h0 h1).symm
theorem take4_pad (q : List UInt8) : (q ++ [48, 48, 48]).take 4 = (q.take 4 ++ [48, 48, 48]).take 4 := by
  by_cases h : q.length ≤ 4
  · rw [List.take_of_length_le (l := q) h]
  · rw [List.take_append_of_le_length (by omega), List.take_append_of_le_length (by rw [List.length_take]; omega), List.take_take]; rfl
theorem pad_more (q : List UInt8) (h : 1 ≤ q.length) : (q ++ [48, 48, 48]).take 4 = (q ++ [48] ++ [48, 48, 48]).take 4 := by
  match q, h with
  | a :: t, _ =>
    match t with
    | [] => rfl
    | [b] => rfl
    | [b, c] => rfl
    | b :: c :: d :: u => simp
def strOf : Value → ByteArray
  | .string s => s
  | _ => ⟨#[]⟩
set_option maxHeartbeats 4000000 in
set_option maxRecDepth 100000 in
theorem specPhone_some (s : ByteArray) (w : World) (hs : s.size ≤ 1048576) (hc : decCode s = 0) :
    Calls Tryz.prog 144 #[.string s] w fun e w' => e = .returned (.string (bs (phoneL (decList s)))) ∧ Below w.heap.size w w' := by
  have HC := hidd hc
  clear hc
  have hn := decList_le s
  go_enter Tryz.func144, Tryz.ntmps144
  go_wp2_with fail
  refine (specDecode_any s _ (by omega)).mono ?_
  rintro e w1 ⟨v0, rfl, hown0, hb1⟩
  rw [HC.out]
  generalize hz : decList s = l at *
  have Hz := hidd hz
  clear hz
  rcases own_cases hown0 with ⟨rfl, hl0⟩ | ⟨g, cap, rfl, hgb, hgl⟩
  · have hl : l = [] := List.length_eq_zero_iff.1 hl0
    subst hl
    clear hl0 hown0
    go_wp2_with fail
    go_loop [5, 7] (fun c i => c = .string ⟨#[]⟩ ∧ i = .int .i64 0) (fun _ _ => 0)
    case atStart => exact ⟨rfl, rfl⟩
    case round =>
      obtain ⟨rfl, rfl⟩ := hrel
      go_wp2_with fail
      go_loop [5] (fun c => c = .string ⟨#[]⟩) (fun _ => 0)
      case atStart => rfl
      case round =>
        obtain rfl := hrel
        go_wp2_with fail
        go_ret
        rw [Hz.out]
        exact ⟨rfl, hb1⟩
  · have HO := hidd hown0
    have HB := hidd hb1
    have Hcell := hidd (own_cells hown0 rfl)
    clear hown0 hb1
    have ho0 : lst (⟨#[]⟩ : ByteArray) = [] := rfl
    go_wp2_with fail
    go_loopw [5, 6, 7] (fun c d i wr => ∃ (k : Nat) (q : List UInt8) (z : Int) (o : ByteArray), k ≤ l.length ∧ i = .int .i64 k ∧ d = .int .i64 z ∧ c = .string o ∧ lst o = q.take 4 ∧ PAt l k q z ∧ Below w1.heap.size w1 wr) (fun _ _ i _ => l.length - (intOf i).toNat)
    case atStart => exact ⟨0, [], 0, ⟨#[]⟩, by omega, rfl, rfl, rfl, rfl, PAt.zero l, Below.refl _ _⟩
    case round =>
      obtain ⟨k, q, z, o, hk, rfl, rfl, rfl, hq, hat, hbr⟩ := hrel
      have Hq := hidd hq
      have HA := hidd hat
      have HBr := hidd hbr
      have hosz : o.size ≤ 4 := by rw [← lst_len, hq, List.length_take]; omega
      clear hq hat hbr
      by_cases hlt : k < l.length
      · have g1 := (HBr.out.cell (p := ⟨g, 0 + k, none⟩) hgl).trans (Hcell.out k hlt)
        rw [Nat.zero_add] at g1
        have hzd := HA.out.last
        generalize hr0 : l.getD k 0 = r0 at *
        have Hr0 := hidd hr0
        clear hr0
        have HS : Hid (∀ q' d', pstep (q, z) (foldZ r0) = (q', d') → PAt l (k + 1) q' d') := by
          intro q' d' h
          exact HA.out.step hlt (by rw [Hr0.out]; exact h)
        go_wp2_with fail
        refine (specFold_any _ _).mono ?_
        rintro e w' ⟨rfl, hw⟩
        obtain rfl := hw.symm
        clear hw
        generalize foldZ r0 = r at *
        by_cases h97 : r < 97
        · have HN := hidd (HS.out _ _ (ps_out q z r (Or.inl h97)))
          clear HS
          go_wp2_with fail
          go_roundw
          case rel => exact ⟨k + 1, q, z, o, by omega, by go_num, rfl, rfl, Hq.out, HN.out, HBr.out⟩
          case measure => simp [intOf]; omega
        have h97b : decide (r < 97) = false := decide_eq_false h97
        by_cases h122 : 122 < r
        · have HN := hidd (HS.out _ _ (ps_out q z r (Or.inr h122)))
          clear HS
          go_wp2_with fail
          go_roundw
          case rel => exact ⟨k + 1, q, z, o, by omega, by go_num, rfl, rfl, Hq.out, HN.out, HBr.out⟩
          case measure => simp [intOf]; omega
        have h122b : decide (122 < r) = false := decide_eq_false h122
        have hsd := sdig_bd r
        have hr97 : 97 ≤ r := by omega
        have hr122 : r ≤ 122 := by omega
        by_cases hq0 : q = []
        · subst hq0
          have HN := hidd (HS.out _ _ (ps_first z r (by omega) (by omega)))
          clear HS
          obtain rfl : o = ⟨#[]⟩ := by rw [← bs_lst o, Hq.out]; rfl
          by_cases h1 : r = 104
          · have h1b : (r == 104) = true := beq_iff_eq.2 h1
            have h2b : (r == 119) = false := beq_eq_false_iff_ne.2 (by omega)
            clear h1
            have hcv : (convert 50 9 (.slice (some ⟨wr.heap.size, 0, none⟩) 1 1)).run Tryz.prog (wr.alloc (.cells #[.int .u8 (r)] 5)) = .ok (.string (bs [UInt8.ofNat (r).toNat])) (wr.alloc (.cells #[.int .u8 (r)] 5)) := conv_one wr (r) (by omega) (by omega)
            go_wp2_with fail
            refine (sound_any r _ (by omega) (by omega)).mono ?_
            rintro e w' ⟨rfl, hw⟩
            obtain rfl := hw.symm
            clear hw
            go_wp2_with fail
            go_roundw
            case rel => exact ⟨k + 1, [UInt8.ofNat r.toNat], sdig r, _, by omega, by go_num, rfl, rfl, lst_bs _, HN.out, (HBr.out.alloc HBr.out.size _)⟩
            case measure => simp [intOf]; omega
          have h1b : (r == 104) = false := beq_eq_false_iff_ne.2 h1
          by_cases h2 : r = 119
          · have h2b : (r == 119) = true := beq_iff_eq.2 h2
            clear h2 h1
            have hcv : (convert 50 9 (.slice (some ⟨wr.heap.size, 0, none⟩) 1 1)).run Tryz.prog (wr.alloc (.cells #[.int .u8 (r)] 5)) = .ok (.string (bs [UInt8.ofNat (r).toNat])) (wr.alloc (.cells #[.int .u8 (r)] 5)) := conv_one wr (r) (by omega) (by omega)
            go_wp2_with fail
            refine (sound_any r _ (by omega) (by omega)).mono ?_
            rintro e w' ⟨rfl, hw⟩
            obtain rfl := hw.symm
            clear hw
            go_wp2_with fail
            go_roundw
            case rel => exact ⟨k + 1, [UInt8.ofNat r.toNat], sdig r, _, by omega, by go_num, rfl, rfl, lst_bs _, HN.out, (HBr.out.alloc HBr.out.size _)⟩
            case measure => simp [intOf]; omega
          have h2b : (r == 119) = false := beq_eq_false_iff_ne.2 h2
          clear h1 h2
          have hcv : (convert 50 9 (.slice (some ⟨wr.heap.size, 0, none⟩) 1 1)).run Tryz.prog (wr.alloc (.cells #[.int .u8 (r)] 5)) = .ok (.string (bs [UInt8.ofNat (r).toNat])) (wr.alloc (.cells #[.int .u8 (r)] 5)) := conv_one wr (r) (by omega) (by omega)
          go_wp2_with fail
          refine (sound_any r _ (by omega) (by omega)).mono ?_
          rintro e w' ⟨rfl, hw⟩
          obtain rfl := hw.symm
          clear hw
          go_wp2_with fail
          go_roundw
          case rel => exact ⟨k + 1, [UInt8.ofNat r.toNat], sdig r, _, by omega, by go_num, rfl, rfl, lst_bs _, HN.out, (HBr.out.alloc HBr.out.size _)⟩
          case measure => simp [intOf]; omega
        · have hql : 0 < q.length := List.length_pos_iff.2 hq0
          have ho1 : 0 < o.size := by rw [← lst_len, Hq.out, List.length_take]; omega
          have hoe : (o.toList == []) = false := toList_ne ho1
          have hon : (o.toList != []) = true := by rw [bne, hoe]; rfl
          by_cases h1 : r = 104
          · have HN := hidd (HS.out _ _ (ps_mute q z r (by omega) (by omega) hq0 (Or.inl h1)))
            clear HS
            have h1b : (r == 104) = true := beq_iff_eq.2 h1
            clear h1
            go_wp2_with fail
            go_roundw
            case rel => exact ⟨k + 1, q, z, o, by omega, by go_num, rfl, rfl, Hq.out, HN.out, HBr.out⟩
            case measure => simp [intOf]; omega
          have h1b : (r == 104) = false := beq_eq_false_iff_ne.2 h1
          by_cases h2 : r = 119
          · have HN := hidd (HS.out _ _ (ps_mute q z r (by omega) (by omega) hq0 (Or.inr h2)))
            clear HS
            have h2b : (r == 119) = true := beq_iff_eq.2 h2
            clear h1 h2
            go_wp2_with fail
            go_roundw
            case rel => exact ⟨k + 1, q, z, o, by omega, by go_num, rfl, rfl, Hq.out, HN.out, HBr.out⟩
            case measure => simp [intOf]; omega
          have h2b : (r == 119) = false := beq_eq_false_iff_ne.2 h2
          have HP := hidd (fun hn => HS.out _ _ (ps_same q z r (by omega) (by omega) hq0 (by omega) hn))
          have HQ := hidd (fun hn hd => HS.out _ _ (ps_new q z r (by omega) (by omega) hq0 (by omega) hn hd))
          clear HS h1 h2
          go_wp2_with fail
          refine (sound_any r _ (by omega) (by omega)).mono ?_
          rintro e w' ⟨rfl, hw⟩
          obtain rfl := hw.symm
          clear hw
          generalize sdig r = d at *
          by_cases hd0 : d = 0
          · have HN := hidd (HP.out (Or.inl hd0))
            subst hd0
            go_wp2_with fail
            go_roundw
            case rel => exact ⟨k + 1, q, 0, o, by omega, by go_num, rfl, rfl, Hq.out, HN.out, HBr.out⟩
            case measure => simp [intOf]; omega
          have hd0n : (d != 0) = true := bne_iff_ne.2 hd0
          by_cases hdz : d = z
          · have HN := hidd (HP.out (Or.inr hdz))
            subst hdz
            go_wp2_with fail
            go_roundw
            case rel => exact ⟨k + 1, q, d, o, by omega, by go_num, rfl, rfl, Hq.out, HN.out, HBr.out⟩
            case measure => simp [intOf]; omega
          have hdzn : (d != z) = true := bne_iff_ne.2 hdz
          have HN := hidd (HQ.out hd0 hdz)
          clear hdz hd0 HP HQ
          by_cases h4 : o.size < 4
          · have h4z : (o.size : Int) < 4 := by omega
            have hq4 : q.length < 4 := by rw [← lst_len, Hq.out, List.length_take] at h4; omega
            have hbz : (bs [UInt8.ofNat (48 + d).toNat]).size ≤ 1 := by rw [bs_size]; exact Nat.le_refl _
            have HO : Hid (lst (o ++ bs [UInt8.ofNat (48 + d).toNat]) = (q ++ [UInt8.ofNat (48 + d).toNat]).take 4) := by
              show _ = _
              rw [cat_lst, Hq.out, lst_bs, List.take_of_length_le (by omega), List.take_of_length_le (by simp; omega)]
            have hcv : (convert 50 9 (.slice (some ⟨wr.heap.size, 0, none⟩) 1 1)).run Tryz.prog (wr.alloc (.cells #[.int .u8 (48 + d)] 5)) = .ok (.string (bs [UInt8.ofNat (48 + d).toNat])) (wr.alloc (.cells #[.int .u8 (48 + d)] 5)) := conv_one wr (48 + d) (by omega) (by omega)
            go_wp2_with fail
            go_roundw
            case rel => exact ⟨k + 1, q ++ [UInt8.ofNat (48 + d).toNat], d, _, by omega, by go_num, rfl, rfl, HO.out, HN.out, (HBr.out.alloc HBr.out.size _)⟩
            case measure => simp [intOf]; omega
          · have h4b : decide ((o.size : Int) < 4) = false := decide_eq_false (by omega)
            have HO : Hid (lst o = (q ++ [UInt8.ofNat (48 + d).toNat]).take 4) := by
              show _ = _
              rw [Hq.out, List.take_append_of_le_length]
              rw [← lst_len, Hq.out, List.length_take] at h4; omega
            go_wp2_with fail
            go_roundw
            case rel => exact ⟨k + 1, q ++ [UInt8.ofNat (48 + d).toNat], d, o, by omega, by go_num, rfl, rfl, HO.out, HN.out, HBr.out⟩
            case measure => simp [intOf]; omega
      · have HD : Hid (phoneL l = if q = [] then [] else (q ++ [48, 48, 48]).take 4) := HA.out.done hlt
        clear HA
        by_cases hq0 : q = []
        · have HE : Hid (phoneL l = []) := by show _ = _; rw [HD.out, if_pos hq0]
          subst hq0
          obtain rfl : o = ⟨#[]⟩ := by rw [← bs_lst o, Hq.out]; rfl
          go_wp2_with fail
          go_loop [5] (fun c => c = .string ⟨#[]⟩) (fun _ => 0)
          case atStart => rfl
          case round =>
            obtain rfl := hrel
            go_wp2_with fail
            go_ret
            rw [Hz.out, HE.out]
            exact ⟨rfl, HB.out.trans (HBr.out.mono HB.out.size)⟩
        · have hql : 0 < q.length := List.length_pos_iff.2 hq0
          have HE : Hid (phoneL l = (lst o ++ [48, 48, 48]).take 4) := by show _ = _; rw [HD.out, if_neg hq0, Hq.out, take4_pad]
          have ho1 : 0 < o.size := by rw [← lst_len, Hq.out, List.length_take]; omega
          go_wp2_with fail
          go_loop [5] (fun c => ∃ t : ByteArray, c = .string t ∧ 0 < t.size ∧ t.size ≤ 4 ∧ phoneL l = (lst t ++ [48, 48, 48]).take 4) (fun c => 4 - (strOf c).size)
          case atStart => exact ⟨o, rfl, ho1, hosz, HE.out⟩
          case round =>
            obtain ⟨t, rfl, ht1, ht4, htp⟩ := hrel
            have HTP := hidd htp
            clear htp
            have hoe : (t.toList == []) = false := toList_ne ht1
            have hon : (t.toList != []) = true := by rw [bne, hoe]; rfl
            by_cases h4 : t.size < 4
            · have h4z : (t.size : Int) < 4 := by omega
              have HM : Hid (phoneL l = (lst (t ++ (⟨#[48]⟩ : ByteArray)) ++ [48, 48, 48]).take 4) := by
                show _ = _
                rw [HTP.out, show (⟨#[48]⟩ : ByteArray) = bs [48] from rfl, cat_lst, lst_bs, pad_more _ (by rw [lst_len]; omega)]
              have HZ : Hid ((t ++ (⟨#[48]⟩ : ByteArray)).size = t.size + 1) := by show _ = _; rw [← lst_len, show (⟨#[48]⟩ : ByteArray) = bs [48] from rfl, cat_lst, lst_bs, List.length_append, lst_len]; rfl
              go_wp2_with fail
              go_round
              case rel => exact ⟨_, rfl, by rw [HZ.out]; omega, by rw [HZ.out]; omega, HM.out⟩
              case measure => simp only [strOf]; show 4 - (t ++ (⟨#[48]⟩ : ByteArray)).size < 4 - t.size; rw [HZ.out]; omega
            · have h4b : decide ((t.size : Int) < 4) = false := decide_eq_false (by omega)
              have HF : Hid (phoneL l = lst t) := by
                show _ = _
                rw [HTP.out, List.take_append_of_le_length (by rw [lst_len]; omega), List.take_of_length_le (by rw [lst_len]; omega)]
              go_wp2_with fail
              go_ret
              rw [Hz.out, HF.out, bs_lst]
              exact ⟨rfl, HB.out.trans (HBr.out.mono HB.out.size)⟩
set_option maxHeartbeats 1000000 in
theorem specPhone_any (s : ByteArray) (w : World) (hs : s.size ≤ 1048576) :
    Calls Tryz.prog 144 #[.string s] w fun e w' => e = .returned (.string (bs (phoneL (decList s)))) ∧ Below w.heap.size w w' := by
  by_cases hc : decCode s = 0
  · exact specPhone_some s w hs hc
  · have hcn : (decCode s != 0) = true := by rw [bne_iff_ne]; exact hc
    have HL := hidd (dec_none s hc)
    clear hc
    go_enter Tryz.func144, Tryz.ntmps144
    go_wp2_with fail
    refine (specDecode_any s _ (by omega)).mono ?_
    rintro e w1 ⟨v0, rfl, hown0, hb1⟩
    generalize decCode s = c at *
    clear hown0
    go_wp2_with fail
    go_ret
    rw [HL.out]
    exact ⟨rfl, hb1⟩
end Go.Proofs.YtgoklapafidpkaaGreatDoor

namespace Go.Proofs.YtgoklapafidpkaaGreatDoor
open Go Go.RowKit
theorem Tryz.infoByte : (Tryz.prog.info? 5).map (fun i => (i.zero, i.size, i.bytes)) = some (some (.int .u8 0), 1, 1) := by kernel_rfl
set_option maxHeartbeats 800000 in
theorem encode_some (b off n cap : Nat) (zs : List Int) (w : World) (hn : n ≤ 65536) (hl : zs.length = n) (hb : b < w.heap.size)
    (hc : ∀ t, t < n → w.cell? ⟨b, off + t, none⟩ = some (.int .i64 (zs.getD t 0))) (hok : ∀ t, t < n → chr (zs.getD t 0) = true) :
    Calls Tryz.prog 123 #[.slice (some ⟨b, off, none⟩) n cap] w fun e w' => e = .returned (.string ⟨(encs zs).toArray⟩) ∧ Below w.heap.size w w' := by
  obtain ⟨i0, hi, hz0, hz1, hz2⟩ := info_parts Tryz.infoByte
  go_enter Tryz.func123, Tryz.ntmps123
  go_wp2
  go_loopw [3, 4] (fun v i wr => ∃ k : Nat, k ≤ n ∧ i = .int .i64 k ∧ wr.ownsRow w.heap.size 5 1 v (encs (zs.take k)).length (Lib.byteCells (encs (zs.take k))) ∧ Below w.heap.size w wr ∧ v ≠ .slice none 0 0) (fun _ i _ => n - (intOf i).toNat)
  case atStart =>
    refine ⟨0, Nat.zero_le _, rfl, ?_, (Below.refl _ _).alloc (Nat.le_refl _) _, by simp⟩
    simpa [encs, Lib.byteCells] using (World.ownsRow_lit (base := w.heap.size) (e := 5) (size := 1) w #[] 0 (Nat.le_refl _) (by unfold maxLen; omega) (by simp))
  case round =>
    obtain ⟨k, hk, rfl, hown, hbel, hnn⟩ := hrel
    by_cases hlt : k < n
    · have g1 := (hbel.cell (p := ⟨b, off + k, none⟩) hb).trans (hc k hlt)
      have hok1 := hok k hlt
      have hkz : k < zs.length := by omega
      have eg : zs.getD k 0 = zs[k] := by simp [hkz]
      rw [eg] at hok1 g1
      have Hts : Hid (zs.take (k + 1) = zs.take k ++ [zs[k]]) := by show _ = _; rw [take_snoc zs k hkz, eg]
      have hle : (encs (zs.take k)).length ≤ 4 * n := by have := encs_le (zs.take k); rw [List.length_take] at this; omega
      have hrl := Lib.runeCells_le zs[k]
      clear hc hok eg
      go_wp2_with fail
      refine (bytes_any zs[k] _ hok1).mono ?_
      rintro e w1 ⟨rfl, rfl⟩
      have hcr : Hid (∀ j u, (Lib.runeCells zs[k])[j]? = some u → (wr.alloc (.cells (Lib.runeCells zs[k]).toArray 5)).cell? ((⟨wr.heap.size, 0, none⟩ : Addr).add j) = some u) := by
        intro j u hj
        rw [add_head, World.cell?_alloc_at (hn := rfl)]
        simpa using hj
      go_wp2_with (at_builtin; refine wpList_append_own _ rfl (.tmp 12) (.tmp 17) 50 rfl w.heap.size 5 i0 (.int .u8 0) 1 1 Tryz.underlying50 hi hz0 hz1 hz2 rfl (by decide) _ _ _ rfl (hown.alloc _) ⟨wr.heap.size, 0, none⟩ _ _ (Lib.runeCells zs[k]) rfl (by simp) ?c1 ?c2 ?c3 ?c4 ?c5 ?_)
      case c1 => exact hcr.out
      case c2 => exact rune_one _
      case c3 => unfold maxLen; omega
      case c4 => omega
      case c5 => have := hbel.size; simp; omega
      intro v' w2 hown' hgrow hne
      have R : Hid (w2.ownsRow w.heap.size 5 1 v' (encs (zs.take (k + 1))).length (Lib.byteCells (encs (zs.take (k + 1)))) ∧ Below w.heap.size w w2) := by
        refine ⟨?_, (hbel.alloc hbel.size _).grown hgrow (by have := hbel.size; simp; omega) ?_⟩
        · rw [Hts.out, encs_snoc, Lib.byteCells_append, Lib.byteCells_encodeRune, List.length_append, ← Lib.runeCells_length]
          exact hown'
        · intro g hg
          rcases hown.2 with ⟨h, _⟩ | ⟨g', cap', cur, h, hbase, _⟩
          · exact absurd h hnn
          · rw [h] at hg; cases hg; exact hbase
      clear hown' hgrow hcr
      go_wp2
      go_roundw
      case rel => exact ⟨k + 1, by omega, by go_num, R.out.1, R.out.2, hne⟩
      case measure => simp [intOf]; omega
    · have HK : Hid (k = n) := by show k = n; omega
      have hcb : Hid (∃ g cap', u3 = .slice (some ⟨g, 0, none⟩) (encs (zs.take k)).length cap') := by
        rcases hown.2 with ⟨h, _⟩ | ⟨g, cap', _, h, _⟩
        · exact absurd h hnn
        · exact ⟨g, cap', h⟩
      obtain ⟨g, cap', rfl⟩ := hcb.out
      have hcv : (convert 50 9 (.slice (some ⟨g, 0, none⟩) (encs (zs.take k)).length cap')).run Tryz.prog wr = .ok (.string ⟨(encs (zs.take k)).toArray⟩) wr := by
        refine run_convert_bytes_back wr 50 9 5 ⟨g, 0, none⟩ cap' (encs (zs.take k)) Tryz.underlying50 Tryz.underlying5 Tryz.underlying9 fun j hj => ?_
        rw [add_head, hown.cellAt j (by omega)]
        simp [Lib.byteCells, hj]
      go_wp2
      go_ret
      refine ⟨?_, hbel⟩
      rw [HK.out, List.take_of_length_le (by omega)]
      rfl
end Go.Proofs.YtgoklapafidpkaaGreatDoor

namespace Go.Proofs.YtgoklapafidpkaaGreatDoor
open Go Go.RowKit
set_option linter.unusedVariables false
set_option maxHeartbeats 400000 in
theorem encode_zero (ao : Option Addr) (cap : Nat) (w : World) :
    Calls Tryz.prog 123 #[.slice ao 0 cap] w fun e w' => e = .returned (.string ⟨#[]⟩) ∧ Below w.heap.size w w' := by
  have hcv : ∀ (w1 : World) (g : Nat), (convert 50 9 (.slice (some ⟨g, 0, none⟩) 0 0)).run Tryz.prog w1 = .ok (.string ⟨#[]⟩) w1 := fun w1 g =>
    run_convert_bytes_back w1 50 9 5 ⟨g, 0, none⟩ 0 [] Tryz.underlying50 Tryz.underlying5 Tryz.underlying9 fun j hj => absurd hj (by simp)
  go_enter Tryz.func123, Tryz.ntmps123
  go_wp2
  refine wp_loop_rounds 1 ?_
  rw [rounds_succ]
  go_wp2
  go_ret
  exact ⟨rfl, (Below.refl _ _).alloc (Nat.le_refl _) _⟩
theorem encode_own (base n : Nat) (v : Value) (zs : List Int) (w : World) (hn : n ≤ 65536) (hl : zs.length = n) (hok : ∀ r ∈ zs, chr r = true)
    (h : w.ownsRow base 3 1 v n (zs.map (Value.int .i64))) :
    Calls Tryz.prog 123 #[v] w fun e w' => e = .returned (.string ⟨(encs zs).toArray⟩) ∧ Below w.heap.size w w' := by
  rcases own_cases h with ⟨rfl, rfl⟩ | ⟨g, cap, rfl, _, hg⟩
  · obtain rfl : zs = [] := List.eq_nil_of_length_eq_zero hl
    exact encode_zero _ _ w
  · refine encode_some g 0 n cap zs w hn hl hg (own_cells h hl) (fun t ht => ?_)
    have hlt : t < zs.length := by omega
    have : zs.getD t 0 = zs[t] := by simp [hlt]
    rw [this]
    exact hok _ (List.getElem_mem hlt)
end Go.Proofs.YtgoklapafidpkaaGreatDoor
