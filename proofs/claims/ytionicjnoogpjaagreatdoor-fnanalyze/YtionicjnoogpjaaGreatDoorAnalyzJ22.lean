import Derived.Test.YtionicjnoogpjaaGreatDoorAnalyzJ21
import Derived.Test.YtionicjnoogpjaaGreatDoorAnalyzJ07
import Derived.Lib.OthersKept
import Derived.Maps.AppendAt
import Derived.Test.YtionicjnoogpjaaGreatDoorAnalyzJ19
import Derived.Test.YtionicjnoogpjaaGreatDoorAnalyzJ01
import Derived.Test.YtionicjnoogpjaaGreatDoorAnalyzJ20
import Derived.Test.YtionicjnoogpjaaGreatDoorAnalyzJ04
import Derived.Test.YtionicjnoogpjaaGreatDoorAnalyzJ15
import Derived.Deep.DeepCutAuto
namespace Go.Proofs.YtionicjnoogpjaaGreatDoor
open Go Go.RowKit
set_option linter.unusedVariables false

set_option maxHeartbeats 400000 in
theorem gramSizes_any (lo hi : Int) (w : World) : Calls Tryz.prog 40 #[.int .i64 lo, .int .i64 hi] w fun e w' => e = .returned (.bool (gOK lo hi)) ∧ w' = w := by
  have HG : Hid (gOK lo hi = (decide (1 ≤ lo) && decide (lo ≤ hi) && decide (hi ≤ 8))) := by
    show _ = _
    rw [Bool.eq_iff_iff, gOK_iff]
    simp [and_assoc]
  by_cases h1 : 1 ≤ lo
  · by_cases h2 : lo ≤ hi
    · have HB : Hid ((decide (1 ≤ lo) && decide (lo ≤ hi)) = true) := by show _ = _; rw [decide_eq_true h1, decide_eq_true h2]; rfl
      go_enter Tryz.func40, Tryz.ntmps40
      go_wp2
      go_ret
      rw [HG.out, HB.out, Bool.true_and]
      exact ⟨rfl, rfl⟩
    · have h2b : decide (lo ≤ hi) = false := decide_eq_false h2
      have HB : Hid ((decide (1 ≤ lo) && decide (lo ≤ hi)) = false) := by show _ = _; rw [h2b, Bool.and_false]
      go_enter Tryz.func40, Tryz.ntmps40
      go_wp2
      go_ret
      rw [HG.out, HB.out, Bool.false_and]
      exact ⟨rfl, rfl⟩
  · have h1b : decide (1 ≤ lo) = false := decide_eq_false h1
    have HB : Hid ((decide (1 ≤ lo) && decide (lo ≤ hi)) = false) := by show _ = _; rw [h1b, Bool.false_and]
    go_enter Tryz.func40, Tryz.ntmps40
    go_wp2
    go_ret
    rw [HG.out, HB.out, Bool.false_and]
    exact ⟨rfl, rfl⟩
/-- What is still to come of the grams at the head, where k characters have been seen. -/
def gRest (t : List Int) (L H k : Nat) : List (List UInt8) := gAt t (max L (k + 1)) (H + 1 - max L (k + 1))
theorem gRest_zero (t : List Int) (L H : Nat) (h : 1 ≤ L) : gRest t L H 0 = gAt t L (H + 1 - L) := by rw [gRest, Nat.max_eq_left (by omega)]
theorem gRest_over (t : List Int) (L H k : Nat) (h : H < k + 1) : gRest t L H k = [] := by
  rw [gRest, show H + 1 - max L (k + 1) = 0 by omega]; rfl
theorem gRest_end (t : List Int) (L H k : Nat) (h : t.length ≤ k) : gRest t L H k = [] := by
  rw [gRest]; exact gAt_none t _ _ (by omega)
theorem gRest_low (t : List Int) (L H k : Nat) (h : k + 1 < L) : gRest t L H (k + 1) = gRest t L H k := by
  rw [gRest, gRest, Nat.max_eq_left (by omega), Nat.max_eq_left (by omega)]
theorem gRest_in (t : List Int) (L H k : Nat) (h : L ≤ k + 1) (hH : k + 1 ≤ H) (hk : k < t.length) : gRest t L H k = encs (t.take (k + 1)) :: gRest t L H (k + 1) := by
  rw [gRest, gRest, Nat.max_eq_right (by omega), Nat.max_eq_right (by omega), show H + 1 - (k + 1) = (H + 1 - (k + 1 + 1)) + 1 by omega, gAt_step t (k + 1) _ (by omega)]
/-- What lay below B has not turned but for v's own row; c lies there, or above. -/
def KeptBy (B : Nat) (w wr : World) (v c : Value) : Prop := (∀ i, i < B → some i ≠ v.ownBlock → wr.heap[i]? = w.heap[i]?) ∧ (c.ownBlock = v.ownBlock ∨ ∃ g, c.ownBlock = some g ∧ B ≤ g)
theorem KeptBy.below {B : Nat} {w wr wx : World} {v c : Value} (h : KeptBy B w wr v c) (hB : B ≤ wr.heap.size) (hb : Below wr.heap.size wr wx) : KeptBy B w wx v c :=
  ⟨fun i hi hv => (hb.block i (by omega)).trans (h.1 i hi hv), h.2⟩
theorem KeptBy.iterAt {B p' : Nat} {w wr : World} {v c : Value} {t : ByteArray} (h : KeptBy B w wr v c) : KeptBy B w (wr.iterAt B t p') v c :=
  ⟨fun i hi hv => (Lib.iterAt_other wr B i t p' (by omega)).trans (h.1 i hi hv), h.2⟩
theorem KeptBy.append {B : Nat} {w wr wx : World} {v c c' : Value} (h : KeptBy B w wr v c) (hB : B ≤ wr.heap.size) (hg : wr.grownBy wx c.ownBlock) (hat : c'.ownBlock = c.ownBlock ∨ c'.ownBlock = some wr.heap.size) : KeptBy B w wx v c' := by
  refine ⟨fun i hi hv => ?_, ?_⟩
  · refine (hg.block i (by omega) ?_).trans (h.1 i hi hv)
    rcases h.2 with e | ⟨g, e, hge⟩
    · rw [e]; exact hv
    · rw [e]; intro hh; cases hh; omega
  · rcases hat with e | e
    · rw [e]; exact h.2
    · exact Or.inr ⟨_, e, hB⟩
set_option maxHeartbeats 4000000 in
set_option maxRecDepth 100000 in
theorem appendGrams_any (base : Nat) (v : Value) (out : List (List UInt8)) (t : ByteArray) (L H : Nat) (w : World) (hs : t.size ≤ 65536) (HV : Hid (validB t = true)) (h1 : 1 ≤ L) (h2 : L ≤ H) (h8 : H ≤ 8) (ho : out.length ≤ 4096) (hb : base ≤ w.heap.size) (HO : Hid (w.ownsRow base 9 1 v out.length (sCells out))) :
    Calls Tryz.prog 157 #[v, .string t, .int .i64 L, .int .i64 H] w fun e w' => ∃ v', e = .returned v' ∧ w'.ownsRow base 9 1 v' (out ++ gAt (runes t) L (H + 1 - L)).length (sCells (out ++ gAt (runes t) L (H + 1 - L))) ∧ Below base w w' ∧ KeptBy w.heap.size w w' v v' := by
  obtain ⟨i0, hi, hz0, hz1, hz2⟩ := info_parts Tryz.infoStr
  have HG0 := hidd (gRest_zero (runes t) L H h1)
  rw [← HG0.out]
  generalize hG : out ++ gRest (runes t) L H 0 = G
  have HG := hidd hG
  have hit0 := hidd (World.iter_heap w t 0)
  have hrl := runes_le t
  clear hG HG0
  go_enter Tryz.func157, Tryz.ntmps157
  go_wp2_with fail
  have HB0 : Hid (Below base w (w.iter t 0)) := (Below.refl _ _).alloc hb _
  have HK0 : Hid (KeptBy w.heap.size w (w.iter t 0) v v) := ⟨fun i hi _ => ((Below.refl w.heap.size w).alloc (Nat.le_refl _) _).block i hi, Or.inl rfl⟩
  have HO0 : Hid ((w.iter t 0).ownsRow base 9 1 v out.length (sCells out)) := HO.out.alloc _
  generalize w.iter t 0 = w4 at *
  generalize hB : w.heap.size = B at *
  clear HO
  go_loopw [0, 9] (fun c i wr => ∃ (k : Nat) (o : List (List UInt8)), k ≤ (runes t).length ∧ i = .int .i64 k ∧ k ≤ H + 1 ∧ wr.ownsRow base 9 1 c o.length (sCells o) ∧ o ++ gRest (runes t) L H k = G ∧ o.length ≤ 4096 + k ∧ wr.heap[B]? = some (.stringIter t (blen ((runes t).take k))) ∧ Below base w wr ∧ KeptBy B w wr v c) (fun _ _ wr => t.size - wr.iterPos B)
  case atStart => exact ⟨0, out, by omega, rfl, by omega, HO0.out, HG.out, by omega, hit0.out, HB0.out, HK0.out⟩
  case round =>
    obtain ⟨k, o, hk, rfl, hkH, hown, hGk, hol, hit, hbel, hkb⟩ := hrel
    have HKB := hidd hkb
    clear hkb HK0
    have HOk := hidd hown
    have HGk := hidd hGk
    clear hown hGk HO0 HB0 hit0
    have hlt' := at_lt t k HV.out
    generalize hp : blen ((runes t).take k) = p at *
    have Hp := hidd hp
    clear hp
    by_cases hlt : p < t.size
    · have hkl : k < (runes t).length := hlt'.2 hlt
      have hst := at_step t k HV.out (by rw [Hp.out]; exact hlt)
      rw [Hp.out] at hst
      have hnx : ∀ ty, (Instr.next (.pointer (some ⟨B, 0, none⟩)) true ty).run Tryz.prog wr = _ := fun ty => Lib.run_next_any_at wr B t p ty hit hlt
      have hw := width_le t p hlt
      have hr := rune_le t p
      have HO2 := hidd (own_iterAt HOk.out hit (p + (Utf8.decode t p).2))
      have hit2 := Lib.iterAt_heap wr B t p (p + (Utf8.decode t p).2) hit
      have hbel2 := Lib.below_iterAt hbel (k := B) (by omega) t (p + (Utf8.decode t p).2)
      have HK2 := hidd (HKB.out.iterAt (t := t) (p' := p + (Utf8.decode t p).2))
      have Hpos := hidd (iterPos_of hit)
      have Hit2 := hidd hit2
      have HB2 := hidd hbel2
      have hzw : base ≤ (wr.iterAt B t (p + (Utf8.decode t p).2)).heap.size := Nat.le_trans hb (by rw [← hB] at *; exact Nat.le_trans (Nat.le_of_eq hB.symm.symm) (by have := hbel2.size; omega))
      have hzB : B < (wr.iterAt B t (p + (Utf8.decode t p).2)).heap.size := (Array.getElem?_eq_some_iff.1 hit2).1
      have HP2 : Hid (blen ((runes t).take (k + 1)) = p + (Utf8.decode t p).2) := hst.2.1
      have HCH : Hid (chr ((Utf8.decode t p).1 : Int) = true) := by show _ = _; rw [hst.1]; exact hst.2.2
      have HRL : Hid (Lib.runeLen ((Utf8.decode t p).1 : Int) = ((Utf8.decode t p).2 : Int)) := by
        show _ = _
        rw [runeLen_eq _ HCH.out, rune_width t p hlt (good_of t p hlt (by have := (at_runes t k HV.out).2; rwa [Hp.out] at this))]
      clear hst HOk hit2 hbel2 hbel hlt'
      generalize (Utf8.decode t p).1 = r at *
      generalize (Utf8.decode t p).2 = n at *
      generalize wr.iterAt B t (p + n) = wi at *
      by_cases hover : H < k + 1
      · have hoz : (H : Int) < (k : Int) + 1 := by omega
        have HE : Hid (G = o) := by show _ = _; rw [← HGk.out, gRest_over _ _ _ _ hover, List.append_nil]
        go_wp2_with fail
        go_ret
        rw [HE.out]
        exact ⟨_, rfl, HO2.out, HB2.out, by rw [hB]; exact HK2.out⟩
      have hoz : ¬ (H : Int) < (k : Int) + 1 := by omega
      by_cases hlow : k + 1 < L
      · have hlz : ¬ (L : Int) ≤ (k : Int) + 1 := by omega
        have HE : Hid (o ++ gRest (runes t) L H (k + 1) = G) := by show _ = _; rw [gRest_low _ _ _ _ hlow]; exact HGk.out
        go_wp2_with fail
        go_roundw
        case rel => exact ⟨k + 1, o, by omega, by go_num, by omega, HO2.out, HE.out, by omega, by rw [HP2.out]; exact Hit2.out, HB2.out, HK2.out⟩
        case measure => rw [iterPos_of Hit2.out, Hpos.out]; omega
      · have hlz : (L : Int) ≤ (k : Int) + 1 := by omega
        have HIN := hidd (gRest_in (runes t) L H k (by omega) (by omega) hkl)
        have HCUT : Hid (t.extract 0 (p + n) = bs (encs ((runes t).take (k + 1)))) := by show _ = _; rw [← HP2.out]; exact head_cut t (k + 1) HV.out
        have hpn : p + n ≤ t.size := by omega
        have hpz : (p : Int) + (n : Int) ≤ (t.size : Int) := by omega
        generalize encs ((runes t).take (k + 1)) = T at *
        have hTz : (bs T).size ≤ 65536 := by rw [← HCUT.out, ← data_len, Lib.extract_data]; simp; omega
        go_wp2_with fail
        refine (Tryz.utf8_RuneLen _ _).mono ?_
        rintro e w' ⟨rfl, hw'⟩
        obtain rfl := hw'.symm
        clear hw'
        rw [HRL.out]
        go_wp2_with fail
        rw [HCUT.out]
        refine (clone_any (bs T) _ hTz).mono ?_
        rintro e w5 ⟨rfl, hb5⟩
        have HB5 := hidd (HB2.out.trans (hb5.mono hzw))
        have HO5 := hidd (own_below HO2.out hb5)
        have HK5 := hidd ((HK2.out.below (by omega) hb5).below (Nat.le_of_lt (Nat.lt_of_lt_of_le hzB hb5.size)) ((Below.refl w5.heap.size w5).alloc (Nat.le_refl _) (.cells #[.string (bs T)] 9)))
        have Hit5 : Hid (w5.heap[B]? = some (.stringIter t (p + n))) := (hb5.block B hzB).trans Hit2.out
        have hz5 : base ≤ w5.heap.size := Nat.le_trans hzw hb5.size
        have hzB5 : B < w5.heap.size := Nat.lt_of_lt_of_le hzB hb5.size
        clear hb5 HO2 HB2 Hit2 HCUT
        go_wp2_with (at_builtin; refine wpList_append_own_at _ rfl _ _ 23 rfl base 9 i0 (.string ⟨#[]⟩) 1 16 Tryz.underlying23 hi hz0 hz1 hz2 rfl (by decide) _ _ _ rfl (HO5.out.alloc _) ⟨w5.heap.size, 0, none⟩ 1 1 [.string (bs T)] rfl rfl ?c1 ?c2 ?c3 ?c4 ?c5 ?_)
        case c1 =>
          intro j u hj
          match j, hj with
          | 0, hj => simp at hj; subst hj; simp [Addr.add]
        case c2 => intro u hu; simp at hu; subst hu; rfl
        case c3 => unfold maxLen; omega
        case c4 => omega
        case c5 => simp; omega
        intro v' w6 hown' hgrow hne hat
        have RR : Hid (w6.ownsRow base 9 1 v' (o ++ [T]).length (sCells (o ++ [T])) ∧ w6.heap[B]? = some (.stringIter t (p + n)) ∧ Below base w w6 ∧ KeptBy B w w6 v v') := by
          refine ⟨?_, ?_, (HB5.out.alloc hz5 _).grown hgrow (by simp; omega) (own_block HO5.out), HK5.out.append (by simp; omega) hgrow (by rw [show (w5.alloc (.cells #[.string (bs T)] 9)).heap.size = w5.heap.size + 1 by simp]; exact hat)⟩
          · rw [sCells_snoc, List.length_append]
            exact hown'
          · rw [hgrow.block B (by simp; omega) (own_ne_iter HO5.out Hit5.out), Below.heap_alloc _ _ _ hzB5]
            exact Hit5.out
        have HE : Hid (o ++ [T] ++ gRest (runes t) L H (k + 1) = G) := by
          show _ = _
          rw [← HGk.out, HIN.out]
          simp
        clear hown' hgrow hne hat HO5 HB5 HGk HIN Hit5 HK5 HK2
        go_wp2_with fail
        go_roundw
        case rel => exact ⟨k + 1, o ++ [T], by omega, by go_num, by omega, RR.out.1, HE.out, by simp; omega, by rw [HP2.out]; exact RR.out.2.1, RR.out.2.2.1, RR.out.2.2.2⟩
        case measure => rw [iterPos_of RR.out.2.1, Hpos.out]; omega
    · have hkl : ¬ k < (runes t).length := fun h => hlt (hlt'.1 h)
      have hnx : ∀ ty, (Instr.next (.pointer (some ⟨B, 0, none⟩)) true ty).run Tryz.prog wr = _ := fun ty => Lib.run_next_end_at wr B t p ty hit hlt
      have HE : Hid (G = o) := by show _ = _; rw [← HGk.out, gRest_end _ _ _ _ (by omega), List.append_nil]
      clear hit hlt'
      go_wp2_with fail
      go_ret
      rw [HE.out]
      exact ⟨_, rfl, HOk.out, hbel, by rw [hB]; exact HKB.out⟩
end Go.Proofs.YtionicjnoogpjaaGreatDoor

namespace Go.Proofs.YtionicjnoogpjaaGreatDoor
open Go Go.RowKit
set_option linter.unusedVariables false

theorem fold_set (zs : List Int) (k : Nat) (hk : k < zs.length) :
    (((zs.take k).map foldZ ++ zs.drop k).map (Value.int .i64)).set k (.int .i64 (foldZ zs[k])) = ((zs.take (k + 1)).map foldZ ++ zs.drop (k + 1)).map (Value.int .i64) := by
  have hd : zs.drop k = zs[k] :: zs.drop (k + 1) := by rw [List.drop_eq_getElem_cons hk]
  have ht : zs.take (k + 1) = zs.take k ++ [zs[k]] := List.take_succ_eq_append_getElem hk
  have e : (((zs.take k).map foldZ).map (Value.int .i64)).length = k := by simp; omega
  rw [List.map_append, List.set_append_right _ _ (by omega), e, Nat.sub_self, hd, ht]
  simp only [List.map_append, List.map_cons, List.map_nil, List.set_cons_zero, List.append_assoc, List.cons_append, List.nil_append]
theorem fold_at (zs : List Int) (k : Nat) (hk : k < zs.length) : (((zs.take k).map foldZ ++ zs.drop k).map (Value.int .i64))[k]? = some (.int .i64 zs[k]) := by
  have e : (((zs.take k).map foldZ).map (Value.int .i64)).length = k := by simp; omega
  rw [List.map_append, List.getElem?_append_right (by omega), e, Nat.sub_self]
  simp [hk]
set_option maxHeartbeats 1000000 in
set_option maxRecDepth 100000 in
theorem l01Fold_any (s : ByteArray) (w : World) (hs : s.size ≤ 65536) (hv : validB s = true) :
    Calls Tryz.prog 47 #[.string s] w fun e w' => e = .returned (.string ⟨(encs (foldR s)).toArray⟩) ∧ Below w.heap.size w w' := by
  have HL : Hid (decL s = runes s) := by show _ = _; rw [decL, if_pos hv]
  have hn := runes_le s
  have Hch := hidd (foldR_chr s hv)
  have HR : Hid (foldR s = (runes s).map foldZ) := rfl
  go_enter Tryz.func47, Tryz.ntmps47
  go_wp2_with fail
  refine (decode_any s _ (by omega)).mono ?_
  rintro e w1 ⟨v, rfl, hown, hb1⟩
  rw [HL.out] at hown
  rw [HR.out] at Hch
  obtain ⟨zs, hzs⟩ : ∃ zs, zs = runes s := ⟨_, rfl⟩
  rw [← hzs] at hown Hch hn HR
  clear HL hzs
  rcases own_cases hown with ⟨rfl, hz⟩ | ⟨g, cap, rfl, hbg, hgl⟩
  · obtain rfl : zs = [] := List.eq_nil_of_length_eq_zero hz
    clear hown Hch
    go_wp2
    refine wp_loop_rounds 1 ?_
    rw [rounds_succ]
    go_wp2_with fail
    refine (encode_zero none 0 _).mono ?_
    rintro e w2 ⟨rfl, hb2⟩
    go_wp2
    go_ret
    rw [HR.out]
    exact ⟨rfl, hb1.trans (hb2.mono hb1.size)⟩
  · have HO := hidd hown
    clear hown
    go_wp2
    go_loopw [5] (fun i wr => ∃ k : Nat, k ≤ zs.length ∧ i = .int .i64 k ∧ wr.ownsRow w.heap.size 3 1 (.slice (some ⟨g, 0, none⟩) zs.length cap) zs.length (((zs.take k).map foldZ ++ zs.drop k).map (Value.int .i64)) ∧ Below w.heap.size w wr) (fun i _ => zs.length - (intOf i).toNat)
    case atStart => exact ⟨0, Nat.zero_le _, rfl, by simpa using HO.out, hb1⟩
    case round =>
      obtain ⟨k, hk, rfl, hown, hbel⟩ := hrel
      by_cases hlt : k < zs.length
      · have q1 : wr.cell? ⟨g, k, none⟩ = some (.int .i64 zs[k]) := by rw [hown.cellAt k (by omega)]; exact fold_at zs k hlt
        have f1 := hown.frozenAt k
        have st := hidd (hown.stored k (.int .i64 (foldZ zs[k])))
        clear hown
        go_wp2_with fail
        refine (specFold_any _ _).mono ?_
        rintro e w2 ⟨rfl, rfl⟩
        generalize hfz : foldZ zs[k] = fz at st ⊢
        have Hfz := hidd hfz
        clear hfz
        go_wp2
        go_roundw
        case rel =>
          refine ⟨k + 1, by omega, by go_num, ?_, hbel.setCell (p := ⟨g, k, none⟩) hbg _⟩
          have h := st.out.1
          rw [← Hfz.out, fold_set zs k hlt] at h
          rw [← Hfz.out]
          exact h
        case measure => simp [intOf]; omega
      · have HK : Hid (k = zs.length) := by show k = zs.length; omega
        rw [HK.out, List.take_of_length_le (Nat.le_refl _), List.drop_of_length_le (Nat.le_refl _), List.append_nil] at hown
        have HO2 := hidd hown
        clear hown
        go_wp2_with fail
        refine (encode_own _ zs.length _ (zs.map foldZ) _ (by omega) (by simp) Hch.out HO2.out).mono ?_
        rintro e w2 ⟨rfl, hb2⟩
        go_wp2
        go_ret
        rw [HR.out]
        exact ⟨rfl, hbel.trans (hb2.mono hbel.size)⟩
end Go.Proofs.YtionicjnoogpjaaGreatDoor

namespace Go.Proofs.YtionicjnoogpjaaGreatDoor
open Go Go.RowKit
set_option linter.unusedVariables false

theorem beq_txt (a b : List UInt8) : ((bs a).toList == (bs b).toList) = (a == b) := by
  rw [Lib.toList_data, Lib.toList_data, show (bs a).data.toList = a from lst_bs a, show (bs b).data.toList = b from lst_bs b]
set_option maxHeartbeats 2000000 in
theorem has_any (a : Option Addr) (cap : Nat) (l : List (List UInt8)) (t : List UInt8) (w : World) (hn : l.length ≤ 1048576) (hS : HoldS w a l) :
    Calls Tryz.prog 70 #[.slice a l.length cap, .string (bs t)] w fun e w' => e = .returned (.bool (hasT l t)) ∧ w' = w := by
  have HS := hidd hS
  clear hS
  go_enter Tryz.func70, Tryz.ntmps70
  go_wp2
  go_loop [5] (fun i => ∃ k : Nat, k ≤ l.length ∧ i = .int .i64 k ∧ hasT (l.take k) t = false) (fun i => l.length - (intOf i).toNat)
  case atStart => exact ⟨0, Nat.zero_le _, rfl, rfl⟩
  case round =>
    obtain ⟨k, hk, rfl, hno⟩ := hrel
    have HN := hidd hno
    clear hno
    by_cases hlt : k < l.length
    · obtain ⟨b, off, rfl, hbl, hc⟩ := HS.out.resolve_left (fun h => by rw [h] at hlt; simp at hlt)
      have g1 := hc k hlt
      have HE := hidd (beq_txt (l.getD k []) t)
      have HS1 := hidd (hasT_snoc l k t hlt)
      have HY : Hid ((l.getD k [] == t) = true → hasT l t = true) := hasT_yes hlt
      generalize l.getD k [] = x at *
      clear hc
      cases hx : (x == t)
      · have he : ((bs x).toList == (bs t).toList) = false := by rw [HE.out]; exact hx
        have HN2 : Hid (hasT (l.take (k + 1)) t = false) := by show _ = _; rw [HS1.out, HN.out, hx]; rfl
        clear HE hx
        go_wp2
        go_round
        case rel => exact ⟨k + 1, by omega, by go_num, HN2.out⟩
        case measure => simp [intOf]; omega
      · have he : ((bs x).toList == (bs t).toList) = true := by rw [HE.out]; exact hx
        have HR := hidd (HY.out hx)
        clear HE hx
        go_wp2
        go_ret
        rw [HR.out]
        exact ⟨rfl, rfl⟩
    · have HR : Hid (hasT l t = false) := by have h := HN.out; rw [List.take_of_length_le (by omega)] at h; exact h
      go_wp2
      go_ret
      rw [HR.out]
      exact ⟨rfl, rfl⟩
end Go.Proofs.YtionicjnoogpjaaGreatDoor
