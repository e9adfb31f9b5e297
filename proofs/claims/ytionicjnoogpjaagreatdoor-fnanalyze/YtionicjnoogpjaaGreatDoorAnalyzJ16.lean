import Derived.Test.YtionicjnoogpjaaGreatDoorProg
import Derived.Test.YtionicjnoogpjaaGreatDoorAnalyzJ01
import Derived.Test.YtionicjnoogpjaaGreatDoorAnalyzJ00
import Derived.WalkLawsBesides
import Derived.Deep.QuietTactic
import Derived.BigQuiet
import Derived.Deep.DeepCutAuto
import Derived.Lib.IndexAny
namespace Go.Proofs.YtionicjnoogpjaaGreatDoor
open Go Go.RowKit
set_option linter.unusedVariables false

def vz (z : Int) : Bool := z == 97 || z == 101 || z == 105 || z == 111 || z == 117 || z == 121
theorem vz_vow (c : UInt8) : vz (c.toNat : Int) = vow c := by
  have key : ∀ k : Nat, k < 256 → (((c.toNat : Int) == (k : Int)) = (c == UInt8.ofNat k)) := by
    intro k hk
    rw [Bool.eq_iff_iff, beq_iff_eq, beq_iff_eq]
    constructor
    · intro h
      have h' : c.toNat = k := by omega
      rw [← h', UInt8.ofNat_toNat]
    · intro h
      subst h
      rw [UInt8.toNat_ofNat']
      omega
  unfold vz vow
  have k1 := key 97 (by decide)
  have k2 := key 101 (by decide)
  have k3 := key 105 (by decide)
  have k4 := key 111 (by decide)
  have k5 := key 117 (by decide)
  have k6 := key 121 (by decide)
  rw [show (97 : Int) = ((97 : Nat) : Int) from rfl, show (101 : Int) = ((101 : Nat) : Int) from rfl, show (105 : Int) = ((105 : Nat) : Int) from rfl, show (111 : Int) = ((111 : Nat) : Int) from rfl, show (117 : Int) = ((117 : Nat) : Int) from rfl, show (121 : Int) = ((121 : Nat) : Int) from rfl, k1, k2, k3, k4, k5, k6]
  rfl
set_option maxHeartbeats 400000 in
theorem vowel_z (z : Int) (w : World) : Calls Tryz.prog 117 #[.int .u8 z] w fun e w' => e = .returned (.bool (vz z)) ∧ w' = w := by
  go_enter Tryz.func117, Tryz.ntmps117
  go_wp2
  all_goals (go_ret; refine ⟨?_, rfl⟩; simp [vz, *])
set_option maxHeartbeats 400000 in
theorem ends_any (s p : ByteArray) (w : World) (hs : s.size ≤ 1048576) (hp : p.size ≤ 1048576) :
    Calls Tryz.prog 113 #[.string s, .string p] w fun e w' => e = .returned (.bool (ends (lst s) (lst p))) ∧ w' = w := by
  have HR : Hid (_ = Lib.hasSuffix (lst s) (lst p)) := Lib.hasSuffix_raw s p
  by_cases hl : p.size ≤ s.size
  · have hlz : (p.size : Int) ≤ (s.size : Int) := by omega
    go_enter Tryz.func113, Tryz.ntmps113
    go_wp2
    go_ret
    rw [ends, ← HR.out, decide_eq_true hl, Bool.true_and]
    exact ⟨rfl, rfl⟩
  · have hlz : ¬ (p.size : Int) ≤ (s.size : Int) := by omega
    go_enter Tryz.func113, Tryz.ntmps113
    go_wp2
    go_ret
    rw [ends, ← HR.out, decide_eq_false hl, Bool.false_and]
    exact ⟨rfl, rfl⟩
theorem extract_cut (s : ByteArray) (n : Nat) : s.extract 0 (s.size - n) = bs (cutB (lst s) n) := by
  rw [Lib.extract_eq, cutB, lst_len]
  simp [bs, lst]
set_option maxHeartbeats 400000 in
theorem drop_any (s : ByteArray) (n : Nat) (w : World) (hs : s.size ≤ 1048576) (hn : n ≤ s.size) :
    Calls Tryz.prog 114 #[.string s, .int .i64 n] w fun e w' => e = .returned (.string (bs (cutB (lst s) n))) ∧ w' = w := by
  go_enter Tryz.func114, Tryz.ntmps114
  go_wp2
  go_ret
  rw [extract_cut]
  exact ⟨rfl, rfl⟩
theorem get_list (s : ByteArray) (k : Nat) (h : k < s.size) : s[k] = (lst s).getD k 0 := by
  have h' : k < (lst s).length := by rw [lst_len]; exact h
  rw [List.getD_eq_getElem?_getD, List.getElem?_eq_getElem h', Option.getD_some]
  simp [lst]
  rfl
theorem any_take_succ (l : List UInt8) (f : UInt8 → Bool) (k : Nat) (h : k < l.length) : (l.take (k + 1)).any f = ((l.take k).any f || f (l.getD k 0)) := by
  rw [List.take_succ_eq_append_getElem h, List.any_append, List.getD_eq_getElem?_getD, List.getElem?_eq_getElem h]
  simp only [List.any_cons, List.any_nil, Bool.or_false, Option.getD_some]
set_option maxHeartbeats 1000000 in
theorem hasVowel_any (s : ByteArray) (w : World) (hs : s.size ≤ 1048576) :
    Calls Tryz.prog 115 #[.string s] w fun e w' => e = .returned (.bool (hasV (lst s))) ∧ w' = w := by
  go_enter Tryz.func115, Tryz.ntmps115
  go_wp2
  go_loop [3] (fun i => ∃ k : Nat, k ≤ s.size ∧ i = .int .i64 k ∧ hasV ((lst s).take k) = false) (fun i => s.size - (intOf i).toNat)
  case atStart => exact ⟨0, Nat.zero_le _, rfl, by rfl⟩
  case round =>
    obtain ⟨k, hk, rfl, hany⟩ := hrel
    have HA := hidd hany
    clear hany
    by_cases hlt : k < s.size
    · have hkl : k < (lst s).length := by rw [lst_len]; exact hlt
      have HG := hidd (get_list s k hlt)
      by_cases hv : vow ((lst s).getD k 0) = true
      · have HV : Hid (vz ((s[k]'hlt).toNat : Int) = true) := by show _ = _; rw [vz_vow, HG.out]; exact hv
        have HR : Hid (hasV (lst s) = true) := by
          show _ = _
          rw [hasV, List.any_eq_true]
          refine ⟨(lst s).getD k 0, ?_, hv⟩
          rw [List.getD_eq_getElem?_getD, List.getElem?_eq_getElem hkl, Option.getD_some]
          exact List.getElem_mem _
        clear hv
        go_wp2_with fail
        refine (vowel_z _ _).mono ?_
        rintro e w' ⟨rfl, rfl⟩
        rw [HV.out]
        go_wp2
        go_ret
        rw [HR.out]
        exact ⟨rfl, rfl⟩
      · have hv' : vow ((lst s).getD k 0) = false := by simpa using hv
        have HV : Hid (vz ((s[k]'hlt).toNat : Int) = false) := by show _ = _; rw [vz_vow, HG.out]; exact hv'
        have HN : Hid (hasV ((lst s).take (k + 1)) = false) := by show _ = _; rw [hasV, any_take_succ _ _ _ hkl, ← hasV, HA.out, hv']; rfl
        clear hv hv'
        go_wp2_with fail
        refine (vowel_z _ _).mono ?_
        rintro e w' ⟨rfl, rfl⟩
        rw [HV.out]
        go_wp2
        go_round
        case rel => exact ⟨k + 1, by omega, by go_num, HN.out⟩
        case measure => simp [intOf]; omega
    · have HR : Hid (hasV (lst s) = false) := by
        have := HA.out
        rw [List.take_of_length_le (by rw [lst_len]; omega)] at this
        exact this
      go_wp2
      go_ret
      rw [HR.out]
      exact ⟨rfl, rfl⟩
end Go.Proofs.YtionicjnoogpjaaGreatDoor

namespace Go.Proofs.YtionicjnoogpjaaGreatDoor
open Go

def vws : List UInt8 := [97, 101, 105, 111, 117, 121]
theorem vws_contains (c : UInt8) : vws.contains c = vow c := by
  have key : ∀ a b : UInt8, (a == b) = (b == a) := fun a b => by rw [Bool.eq_iff_iff, beq_iff_eq, beq_iff_eq]; exact eq_comm
  unfold vws vow
  simp only [List.contains_cons, List.contains_nil, Bool.or_false, Bool.or_assoc]
theorem containsAny_hasV (l : List UInt8) : Lib.containsAny l vws = hasV l := by
  unfold Lib.containsAny hasV
  induction l with
  | nil => rfl
  | cons b t ih =>
    rw [List.any_cons, ← ih, Lib.indexAny, vws_contains]
    cases hv : vow b
    · rw [if_neg (by simp), Bool.false_or]
      by_cases h : Lib.indexAny t vws = -1
      · rw [if_pos (by simp [h]), h]
      · have := Lib.indexAny_ge vws t
        rw [if_neg (by simp [h]), decide_eq_true (by omega), decide_eq_true (by omega)]
    · rw [if_pos rfl, Bool.true_or]; decide
theorem indexByte_vow (c : UInt8) : decide (0 ≤ Lib.indexByte vws c) = vow c := by
  by_cases h1 : c = 97
  · subst h1; decide
  by_cases h2 : c = 101
  · subst h2; decide
  by_cases h3 : c = 105
  · subst h3; decide
  by_cases h4 : c = 111
  · subst h4; decide
  by_cases h5 : c = 117
  · subst h5; decide
  by_cases h6 : c = 121
  · subst h6; decide
  have f : ∀ a : UInt8, ¬ c = a → (a == c) = false ∧ (c == a) = false := fun a h => ⟨beq_eq_false_iff_ne.2 (fun e => h e.symm), beq_eq_false_iff_ne.2 h⟩
  unfold vws vow
  simp only [Lib.indexByte, (f _ h1).1, (f _ h2).1, (f _ h3).1, (f _ h4).1, (f _ h5).1, (f _ h6).1, (f _ h1).2, (f _ h2).2, (f _ h3).2, (f _ h4).2, (f _ h5).2, (f _ h6).2]
  simp
/-- What the program does where a word ends in ing or ed. -/
def tense (a e : List UInt8) : List UInt8 := if decide (a.length < 3) || !hasV a then a ++ e else mend a
def sing (a e : List UInt8) : List UInt8 :=
  if e = [105, 101, 115] then (if 2 ≤ a.length then a ++ [121] else a ++ e)
  else if e = [115] then (if a.length < 3 then a ++ e else a)
  else if e = [115, 115, 101, 115] then a ++ [115, 115] else a ++ e
def mann (a e : List UInt8) : List UInt8 := if a.length < 3 then a ++ e else a
def withY (a e : List UInt8) : List UInt8 := if decide (a.length < 2) || vow (lastB a 1) then a ++ e else a ++ [105]
def firstOf (F : List UInt8 → List UInt8 → List UInt8) (l : List UInt8) : List (List UInt8) → List UInt8
  | [] => l
  | e :: es => if ends l e = true then F (cutB l e.length) e else firstOf F l es
theorem ends_iff {l e : List UInt8} : ends l e = true ↔ ∃ t, l = t ++ e := by
  constructor
  · intro h; exact ⟨_, ends_split h⟩
  · rintro ⟨t, rfl⟩; exact ends_append t e
theorem ends_app_iff (t e f : List UInt8) (h : f.length ≤ e.length) : ends (t ++ e) f = ends e f := by
  rw [Bool.eq_iff_iff, ends_iff, ends_iff]
  constructor
  · rintro ⟨u, hu⟩
    have hl : (t ++ e).drop t.length = (u ++ f).drop t.length := by rw [hu]
    rw [List.drop_left] at hl
    have hlen : u.length + f.length = t.length + e.length := by have := congrArg List.length hu; simp at this; omega
    rw [List.drop_append_of_le_length (by omega)] at hl
    exact ⟨_, hl⟩
  · rintro ⟨u, rfl⟩; exact ⟨t ++ u, by simp⟩
theorem stem1_first (l : List UInt8) : firstOf sing l [[115, 115, 101, 115], [105, 101, 115], [115, 115], [117, 115], [105, 115], [115]] = stem1 l := by
  unfold firstOf stem1
  by_cases h1 : ends l [115, 115, 101, 115] = true
  · rw [if_pos h1, if_pos h1]
    obtain ⟨t, rfl⟩ := ends_iff.1 h1
    simp [sing, cutB]
    rw [List.take_append]
    simp
    rw [List.take_of_length_le (by omega)]
  rw [if_neg h1, if_neg h1]
  unfold firstOf
  by_cases h2 : ends l [105, 101, 115] = true
  · rw [if_pos h2, if_pos h2]
    obtain ⟨t, rfl⟩ := ends_iff.1 h2
    rw [cutB_append]
    by_cases h5 : 5 ≤ (t ++ [105, 101, 115]).length
    · rw [if_pos h5, show cutB (t ++ [105, 101, 115]) 3 = t from cutB_append t [105, 101, 115], sing, if_pos rfl, if_pos (by simp at h5; omega)]
    · rw [if_neg h5, sing, if_pos rfl, if_neg (by simp at h5; omega)]
  rw [if_neg h2, if_neg h2]
  unfold firstOf
  by_cases h3 : ends l [115, 115] = true
  · rw [if_pos h3]
    obtain ⟨t, rfl⟩ := ends_iff.1 h3
    rw [cutB_append, if_neg (by rw [h3]; simp)]
    simp [sing]
  have h3' : ends l [115, 115] = false := by simpa using h3
  rw [if_neg h3]
  unfold firstOf
  by_cases h4 : ends l [117, 115] = true
  · rw [if_pos h4]
    obtain ⟨t, rfl⟩ := ends_iff.1 h4
    rw [cutB_append, if_neg (by rw [h4]; simp)]
    simp [sing]
  have h4' : ends l [117, 115] = false := by simpa using h4
  rw [if_neg h4]
  unfold firstOf
  by_cases h5 : ends l [105, 115] = true
  · rw [if_pos h5]
    obtain ⟨t, rfl⟩ := ends_iff.1 h5
    rw [cutB_append, if_neg (by rw [h5]; simp)]
    simp [sing]
  have h5' : ends l [105, 115] = false := by simpa using h5
  rw [if_neg h5]
  unfold firstOf
  by_cases h6 : ends l [115] = true
  · rw [if_pos h6, h6, h3', h4', h5']
    obtain ⟨t, rfl⟩ := ends_iff.1 h6
    rw [cutB_append]
    by_cases h7 : 4 ≤ (t ++ [115]).length
    · rw [if_pos (by simp; simpa using h7), show cutB (t ++ [115]) 1 = t from cutB_append t [115], sing, if_neg (by simp), if_pos rfl, if_neg (by simp at h7; omega)]
    · rw [if_neg (by simp at h7 ⊢; omega), sing, if_neg (by simp), if_pos rfl, if_pos (by simp at h7; omega)]
  · have h6' : ends l [115] = false := by simpa using h6
    rw [if_neg h6, h6']
    simp [firstOf]
theorem tense_cut (l : List UInt8) (e : List UInt8) (n : Nat) (hn : e.length + 3 = n) (h : ends l e = true) :
    tense (cutB l e.length) e = if decide (n ≤ l.length) && hasV (cutB l e.length) then mend (cutB l e.length) else l := by
  have hs := ends_split h
  have hl := ends_len h
  have hc := cutB_len l e.length
  unfold tense
  by_cases h1 : n ≤ l.length
  · rw [decide_eq_true h1, decide_eq_false (by omega), Bool.true_and, Bool.false_or]
    cases hv : hasV (cutB l e.length)
    · simp; exact hs.symm
    · simp
  · rw [decide_eq_false h1, decide_eq_true (by omega), Bool.true_or, if_pos rfl, Bool.false_and, if_neg (by simp)]
    exact hs.symm
theorem ing_not_ed {l : List UInt8} (h : ends l [105, 110, 103] = true) : ends l [101, 100] = false := by
  obtain ⟨t, rfl⟩ := ends_iff.1 h
  rw [ends_app_iff _ _ _ (by simp)]
  decide
theorem stem2_first (l : List UInt8) : firstOf tense l [[105, 110, 103], [101, 100]] = stem2 l := by
  unfold firstOf stem2
  by_cases h1 : ends l [105, 110, 103] = true
  · rw [if_pos h1, tense_cut l _ 6 rfl h1, h1, ing_not_ed h1]
    simp
  · have h1' : ends l [105, 110, 103] = false := by simpa using h1
    rw [if_neg h1, h1']
    unfold firstOf
    by_cases h2 : ends l [101, 100] = true
    · rw [if_pos h2, tense_cut l _ 5 rfl h2, h2]
      simp
    · have h2' : ends l [101, 100] = false := by simpa using h2
      rw [if_neg h2, h2']
      simp [firstOf]
theorem stem3_first (l : List UInt8) : firstOf mann l [[108, 121]] = stem3 l := by
  unfold firstOf stem3
  by_cases h1 : ends l [108, 121] = true
  · rw [if_pos h1, h1]
    have hs := ends_split h1
    have hl := ends_len h1
    have hc := cutB_len l 2
    simp only [List.length_cons, List.length_nil] at hs hl
    show mann (cutB l 2) _ = _
    unfold mann
    by_cases h5 : 5 ≤ l.length
    · rw [if_neg (by omega), if_pos (by simp [h5])]
    · rw [if_pos (by omega), if_neg (by simp; omega)]; exact hs.symm
  · have h1' : ends l [108, 121] = false := by simpa using h1
    rw [if_neg h1, h1']
    simp [firstOf]
theorem lastB_cut (l : List UInt8) (h : 2 ≤ l.length) : lastB (cutB l 1) 1 = lastB l 2 := by
  unfold lastB
  rw [cutB_len, cutB, List.getD_eq_getElem?_getD, List.getD_eq_getElem?_getD, List.getElem?_take, if_pos (by omega)]
  congr 2
theorem stem4_first (l : List UInt8) : firstOf withY l [[121]] = stem4 l := by
  unfold firstOf stem4
  by_cases h1 : ends l [121] = true
  · rw [if_pos h1, h1]
    have hs := ends_split h1
    have hl := ends_len h1
    have hc := cutB_len l 1
    simp only [List.length_cons, List.length_nil] at hs hl
    show withY (cutB l 1) _ = _
    unfold withY
    by_cases h5 : 3 ≤ l.length
    · rw [decide_eq_false (by omega), decide_eq_true h5, lastB_cut l (by omega), Bool.false_or]
      cases hv : vow (lastB l 2)
      · simp
      · simp; exact hs.symm
    · rw [decide_eq_true (by omega), decide_eq_false h5, Bool.true_or, if_pos rfl, if_neg (by simp)]; exact hs.symm
  · have h1' : ends l [121] = false := by simpa using h1
    rw [if_neg h1, h1']
    simp [firstOf]
end Go.Proofs.YtionicjnoogpjaaGreatDoor

namespace Go.Proofs.YtionicjnoogpjaaGreatDoor
open Go Go.RowKit
set_option linter.unusedVariables false

theorem alike_eq (s : ByteArray) (k1 k2 : Nat) (hk1 : k1 < s.size) (hk2 : k2 < s.size) (e1 : k1 = s.size - 1) (e2 : k2 = s.size - 2) (h2 : 2 ≤ s.size) :
    alike (lst s) = (((s[k1]'hk1).toNat : Int) == ((s[k2]'hk2).toNat : Int) && !vz ((s[k1]'hk1).toNat : Int) && ((s[k1]'hk1).toNat : Int) != 108 && ((s[k1]'hk1).toNat : Int) != 115 && ((s[k1]'hk1).toNat : Int) != 122) := by
  have l1 : lastB (lst s) 1 = s[k1]'hk1 := by rw [lastB, lst_len, ← e1, get_list]
  have l2 : lastB (lst s) 2 = s[k2]'hk2 := by rw [lastB, lst_len, ← e2, get_list]
  have cmp : ∀ c d : UInt8, (c == d) = ((c.toNat : Int) == (d.toNat : Int)) := by
    intro c d
    rw [Bool.eq_iff_iff, beq_iff_eq, beq_iff_eq, ← UInt8.toNat_inj]
    omega
  rw [alike, l1, l2, lst_len, decide_eq_true h2, vz_vow, Bool.true_and]
  simp only [bne, cmp]
  rfl
theorem bs_snoc (s : ByteArray) (p : ByteArray) : bs (lst s ++ lst p) = s ++ p := by
  apply ByteArray.ext
  simp [bs, lst]
set_option maxHeartbeats 2000000 in
theorem mend_long (s : ByteArray) (w : World) (k1 k2 : Nat) (hs : s.size ≤ 1048576) (h2 : 2 ≤ s.size) (hk1 : k1 < s.size) (hk2 : k2 < s.size) (e1 : IntKind.i64.wrap ((s.size : Int) - 1) = (k1 : Int)) (e2 : IntKind.i64.wrap ((s.size : Int) - 2) = (k2 : Int))
    (HX : Hid (k1 = s.size - 1)) (HA : Hid (alike (lst s) = (((s[k1]'hk1).toNat : Int) == ((s[k2]'hk2).toNat : Int) && !vz ((s[k1]'hk1).toNat : Int) && ((s[k1]'hk1).toNat : Int) != 108 && ((s[k1]'hk1).toNat : Int) != 115 && ((s[k1]'hk1).toNat : Int) != 122))) :
    Calls Tryz.prog 116 #[.string s] w fun e w' => e = .returned (.string (bs (mend (lst s)))) ∧ ∃ m, w' = w.drewN m := by
  have h1z : (1 : Int) < (s.size : Int) := by omega
  have h2z : (2 : Int) ≤ (s.size : Int) := by omega
  go_enter Tryz.func116, Tryz.ntmps116
  go_upto_region 2 with fail
  go_cut [47] (fun c wx => c = .bool (alike (lst s)) ∧ ∃ m, wx = w.drewN m)
  case first =>
    by_cases g1 : ((s[k1]'hk1).toNat : Int) = ((s[k2]'hk2).toNat : Int)
    · have HA2 : Hid (alike (lst s) = (!vz ((s[k2]'hk2).toNat : Int) && ((s[k2]'hk2).toNat : Int) != 108 && ((s[k2]'hk2).toNat : Int) != 115 && ((s[k2]'hk2).toNat : Int) != 122)) := by
        show _ = _
        rw [HA.out, g1]
        simp
      clear HA
      by_cases v1 : vz ((s[k2]'hk2).toNat : Int) = true
      · have HK : Hid (alike (lst s) = false) := by show _ = _; rw [HA2.out, v1]; rfl
        clear HA2
        go_quiet ((go_at_call 117; refine Calls.quiet_of_same (vowel_z _ _)))
        go_wp2_with fail
        go_meet
        case rel => exact ⟨by rw [HK.out], _, rfl⟩
      have v1' : vz ((s[k2]'hk2).toNat : Int) = false := by simpa using v1
      clear v1
      by_cases c1 : ((s[k2]'hk2).toNat : Int) = 108
      · have HK : Hid (alike (lst s) = false) := by show _ = _; rw [HA2.out, v1', c1]; rfl
        clear HA2
        go_quiet ((go_at_call 117; refine Calls.quiet_of_same (vowel_z _ _)))
        go_wp2_with fail
        go_meet
        case rel => exact ⟨by rw [HK.out], _, rfl⟩
      have c1' : (((s[k2]'hk2).toNat : Int) == 108) = false := beq_eq_false_iff_ne.2 c1
      have c1n : (((s[k2]'hk2).toNat : Int) != 108) = true := bne_iff_ne.2 c1
      by_cases c2 : ((s[k2]'hk2).toNat : Int) = 115
      · have HK : Hid (alike (lst s) = false) := by show _ = _; rw [HA2.out, v1', c2]; rfl
        clear HA2
        go_quiet ((go_at_call 117; refine Calls.quiet_of_same (vowel_z _ _)))
        go_wp2_with fail
        go_meet
        case rel => exact ⟨by rw [HK.out], _, rfl⟩
      have c2' : (((s[k2]'hk2).toNat : Int) == 115) = false := beq_eq_false_iff_ne.2 c2
      have c2n : (((s[k2]'hk2).toNat : Int) != 115) = true := bne_iff_ne.2 c2
      by_cases c3 : ((s[k2]'hk2).toNat : Int) = 122
      · have HK : Hid (alike (lst s) = false) := by show _ = _; rw [HA2.out, v1', c3]; rfl
        clear HA2
        go_quiet ((go_at_call 117; refine Calls.quiet_of_same (vowel_z _ _)))
        go_wp2_with fail
        go_meet
        case rel => exact ⟨by rw [HK.out], _, rfl⟩
      have c3' : (((s[k2]'hk2).toNat : Int) == 122) = false := beq_eq_false_iff_ne.2 c3
      have c3n : (((s[k2]'hk2).toNat : Int) != 122) = true := bne_iff_ne.2 c3
      have HK : Hid (alike (lst s) = true) := by show _ = _; rw [HA2.out, v1', bne, bne, bne, c1', c2', c3']; rfl
      clear HA2
      go_quiet ((go_at_call 117; refine Calls.quiet_of_same (vowel_z _ _)))
      go_wp2_with fail
      go_meet
      case rel => exact ⟨by rw [HK.out], _, rfl⟩
    · have g1' : (((s[k1]'hk1).toNat : Int) == ((s[k2]'hk2).toNat : Int)) = false := beq_eq_false_iff_ne.2 g1
      have HK : Hid (alike (lst s) = false) := by show _ = _; rw [HA.out, g1']; rfl
      clear HA
      go_quiet ((go_at_call 117; refine Calls.quiet_of_same (vowel_z _ _)))
      go_wp2_with fail
      go_meet
      case rel => exact ⟨by rw [HK.out], _, rfl⟩
  case rest =>
    obtain ⟨rfl, m, rfl⟩ := hcut
    clear HA
    by_cases ha : alike (lst s) = true
    · have HM : Hid (mend (lst s) = cutB (lst s) 1) := by show _ = _; rw [mend, if_pos ha]
      rw [ha]
      clear ha
      have hn1 : 1 ≤ s.size := by omega
      go_wp2_with fail
      go_ret
      rw [HM.out, ← extract_cut, HX.out]
      exact ⟨rfl, _, rfl⟩
    · have ha' : alike (lst s) = false := by simpa using ha
      rw [ha']
      have HM : Hid (mend (lst s) = if ends (lst s) [97, 116] || ends (lst s) [98, 108] || ends (lst s) [105, 122] then lst s ++ [101] else lst s) := by show _ = _; rw [mend, if_neg ha]
      clear ha ha'
      go_wp2_with fail
      refine (ends_any s _ _ hs (by decide)).mono ?_
      rintro e w1 ⟨rfl, hw⟩
      obtain rfl := hw.symm
      rw [show lst ⟨#[97, 116]⟩ = [97, 116] from rfl]
      by_cases h1 : ends (lst s) [97, 116] = true
      · rw [h1]
        rw [h1] at HM
        clear h1
        go_wp2_with fail
        go_ret
        rw [HM.out]
        exact ⟨by simp; exact (bs_snoc s ⟨#[101]⟩).symm, _, rfl⟩
      have h1' : ends (lst s) [97, 116] = false := by simpa using h1
      rw [h1']
      rw [h1'] at HM
      clear h1 h1'
      go_wp2_with fail
      refine (ends_any s _ _ hs (by decide)).mono ?_
      rintro e w1 ⟨rfl, hw⟩
      obtain rfl := hw.symm
      rw [show lst ⟨#[98, 108]⟩ = [98, 108] from rfl]
      by_cases h1 : ends (lst s) [98, 108] = true
      · rw [h1]
        rw [h1] at HM
        clear h1
        go_wp2_with fail
        go_ret
        rw [HM.out]
        exact ⟨by simp; exact (bs_snoc s ⟨#[101]⟩).symm, _, rfl⟩
      have h1' : ends (lst s) [98, 108] = false := by simpa using h1
      rw [h1']
      rw [h1'] at HM
      clear h1 h1'
      go_wp2_with fail
      refine (ends_any s _ _ hs (by decide)).mono ?_
      rintro e w1 ⟨rfl, hw⟩
      obtain rfl := hw.symm
      rw [show lst ⟨#[105, 122]⟩ = [105, 122] from rfl]
      by_cases h1 : ends (lst s) [105, 122] = true
      · rw [h1]
        rw [h1] at HM
        clear h1
        go_wp2_with fail
        go_ret
        rw [HM.out]
        exact ⟨by simp; exact (bs_snoc s ⟨#[101]⟩).symm, _, rfl⟩
      have h1' : ends (lst s) [105, 122] = false := by simpa using h1
      rw [h1']
      rw [h1'] at HM
      clear h1 h1'
      go_wp2_with fail
      go_ret
      rw [HM.out]
      exact ⟨by simp [bs_lst], _, rfl⟩
set_option maxHeartbeats 1000000 in
theorem mend_short (s : ByteArray) (w : World) (hs : s.size < 2) :
    Calls Tryz.prog 116 #[.string s] w fun e w' => e = .returned (.string (bs (mend (lst s)))) ∧ ∃ m, w' = w.drewN m := by
  have hd : decide ((2 : Int) ≤ (s.size : Int)) = false := decide_eq_false (by omega)
  have HN : ∀ a b : UInt8, Hid (ends (lst s) [a, b] = false) := by
    intro a b
    show _ = _
    by_cases h : ends (lst s) [a, b] = true
    · have := ends_len h
      rw [lst_len] at this
      simp at this
      omega
    · simpa using h
  have H1 := HN 97 116
  have H2 := HN 98 108
  have H3 := HN 105 122
  have HA : Hid (alike (lst s) = false) := by
    show _ = _
    rw [alike, lst_len, decide_eq_false (by omega)]
    rfl
  have HM : Hid (mend (lst s) = lst s) := by show _ = _; rw [mend, HA.out, H1.out, H2.out, H3.out]; rfl
  clear HA HN
  go_enter Tryz.func116, Tryz.ntmps116
  go_wp2_with fail
  go_quiet (fail)
  go_wp2_with fail
  refine (ends_any s _ _ (by omega) (by decide)).mono ?_
  rintro e w1 ⟨rfl, hw⟩
  obtain rfl := hw.symm
  rw [show lst ⟨#[97, 116]⟩ = [97, 116] from rfl, H1.out]
  go_wp2_with fail
  refine (ends_any s _ _ (by omega) (by decide)).mono ?_
  rintro e w1 ⟨rfl, hw⟩
  obtain rfl := hw.symm
  rw [show lst ⟨#[98, 108]⟩ = [98, 108] from rfl, H2.out]
  go_wp2_with fail
  refine (ends_any s _ _ (by omega) (by decide)).mono ?_
  rintro e w1 ⟨rfl, hw⟩
  obtain rfl := hw.symm
  rw [show lst ⟨#[105, 122]⟩ = [105, 122] from rfl, H3.out]
  go_wp2_with fail
  go_ret
  rw [HM.out]
  exact ⟨by simp [bs_lst], _, rfl⟩
theorem mend_any (s : ByteArray) (w : World) (hs : s.size ≤ 1048576) :
    Calls Tryz.prog 116 #[.string s] w fun e w' => e = .returned (.string (bs (mend (lst s)))) ∧ ∃ m, w' = w.drewN m := by
  by_cases h : s.size < 2
  · exact mend_short s w h
  · exact mend_long s w (s.size - 1) (s.size - 2) hs (by omega) (by omega) (by omega)
      (by rw [IntWalk.i64_in _ (by omega)]; omega) (by rw [IntWalk.i64_in _ (by omega)]; omega) rfl (alike_eq s _ _ (by omega) (by omega) rfl rfl (by omega))
end Go.Proofs.YtionicjnoogpjaaGreatDoor
