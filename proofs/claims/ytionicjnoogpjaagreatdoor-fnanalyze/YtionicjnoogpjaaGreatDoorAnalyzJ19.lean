import Derived.Test.YtionicjnoogpjaaGreatDoorAnalyzJ18
import Derived.Test.YtionicjnoogpjaaGreatDoorAnalyzJ07
import Derived.Test.YtionicjnoogpjaaGreatDoorAnalyzJ15
namespace Go.Proofs.YtionicjnoogpjaaGreatDoor
open Go Go.RowKit
set_option linter.unusedVariables false

def isRules (B : Nat) (w : World) : Prop :=
  w.heap[B]? = some (.cells #[.string ⟨#[115, 115, 101, 115]⟩, .string ⟨#[105, 101, 115]⟩, .string ⟨#[115, 115]⟩, .string ⟨#[117, 115]⟩, .string ⟨#[105, 115]⟩, .string ⟨#[115]⟩] 9) ∧
  w.heap[B + 1]? = some (.cells #[.string ⟨#[105, 110, 103]⟩, .string ⟨#[101, 100]⟩] 9) ∧
  w.heap[B + 1 + 1]? = some (.cells #[.string ⟨#[108, 121]⟩] 9) ∧
  w.heap[B + 1 + 1 + 1]? = some (.cells #[.string ⟨#[121]⟩] 9) ∧
  w.heap[B + 1 + 1 + 1 + 1]? = some (.cells #[.slice (some ⟨B, 0, none⟩) 6 6, .func (.func 150) #[] #[], .slice (some ⟨B + 1, 0, none⟩) 2 2, .func (.func 151) #[] #[], .slice (some ⟨B + 1 + 1, 0, none⟩) 1 1, .func (.func 152) #[] #[], .slice (some ⟨B + 1 + 1 + 1, 0, none⟩) 1 1, .func (.func 153) #[] #[]] 154)
theorem lt_of_block {w : World} {b : Nat} {o : Obj} (h : w.heap[b]? = some o) : b < w.heap.size := (Array.getElem?_eq_some_iff.1 h).1
theorem isRules.below {B : Nat} {w w' : World} (h : isRules B w) (hb : Below w.heap.size w w') : isRules B w' := by
  obtain ⟨h0, h1, h2, h3, h4⟩ := h
  exact ⟨(hb.block _ (lt_of_block h0)).trans h0, (hb.block _ (lt_of_block h1)).trans h1, (hb.block _ (lt_of_block h2)).trans h2, (hb.block _ (lt_of_block h3)).trans h3, (hb.block _ (lt_of_block h4)).trans h4⟩
theorem cell_of_block {w : World} {b : Nat} {cs : Array Value} {t : TypeId} (h : w.heap[b]? = some (.cells cs t)) (k : Nat) : w.cell? ⟨b, k, none⟩ = cs[k]? := by
  simp [World.cell?, h]
theorem alloc_at (w : World) (o : Obj) : (w.alloc o).heap[w.heap.size]? = some o := heap_alloc_new w o
theorem alloc_old (w : World) (o : Obj) (b : Nat) (x : Obj) (h : w.heap[b]? = some x) : (w.alloc o).heap[b]? = some x := (((Below.refl w.heap.size w).alloc (Nat.le_refl _) o).block b (lt_of_block h)).trans h
theorem alloc_size (w : World) (o : Obj) : (w.alloc o).heap.size = w.heap.size + 1 := by simp
theorem alloc5 (w : World) (o1 o2 o3 o4 o5 : Obj) : let w' := ((((w.alloc o1).alloc o2).alloc o3).alloc o4).alloc o5
    w'.heap[w.heap.size]? = some o1 ∧ w'.heap[w.heap.size + 1]? = some o2 ∧ w'.heap[w.heap.size + 1 + 1]? = some o3 ∧ w'.heap[w.heap.size + 1 + 1 + 1]? = some o4 ∧ w'.heap[w.heap.size + 1 + 1 + 1 + 1]? = some o5 := by
  have s1 := alloc_size w o1
  have s2 := alloc_size (w.alloc o1) o2
  have s3 := alloc_size ((w.alloc o1).alloc o2) o3
  have s4 := alloc_size (((w.alloc o1).alloc o2).alloc o3) o4
  have a2 := alloc_at (w.alloc o1) o2
  have a3 := alloc_at ((w.alloc o1).alloc o2) o3
  have a4 := alloc_at (((w.alloc o1).alloc o2).alloc o3) o4
  have a5 := alloc_at ((((w.alloc o1).alloc o2).alloc o3).alloc o4) o5
  rw [s1] at a2 s2
  rw [s2] at a3 s3
  rw [s3] at a4 s4
  rw [s4] at a5
  exact ⟨alloc_old _ _ _ _ (alloc_old _ _ _ _ (alloc_old _ _ _ _ (alloc_old _ _ _ _ (alloc_at w o1)))), alloc_old _ _ _ _ (alloc_old _ _ _ _ (alloc_old _ _ _ _ a2)), alloc_old _ _ _ _ (alloc_old _ _ _ _ a3), alloc_old _ _ _ _ a4, a5⟩
set_option maxHeartbeats 2000000 in
theorem rules_any (w : World) :
    Calls Tryz.prog 126 #[] w fun e w' => e = .returned (.slice (some ⟨w.heap.size + 1 + 1 + 1 + 1, 0, none⟩) 4 4) ∧ isRules w.heap.size w' ∧ Below w.heap.size w w' := by
  go_enter Tryz.func126, Tryz.ntmps126
  go_wp2
  go_ret
  refine ⟨rfl, alloc5 w _ _ _ _ _, ?_⟩
  · exact (((((Below.refl _ _).alloc (Nat.le_refl _) _).alloc (by simp) _).alloc (by simp; omega) _).alloc (by simp; omega) _).alloc (by simp; omega) _
def stepsTo (l : List UInt8) : Nat → List UInt8
  | 0 => l
  | 1 => stem1 l
  | 2 => stem2 (stem1 l)
  | 3 => stem3 (stem2 (stem1 l))
  | _ => stem4 (stem3 (stem2 (stem1 l)))
theorem allS_cut {l : List UInt8} (h : allS l = true) (n : Nat) : allS (cutB l n) = true := by
  rw [allS, List.all_eq_true] at h ⊢
  exact fun x hx => h x (List.mem_of_mem_take hx)
theorem allS_snoc {l : List UInt8} (h : allS l = true) (c : UInt8) (hc : small c = true) : allS (l ++ [c]) = true := by
  rw [allS, List.all_append]
  rw [allS] at h
  simp [h, hc]
theorem allS_stem1 {l : List UInt8} (h : allS l = true) : allS (stem1 l) = true := by
  unfold stem1
  split
  · exact allS_cut h _
  · split
    · split
      · exact allS_snoc (allS_cut h _) _ (by decide)
      · exact h
    · split
      · exact allS_cut h _
      · exact h
theorem e_len {es : List (List UInt8)} (h : ∀ e ∈ es, e.length ≤ 4) {e : List UInt8} (he : e ∈ es) : (bs e).size ≤ 64 := by
  have := h e he
  rw [bs_size]; omega
theorem tab0 (j : Nat) (h : j < 6) : (#[.string ⟨#[115, 115, 101, 115]⟩, .string ⟨#[105, 101, 115]⟩, .string ⟨#[115, 115]⟩, .string ⟨#[117, 115]⟩, .string ⟨#[105, 115]⟩, .string ⟨#[115]⟩] : Array Value)[j]? = some (.string (bs ((sEnds : List (List UInt8)).getD j []))) := by
  match j, h with
  | 0, _ => rfl
  | 1, _ => rfl
  | 2, _ => rfl
  | 3, _ => rfl
  | 4, _ => rfl
  | 5, _ => rfl
theorem tab1 (j : Nat) (h : j < 2) : (#[.string ⟨#[105, 110, 103]⟩, .string ⟨#[101, 100]⟩] : Array Value)[j]? = some (.string (bs (([[105, 110, 103], [101, 100]] : List (List UInt8)).getD j []))) := by
  match j, h with
  | 0, _ => rfl
  | 1, _ => rfl
theorem tab2 (j : Nat) (h : j < 1) : (#[.string ⟨#[108, 121]⟩] : Array Value)[j]? = some (.string (bs (([[108, 121]] : List (List UInt8)).getD j []))) := by
  match j, h with
  | 0, _ => rfl
theorem tab3 (j : Nat) (h : j < 1) : (#[.string ⟨#[121]⟩] : Array Value)[j]? = some (.string (bs (([[121]] : List (List UInt8)).getD j []))) := by
  match j, h with
  | 0, _ => rfl
set_option maxHeartbeats 4000000 in
theorem implStem_in (s : ByteArray) (w : World) (h3 : 3 ≤ s.size) (h64 : s.size ≤ 64) (HA : Hid (allS (lst s) = true)) :
    Calls Tryz.prog 83 #[.string s] w fun e w' => e = .returned (.string (bs (stem4 (stem3 (stem2 (stem1 (lst s))))))) ∧ Below w.heap.size w w' := by
  have hlz : ¬ (65536 : Int) < (s.size : Int) := by omega
  have b1 : (decide ((3 : Int) ≤ (s.size : Int)) && decide ((s.size : Int) ≤ 64)) = true := by rw [decide_eq_true (by omega), decide_eq_true (by omega)]; rfl
  have HW := hidd b1
  clear b1
  go_enter Tryz.func83, Tryz.ntmps83
  go_wp2_with fail
  refine (clone_any s _ (by omega)).mono ?_
  rintro e w1 ⟨rfl, hb1⟩
  have HB1 := hidd hb1
  clear hb1
  go_wp2_with fail
  refine (within_any _ _ _ _).mono ?_
  rintro e w' ⟨rfl, hw⟩
  obtain rfl := hw.symm
  rw [HW.out]
  go_wp2_with fail
  refine (allSmall_any s _ (by omega)).mono ?_
  rintro e w' ⟨rfl, hw⟩
  obtain rfl := hw.symm
  rw [HA.out]
  go_wp2_with fail
  refine (rules_any _).mono ?_
  rintro e w2 ⟨rfl, hr, hb2⟩
  have HR := hidd hr
  have HB2 := hidd (HB1.out.trans (hb2.mono HB1.out.size))
  clear hr hb2 HB1
  generalize w1.heap.size = B at *
  clear hw
  go_wp2_with fail
  go_loopw [3, 23] (fun c i wr => ∃ (k : Nat) (t : ByteArray), k ≤ 4 ∧ i = .int .i64 k ∧ c = .string t ∧ t.size ≤ 64 ∧ lst t = stepsTo (lst s) k ∧ (k ≤ 1 → allS (lst t) = true) ∧ isRules B wr ∧ Below w.heap.size w wr) (fun _ i _ => 4 - (intOf i).toNat)
  case atStart => exact ⟨0, s, by omega, rfl, rfl, h64, rfl, fun _ => HA.out, HR.out, HB2.out⟩
  case round =>
    obtain ⟨k, t, hk, rfl, rfl, hts, hst, hal, hrl, hbel⟩ := hrel
    have HST := hidd hst
    have HAL := hidd hal
    have HRL := hidd hrl
    have HBL := hidd hbel
    clear hst hal hrl hbel HR HB2
    by_cases hlt : k < 4
    · have hk4 : k = 0 ∨ k = 1 ∨ k = 2 ∨ k = 3 := by omega
      rcases hk4 with rfl | rfl | rfl | rfl
      · have HQ := HRL.out
        have g1 : wr.cell? ⟨B + 1 + 1 + 1 + 1, 0, none⟩ = some (.slice (some ⟨B, 0, none⟩) 6 6) := cell_of_block HQ.2.2.2.2 0
        have g2 : wr.cell? ⟨B + 1 + 1 + 1 + 1, 1, none⟩ = some (.func (.func 150) #[] #[]) := cell_of_block HQ.2.2.2.2 1
        have HH : Hid (wr.heap[B]? = some (.cells #[.string ⟨#[115, 115, 101, 115]⟩, .string ⟨#[105, 101, 115]⟩, .string ⟨#[115, 115]⟩, .string ⟨#[117, 115]⟩, .string ⟨#[105, 115]⟩, .string ⟨#[115]⟩] 9)) := HQ.1
        clear HQ
        go_wp2_with fail
        refine (apply_any sEnds sing 150 (B) 6 6 t _ hts (enters_of Tryz.func150 (by kernel_rfl) rfl) rfl (by decide) (lt_of_block (alloc_old _ _ _ _ HH.out)) (fun j hj => (cell_of_block (alloc_old _ _ _ _ HH.out) j).trans (tab0 j hj)) (fun e he W _ => sing_any e he _ W (by rw [bs_size, cutB_len, lst_len]; omega))).mono ?_
        rintro e w3 ⟨rfl, hb3⟩
        have HBA := hidd ((Below.refl wr.heap.size wr).alloc (Nat.le_refl _) (.cells #[.slice (some ⟨B, 0, none⟩) 6 6, .func (.func 150) #[] #[]] 154))
        have HB3 := hidd (HBA.out.trans (hb3.mono (by simp)))
        have HN : Hid (isRules B w3 ∧ Below w.heap.size w w3) := ⟨HRL.out.below HB3.out, HBL.out.trans (HB3.out.mono HBL.out.size)⟩
        have HT : Hid (lst (bs (firstOf sing (lst t) sEnds)) = stepsTo (lst s) 1) := by show _ = _; rw [lst_bs, show firstOf sing (lst t) sEnds = stem1 (lst t) from stem1_first _, HST.out]; rfl
        have HZ : Hid ((bs (firstOf sing (lst t) sEnds)).size ≤ 64) := by show _ ≤ _; rw [bs_size, show firstOf sing (lst t) sEnds = stem1 (lst t) from stem1_first _]; have := stem1_le (lst t); rw [lst_len] at this; omega
        have HS : Hid (1 ≤ 1 → allS (lst (bs (firstOf sing (lst t) sEnds))) = true) := by intro hk1; rw [lst_bs, show firstOf sing (lst t) sEnds = stem1 (lst t) from stem1_first _]; exact allS_stem1 (HAL.out (by omega))
        clear hb3 HBA HB3 g1 g2 HH
        go_wp2_with fail
        go_roundw
        case rel => exact ⟨1, _, by omega, by go_num, rfl, HZ.out, HT.out, HS.out, HN.out.1, HN.out.2⟩
        case measure => simp [intOf]
      · have HQ := HRL.out
        have g1 : wr.cell? ⟨B + 1 + 1 + 1 + 1, 2, none⟩ = some (.slice (some ⟨B + 1, 0, none⟩) 2 2) := cell_of_block HQ.2.2.2.2 2
        have g2 : wr.cell? ⟨B + 1 + 1 + 1 + 1, 3, none⟩ = some (.func (.func 151) #[] #[]) := cell_of_block HQ.2.2.2.2 3
        have HH : Hid (wr.heap[B + 1]? = some (.cells #[.string ⟨#[105, 110, 103]⟩, .string ⟨#[101, 100]⟩] 9)) := HQ.2.1
        clear HQ
        go_wp2_with fail
        refine (apply_any [[105, 110, 103], [101, 100]] tense 151 (B + 1) 2 2 t _ hts (enters_of Tryz.func151 (by kernel_rfl) rfl) rfl (by decide) (lt_of_block (alloc_old _ _ _ _ HH.out)) (fun j hj => (cell_of_block (alloc_old _ _ _ _ HH.out) j).trans (tab1 j hj)) (fun e he W _ => by have := tense_any (bs (cutB (lst t) e.length)) (bs e) W (by rw [bs_size, cutB_len, lst_len]; omega) (e_len (es := [[105, 110, 103], [101, 100]]) (by decide) he) (by rw [lst_bs]; exact allS_cut (HAL.out (by omega)) _); rwa [lst_bs, lst_bs] at this)).mono ?_
        rintro e w3 ⟨rfl, hb3⟩
        have HBA := hidd ((Below.refl wr.heap.size wr).alloc (Nat.le_refl _) (.cells #[.slice (some ⟨B + 1, 0, none⟩) 2 2, .func (.func 151) #[] #[]] 154))
        have HB3 := hidd (HBA.out.trans (hb3.mono (by simp)))
        have HN : Hid (isRules B w3 ∧ Below w.heap.size w w3) := ⟨HRL.out.below HB3.out, HBL.out.trans (HB3.out.mono HBL.out.size)⟩
        have HT : Hid (lst (bs (firstOf tense (lst t) [[105, 110, 103], [101, 100]])) = stepsTo (lst s) 2) := by show _ = _; rw [lst_bs, show firstOf tense (lst t) [[105, 110, 103], [101, 100]] = stem2 (lst t) from stem2_first _, HST.out]; rfl
        have HZ : Hid ((bs (firstOf tense (lst t) [[105, 110, 103], [101, 100]])).size ≤ 64) := by show _ ≤ _; rw [bs_size, show firstOf tense (lst t) [[105, 110, 103], [101, 100]] = stem2 (lst t) from stem2_first _]; have := stem2_le (lst t); rw [lst_len] at this; omega
        have HS : Hid (2 ≤ 1 → allS (lst (bs (firstOf tense (lst t) [[105, 110, 103], [101, 100]]))) = true) := by intro hk1; omega
        clear hb3 HBA HB3 g1 g2 HH
        go_wp2_with fail
        go_roundw
        case rel => exact ⟨2, _, by omega, by go_num, rfl, HZ.out, HT.out, HS.out, HN.out.1, HN.out.2⟩
        case measure => simp [intOf]
      · have HQ := HRL.out
        have g1 : wr.cell? ⟨B + 1 + 1 + 1 + 1, 4, none⟩ = some (.slice (some ⟨B + 1 + 1, 0, none⟩) 1 1) := cell_of_block HQ.2.2.2.2 4
        have g2 : wr.cell? ⟨B + 1 + 1 + 1 + 1, 5, none⟩ = some (.func (.func 152) #[] #[]) := cell_of_block HQ.2.2.2.2 5
        have HH : Hid (wr.heap[B + 1 + 1]? = some (.cells #[.string ⟨#[108, 121]⟩] 9)) := HQ.2.2.1
        clear HQ
        go_wp2_with fail
        refine (apply_any [[108, 121]] mann 152 (B + 1 + 1) 1 1 t _ hts (enters_of Tryz.func152 (by kernel_rfl) rfl) rfl (by decide) (lt_of_block (alloc_old _ _ _ _ HH.out)) (fun j hj => (cell_of_block (alloc_old _ _ _ _ HH.out) j).trans (tab2 j hj)) (fun e he W _ => by have := mann_any (bs (cutB (lst t) e.length)) (bs e) W (by rw [bs_size, cutB_len, lst_len]; omega) (e_len (es := [[108, 121]]) (by decide) he); rwa [lst_bs, lst_bs] at this)).mono ?_
        rintro e w3 ⟨rfl, hb3⟩
        have HBA := hidd ((Below.refl wr.heap.size wr).alloc (Nat.le_refl _) (.cells #[.slice (some ⟨B + 1 + 1, 0, none⟩) 1 1, .func (.func 152) #[] #[]] 154))
        have HB3 := hidd (HBA.out.trans (hb3.mono (by simp)))
        have HN : Hid (isRules B w3 ∧ Below w.heap.size w w3) := ⟨HRL.out.below HB3.out, HBL.out.trans (HB3.out.mono HBL.out.size)⟩
        have HT : Hid (lst (bs (firstOf mann (lst t) [[108, 121]])) = stepsTo (lst s) 3) := by show _ = _; rw [lst_bs, show firstOf mann (lst t) [[108, 121]] = stem3 (lst t) from stem3_first _, HST.out]; rfl
        have HZ : Hid ((bs (firstOf mann (lst t) [[108, 121]])).size ≤ 64) := by show _ ≤ _; rw [bs_size, show firstOf mann (lst t) [[108, 121]] = stem3 (lst t) from stem3_first _]; have := stem3_le (lst t); rw [lst_len] at this; omega
        have HS : Hid (3 ≤ 1 → allS (lst (bs (firstOf mann (lst t) [[108, 121]]))) = true) := by intro hk1; omega
        clear hb3 HBA HB3 g1 g2 HH
        go_wp2_with fail
        go_roundw
        case rel => exact ⟨3, _, by omega, by go_num, rfl, HZ.out, HT.out, HS.out, HN.out.1, HN.out.2⟩
        case measure => simp [intOf]
      · have HQ := HRL.out
        have g1 : wr.cell? ⟨B + 1 + 1 + 1 + 1, 6, none⟩ = some (.slice (some ⟨B + 1 + 1 + 1, 0, none⟩) 1 1) := cell_of_block HQ.2.2.2.2 6
        have g2 : wr.cell? ⟨B + 1 + 1 + 1 + 1, 7, none⟩ = some (.func (.func 153) #[] #[]) := cell_of_block HQ.2.2.2.2 7
        have HH : Hid (wr.heap[B + 1 + 1 + 1]? = some (.cells #[.string ⟨#[121]⟩] 9)) := HQ.2.2.2.1
        clear HQ
        go_wp2_with fail
        refine (apply_any [[121]] withY 153 (B + 1 + 1 + 1) 1 1 t _ hts (enters_of Tryz.func153 (by kernel_rfl) rfl) rfl (by decide) (lt_of_block (alloc_old _ _ _ _ HH.out)) (fun j hj => (cell_of_block (alloc_old _ _ _ _ HH.out) j).trans (tab3 j hj)) (fun e he W _ => by have := withY_any (bs (cutB (lst t) e.length)) (bs e) W (by rw [bs_size, cutB_len, lst_len]; omega) (e_len (es := [[121]]) (by decide) he); rwa [lst_bs, lst_bs] at this)).mono ?_
        rintro e w3 ⟨rfl, hb3⟩
        have HBA := hidd ((Below.refl wr.heap.size wr).alloc (Nat.le_refl _) (.cells #[.slice (some ⟨B + 1 + 1 + 1, 0, none⟩) 1 1, .func (.func 153) #[] #[]] 154))
        have HB3 := hidd (HBA.out.trans (hb3.mono (by simp)))
        have HN : Hid (isRules B w3 ∧ Below w.heap.size w w3) := ⟨HRL.out.below HB3.out, HBL.out.trans (HB3.out.mono HBL.out.size)⟩
        have HT : Hid (lst (bs (firstOf withY (lst t) [[121]])) = stepsTo (lst s) 4) := by show _ = _; rw [lst_bs, show firstOf withY (lst t) [[121]] = stem4 (lst t) from stem4_first _, HST.out]; rfl
        have HZ : Hid ((bs (firstOf withY (lst t) [[121]])).size ≤ 64) := by show _ ≤ _; rw [bs_size, show firstOf withY (lst t) [[121]] = stem4 (lst t) from stem4_first _]; have := stem4_le (lst t); rw [lst_len] at this; omega
        have HS : Hid (4 ≤ 1 → allS (lst (bs (firstOf withY (lst t) [[121]]))) = true) := by intro hk1; omega
        clear hb3 HBA HB3 g1 g2 HH
        go_wp2_with fail
        go_roundw
        case rel => exact ⟨4, _, by omega, by go_num, rfl, HZ.out, HT.out, HS.out, HN.out.1, HN.out.2⟩
        case measure => simp [intOf]
    · obtain rfl : k = 4 := by omega
      go_wp2_with fail
      go_ret
      rw [← show lst t = stem4 (stem3 (stem2 (stem1 (lst s)))) from HST.out, bs_lst]
      exact ⟨rfl, HBL.out⟩
end Go.Proofs.YtionicjnoogpjaaGreatDoor

namespace Go.Proofs.YtionicjnoogpjaaGreatDoor
open Go Go.RowKit
set_option linter.unusedVariables false

set_option maxHeartbeats 2000000 in
set_option maxRecDepth 100000 in
theorem specStem_no (s : ByteArray) (w : World) (h3 : 3 ≤ s.size) (h64 : s.size ≤ 64) (HA : Hid (allS (lst s) = false)) :
    Calls Tryz.prog 71 #[.string s] w fun e w' => e = .returned (.string s) ∧ ∃ m, w' = w.drewN m := by
  have b0 : decide ((s.size : Int) < 3) = false := decide_eq_false (by omega)
  have b1 : decide ((64 : Int) < (s.size : Int)) = false := decide_eq_false (by omega)
  have b2 : ¬ (65536 : Int) < (s.size : Int) := by omega
  go_enter Tryz.func71, Tryz.ntmps71
  go_wp2
  go_loop [3] (fun i => ∃ k : Nat, k ≤ s.size ∧ i = .int .i64 k ∧ allS ((lst s).take k) = true) (fun i => s.size - (intOf i).toNat)
  case atStart => exact ⟨0, Nat.zero_le _, rfl, rfl⟩
  case round =>
    obtain ⟨k, hk, rfl, hall⟩ := hrel
    have HK := hidd hall
    clear hall
    by_cases hlt : k < s.size
    · have hkl : k < (lst s).length := by rw [lst_len]; exact hlt
      have HG := hidd (get_list s k hlt)
      by_cases hsm : small ((lst s).getD k 0) = true
      · have HN : Hid (allS ((lst s).take (k + 1)) = true) := by show _ = _; rw [allS, all_take_small _ _ hkl, ← allS, HK.out, hsm]; rfl
        rw [← HG.out, small, decide_eq_true_eq] at hsm
        obtain ⟨g1, g2⟩ := hsm
        have g1z : ¬ ((s[k]'hlt).toNat : Int) < 97 := by omega
        have g2z : ¬ (122 : Int) < ((s[k]'hlt).toNat : Int) := by omega
        have g1b : decide (((s[k]'hlt).toNat : Int) < 97) = false := decide_eq_false g1z
        have g2b : decide ((122 : Int) < ((s[k]'hlt).toNat : Int)) = false := decide_eq_false g2z
        go_wp2
        go_round
        case rel => exact ⟨k + 1, by omega, by go_num, HN.out⟩
        case measure => simp [intOf]; omega
      · have hsm' : small ((lst s).getD k 0) = false := by simpa using hsm
        rw [← HG.out, small, decide_eq_false_iff_not] at hsm'
        by_cases g1 : ((s[k]'hlt).toNat : Int) < 97
        · clear hsm hsm'
          go_wp2
          go_ret
          exact ⟨rfl, 0, rfl⟩
        · have g1b : decide (((s[k]'hlt).toNat : Int) < 97) = false := decide_eq_false g1
          have g2 : (122 : Int) < ((s[k]'hlt).toNat : Int) := by omega
          clear hsm hsm'
          go_wp2
          go_ret
          exact ⟨rfl, 0, rfl⟩
    · exfalso
      have h1 := HK.out
      rw [List.take_of_length_le (by rw [lst_len]; omega), HA.out] at h1
      cases h1
set_option maxHeartbeats 2000000 in
set_option maxRecDepth 100000 in
theorem specStem_any (s : ByteArray) (w : World) (hs : s.size ≤ 1048576) :
    Calls Tryz.prog 71 #[.string s] w fun e w' => e = .returned (.string (bs (stemW (lst s)))) ∧ ∃ m, w' = w.drewN m := by
  by_cases hlong : 65536 < s.size
  · have HM : Hid (stemW (lst s) = []) := by show _ = _; rw [stemW, lst_len, if_pos hlong]
    have hz : (65536 : Int) < (s.size : Int) := by omega
    go_enter Tryz.func71, Tryz.ntmps71
    go_wp2
    go_ret
    rw [HM.out]
    exact ⟨rfl, 0, rfl⟩
  have hz : ¬ (65536 : Int) < (s.size : Int) := by omega
  by_cases h3 : s.size < 3
  · have HM : Hid (stemW (lst s) = lst s) := by show _ = _; rw [stemW, lst_len, if_neg hlong, if_pos (Or.inl h3)]
    have h3z : (s.size : Int) < 3 := by omega
    go_enter Tryz.func71, Tryz.ntmps71
    go_wp2
    go_ret
    rw [HM.out, bs_lst]
    exact ⟨rfl, 0, rfl⟩
  by_cases h64 : 64 < s.size
  · have HM : Hid (stemW (lst s) = lst s) := by show _ = _; rw [stemW, lst_len, if_neg hlong, if_pos (Or.inr h64)]
    have h3b : decide ((s.size : Int) < 3) = false := decide_eq_false (by omega)
    have h64z : (64 : Int) < (s.size : Int) := by omega
    go_enter Tryz.func71, Tryz.ntmps71
    go_wp2
    go_ret
    rw [HM.out, bs_lst]
    exact ⟨rfl, 0, rfl⟩
  have e0 : stemW (lst s) = if allS (lst s) = true then stem4 (stem3 (stem2 (stem1 (lst s)))) else lst s := by rw [stemW, lst_len, if_neg hlong, if_neg (by omega)]; rfl
  by_cases ha : allS (lst s) = true
  · rw [e0, if_pos ha]
    exact specStem_in s w (by omega) (by omega) ha
  · rw [e0, if_neg ha, bs_lst]
    have ha' : allS (lst s) = false := by simpa using ha
    exact specStem_no s w (by omega) (by omega) ha'
set_option maxHeartbeats 2000000 in
set_option maxRecDepth 100000 in
theorem implStem_any (s : ByteArray) (w : World) (hs : s.size ≤ 1048576) :
    Calls Tryz.prog 83 #[.string s] w fun e w' => e = .returned (.string (bs (stemW (lst s)))) ∧ Below w.heap.size w w' := by
  by_cases hlong : 65536 < s.size
  · have HM : Hid (stemW (lst s) = []) := by show _ = _; rw [stemW, lst_len, if_pos hlong]
    have hz : (65536 : Int) < (s.size : Int) := by omega
    go_enter Tryz.func83, Tryz.ntmps83
    go_wp2_with fail
    go_ret
    rw [HM.out]
    exact ⟨rfl, Below.refl _ _⟩
  have hz : ¬ (65536 : Int) < (s.size : Int) := by omega
  by_cases hin : 3 ≤ s.size ∧ s.size ≤ 64
  · have e0 : stemW (lst s) = if allS (lst s) = true then stem4 (stem3 (stem2 (stem1 (lst s)))) else lst s := by rw [stemW, lst_len, if_neg hlong, if_neg (by omega)]; rfl
    by_cases ha : allS (lst s) = true
    · rw [e0, if_pos ha]
      exact implStem_in s w (by omega) (by omega) ha
    · have HM : Hid (stemW (lst s) = lst s) := by show _ = _; rw [e0, if_neg ha]
      have ha' : allS (lst s) = false := by simpa using ha
      have HA := hidd ha'
      have HW : Hid ((decide ((3 : Int) ≤ (s.size : Int)) && decide ((s.size : Int) ≤ 64)) = true) := by show _ = _; rw [decide_eq_true (by omega), decide_eq_true (by omega)]; rfl
      clear e0 ha ha' hin
      go_enter Tryz.func83, Tryz.ntmps83
      go_wp2_with fail
      refine (clone_any s _ (by omega)).mono ?_
      rintro e w1 ⟨rfl, hb1⟩
      have HB1 := hidd hb1
      clear hb1
      go_wp2_with fail
      refine (within_any _ _ _ _).mono ?_
      rintro e w' ⟨rfl, hw⟩
      obtain rfl := hw.symm
      rw [HW.out]
      go_wp2_with fail
      refine (allSmall_any s _ (by omega)).mono ?_
      rintro e w' ⟨rfl, hw⟩
      obtain rfl := hw.symm
      rw [HA.out]
      go_wp2_with fail
      go_ret
      rw [HM.out, bs_lst]
      exact ⟨rfl, HB1.out⟩
  · have HM : Hid (stemW (lst s) = lst s) := by show _ = _; rw [stemW, lst_len, if_neg hlong, if_pos (by omega)]
    have HW : Hid ((decide ((3 : Int) ≤ (s.size : Int)) && decide ((s.size : Int) ≤ 64)) = false) := by
      show _ = _
      by_cases h3 : 3 ≤ s.size
      · rw [decide_eq_false (p := (s.size : Int) ≤ 64) (by omega), Bool.and_false]
      · rw [decide_eq_false (p := (3 : Int) ≤ (s.size : Int)) (by omega), Bool.false_and]
    clear hin
    go_enter Tryz.func83, Tryz.ntmps83
    go_wp2_with fail
    refine (clone_any s _ (by omega)).mono ?_
    rintro e w1 ⟨rfl, hb1⟩
    have HB1 := hidd hb1
    clear hb1
    go_wp2_with fail
    refine (within_any _ _ _ _).mono ?_
    rintro e w' ⟨rfl, hw⟩
    obtain rfl := hw.symm
    rw [HW.out]
    go_wp2_with fail
    go_ret
    rw [HM.out, bs_lst]
    exact ⟨rfl, HB1.out⟩
end Go.Proofs.YtionicjnoogpjaaGreatDoor

namespace Go.Proofs.YtionicjnoogpjaaGreatDoor
open Go Go.RowKit
set_option linter.unusedVariables false

set_option maxHeartbeats 1000000 in
theorem specDecode_any (s : ByteArray) (w : World) (hs : s.size ≤ 1048576) :
    Calls Tryz.prog 42 #[.string s] w fun e w' => ∃ v, e = .returned (.tuple #[v, .int .i64 (decCode s)]) ∧ w'.ownsRow w.heap.size 3 1 v (decList s).length ((decList s).map (Value.int .i64)) ∧ Below w.heap.size w w' := by
  by_cases hlong : 65536 < s.size
  · have HL : Hid (decList s = []) := by show _ = _; rw [decList, if_pos hlong]
    have HC : Hid (decCode s = 2) := by show _ = _; rw [decCode, if_pos hlong]
    have hlz : (65536 : Int) < (s.size : Int) := by omega
    go_enter Tryz.func42, Tryz.ntmps42
    go_wp2
    go_ret2
    rw [HL.out, HC.out]
    exact ⟨_, rfl, own_empty _ _, (Below.refl _ _).alloc (Nat.le_refl _) _⟩
  · have hlz : ¬ (65536 : Int) < (s.size : Int) := by omega
    by_cases hv : validB s = true
    · have HL : Hid (decList s = decL s) := by show _ = _; rw [decList, if_neg hlong]
      have HC : Hid (decCode s = 0) := by show _ = _; rw [decCode, if_neg hlong, if_pos hv]
      go_enter Tryz.func42, Tryz.ntmps42
      go_wp2_with fail
      refine (decode_any s _ hs).mono ?_
      rintro e w1 ⟨v, rfl, hown, hb1⟩
      have HO := hidd hown
      clear hown
      go_wp2
      go_ret2
      rw [HL.out, HC.out]
      exact ⟨_, rfl, HO.out, hb1⟩
    · have hv' : validB s = false := by simpa using hv
      have HL : Hid (decList s = []) := by show _ = _; rw [decList, if_neg hlong, decL, if_neg hv]
      have HC : Hid (decCode s = 3) := by show _ = _; rw [decCode, if_neg hlong, if_neg hv]
      clear hv
      go_enter Tryz.func42, Tryz.ntmps42
      go_wp2_with fail
      refine (decode_any s _ hs).mono ?_
      rintro e w1 ⟨v, rfl, hown, hb1⟩
      clear hown
      go_wp2
      go_ret2
      rw [HL.out, HC.out]
      exact ⟨_, rfl, own_mono (own_empty _ _) hb1.size, hb1.alloc hb1.size _⟩
end Go.Proofs.YtionicjnoogpjaaGreatDoor
