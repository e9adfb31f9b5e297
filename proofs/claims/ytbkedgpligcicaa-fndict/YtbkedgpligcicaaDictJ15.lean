import Derived.Test.YtbkedgpligcicaaDictJ07
import Derived.Test.YtbkedgpligcicaaDictJ14
import Derived.Test.YtbkedgpligcicaaDictJ05
import Derived.Deep.CutBlock
import Derived.Deep.DeepCutAuto
import Derived.Deep.RegionLaw
import Derived.Test.YtbkedgpligcicaaDictJ13
namespace Go.Proofs.Ytbkedgpligcicaa
open Go Go.RowKit
set_option linter.unusedVariables false

section
variable {w0 : World} {T be bl : Nat} {aS : Option Addr} {cS : Nat} {S : List St}
theorem take_end {E G E1 G1 : List Nat} {i en lo : Nat} (hok : TalOK S E1 G1) (hi : i < S.length) (hA : ArcsOK S i) (hp : ¬ 0 < valE E i) (hkeep : ∀ j, 0 < valE E j → valE E1 j = valE E j ∧ valE G1 j = valE G j)
    (hen : en = (if finAt S i then 1 else 0) + sumE (valE E1) (arcsAt S i)) (hpos : ∀ a ∈ arcsAt S i, 0 < valE E1 a.2.1.toNat ∧ valE G1 a.2.1.toNat + 1 ≤ lo) (hlo : ∀ m, (∀ a ∈ arcsAt S i, valE G1 a.2.1.toNat + 1 ≤ m) → lo ≤ m) :
    (1 ≤ en → en ≤ 4096 → lo ≤ 64 → TalOK S (E1.set i en) (G1.set i lo) ∧ 0 < valE (E1.set i en) i ∧ ∀ j, 0 < valE E j → valE (E1.set i en) j = valE E j ∧ valE (G1.set i lo) j = valE G j) ∧
    (∀ e g, Sane S e g → Agree S E1 G1 e g → (1 ≤ en ∧ en ≤ 4096 ∧ lo ≤ 64) ∧ Agree S (E1.set i en) (G1.set i lo) e g) := by
  have vE := fun j => valE_set E1 i en j (by rw [hok.lenE]; exact hi)
  have vG := fun j => valE_set G1 i lo j (by rw [hok.lenG]; exact hi)
  refine ⟨fun h1 h2 h3 => ⟨hok.set hi hen hpos hlo h2 h3, by rw [vE, if_pos rfl]; omega, fun j hj => ?_⟩, fun e g hs hag => ?_⟩
  · have hji : j ≠ i := fun h => hp (h ▸ hj)
    rw [vE, vG, if_neg hji, if_neg hji]
    exact hkeep j hj
  · have h1 : en = e i := by
      rw [hen, hs.ends i hi]
      congr 1
      exact sumE_congr fun a ha => (hag _ (hA.2 a ha).2.2.2 (hpos a ha).1).1
    have h2 : lo ≤ g i := hlo _ fun a ha => by
      have := (hag _ (hA.2 a ha).2.2.2 (hpos a ha).1).2
      have := hs.long i hi a ha
      omega
    have h3 := hs.least i hi
    have h4 := hs.most i hi
    have h5 := hs.deep i hi
    refine ⟨⟨by omega, by omega, by omega⟩, fun j hj hjp => ?_⟩
    by_cases hji : j = i
    · subst hji
      rw [vE, vG, if_pos rfl, if_pos rfl]
      exact ⟨h1, h2⟩
    · rw [vE, if_neg hji] at hjp ⊢
      rw [vG, if_neg hji]
      exact hag j hj hjp
set_option maxHeartbeats 8000000 in
set_option maxRecDepth 100000 in
theorem take_step (hn : S.length ≤ 16384) (hA : ∀ i, i < S.length → ArcsOK S i) (hAl : ∀ i, (arcsAt S i).length ≤ 1048576) (depth : Nat) (hd : depth ≤ 64) (ih : TakeC w0 T be bl aS cS S (depth + 1)) : TakeC w0 T be bl aS cS S depth := by
  intro i w E G hi htal hok
  by_cases hp : 0 < valE E i
  · refine (take_met hi htal hok hn hp).mono ?_
    rintro e w' ⟨rfl, hw⟩
    subst hw
    exact ⟨true, E, G, rfl, htal, Fr.refl _ _ _, fun _ => ⟨hok, hp, fun j hj => ⟨rfl, rfl⟩⟩, fun e g _ hag _ => ⟨rfl, hag⟩⟩
  · have q1 : w.cell? ⟨T, 1, none⟩ = some (.slice (some ⟨be, 0, none⟩) S.length S.length) := blkc htal.tal 1
    have q0 : w.cell? ⟨T, 0, none⟩ = some (.slice aS S.length cS) := blkc htal.tal 0
    have q2 := htal.cellE (j := i) (by rw [hok.lenE]; exact hi)
    have hiz : (i : Int) < (S.length : Int) := by omega
    have hpz : ¬ (0 : Int) < ((valE E i : Nat) : Int) := by omega
    have hdz : ¬ (64 : Int) < (depth : Int) := by omega
    obtain ⟨b, off, rfl, hbl0, hc⟩ := htal.hold.resolve_left (fun h => by rw [h] at hi; simp at hi)
    obtain ⟨x0', ai, ci, x1', hha⟩ := hc i hi
    have x0 := (htal.old.cell (p := ⟨b, off + i * 2, none⟩) hbl0).trans x0'
    have x1 := (htal.old.cell (p := ⟨b, off + i * 2 + 1, none⟩) hbl0).trans x1'
    clear hc x0' x1'
    have HT := hidd htal
    have HK := hidd hok
    have HHA := hidd hha
    have Hih := hidd ih
    have HAk := hidd (hA i hi)
    have HFi : Hid (finAt S i = (S.getD i st0).1) := by show _ = _; rfl
    have HAi : Hid (arcsAt S i = (S.getD i st0).2) := by show _ = _; rfl
    have hal := hAl i
    rw [HAi.out] at hal
    have HHo := hidd htal.old
    clear htal hok hha ih hA hAl
    obtain ⟨s, hs⟩ : ∃ s, S.getD i st0 = s := ⟨_, rfl⟩
    rw [hs] at x0 x1 HHA HFi HAi hal
    clear hs
    obtain ⟨f, l⟩ := s
    dsimp only at x0 x1 HHA HFi HAi hal
    have hwz := HHo.out.size
    cases f with
    | false =>
      go_enter Try.func70, Try.ntmps70
      go_wp2_with fail
      clear x0 x1 q0 q1 q2
      go_loopw [7, 8, 38] (fun ev lv jv wx => ∃ (k en lo : Nat) (E1 G1 : List Nat), k ≤ l.length ∧ jv = .int .i64 (k : Int) ∧ ev = .int .i64 (en : Int) ∧ lv = .int .i64 (lo : Int) ∧ TalAt w0 wx T be bl (some ⟨b, off, none⟩) cS S E1 G1 ∧ TalOK S E1 G1 ∧ Fr be bl w wx ∧ (∀ j, 0 < valE E j → valE E1 j = valE E j ∧ valE G1 j = valE G j) ∧ en = 0 + sumE (valE E1) (l.take k) ∧ (∀ a ∈ l.take k, 0 < valE E1 a.2.1.toNat ∧ valE G1 a.2.1.toNat + 1 ≤ lo) ∧ (∀ m, (∀ a ∈ l.take k, valE G1 a.2.1.toNat + 1 ≤ m) → lo ≤ m) ∧ en ≤ 1 + k * 4096 ∧ lo ≤ 65 ∧ (∀ e g, Sane S e g → Agree S E G e g → depth + g i ≤ 64 → Agree S E1 G1 e g)) (fun _ _ jv _ => l.length - (intOf jv).toNat)
      case atStart => exact ⟨0, 0, 0, E, G, by omega, rfl, rfl, rfl, HT.out, HK.out, Fr.refl _ _ _, fun j hj => ⟨rfl, rfl⟩, by simp [sumE], by simp, fun m _ => Nat.zero_le _, by omega, by omega, fun e g _ h _ => h⟩
      case round =>
        obtain ⟨k, en, lo, E1, G1, hk, rfl, rfl, rfl, htal, hok, hfr, hkeep, hen, hpos, hlo, hen2, hlo2, hsan⟩ := hrel
        have HT1 := hidd htal
        have HK1 := hidd hok
        have HF1 := hidd hfr
        have Hkeep := hidd hkeep
        have Hen := hidd hen
        have Hpos := hidd hpos
        have Hlo := hidd hlo
        have Hsan := hidd hsan
        have hbe : be < wr.heap.size := (Array.getElem?_eq_some_iff.1 htal.rowE).1
        have hblz : bl < wr.heap.size := (Array.getElem?_eq_some_iff.1 htal.rowG).1
        clear htal hok hfr hkeep hen hpos hlo hsan
        by_cases hlt : k < l.length
        · have hkz : (k : Int) < (l.length : Int) := by omega
          obtain ⟨b2, o2, rfl, hb2, hc2⟩ := (HHA.out.below HT1.out.old).resolve_left (fun h => by rw [h] at hlt; simp at hlt)
          obtain ⟨y0, y1, y2⟩ := hc2 k hlt
          clear hc2
          obtain ⟨p, hpe⟩ : ∃ p, l[k]? = some p := ⟨l[k], List.getElem?_eq_getElem hlt⟩
          have hpg : l.getD k ar0 = p := by rw [List.getD_eq_getElem?_getD, hpe]; rfl
          rw [hpg] at y0 y1 y2
          have hpm : p ∈ arcsAt S i := by rw [HAi.out]; exact List.mem_of_getElem? hpe
          have hpo := HAk.out.2 p hpm
          have HPe := hidd hpe
          have HPm := hidd hpm
          clear hpe hpg hpm
          obtain ⟨p0, p1, p2⟩ := p
          dsimp only at y0 y1 y2 hpo
          obtain ⟨P1, rfl⟩ := Int.eq_ofNat_of_zero_le hpo.2.2.1
          have hP1 : P1 < S.length := by have := hpo.2.2.2; simpa using this
          have hP1z : (P1 : Int) < (S.length : Int) := by omega
          clear hpo
          have HBb : Hid (Below wr.heap.size wr (wr.alloc (.cells #[.int .i64 p0, .int .i64 (P1 : Int), .int .i64 p2] 85))) := (Below.refl _ _).alloc (Nat.le_refl _) _
          have Hbx := hidd (heap_alloc_new wr (.cells #[.int .i64 p0, .int .i64 (P1 : Int), .int .i64 p2] 85))
          have HT2 := hidd (HT1.out.below HBb.out)
          go_wp2_with fail
          have hcast : (depth : Int) + 1 = ((depth + 1 : Nat) : Int) := by omega
          have hcall := Hih.out P1 _ E1 G1 hP1 HT2.out HK1.out
          rw [← hcast] at hcall
          refine hcall.mono ?_
          clear hcall hcast
          rintro e w3 ⟨bb, E2, G2, rfl, htal3, hfr3, hyes3, hsan3⟩
          have HT3 := hidd htal3
          have HF3 := hidd (HF1.out.trans ((Fr.of_below HBb.out).trans hfr3))
          have Hsan3 := hidd hsan3
          have hbx3 : w3.heap[wr.heap.size]? = some (.cells #[.int .i64 p0, .int .i64 (P1 : Int), .int .i64 p2] 85) := (hfr3.block wr.heap.size (by simp) (by omega) (by omega)).trans Hbx.out
          clear htal3 hfr3 hsan3 y0 y1 y2
          cases bb with
          | false =>
            go_wp2_with fail
            go_ret
            refine ⟨false, E2, G2, rfl, HT3.out, HF3.out, (fun h => by cases h), fun e g hs hag hdg => ?_⟩
            have hlg := hs.long i hi _ HPm.out
            simp only [Int.toNat_natCast] at hlg
            have := (Hsan3.out e g hs (Hsan.out e g hs hag hdg) (by omega)).1
            cases this
          | true =>
            obtain ⟨hok2, hpos2, hkeep2⟩ := hyes3 rfl
            clear hyes3
            have z1 : w3.cell? ⟨T, 1, none⟩ = some (.slice (some ⟨be, 0, none⟩) S.length S.length) := blkc HT3.out.tal 1
            have z2 : w3.cell? ⟨T, 2, none⟩ = some (.slice (some ⟨bl, 0, none⟩) S.length S.length) := blkc HT3.out.tal 2
            have z3 := HT3.out.cellE (j := P1) (by rw [hok2.lenE]; exact hP1)
            have z4 := HT3.out.cellG (j := P1) (by rw [hok2.lenG]; exact hP1)
            have z5 : w3.cell? ⟨wr.heap.size, 1, none⟩ = some (.int .i64 (P1 : Int)) := blkc hbx3 1
            have hm2 := hok2.most P1 hP1 hpos2
            have HR : Hid (sumE (valE E2) (l.take (k + 1)) = sumE (valE E1) (l.take k) + valE E2 P1 ∧ (∀ a ∈ l.take k, 0 < valE E2 a.2.1.toNat ∧ valE G2 a.2.1.toNat = valE G1 a.2.1.toNat)) := by
              refine ⟨?_, fun a ha => ?_⟩
              · rw [sumE_take HPe.out]
                congr 1
                exact sumE_congr fun a ha => (hkeep2 _ (Hpos.out a ha).1).1
              · have := hkeep2 _ (Hpos.out a ha).1
                exact ⟨by rw [this.1]; exact (Hpos.out a ha).1, this.2⟩
            have HK2 := hidd hok2
            have Hkeep2 := hidd hkeep2
            clear hok2 hkeep2 hbx3
            have Htake : Hid (∀ a ∈ l.take (k + 1), a ∈ l.take k ∨ a.2.1.toNat = P1) := fun a ha => by
              obtain ⟨hkk, hke⟩ := List.getElem?_eq_some_iff.1 HPe.out
              rw [List.take_succ_eq_append_getElem hkk, hke] at ha
              rcases List.mem_append.1 ha with h | h
              · exact Or.inl h
              · right
                have : a = (p0, (P1 : Int), p2) := by simpa using h
                rw [this]; simp
            generalize hv1 : valE E2 P1 = V1 at *
            generalize hv2 : valE G2 P1 = V2 at *
            have Hv1 := hidd hv1
            have Hv2 := hidd hv2
            clear hv1 hv2
            have R : Hid (∀ lo' : Nat, lo' = max lo (V2 + 1) → ∃ (k' en' lo'' : Nat) (E1 G1 : List Nat), k' = k + 1 ∧ en' = en + V1 ∧ lo'' = lo' ∧ TalAt w0 w3 T be bl (some ⟨b, off, none⟩) cS S E1 G1 ∧ TalOK S E1 G1 ∧ Fr be bl w w3 ∧ (∀ j, 0 < valE E j → valE E1 j = valE E j ∧ valE G1 j = valE G j) ∧ en' = 0 + sumE (valE E1) (l.take k') ∧ (∀ a ∈ l.take k', 0 < valE E1 a.2.1.toNat ∧ valE G1 a.2.1.toNat + 1 ≤ lo'') ∧ (∀ m, (∀ a ∈ l.take k', valE G1 a.2.1.toNat + 1 ≤ m) → lo'' ≤ m) ∧ en' ≤ 1 + k' * 4096 ∧ lo'' ≤ 65 ∧ (∀ e g, Sane S e g → Agree S E G e g → depth + g i ≤ 64 → Agree S E1 G1 e g)) := by
              intro lo' hlo'
              refine ⟨k + 1, en + V1, lo', E2, G2, rfl, rfl, rfl, HT3.out, HK2.out, HF3.out, ?_, ?_, ?_, ?_, ?_, ?_, ?_⟩
              · intro j hj
                have h1 := Hkeep.out j hj
                have h2 := Hkeep2.out j (by rw [h1.1]; exact hj)
                exact ⟨h2.1.trans h1.1, h2.2.trans h1.2⟩
              · rw [HR.out.1, Hen.out]; omega
              · intro a ha
                rcases Htake.out a ha with h | h
                · have h1 := HR.out.2 a h
                  have h2 := (Hpos.out a h).2
                  exact ⟨h1.1, by rw [h1.2]; omega⟩
                · rw [h, Hv1.out, Hv2.out]
                  exact ⟨hpos2, by omega⟩
              · intro m hm
                have h1 := Hlo.out m (fun a ha => by
                  have := hm a (by rw [List.take_add_one]; exact List.mem_append_left _ ha)
                  rw [(HR.out.2 a ha).2] at this
                  exact this)
                have h2 := hm (p0, (P1 : Int), p2) (by
                  obtain ⟨hkk, hke⟩ := List.getElem?_eq_some_iff.1 HPe.out
                  rw [List.take_succ_eq_append_getElem hkk, hke]; simp)
                simp only [Int.toNat_natCast, Hv2.out] at h2
                omega
              · rw [Nat.succ_mul]; omega
              · omega
              · intro e g hs hag hdg
                have hlg := hs.long i hi _ HPm.out
                simp only [Int.toNat_natCast] at hlg
                exact (Hsan3.out e g hs (Hsan.out e g hs hag hdg) (by omega)).2
            clear HR HK2 Hkeep2 Htake HT3 HF3 Hsan3 HK1 HF1 Hkeep Hen Hpos Hlo Hsan HT1 HT2 HBb Hbx HPe HPm Hv1 Hv2
            by_cases hmx : lo ≤ V2 + 1
            · have hmz : (lo : Int) ≤ (V2 : Int) + 1 := by omega
              go_wp2_with fail
              go_quiet (fail)
              go_wp2_with fail
              go_quiet (fail)
              all_goals
                go_wp2_with fail
                go_roundw
                · obtain ⟨k', en', lo', Ea, Ga, rfl, rfl, hl', r1, r2, r3, r4, r5, r6, r7, r8, r9, r10⟩ := R.out (V2 + 1) (by omega)
                  subst hl'
                  exact ⟨_, _, _, Ea, Ga, by omega, by go_num, by go_num, by go_num, r1.below (below_drewN (Below.refl _ _) _), r2, r3.trans (Fr.of_below (below_drewN (Below.refl _ _) _)), r4, r5, r6, r7, r8, r9, r10⟩
                · simp [intOf]; omega
            · have hmz : ¬ (lo : Int) ≤ (V2 : Int) + 1 := by omega
              go_wp2_with fail
              go_quiet (fail)
              go_wp2_with fail
              go_quiet (fail)
              all_goals
                go_wp2_with fail
                go_roundw
                · obtain ⟨k', en', lo', Ea, Ga, rfl, rfl, hl', r1, r2, r3, r4, r5, r6, r7, r8, r9, r10⟩ := R.out lo (by omega)
                  subst hl'
                  exact ⟨_, _, _, Ea, Ga, by omega, by go_num, by go_num, by go_num, r1.below (below_drewN (Below.refl _ _) _), r2, r3.trans (Fr.of_below (below_drewN (Below.refl _ _) _)), r4, r5, r6, r7, r8, r9, r10⟩
                · simp [intOf]; omega
        · have hkz : ¬ (k : Int) < (l.length : Int) := by omega
          have hkl : l.take k = l := List.take_of_length_le (by omega)
          rw [hkl] at Hen Hpos Hlo
          have z1 : wr.cell? ⟨T, 1, none⟩ = some (.slice (some ⟨be, 0, none⟩) S.length S.length) := blkc HT1.out.tal 1
          have z2 : wr.cell? ⟨T, 2, none⟩ = some (.slice (some ⟨bl, 0, none⟩) S.length S.length) := blkc HT1.out.tal 2
          have z3 := HT1.out.cellE (j := i) (by rw [HK1.out.lenE]; exact hi)
          have z4 := HT1.out.cellG (j := i) (by rw [HK1.out.lenG]; exact hi)
          have f3 : wr.frozen? ⟨be, i, none⟩ = false := frozen_of_row wr be i _ _ HT1.out.rowE
          have f4 : wr.frozen? ⟨bl, i, none⟩ = false := frozen_of_row wr bl i _ _ HT1.out.rowG
          have hne : be ≠ bl := HT1.out.apart.1
          have hne' : bl ≠ be := fun e => hne e.symm
          have hen3 : en ≤ 4294967297 := by have : k * 4096 ≤ 1048576 * 4096 := Nat.mul_le_mul_right _ (by omega); omega
          clear hkl
          go_wp2_with fail
          go_region
          have HEnd : Hid (_ ∧ _) := take_end (E := E) (G := G) (lo := lo) (en := en) HK1.out hi HAk.out hp Hkeep.out (by rw [HFi.out, HAi.out]; exact Hen.out) (by rw [HAi.out]; exact Hpos.out) (by rw [HAi.out]; exact Hlo.out)
          have hTe := HT1.out.setE i en
          have hTg := hTe.1.setG i lo
          have HT5 := hidd (hTg.1.below (below_drewN (Below.refl _ _) 1))
          have HF5 := hidd (HF1.out.trans (hTe.2.trans (hTg.2.trans (Fr.of_below (below_drewN (Below.refl _ _) 1)))))
          clear hTe hTg z1 z2 z3 z4 f3 f4 Hen Hpos Hlo HT1 HK1 HF1 Hkeep
          have hWe : ((wr.setCell ⟨be, i, none⟩ (.int .i64 (en : Int))).setCell ⟨bl, i, none⟩ (.int .i64 (lo : Int))).drew = ((wr.setCell ⟨be, i, none⟩ (.int .i64 (en : Int))).setCell ⟨bl, i, none⟩ (.int .i64 (lo : Int))).drewN 1 := rfl
          rw [hWe]
          clear hWe
          generalize ((wr.setCell ⟨be, i, none⟩ (.int .i64 (en : Int))).setCell ⟨bl, i, none⟩ (.int .i64 (lo : Int))).drewN 1 = w5 at *
          have Hfin : Hid (∀ bb : Bool, bb = (decide (1 ≤ en ∧ en ≤ 4096 ∧ lo ≤ 64)) → ∃ (b1 : Bool) (E' G' : List Nat), Ending.returned (Value.bool bb) = .returned (.bool b1) ∧ TalAt w0 w5 T be bl (some ⟨b, off, none⟩) cS S E' G' ∧ Fr be bl w w5 ∧
        (b1 = true → TalOK S E' G' ∧ 0 < valE E' i ∧ ∀ j, 0 < valE E j → valE E' j = valE E j ∧ valE G' j = valE G j) ∧
        (∀ e g, Sane S e g → Agree S E G e g → depth + g i ≤ 64 → b1 = true ∧ Agree S E' G' e g)) := by
            intro bb hbb
            refine ⟨bb, _, _, rfl, HT5.out, HF5.out, fun h => ?_, fun e g hs hag hdg => ?_⟩
            · rw [h] at hbb
              have := of_decide_eq_true hbb.symm
              exact HEnd.out.1 this.1 this.2.1 this.2.2
            · have := HEnd.out.2 e g hs (Hsan.out e g hs hag hdg)
              exact ⟨hbb.trans (decide_eq_true this.1), this.2⟩
          clear HEnd HT5 HF5 Hsan
          by_cases hin : 1 ≤ en ∧ en ≤ 4096
          · have hb1 : (decide ((1 : Int) ≤ (en : Int)) && decide ((en : Int) ≤ 4096)) = true := by simp; omega
            go_wp2_with fail
            refine (within_any _ _ _ _).mono ?_
            rintro e w' ⟨rfl, hw'⟩
            obtain rfl := hw'.symm
            clear hw'
            rw [hb1]
            by_cases hl64 : lo ≤ 64
            · have hlz : (lo : Int) ≤ 64 := by omega
              go_wp2_with fail
              go_ret
              exact Hfin.out true (decide_eq_true ⟨hin.1, hin.2, hl64⟩).symm
            · have hlz : ¬ (lo : Int) ≤ 64 := by omega
              go_wp2_with fail
              go_ret
              first
              | exact Hfin.out false (decide_eq_false fun h => hl64 h.2.2).symm
              | exact Hfin.out (decide ((lo : Int) ≤ 64)) ((decide_eq_false (by omega)).trans (decide_eq_false fun h => hl64 h.2.2).symm)
          · have hb1 : (decide ((1 : Int) ≤ (en : Int)) && decide ((en : Int) ≤ 4096)) = false := by
              cases hq : (decide ((1 : Int) ≤ (en : Int)) && decide ((en : Int) ≤ 4096)) with
              | false => rfl
              | true => simp at hq; omega
            go_wp2_with fail
            refine (within_any _ _ _ _).mono ?_
            rintro e w' ⟨rfl, hw'⟩
            obtain rfl := hw'.symm
            clear hw'
            rw [hb1]
            go_wp2_with fail
            go_ret
            exact Hfin.out false (decide_eq_false fun h => hin ⟨h.1, h.2.1⟩).symm
    | true =>
      go_enter Try.func70, Try.ntmps70
      go_wp2_with fail
      clear x0 x1 q0 q1 q2
      go_loopw [7, 8, 38] (fun ev lv jv wx => ∃ (k en lo : Nat) (E1 G1 : List Nat), k ≤ l.length ∧ jv = .int .i64 (k : Int) ∧ ev = .int .i64 (en : Int) ∧ lv = .int .i64 (lo : Int) ∧ TalAt w0 wx T be bl (some ⟨b, off, none⟩) cS S E1 G1 ∧ TalOK S E1 G1 ∧ Fr be bl w wx ∧ (∀ j, 0 < valE E j → valE E1 j = valE E j ∧ valE G1 j = valE G j) ∧ en = 1 + sumE (valE E1) (l.take k) ∧ (∀ a ∈ l.take k, 0 < valE E1 a.2.1.toNat ∧ valE G1 a.2.1.toNat + 1 ≤ lo) ∧ (∀ m, (∀ a ∈ l.take k, valE G1 a.2.1.toNat + 1 ≤ m) → lo ≤ m) ∧ en ≤ 1 + k * 4096 ∧ lo ≤ 65 ∧ (∀ e g, Sane S e g → Agree S E G e g → depth + g i ≤ 64 → Agree S E1 G1 e g)) (fun _ _ jv _ => l.length - (intOf jv).toNat)
      case atStart => exact ⟨0, 1, 0, E, G, by omega, rfl, rfl, rfl, HT.out, HK.out, Fr.refl _ _ _, fun j hj => ⟨rfl, rfl⟩, by simp [sumE], by simp, fun m _ => Nat.zero_le _, by omega, by omega, fun e g _ h _ => h⟩
      case round =>
        obtain ⟨k, en, lo, E1, G1, hk, rfl, rfl, rfl, htal, hok, hfr, hkeep, hen, hpos, hlo, hen2, hlo2, hsan⟩ := hrel
        have HT1 := hidd htal
        have HK1 := hidd hok
        have HF1 := hidd hfr
        have Hkeep := hidd hkeep
        have Hen := hidd hen
        have Hpos := hidd hpos
        have Hlo := hidd hlo
        have Hsan := hidd hsan
        have hbe : be < wr.heap.size := (Array.getElem?_eq_some_iff.1 htal.rowE).1
        have hblz : bl < wr.heap.size := (Array.getElem?_eq_some_iff.1 htal.rowG).1
        clear htal hok hfr hkeep hen hpos hlo hsan
        by_cases hlt : k < l.length
        · have hkz : (k : Int) < (l.length : Int) := by omega
          obtain ⟨b2, o2, rfl, hb2, hc2⟩ := (HHA.out.below HT1.out.old).resolve_left (fun h => by rw [h] at hlt; simp at hlt)
          obtain ⟨y0, y1, y2⟩ := hc2 k hlt
          clear hc2
          obtain ⟨p, hpe⟩ : ∃ p, l[k]? = some p := ⟨l[k], List.getElem?_eq_getElem hlt⟩
          have hpg : l.getD k ar0 = p := by rw [List.getD_eq_getElem?_getD, hpe]; rfl
          rw [hpg] at y0 y1 y2
          have hpm : p ∈ arcsAt S i := by rw [HAi.out]; exact List.mem_of_getElem? hpe
          have hpo := HAk.out.2 p hpm
          have HPe := hidd hpe
          have HPm := hidd hpm
          clear hpe hpg hpm
          obtain ⟨p0, p1, p2⟩ := p
          dsimp only at y0 y1 y2 hpo
          obtain ⟨P1, rfl⟩ := Int.eq_ofNat_of_zero_le hpo.2.2.1
          have hP1 : P1 < S.length := by have := hpo.2.2.2; simpa using this
          have hP1z : (P1 : Int) < (S.length : Int) := by omega
          clear hpo
          have HBb : Hid (Below wr.heap.size wr (wr.alloc (.cells #[.int .i64 p0, .int .i64 (P1 : Int), .int .i64 p2] 85))) := (Below.refl _ _).alloc (Nat.le_refl _) _
          have Hbx := hidd (heap_alloc_new wr (.cells #[.int .i64 p0, .int .i64 (P1 : Int), .int .i64 p2] 85))
          have HT2 := hidd (HT1.out.below HBb.out)
          go_wp2_with fail
          have hcast : (depth : Int) + 1 = ((depth + 1 : Nat) : Int) := by omega
          have hcall := Hih.out P1 _ E1 G1 hP1 HT2.out HK1.out
          rw [← hcast] at hcall
          refine hcall.mono ?_
          clear hcall hcast
          rintro e w3 ⟨bb, E2, G2, rfl, htal3, hfr3, hyes3, hsan3⟩
          have HT3 := hidd htal3
          have HF3 := hidd (HF1.out.trans ((Fr.of_below HBb.out).trans hfr3))
          have Hsan3 := hidd hsan3
          have hbx3 : w3.heap[wr.heap.size]? = some (.cells #[.int .i64 p0, .int .i64 (P1 : Int), .int .i64 p2] 85) := (hfr3.block wr.heap.size (by simp) (by omega) (by omega)).trans Hbx.out
          clear htal3 hfr3 hsan3 y0 y1 y2
          cases bb with
          | false =>
            go_wp2_with fail
            go_ret
            refine ⟨false, E2, G2, rfl, HT3.out, HF3.out, (fun h => by cases h), fun e g hs hag hdg => ?_⟩
            have hlg := hs.long i hi _ HPm.out
            simp only [Int.toNat_natCast] at hlg
            have := (Hsan3.out e g hs (Hsan.out e g hs hag hdg) (by omega)).1
            cases this
          | true =>
            obtain ⟨hok2, hpos2, hkeep2⟩ := hyes3 rfl
            clear hyes3
            have z1 : w3.cell? ⟨T, 1, none⟩ = some (.slice (some ⟨be, 0, none⟩) S.length S.length) := blkc HT3.out.tal 1
            have z2 : w3.cell? ⟨T, 2, none⟩ = some (.slice (some ⟨bl, 0, none⟩) S.length S.length) := blkc HT3.out.tal 2
            have z3 := HT3.out.cellE (j := P1) (by rw [hok2.lenE]; exact hP1)
            have z4 := HT3.out.cellG (j := P1) (by rw [hok2.lenG]; exact hP1)
            have z5 : w3.cell? ⟨wr.heap.size, 1, none⟩ = some (.int .i64 (P1 : Int)) := blkc hbx3 1
            have hm2 := hok2.most P1 hP1 hpos2
            have HR : Hid (sumE (valE E2) (l.take (k + 1)) = sumE (valE E1) (l.take k) + valE E2 P1 ∧ (∀ a ∈ l.take k, 0 < valE E2 a.2.1.toNat ∧ valE G2 a.2.1.toNat = valE G1 a.2.1.toNat)) := by
              refine ⟨?_, fun a ha => ?_⟩
              · rw [sumE_take HPe.out]
                congr 1
                exact sumE_congr fun a ha => (hkeep2 _ (Hpos.out a ha).1).1
              · have := hkeep2 _ (Hpos.out a ha).1
                exact ⟨by rw [this.1]; exact (Hpos.out a ha).1, this.2⟩
            have HK2 := hidd hok2
            have Hkeep2 := hidd hkeep2
            clear hok2 hkeep2 hbx3
            have Htake : Hid (∀ a ∈ l.take (k + 1), a ∈ l.take k ∨ a.2.1.toNat = P1) := fun a ha => by
              obtain ⟨hkk, hke⟩ := List.getElem?_eq_some_iff.1 HPe.out
              rw [List.take_succ_eq_append_getElem hkk, hke] at ha
              rcases List.mem_append.1 ha with h | h
              · exact Or.inl h
              · right
                have : a = (p0, (P1 : Int), p2) := by simpa using h
                rw [this]; simp
            generalize hv1 : valE E2 P1 = V1 at *
            generalize hv2 : valE G2 P1 = V2 at *
            have Hv1 := hidd hv1
            have Hv2 := hidd hv2
            clear hv1 hv2
            have R : Hid (∀ lo' : Nat, lo' = max lo (V2 + 1) → ∃ (k' en' lo'' : Nat) (E1 G1 : List Nat), k' = k + 1 ∧ en' = en + V1 ∧ lo'' = lo' ∧ TalAt w0 w3 T be bl (some ⟨b, off, none⟩) cS S E1 G1 ∧ TalOK S E1 G1 ∧ Fr be bl w w3 ∧ (∀ j, 0 < valE E j → valE E1 j = valE E j ∧ valE G1 j = valE G j) ∧ en' = 1 + sumE (valE E1) (l.take k') ∧ (∀ a ∈ l.take k', 0 < valE E1 a.2.1.toNat ∧ valE G1 a.2.1.toNat + 1 ≤ lo'') ∧ (∀ m, (∀ a ∈ l.take k', valE G1 a.2.1.toNat + 1 ≤ m) → lo'' ≤ m) ∧ en' ≤ 1 + k' * 4096 ∧ lo'' ≤ 65 ∧ (∀ e g, Sane S e g → Agree S E G e g → depth + g i ≤ 64 → Agree S E1 G1 e g)) := by
              intro lo' hlo'
              refine ⟨k + 1, en + V1, lo', E2, G2, rfl, rfl, rfl, HT3.out, HK2.out, HF3.out, ?_, ?_, ?_, ?_, ?_, ?_, ?_⟩
              · intro j hj
                have h1 := Hkeep.out j hj
                have h2 := Hkeep2.out j (by rw [h1.1]; exact hj)
                exact ⟨h2.1.trans h1.1, h2.2.trans h1.2⟩
              · rw [HR.out.1, Hen.out]; omega
              · intro a ha
                rcases Htake.out a ha with h | h
                · have h1 := HR.out.2 a h
                  have h2 := (Hpos.out a h).2
                  exact ⟨h1.1, by rw [h1.2]; omega⟩
                · rw [h, Hv1.out, Hv2.out]
                  exact ⟨hpos2, by omega⟩
              · intro m hm
                have h1 := Hlo.out m (fun a ha => by
                  have := hm a (by rw [List.take_add_one]; exact List.mem_append_left _ ha)
                  rw [(HR.out.2 a ha).2] at this
                  exact this)
                have h2 := hm (p0, (P1 : Int), p2) (by
                  obtain ⟨hkk, hke⟩ := List.getElem?_eq_some_iff.1 HPe.out
                  rw [List.take_succ_eq_append_getElem hkk, hke]; simp)
                simp only [Int.toNat_natCast, Hv2.out] at h2
                omega
              · rw [Nat.succ_mul]; omega
              · omega
              · intro e g hs hag hdg
                have hlg := hs.long i hi _ HPm.out
                simp only [Int.toNat_natCast] at hlg
                exact (Hsan3.out e g hs (Hsan.out e g hs hag hdg) (by omega)).2
            clear HR HK2 Hkeep2 Htake HT3 HF3 Hsan3 HK1 HF1 Hkeep Hen Hpos Hlo Hsan HT1 HT2 HBb Hbx HPe HPm Hv1 Hv2
            by_cases hmx : lo ≤ V2 + 1
            · have hmz : (lo : Int) ≤ (V2 : Int) + 1 := by omega
              go_wp2_with fail
              go_quiet (fail)
              go_wp2_with fail
              go_quiet (fail)
              all_goals
                go_wp2_with fail
                go_roundw
                · obtain ⟨k', en', lo', Ea, Ga, rfl, rfl, hl', r1, r2, r3, r4, r5, r6, r7, r8, r9, r10⟩ := R.out (V2 + 1) (by omega)
                  subst hl'
                  exact ⟨_, _, _, Ea, Ga, by omega, by go_num, by go_num, by go_num, r1.below (below_drewN (Below.refl _ _) _), r2, r3.trans (Fr.of_below (below_drewN (Below.refl _ _) _)), r4, r5, r6, r7, r8, r9, r10⟩
                · simp [intOf]; omega
            · have hmz : ¬ (lo : Int) ≤ (V2 : Int) + 1 := by omega
              go_wp2_with fail
              go_quiet (fail)
              go_wp2_with fail
              go_quiet (fail)
              all_goals
                go_wp2_with fail
                go_roundw
                · obtain ⟨k', en', lo', Ea, Ga, rfl, rfl, hl', r1, r2, r3, r4, r5, r6, r7, r8, r9, r10⟩ := R.out lo (by omega)
                  subst hl'
                  exact ⟨_, _, _, Ea, Ga, by omega, by go_num, by go_num, by go_num, r1.below (below_drewN (Below.refl _ _) _), r2, r3.trans (Fr.of_below (below_drewN (Below.refl _ _) _)), r4, r5, r6, r7, r8, r9, r10⟩
                · simp [intOf]; omega
        · have hkz : ¬ (k : Int) < (l.length : Int) := by omega
          have hkl : l.take k = l := List.take_of_length_le (by omega)
          rw [hkl] at Hen Hpos Hlo
          have z1 : wr.cell? ⟨T, 1, none⟩ = some (.slice (some ⟨be, 0, none⟩) S.length S.length) := blkc HT1.out.tal 1
          have z2 : wr.cell? ⟨T, 2, none⟩ = some (.slice (some ⟨bl, 0, none⟩) S.length S.length) := blkc HT1.out.tal 2
          have z3 := HT1.out.cellE (j := i) (by rw [HK1.out.lenE]; exact hi)
          have z4 := HT1.out.cellG (j := i) (by rw [HK1.out.lenG]; exact hi)
          have f3 : wr.frozen? ⟨be, i, none⟩ = false := frozen_of_row wr be i _ _ HT1.out.rowE
          have f4 : wr.frozen? ⟨bl, i, none⟩ = false := frozen_of_row wr bl i _ _ HT1.out.rowG
          have hne : be ≠ bl := HT1.out.apart.1
          have hne' : bl ≠ be := fun e => hne e.symm
          have hen3 : en ≤ 4294967297 := by have : k * 4096 ≤ 1048576 * 4096 := Nat.mul_le_mul_right _ (by omega); omega
          clear hkl
          go_wp2_with fail
          go_region
          have HEnd : Hid (_ ∧ _) := take_end (E := E) (G := G) (lo := lo) (en := en) HK1.out hi HAk.out hp Hkeep.out (by rw [HFi.out, HAi.out]; exact Hen.out) (by rw [HAi.out]; exact Hpos.out) (by rw [HAi.out]; exact Hlo.out)
          have hTe := HT1.out.setE i en
          have hTg := hTe.1.setG i lo
          have HT5 := hidd (hTg.1.below (below_drewN (Below.refl _ _) 1))
          have HF5 := hidd (HF1.out.trans (hTe.2.trans (hTg.2.trans (Fr.of_below (below_drewN (Below.refl _ _) 1)))))
          clear hTe hTg z1 z2 z3 z4 f3 f4 Hen Hpos Hlo HT1 HK1 HF1 Hkeep
          have hWe : ((wr.setCell ⟨be, i, none⟩ (.int .i64 (en : Int))).setCell ⟨bl, i, none⟩ (.int .i64 (lo : Int))).drew = ((wr.setCell ⟨be, i, none⟩ (.int .i64 (en : Int))).setCell ⟨bl, i, none⟩ (.int .i64 (lo : Int))).drewN 1 := rfl
          rw [hWe]
          clear hWe
          generalize ((wr.setCell ⟨be, i, none⟩ (.int .i64 (en : Int))).setCell ⟨bl, i, none⟩ (.int .i64 (lo : Int))).drewN 1 = w5 at *
          have Hfin : Hid (∀ bb : Bool, bb = (decide (1 ≤ en ∧ en ≤ 4096 ∧ lo ≤ 64)) → ∃ (b1 : Bool) (E' G' : List Nat), Ending.returned (Value.bool bb) = .returned (.bool b1) ∧ TalAt w0 w5 T be bl (some ⟨b, off, none⟩) cS S E' G' ∧ Fr be bl w w5 ∧
        (b1 = true → TalOK S E' G' ∧ 0 < valE E' i ∧ ∀ j, 0 < valE E j → valE E' j = valE E j ∧ valE G' j = valE G j) ∧
        (∀ e g, Sane S e g → Agree S E G e g → depth + g i ≤ 64 → b1 = true ∧ Agree S E' G' e g)) := by
            intro bb hbb
            refine ⟨bb, _, _, rfl, HT5.out, HF5.out, fun h => ?_, fun e g hs hag hdg => ?_⟩
            · rw [h] at hbb
              have := of_decide_eq_true hbb.symm
              exact HEnd.out.1 this.1 this.2.1 this.2.2
            · have := HEnd.out.2 e g hs (Hsan.out e g hs hag hdg)
              exact ⟨hbb.trans (decide_eq_true this.1), this.2⟩
          clear HEnd HT5 HF5 Hsan
          by_cases hin : 1 ≤ en ∧ en ≤ 4096
          · have hb1 : (decide ((1 : Int) ≤ (en : Int)) && decide ((en : Int) ≤ 4096)) = true := by simp; omega
            go_wp2_with fail
            refine (within_any _ _ _ _).mono ?_
            rintro e w' ⟨rfl, hw'⟩
            obtain rfl := hw'.symm
            clear hw'
            rw [hb1]
            by_cases hl64 : lo ≤ 64
            · have hlz : (lo : Int) ≤ 64 := by omega
              go_wp2_with fail
              go_ret
              exact Hfin.out true (decide_eq_true ⟨hin.1, hin.2, hl64⟩).symm
            · have hlz : ¬ (lo : Int) ≤ 64 := by omega
              go_wp2_with fail
              go_ret
              first
              | exact Hfin.out false (decide_eq_false fun h => hl64 h.2.2).symm
              | exact Hfin.out (decide ((lo : Int) ≤ 64)) ((decide_eq_false (by omega)).trans (decide_eq_false fun h => hl64 h.2.2).symm)
          · have hb1 : (decide ((1 : Int) ≤ (en : Int)) && decide ((en : Int) ≤ 4096)) = false := by
              cases hq : (decide ((1 : Int) ≤ (en : Int)) && decide ((en : Int) ≤ 4096)) with
              | false => rfl
              | true => simp at hq; omega
            go_wp2_with fail
            refine (within_any _ _ _ _).mono ?_
            rintro e w' ⟨rfl, hw'⟩
            obtain rfl := hw'.symm
            clear hw'
            rw [hb1]
            go_wp2_with fail
            go_ret
            exact Hfin.out false (decide_eq_false fun h => hin ⟨h.1, h.2.1⟩).symm
/-- take, at every depth. -/
theorem take_any (hn : S.length ≤ 16384) (hA : ∀ i, i < S.length → ArcsOK S i) (hAl : ∀ i, (arcsAt S i).length ≤ 1048576) : ∀ (d depth : Nat), depth + d = 65 → TakeC w0 T be bl aS cS S depth
  | 0, depth, h => by
    intro i w E G hi htal hok
    by_cases hp : 0 < valE E i
    · refine (take_met hi htal hok hn hp).mono ?_
      rintro e w' ⟨rfl, hw⟩
      subst hw
      exact ⟨true, E, G, rfl, htal, Fr.refl _ _ _, fun _ => ⟨hok, hp, fun j hj => ⟨rfl, rfl⟩⟩, fun e g _ hag _ => ⟨rfl, hag⟩⟩
    · refine (take_deep hi htal hok hn hp (by omega)).mono ?_
      rintro e w' ⟨rfl, hw⟩
      subst hw
      exact ⟨false, E, G, rfl, htal, Fr.refl _ _ _, (fun h => by cases h), fun e g _ _ h => by omega⟩
  | d + 1, depth, h => take_step hn hA hAl depth (by omega) (take_any hn hA hAl d (depth + 1) (by omega))
end
end Go.Proofs.Ytbkedgpligcicaa

namespace Go.Proofs.Ytbkedgpligcicaa
open Go Go.RowKit
set_option linter.unusedVariables false
set_option linter.unusedSimpArgs false

theorem run_makeInts (M : Nat) (hM : M ≤ 1099511627776) (W : World) : (Instr.makeSlice 66 (.int .i64 (M : Int)) (.int .i64 (M : Int))).run Try.prog W = .ok (.slice (some ⟨W.heap.size, 0, none⟩) M M) (W.alloc (.cells (nCellsE (List.replicate M 0)).toArray 3)) := by
  obtain ⟨i0, hi, hz0, hz1, hz2⟩ := info_parts (show (Try.prog.info? 3).map (fun i => (i.zero, i.size, i.bytes)) = some (some (.int .i64 0), 1, 8) by kernel_rfl)
  have := run_make (P := Try.prog) W 66 3 i0 _ Try.underlying66 hi hz0 .i64 .i64 (M : Int) (M : Int) (by omega) (by omega) (by rw [hz2]; omega) (by omega)
  rw [hz1] at this
  simp only [Int.toNat_natCast, Nat.mul_one] at this
  rw [this]
  have e : madeCells (Value.int .i64 0).cells M = (nCellsE (List.replicate M 0)).toArray := by
    apply Array.ext'
    rw [show (Value.int .i64 0).cells = #[Value.int .i64 0] from rfl, toList_madeCells_one]
    simp [nCellsE]
  rw [e]
theorem valE_zero (n j : Nat) : valE (List.replicate n 0) j = 0 := by
  rw [valE, List.getD_eq_getElem?_getD, List.getElem?_replicate]
  split <;> rfl
theorem talOK_zero (S : List St) : TalOK S (List.replicate S.length 0) (List.replicate S.length 0) :=
  ⟨by simp, by simp, fun i _ h => by rw [valE_zero] at h; omega, fun i _ h => by rw [valE_zero] at h; omega, fun i _ h => by rw [valE_zero] at h; omega⟩
theorem agree_zero (S : List St) (G : List Nat) (e g : Nat → Nat) : Agree S (List.replicate S.length 0) G e g := fun i _ h => by rw [valE_zero] at h; omega
theorem TalOK.sane {S : List St} {E G : List Nat} (h : TalOK S E G) (hp : ∀ i, i < S.length → 0 < valE E i) : Sane S (valE E) (valE G) :=
  ⟨fun i hi => h.ends i hi (hp i hi), fun i hi => hp i hi, fun i hi => (h.most i hi (hp i hi)).1, fun i hi a ha => (h.next i hi (hp i hi) a ha).2, fun i hi => (h.most i hi (hp i hi)).2⟩

/-- What a dictionary's states must be. -/
theorem IsDict.must {c : Int} {S : List St} {ts : List Tx} (h : IsDict (c, S) ts) : metOK S = true ∧ finAt S 0 = false ∧ ((S.length = 1 ∧ arcsAt S 0 = []) ∨ ((∃ e g, Sane S e g) ∧ DiffP S S.length)) := by
  by_cases hn : ts = []
  · subst hn
    have := IsDict.none.1 h
    simp only [Prod.mk.injEq] at this
    obtain ⟨_, rfl⟩ := this
    exact ⟨by decide, rfl, Or.inl ⟨rfl, rfl⟩⟩
  · have hc := h.checks hn
    refine ⟨(metOK_iff S).2 ⟨⟨hc.n1, hc.n2⟩, fun j hj => ⟨hc.rise j hj, fun a ha => ⟨(hc.lab j hj a ha).1, (hc.lab j hj a ha).2, hc.to j hj a ha⟩⟩, hc.met⟩, hc.fin0, Or.inr ⟨⟨_, _, h.sane hn⟩, ?_⟩⟩
    intro i j hi hj h1 h2
    exact hc.diff i j hi hj h1 h2
set_option maxHeartbeats 4000000 in
set_option maxRecDepth 100000 in
theorem endingsOf_any : EndC := by
  intro a cap S w hn hA hS
  have HS := hidd hS
  have HA := hidd hA
  have HMet := hidd (metInOrder_any a cap S w hn hA hS)
  clear hS hA
  have hms := run_makeInts S.length (by omega)
  go_enter Try.func41, Try.ntmps41
  cases hm : metOK S with
  | false =>
    rw [hm] at HMet
    have Hno : Hid (∀ c ts, IsDict (c, S) ts → False) := by
      intro c ts h
      have := h.must.1
      rw [hm] at this
      cases this
    clear hm
    go_wp2_with fail
    refine HMet.out.mono ?_
    rintro e w1 ⟨rfl, hb1⟩
    have HB1 := hidd hb1
    clear hb1
    go_wp2_with fail
    go_ret2
    exact ⟨_, _, rfl, HB1.out, (fun h => by cases h), fun c ts h => (Hno.out c ts h).elim⟩
  | true =>
    rw [hm] at HMet
    obtain ⟨hr, harcs, hbfs⟩ := (metOK_iff S).1 hm
    have Harcs := hidd harcs
    have Hbfs := hidd hbfs
    have Hm := hidd hm
    clear hm harcs hbfs
    go_wp2_with fail
    refine HMet.out.mono ?_
    rintro e w1 ⟨rfl, hb1⟩
    have HB1 := hidd hb1
    have hz1 := hb1.size
    obtain ⟨bS, oS, rfl, hbS, hst⟩ := HS.out.resolve_left (fun h => by rw [h] at hr; simp at hr)
    obtain ⟨s0, ai, ci, s1, hai⟩ := hst 0 (by omega)
    replace s0 := (hb1.cell (p := ⟨bS, oS + 0 * 2, none⟩) hbS).trans s0
    have S1w : Hid (w.cell? ⟨bS, oS + 1, none⟩ = some (.slice ai (arcsAt S 0).length ci)) := by
      have := s1
      rw [show (S.getD 0 st0).2 = arcsAt S 0 from rfl] at this
      simp only [Nat.zero_mul, Nat.add_zero] at this
      exact this
    replace s1 := (hb1.cell (p := ⟨bS, oS + 0 * 2 + 1, none⟩) hbS).trans s1
    have hfk : (S.getD 0 st0).1 = finAt S 0 := rfl
    have hak : (S.getD 0 st0).2 = arcsAt S 0 := rfl
    rw [hfk] at s0
    rw [hak] at s1
    have hS0 : (0 : Int) < (S.length : Int) := by omega
    simp only [Nat.zero_mul, Nat.add_zero] at s0 s1
    clear hst hai hb1 hfk hak HMet
    cases hf : finAt S 0 with
    | true =>
      have Hno : Hid (∀ c ts, IsDict (c, S) ts → False) := by
        intro c ts h
        have := h.must.2.1
        rw [hf] at this
        cases this
      rw [hf] at s0
      clear hf
      go_wp2_with fail
      go_ret2
      exact ⟨_, _, rfl, HB1.out, (fun h => by cases h), fun c ts h => (Hno.out c ts h).elim⟩
    | false =>
      rw [hf] at s0
      have Hf := hidd hf
      clear hf
      go_upto_region 3 with fail
      go_cut [4] (fun c wy => ∃ T be bl, c = .pointer (some ⟨T, 0, none⟩) ∧ TalAt w wy T be bl (some ⟨bS, oS, none⟩) cap S (List.replicate S.length 0) (List.replicate S.length 0) ∧ w.heap.size ≤ T)
      case first =>
        go_region_law (fail)
        all_goals
          go_wp2_with fail
          go_meet
          case rel =>
            first
            | exact ⟨w1.heap.size, w1.heap.size + 1, w1.heap.size + 1 + 1, rfl, ⟨below_drewN ((((HB1.out.alloc hz1 _).alloc (by simp; omega) _).alloc (by simp; omega) _)) 1, HS.out, (box_three w1 _ _ _).1, (box_three w1 _ _ _).2.1, (box_three w1 _ _ _).2.2, ⟨by omega, by omega, by omega⟩, by omega, by omega⟩, by omega⟩
            | exact ⟨w1.heap.size, w1.heap.size + 1 + 1, w1.heap.size + 1, rfl, ⟨below_drewN ((((HB1.out.alloc hz1 _).alloc (by simp; omega) _).alloc (by simp; omega) _)) 1, HS.out, (box_three w1 _ _ _).1, (box_three w1 _ _ _).2.2, (box_three w1 _ _ _).2.1, ⟨by omega, by omega, by omega⟩, by omega, by omega⟩, by omega⟩
            | exact ⟨w1.heap.size + 1, w1.heap.size, w1.heap.size + 1 + 1, rfl, ⟨below_drewN ((((HB1.out.alloc hz1 _).alloc (by simp; omega) _).alloc (by simp; omega) _)) 1, HS.out, (box_three w1 _ _ _).2.1, (box_three w1 _ _ _).1, (box_three w1 _ _ _).2.2, ⟨by omega, by omega, by omega⟩, by omega, by omega⟩, by omega⟩
            | exact ⟨w1.heap.size + 1, w1.heap.size + 1 + 1, w1.heap.size, rfl, ⟨below_drewN ((((HB1.out.alloc hz1 _).alloc (by simp; omega) _).alloc (by simp; omega) _)) 1, HS.out, (box_three w1 _ _ _).2.1, (box_three w1 _ _ _).2.2, (box_three w1 _ _ _).1, ⟨by omega, by omega, by omega⟩, by omega, by omega⟩, by omega⟩
            | exact ⟨w1.heap.size + 1 + 1, w1.heap.size, w1.heap.size + 1, rfl, ⟨below_drewN ((((HB1.out.alloc hz1 _).alloc (by simp; omega) _).alloc (by simp; omega) _)) 1, HS.out, (box_three w1 _ _ _).2.2, (box_three w1 _ _ _).1, (box_three w1 _ _ _).2.1, ⟨by omega, by omega, by omega⟩, by omega, by omega⟩, by omega⟩
            | exact ⟨w1.heap.size + 1 + 1, w1.heap.size + 1, w1.heap.size, rfl, ⟨below_drewN ((((HB1.out.alloc hz1 _).alloc (by simp; omega) _).alloc (by simp; omega) _)) 1, HS.out, (box_three w1 _ _ _).2.2, (box_three w1 _ _ _).2.1, (box_three w1 _ _ _).1, ⟨by omega, by omega, by omega⟩, by omega, by omega⟩, by omega⟩
      case rest =>
        obtain ⟨T, be, bl, rfl, htal, hT⟩ := hcut
        have HTal := hidd htal
        have hzc : w.heap.size ≤ wc.heap.size := htal.old.size
        have t1 : wc.cell? ⟨T, 1, none⟩ = some (.slice (some ⟨be, 0, none⟩) S.length S.length) := blkc htal.tal 1
        replace s1 : wc.cell? ⟨bS, oS + 1, none⟩ = some (.slice ai (arcsAt S 0).length ci) := (htal.old.cell (p := ⟨bS, oS + 1, none⟩) hbS).trans S1w.out
        clear htal hms s0
        by_cases h1 : S.length = 1 ∧ arcsAt S 0 = []
        · obtain ⟨h1, h2⟩ := h1
          have hlb : ((S.length : Int) == 1) = true := by simp [h1]
          have hal : (((arcsAt S 0).length : Int) == 0) = true := by simp [h2]
          have H1 := hidd h1
          have H2 := hidd h2
          clear h1 h2
          go_wp2_with fail
          go_ret2
          refine ⟨_, _, rfl, HTal.out.old, ?_, fun _ _ _ => rfl⟩
          intro _
          refine ⟨be, _, rfl, HTal.out.new.1, HTal.out.rowE, by simp, Hm.out, Hf.out, Or.inl ⟨H1.out, H2.out, by rw [H1.out]; rfl⟩⟩
        · go_upto_region 4 with fail
          go_cut [32] (fun c wy => c = .bool false ∧ wy = wc)
          case first =>
            by_cases hl : S.length = 1
            · have hlb : ((S.length : Int) == 1) = true := by simp [hl]
              have h2 : arcsAt S 0 ≠ [] := fun h => h1 ⟨hl, h⟩
              have hal : (((arcsAt S 0).length : Int) == 0) = false := by
                have : (arcsAt S 0).length ≠ 0 := fun h => h2 (List.length_eq_zero_iff.1 h)
                simp
                exact h2
              have H1 := hidd h1
              clear h1 hl h2
              go_wp2_with fail
              go_meet
              case rel => exact ⟨rfl, rfl⟩
            · have hlb : ((S.length : Int) == 1) = false := by simp; omega
              have H1 := hidd h1
              clear h1 hl
              go_wp2_with fail
              go_meet
              case rel => exact ⟨rfl, rfl⟩
          case rest =>
            obtain ⟨rfl, hwc⟩ := hcut
            obtain rfl := hwc.symm
            have H1 := hidd h1
            have hC := take_any (w0 := w) (T := T) (be := be) (bl := bl) (aS := some ⟨bS, oS, none⟩) (cS := cap) (S := S) hr.2 Harcs.out HA.out 65 0 rfl
            have HC : Hid (∀ u, TalAt w u T be bl (some ⟨bS, oS, none⟩) cap S (List.replicate S.length 0) (List.replicate S.length 0) → Calls Try.prog 70 #[.pointer (some ⟨T, 0, none⟩), .int .i64 0, .int .i64 0] u fun e w' =>
                ∃ (b : Bool) (E' G' : List Nat), e = .returned (.bool b) ∧ TalAt w w' T be bl (some ⟨bS, oS, none⟩) cap S E' G' ∧ (b = true → TalOK S E' G' ∧ 0 < valE E' 0) ∧ (∀ e g, Sane S e g → b = true ∧ Agree S E' G' e g)) := by
              intro u hu
              have h := hC 0 u _ _ (by omega) hu (talOK_zero S)
              refine Calls.mono h ?_
              rintro e w' ⟨b, E', G', h1, h2, _, h3, h4⟩
              exact ⟨b, E', G', h1, h2, fun hb => ⟨(h3 hb).1, (h3 hb).2.1⟩, fun e g hs => h4 e g hs (agree_zero S _ e g) (by have := hs.deep 0 (by omega); omega)⟩
            clear hC s1 h1 hwc
            by_cases hs : ∃ e g, Sane S e g
            · have HTk : Hid (∀ u, TalAt w u T be bl (some ⟨bS, oS, none⟩) cap S (List.replicate S.length 0) (List.replicate S.length 0) → Calls Try.prog 70 #[.pointer (some ⟨T, 0, none⟩), .int .i64 0, .int .i64 0] u fun e w' =>
                  ∃ (E' G' : List Nat), e = .returned (.bool true) ∧ TalAt w w' T be bl (some ⟨bS, oS, none⟩) cap S E' G' ∧ (TalOK S E' G' ∧ 0 < valE E' 0) ∧ (∀ e g, Sane S e g → Agree S E' G' e g)) := by
                intro u hu
                refine Calls.mono (HC.out u hu) ?_
                rintro e w' ⟨b, E', G', h1, h2, h3, h4⟩
                obtain ⟨e0, g0, hs⟩ := hs
                have hb := (h4 e0 g0 hs).1
                subst hb
                exact ⟨E', G', h1, h2, h3 rfl, fun e g hs => (h4 e g hs).2⟩
              have HTd : Hid (TalAt w wc.drew T be bl (some ⟨bS, oS, none⟩) cap S (List.replicate S.length 0) (List.replicate S.length 0)) := HTal.out.below (below_drewN (Below.refl _ _) 1)
              clear hs HC
              go_wp2_with fail
              go_region_with (first
                | (go_at_call 70; refine (HTk.out _ HTd.out).mono ?_; rintro e' w7 ⟨E', G', rfl, ht7, hok7, hag7⟩; have HT7 := hidd ht7; have HOk7 := hidd hok7; have HAg7 := hidd hag7; have y1 : w7.cell? ⟨T, 1, none⟩ = some (.slice (some ⟨be, 0, none⟩) S.length S.length) := blkc ht7.tal 1; clear ht7 hok7 hag7)
                | (go_at_call 71; refine (allDiffer_any _ cap S _ hr.2 Harcs.out (HS.out.below HT7.out.old)).mono ?_; rintro e'' w8 ⟨rfl, hb8⟩; have HB8 := hidd hb8; clear hb8; have y2 : w8.cell? ⟨T, 1, none⟩ = some (.slice (some ⟨be, 0, none⟩) S.length S.length) := blkc (blko HT7.out.tal HB8.out) 1))
              all_goals
                go_wp2_with fail
                go_ret2
                refine ⟨.slice (some ⟨be, 0, none⟩) S.length S.length, diffB S, rfl, HT7.out.old.trans (HB8.out.mono HT7.out.old.size), ?_, ?_⟩
                · intro hd
                  exact ⟨be, E', rfl, HT7.out.new.1, blko HT7.out.rowE HB8.out, HOk7.out.1.lenE, Hm.out, Hf.out, Or.inr ⟨G', HOk7.out.1, HOk7.out.2, diffB_iff.1 hd, HAg7.out⟩⟩
                · intro c ts h
                  rcases h.must.2.2 with h2 | h2
                  · exact absurd h2 H1.out
                  · exact diffB_yes h2.2
            · have HTk : Hid (∀ u, TalAt w u T be bl (some ⟨bS, oS, none⟩) cap S (List.replicate S.length 0) (List.replicate S.length 0) → Calls Try.prog 70 #[.pointer (some ⟨T, 0, none⟩), .int .i64 0, .int .i64 0] u fun e w' =>
                  ∃ (E' G' : List Nat), e = .returned (.bool false) ∧ TalAt w w' T be bl (some ⟨bS, oS, none⟩) cap S E' G') := by
                intro u hu
                refine Calls.mono (HC.out u hu) ?_
                rintro e w' ⟨b, E', G', h1, h2, h3, h4⟩
                cases b with
                | false => exact ⟨E', G', h1, h2⟩
                | true =>
                  obtain ⟨h5, h6⟩ := h3 rfl
                  exact absurd ⟨_, _, h5.sane (h5.ends_all h6 (by omega) (fun j hj a ha => ((Harcs.out j hj).2 a ha).2.2.2) Hbfs.out)⟩ hs
              have HTd : Hid (TalAt w wc.drew T be bl (some ⟨bS, oS, none⟩) cap S (List.replicate S.length 0) (List.replicate S.length 0)) := HTal.out.below (below_drewN (Below.refl _ _) 1)
              have Hno : Hid (∀ c ts, IsDict (c, S) ts → False) := by
                intro c ts h
                rcases h.must.2.2 with h2 | h2
                · exact H1.out h2
                · exact hs h2.1
              clear hs HC
              go_wp2_with fail
              have HS0 : Hid (∀ u, TalAt w u T be bl (some ⟨bS, oS, none⟩) cap S (List.replicate S.length 0) (List.replicate S.length 0) → u.heap[T]? = some (.cells #[.slice (some ⟨bS, oS, none⟩) S.length cap, .slice (some ⟨be, 0, none⟩) S.length S.length, .slice (some ⟨bl, 0, none⟩) S.length S.length] 128)) := fun u h => h.tal
              refine wp_region_held (S := fun W' => W'.heap[T]? = some (.cells #[.slice (some ⟨bS, oS, none⟩) S.length cap, .slice (some ⟨be, 0, none⟩) S.length S.length, .slice (some ⟨bl, 0, none⟩) S.length S.length] 128)) (by kernel_rfl) ?_
              try simp only [Act.put, List.getElem_toArray, List.getElem_cons_succ, List.getElem_cons_zero, List.setIfInBounds_toArray, List.set_cons_zero, List.set_cons_succ]
              refine wpAnyH_take (i := 0) (v := .pointer (some ⟨T, 1, none⟩)) rfl (by kernel_rfl) (by kernel_rfl) (by kernel_rfl) (fun _ _ _ h => h) (Or.inl ⟨by kernel_rfl, fun W hW => exec_field1 W _ _ _ rfl T (by kernel_rfl)⟩) HTd.out.tal ?_
              try simp only [Act.put, List.getElem_toArray, List.getElem_cons_succ, List.getElem_cons_zero, List.setIfInBounds_toArray, List.set_cons_zero, List.set_cons_succ]
              refine wpAnyH_take (i := 1) (v := .slice (some ⟨be, 0, none⟩) S.length S.length) rfl (by kernel_rfl) (by kernel_rfl) (by kernel_rfl) (fun _ _ _ h => h) (Or.inl ⟨by kernel_rfl, fun W hW => exec_loadInts W _ _ _ rfl T 1 _ (by kernel_rfl) (blkc hW 1)⟩) HTd.out.tal ?_
              try simp only [Act.put, List.getElem_toArray, List.getElem_cons_succ, List.getElem_cons_zero, List.setIfInBounds_toArray, List.set_cons_zero, List.set_cons_succ]
              refine wpAnyH_one 2 (by kernel_rfl) ?_
              refine wpOp_call 70 #[.pointer (some ⟨T, 0, none⟩), .int .i64 0, .int .i64 0] rfl (by kernel_rfl) (exec_call3 _ _ _ _ _ _ _ _ _ _ rfl _ _ _ (by kernel_rfl) (by kernel_rfl) (by kernel_rfl) (Try.call70 _ _)) ?_
              refine (HTk.out _ HTd.out).mono ?_
              rintro e w7 ⟨E', G', rfl, ht7⟩
              have HT7 := hidd ht7
              clear ht7
              refine ⟨HT7.out.tal, ?_⟩
              try simp only [Act.put, List.getElem_toArray, List.getElem_cons_succ, List.getElem_cons_zero, List.setIfInBounds_toArray, List.set_cons_zero, List.set_cons_succ]
              refine wpAnyH_take (i := 3) (v := .bool false) rfl (by kernel_rfl) (by kernel_rfl) (by kernel_rfl) (fun _ _ _ h => h) (Or.inl ⟨by kernel_rfl, fun W hW => exec_move W _ _ _ rfl _ (by kernel_rfl)⟩) HT7.out.tal ?_
              try simp only [Act.put, List.getElem_toArray, List.getElem_cons_succ, List.getElem_cons_zero, List.setIfInBounds_toArray, List.set_cons_zero, List.set_cons_succ]
              refine wpAnyH_take (i := 4) (v := undef) rfl (by kernel_rfl) (by kernel_rfl) (by kernel_rfl) (fun _ _ _ h => h) (Or.inr ⟨by kernel_rfl, rfl⟩) HT7.out.tal ?_
              try simp only [Act.put, List.getElem_toArray, List.getElem_cons_succ, List.getElem_cons_zero, List.setIfInBounds_toArray, List.set_cons_zero, List.set_cons_succ]
              refine wpAnyH_take (i := 5) (v := undef) rfl (by kernel_rfl) (by kernel_rfl) (by kernel_rfl) (fun _ _ _ h => h) (Or.inr ⟨by kernel_rfl, rfl⟩) HT7.out.tal ?_
              try simp only [Act.put, List.getElem_toArray, List.getElem_cons_succ, List.getElem_cons_zero, List.setIfInBounds_toArray, List.set_cons_zero, List.set_cons_succ]
              refine wpAnyH_take (i := 6) (v := .bool false) rfl (by kernel_rfl) (by kernel_rfl) (by kernel_rfl) (fun _ _ _ h => h) (Or.inl ⟨by kernel_rfl, fun W hW => exec_pick W _ _ _ _ _ rfl false (by kernel_rfl) _ (by kernel_rfl)⟩) HT7.out.tal ?_
              try simp only [Act.put, List.getElem_toArray, List.getElem_cons_succ, List.getElem_cons_zero, List.setIfInBounds_toArray, List.set_cons_zero, List.set_cons_succ]
              refine wpAnyH_take (i := 7) (v := .slice (some ⟨be, 0, none⟩) S.length S.length) rfl (by kernel_rfl) (by kernel_rfl) (by kernel_rfl) (fun _ _ _ h => h) (Or.inl ⟨by kernel_rfl, fun W hW => exec_assign W _ _ _ rfl _ (by kernel_rfl)⟩) HT7.out.tal ?_
              try simp only [Act.put, List.getElem_toArray, List.getElem_cons_succ, List.getElem_cons_zero, List.setIfInBounds_toArray, List.set_cons_zero, List.set_cons_succ]
              refine wpAnyH_take (i := 8) (v := .bool false) rfl (by kernel_rfl) (by kernel_rfl) (by kernel_rfl) (fun _ _ _ h => h) (Or.inl ⟨by kernel_rfl, fun W hW => exec_assign W _ _ _ rfl _ (by kernel_rfl)⟩) HT7.out.tal ?_
              try simp only [Act.put, List.getElem_toArray, List.getElem_cons_succ, List.getElem_cons_zero, List.setIfInBounds_toArray, List.set_cons_zero, List.set_cons_succ]
              refine wpAnyH_done (by kernel_rfl) ?_ _
              go_wp2_with fail
              go_ret2
              exact ⟨_, _, rfl, HT7.out.old, (fun h => by cases h), fun c ts h => (Hno.out c ts h).elim⟩
end Go.Proofs.Ytbkedgpligcicaa

namespace Go.Proofs.Ytbkedgpligcicaa
open Go Go.RowKit
set_option linter.unusedVariables false

def nI (x : Nat) : Value := .int .i64 (x : Int)
theorem nI_inj {l m : Nat} (h : nI l = nI m) : l = m := by
  simp only [nI, Value.int.injEq, true_and] at h
  omega
theorem intKeyed : Maps.Keyed Try.prog 3 := Maps.int_keyed Try.underlying3
theorem intKey (l : Nat) (h : l ≤ 9223372036854775807) : ∃ kl, keyOf Try.prog 3 (nI l) = some kl :=
  ⟨_, Maps.keyOf_int_mk Try.underlying3 (WalkArith.wf_i64 (by omega))⟩

/-- A map of numbers to their places, in the order in which they came. -/
def PMap (w : World) (mb : Nat) (L : List Nat) : Prop := ∃ es clock, w.heap[mb]? = some (.map es clock) ∧ es.toList.map (fun e => (e.key, e.val)) = L.mapIdx fun (j : Nat) l => (nI l, Value.int .i64 (j : Int))
theorem PMap.keep {w w' : World} {mb : Nat} {L : List Nat} (h : PMap w mb L) (hb : w'.heap[mb]? = w.heap[mb]?) : PMap w' mb L := by
  obtain ⟨es, clock, h1, h2⟩ := h
  exact ⟨es, clock, hb.trans h1, h2⟩
theorem pMap_new (w : World) : PMap (w.alloc (.map #[] 0)) w.heap.size [] := ⟨#[], 0, heap_alloc_new w _, rfl⟩
theorem PMap.find {w : World} {mb : Nat} {L : List Nat} (h : PMap w mb L) (hL : ∀ l ∈ L, l ≤ 9223372036854775807) (l : Nat) (hl : l ≤ 9223372036854775807) :
    ∃ es clock, w.heap[mb]? = some (.map es clock) ∧ es.toList.map (fun e => (e.key, e.val)) = L.mapIdx (fun (j : Nat) l => (nI l, Value.int .i64 (j : Int))) ∧
      ((l ∉ L ∧ (Instr.findKey 3 (nI l) es.toList).run Try.prog w = .ok none w) ∨ ∃ j : Nat, L[j]? = some l ∧ (Instr.findKey 3 (nI l) es.toList).run Try.prog w = .ok (some (j, .int .i64 (j : Int))) w) := by
  obtain ⟨es, clock, h1, h2⟩ := h
  refine ⟨es, clock, h1, h2, ?_⟩
  obtain ⟨kl, hkl⟩ := intKey l hl
  have at_ : ∀ (j : Nat) (e : MapEntry), es.toList[j]? = some e → ∃ l', L[j]? = some l' ∧ e.key = nI l' ∧ e.val = .int .i64 (j : Int) := by
    intro j e he
    have h3 : (es.toList.map (fun e => (e.key, e.val)))[j]? = some (e.key, e.val) := by rw [List.getElem?_map, he]; rfl
    rw [h2, List.getElem?_mapIdx] at h3
    cases hx : L[j]? with
    | none => rw [hx] at h3; cases h3
    | some l' =>
      rw [hx] at h3
      simp only [Option.map_some, Option.some.injEq, Prod.mk.injEq] at h3
      exact ⟨l', rfl, h3.1.symm, h3.2.symm⟩
  have hkeys : ∀ e ∈ es.toList, ∃ q, keyOf Try.prog 3 e.key = some q := by
    intro e he
    obtain ⟨j, hj⟩ := List.mem_iff_getElem?.1 he
    obtain ⟨l', h4, h5, _⟩ := at_ j e hj
    rw [h5]
    exact intKey l' (hL l' (List.mem_of_getElem? h4))
  rcases intKeyed.find w hkl es.toList hkeys with ⟨h3, h4⟩ | ⟨j, e, h3, h4, h5⟩
  · refine Or.inl ⟨?_, h3⟩
    intro hm
    obtain ⟨j, hj⟩ := List.mem_iff_getElem?.1 hm
    have h6 : (es.toList.map (fun e => (e.key, e.val)))[j]? = some (nI l, .int .i64 (j : Int)) := by rw [h2, List.getElem?_mapIdx, hj]; rfl
    rw [List.getElem?_map] at h6
    cases hx : es.toList[j]? with
    | none => rw [hx] at h6; cases h6
    | some e =>
      rw [hx] at h6
      simp only [Option.map_some, Option.some.injEq, Prod.mk.injEq] at h6
      exact h4 e (List.mem_of_getElem? hx) h6.1
  · obtain ⟨l', h6, h7, h8⟩ := at_ j e h4
    have : l' = l := nI_inj (h7.symm.trans h5)
    subst this
    exact Or.inr ⟨j, h6, by rw [h3, h8]⟩
theorem PMap.look {w : World} {mb : Nat} {L : List Nat} (h : PMap w mb L) (hL : ∀ l ∈ L, l ≤ 9223372036854775807) (l : Nat) (hl : l ≤ 9223372036854775807) :
    (l ∉ L ∧ (Instr.lookup 118 (.map (some mb)) (nI l) true).run Try.prog w = .ok (.tuple #[.int .i64 0, .bool false]) w) ∨
    ∃ j : Nat, L[j]? = some l ∧ (Instr.lookup 118 (.map (some mb)) (nI l) true).run Try.prog w = .ok (.tuple #[.int .i64 (j : Int), .bool true]) w := by
  obtain ⟨kl, hkl⟩ := intKey l hl
  obtain ⟨es, clock, h1, _, h3⟩ := h.find hL l hl
  rcases h3 with ⟨h4, h5⟩ | ⟨j, h4, h5⟩
  · exact Or.inl ⟨h4, by simp [Instr.lookup, run_underlying Try.underlying118, MapKept.run_getObj_map h1, intKeyed.check w _ hkl, h5, Result.andThen]⟩
  · exact Or.inr ⟨j, h4, by simp [Instr.lookup, run_underlying Try.underlying118, MapKept.run_getObj_map h1, intKeyed.check w _ hkl, h5, Result.andThen]⟩
theorem PMap.put {w : World} {mb : Nat} {L : List Nat} (h : PMap w mb L) (hL : ∀ l ∈ L, l ≤ 9223372036854775807) (l : Nat) (hl : l ≤ 9223372036854775807) (hn : l ∉ L) :
    ∃ w', (Instr.mapUpdate 118 (.map (some mb)) (nI l) (.int .i64 (L.length : Int))).run Try.prog w = .ok () w' ∧ PMap w' mb (L ++ [l]) ∧ w.grownBy w' (some mb) := by
  obtain ⟨kl, hkl⟩ := intKey l hl
  obtain ⟨es, clock, h1, h2, h3⟩ := h.find hL l hl
  rcases h3 with ⟨h4, h5⟩ | ⟨j, h4, h5⟩
  · refine ⟨ChangeMaps.setBlock w mb (.map (es.push ⟨nI l, .int .i64 (L.length : Int), clock⟩) (clock + 1)), ?_, ⟨_, _, ChangeMaps.heap_setBlock_same h1 _, ?_⟩, ⟨rfl, rfl, rfl, by simp [ChangeMaps.setBlock], fun i _ hi => ChangeMaps.heap_setBlock_other h1 _ (fun e => hi (by rw [e]))⟩⟩
    · simp [Instr.mapUpdate, run_underlying Try.underlying118, MapKept.run_getObj_map h1, intKeyed.check w false hkl, h5, MapKept.run_setObj_map _ h1, Result.andThen, ChangeMaps.setBlock]
    · rw [Array.toList_push, List.map_append, h2, List.mapIdx_append]
      simp
  · exact absurd (List.mem_of_getElem? h4) hn
end Go.Proofs.Ytbkedgpligcicaa
