import Derived.Test.YtbkedgpligcicaaDictJ07
import Derived.Deep.CutBlock
namespace Go.Proofs.Ytbkedgpligcicaa
open Go Go.RowKit
set_option linter.unusedVariables false
set_option linter.unusedSimpArgs false

section
variable {w0 : World} {bd : Nat} {aS : Option Addr} {cS : Nat} {c : Int} {S : List St}
theorem count_end {D D1 : List Int} {ρ : Nat → Nat} {M i : Nat} {gd : Bool} {nn X : Int} (hok : CntOK S D1 ρ M) (hi : i < S.length) (hd0 : valD D i = -1) (h2 : valD D1 i = -2)
    (hk1 : ∀ j, 0 < valD D j → valD D1 j = valD D j) (hk2 : ∀ j, valD D j = -2 → valD D1 j = -2) (hk3 : ∀ j, valD D1 j = -2 → valD D j = -2 ∨ j = i)
    (hg : gd = true → (arcsAt S i).length ≤ 256 ∧ (∀ a ∈ arcsAt S i, ArcIn S.length a ∧ 0 < valD D1 a.2.1.toNat) ∧ nn = min 4097 ((if finAt S i then 1 else 0) + sumD D1 (arcsAt S i))) (hn : 0 ≤ nn ∧ nn ≤ 4097) (hX : X = if gd = true then nn else 0) :
    ∃ ρ' M', CntOK S (D1.set i X) ρ' M' ∧ 0 ≤ X ∧ X ≤ 4097 ∧ (0 < X → valD (D1.set i X) i = X) ∧ (∀ j, 0 < valD D j → valD (D1.set i X) j = valD D j) ∧ (∀ j, valD D j = -2 → valD (D1.set i X) j = -2) ∧ (∀ j, valD (D1.set i X) j = -2 → valD D j = -2) ∧
      (∀ e g, Sane S e g → Fine S → gd = true → AgreeD S D1 e → X = (e i : Int) ∧ AgreeD S (D1.set i X) e) := by
  have v := fun j => valD_set D1 i X j (by rw [hok.len]; exact hi)
  have hX0 : 0 ≤ X ∧ X ≤ 4097 := by rw [hX]; split <;> omega
  have hck : ∃ ρ' M', CntOK S (D1.set i X) ρ' M' := by
    cases gd with
    | true =>
      have h := hg rfl
      exact ⟨_, _, hok.count hi (by omega) h.1 h.2.1 X (by rw [hX, if_pos rfl]; exact h.2.2)⟩
    | false => exact ⟨_, _, hok.put hi (by omega) X (by rw [hX]; simp)⟩
  obtain ⟨ρ', M', hc⟩ := hck
  refine ⟨ρ', M', hc, hX0.1, hX0.2, fun _ => by rw [v, if_pos rfl], fun j hj => ?_, fun j hj => ?_, fun j hj => ?_, fun e g hs hfi hgd hag => ?_⟩
  · have hji : j ≠ i := fun e => by rw [e] at hj; omega
    rw [v, if_neg hji]; exact hk1 j hj
  · have hji : j ≠ i := fun e => by rw [e] at hj; omega
    rw [v, if_neg hji]; exact hk2 j hj
  · by_cases hji : j = i
    · rw [v, if_pos hji] at hj; omega
    · rw [v, if_neg hji] at hj
      exact (hk3 j hj).resolve_right hji
  · have h := hg hgd
    have e1 : X = (e i : Int) := by
      rw [hX, if_pos hgd, h.2.2]
      have e2 : sumD D1 (arcsAt S i) = ((sumE e (arcsAt S i) : Nat) : Int) := by
        have : ∀ l : List Ar, (∀ a ∈ l, a ∈ arcsAt S i) → sumD D1 l = ((sumE e l : Nat) : Int) := by
          intro l
          induction l with
          | nil => intro _; simp [sumD, sumE]
          | cons a t ih =>
            intro hl
            have ha := h.2.1 a (hl a (by simp))
            have := ih (fun b hb => hl b (by simp [hb]))
            have hv := hag a.2.1.toNat ha.1.2.2.2 (by omega)
            unfold sumD sumE at *
            rw [List.map_cons, List.sum_cons, List.map_cons, List.sum_cons, this, hv]
            omega
        exact this _ (fun a ha => ha)
      have h3 := hs.ends i hi
      have h4 := hs.most i hi
      rw [e2]
      cases hf : finAt S i with
      | true => rw [hf] at h3; simp at h3 ⊢; omega
      | false => rw [hf] at h3; simp at h3 ⊢; omega
    refine ⟨e1, fun j hj hjp => ?_⟩
    by_cases hji : j = i
    · rw [hji, v, if_pos rfl]; exact e1
    · rw [v, if_neg hji] at hjp ⊢
      exact hag j hj hjp

set_option maxHeartbeats 8000000 in
set_option maxRecDepth 100000 in
theorem count_step (hn : S.length ≤ 16384) (hAl : ∀ i, (arcsAt S i).length ≤ 1048576) (depth : Nat) (hd : depth ≤ 64) (ih : CountC w0 bd aS cS c S (depth + 1)) : CountC w0 bd aS cS c S depth := by
  intro i w D ρ M hi hcnt hok
  by_cases hp : valD D i ≠ -1
  · refine (count_known hi hcnt hok hn (Or.inl hp) _ rfl).mono ?_
    rintro e w' ⟨rfl, hb⟩
    have hdom := hok.dom i hi
    refine ⟨_, D, ρ, M, rfl, hcnt.below hb, Fr.of_below hb, hok, by omega, by omega, fun h => by omega, fun j hj => rfl, fun j hj => hj, fun j hj => hj, fun e g hs hfi hag hun hdg => ?_⟩
    have h2 : valD D i ≠ -2 := fun h => absurd (hun i hi h) (by omega)
    exact ⟨by rw [← hag i hi (by omega)]; omega, hag⟩
  · have hp1 : valD D i = -1 := by simpa using hp
    have hdz : ¬ (64 : Int) < (depth : Int) := by omega
    have hiz : (i : Int) < (S.length : Int) := by omega
    have HBa : Hid (Below w.heap.size w (w.alloc (.cells #[.int .i64 c, .slice aS S.length cS] 27))) := (Below.refl _ _).alloc (Nat.le_refl _) _
    have Hbx := hidd (heap_alloc_new w (.cells #[.int .i64 c, .slice aS S.length cS] 27))
    obtain ⟨b, off, rfl, hbl0, hc⟩ := hcnt.hold.resolve_left (fun h => by rw [h] at hi; simp at hi)
    obtain ⟨x0', ai, ci, x1', hha⟩ := hc i hi
    clear hc
    have hbd : bd < w.heap.size := (Array.getElem?_eq_some_iff.1 hcnt.row).1
    have q2 := (hcnt.below HBa.out).cell (j := i) (by rw [hok.len]; exact hi)
    rw [hp1] at q2
    obtain ⟨wa, hwa⟩ : ∃ wa, w.alloc (.cells #[.int .i64 c, .slice (some ⟨b, off, none⟩) S.length cS] 27) = wa := ⟨_, rfl⟩
    rw [hwa] at HBa Hbx q2
    have Hwa := hidd hwa
    have hcnt2 := hcnt.below HBa.out
    have f2 : wa.frozen? ⟨bd, i, none⟩ = false := frozen_of_row _ bd i _ _ hcnt2.row
    have hst := hcnt2.set i (-2)
    have HT := hidd hst.1
    have HF := hidd ((Fr.of_below HBa.out).trans hst.2)
    have hbx2 : (wa.setCell ⟨bd, i, none⟩ (.int .i64 (-2))).heap[w.heap.size]? = some (.cells #[.int .i64 c, .slice (some ⟨b, off, none⟩) S.length cS] 27) := (hst.2.block w.heap.size (by rw [← hwa]; simp) (by omega) (by omega)).trans Hbx.out
    have Hbx2 := hidd hbx2
    have HK := hidd (hok.put hi (by omega) (-2) (by omega))
    have v2 := fun j => valD_set D i (-2) j (by rw [hok.len]; exact hi)
    have HV : Hid (valD (D.set i (-2)) i = -2 ∧ (∀ j, 0 < valD D j → valD (D.set i (-2)) j = valD D j) ∧ (∀ j, valD D j = -2 → valD (D.set i (-2)) j = -2) ∧ (∀ j, valD (D.set i (-2)) j = -2 → valD D j = -2 ∨ j = i) ∧ (∀ e, AgreeD S D e → AgreeD S (D.set i (-2)) e)) := by
      refine ⟨by rw [v2, if_pos rfl], fun j hj => ?_, fun j hj => ?_, fun j hj => ?_, fun e hag j hj hjp => ?_⟩
      · rw [v2, if_neg (fun e => by rw [e] at hj; omega)]
      · rw [v2, if_neg (fun e => by rw [e] at hj; omega)]; exact hj
      · by_cases hji : j = i
        · exact Or.inr hji
        · rw [v2, if_neg hji] at hj; exact Or.inl hj
      · by_cases hji : j = i
        · rw [v2, if_pos hji] at hjp; omega
        · rw [v2, if_neg hji] at hjp ⊢; exact hag j hj hjp
    have hal := hAl i
    have HAi : Hid (arcsAt S i = (S.getD i st0).2 ∧ finAt S i = (S.getD i st0).1) := ⟨rfl, rfl⟩
    rw [HAi.out.1] at hal
    have HHA := hidd hha
    have Hih := hidd ih
    have Hp1 := hidd hp1
    clear hcnt hcnt2 hok hha ih hAl hst hbx2 hp v2 hp1 hwa
    obtain ⟨s, hs⟩ : ∃ s, S.getD i st0 = s := ⟨_, rfl⟩
    rw [hs] at x0' x1' HHA HAi hal
    clear hs
    obtain ⟨f, l⟩ := s
    dsimp only at x0' x1' HHA HAi hal
    have x0 : (wa.setCell ⟨bd, i, none⟩ (.int .i64 (-2))).cell? ⟨b, off + i * 2, none⟩ = some (.bool f) := (HT.out.old.cell (p := ⟨b, off + i * 2, none⟩) hbl0).trans x0'
    have x1 : (wa.setCell ⟨bd, i, none⟩ (.int .i64 (-2))).cell? ⟨b, off + i * 2 + 1, none⟩ = some (.slice ai l.length ci) := (HT.out.old.cell (p := ⟨b, off + i * 2 + 1, none⟩) hbl0).trans x1'
    have y1 : (wa.setCell ⟨bd, i, none⟩ (.int .i64 (-2))).cell? ⟨w.heap.size, 1, none⟩ = some (.slice (some ⟨b, off, none⟩) S.length cS) := blkc Hbx2.out 1
    clear x0' x1'
    cases f with
    | false =>
      go_enter Try.func62, Try.ntmps62
      go_upto_region 1 with fail
      rw [Hwa.out]
      go_wp2_with fail
      clear q2 f2 x0 x1 y1
      have hsz : (wa.setCell ⟨bd, i, none⟩ (.int .i64 (-2))).heap.size = wa.heap.size := by simp
      generalize wa.setCell ⟨bd, i, none⟩ (.int .i64 (-2)) = wc at *
      have hwcz : w.heap.size < wc.heap.size := (Array.getElem?_eq_some_iff.1 Hbx2.out).1
      have HBs : Hid (Below wc.heap.size wc (wc.alloc (.cells #[.bool false, .slice ai l.length ci] 82))) := (Below.refl _ _).alloc (Nat.le_refl _) _
      have Hsb := hidd (heap_alloc_new wc (.cells #[.bool false, .slice ai l.length ci] 82))
      have hbdc : bd < wc.heap.size := (Array.getElem?_eq_some_iff.1 HT.out.row).1
      rw [hsz] at Hsb HBs hbdc hwcz
      generalize wa.heap.size = SB at *
      have hSB : wc.heap.size = SB := hsz
      generalize wc.alloc (.cells #[.bool false, .slice ai l.length ci] 82) = wd at *
      have HBs2 : Hid (Below wc.heap.size wc wd) := by show Below _ _ _; rw [hSB]; exact HBs.out
      have HTd := hidd (HT.out.below HBs2.out)
      have HFd := hidd (HF.out.trans (Fr.of_below HBs2.out))
      have hdc : w.heap.size < wd.heap.size := Nat.lt_of_lt_of_le (by omega) HBs2.out.size
      have HDx : Hid (wd.heap[w.heap.size]? = some (.cells #[.int .i64 c, .slice (some ⟨b, off, none⟩) S.length cS] 27)) := blko Hbx2.out HBs2.out
      have hSBd : SB < wd.heap.size := (Array.getElem?_eq_some_iff.1 Hsb.out).1
      clear HBs HBs2 HT HF Hbx Hbx2 HBa
      go_loopw [10, 11, 12] (fun nv gv jv wx => (∃ (k : Nat) (nn : Int) (gd : Bool) (D1 : List Int) (ρ1 : Nat → Nat) (M1 : Nat), k ≤ l.length ∧ jv = .int .i64 (k : Int) ∧ nv = .int .i64 nn ∧ gv = .bool gd ∧ CntAt w0 wx bd (some ⟨b, off, none⟩) S D1 ∧ CntOK S D1 ρ1 M1 ∧ Fr bd bd w wx ∧ valD D1 i = -2 ∧ (∀ j, 0 < valD D j → valD D1 j = valD D j) ∧ (∀ j, valD D j = -2 → valD D1 j = -2) ∧ (∀ j, valD D1 j = -2 → valD D j = -2 ∨ j = i) ∧ (gd = true → l.length ≤ 256 ∧ (∀ a ∈ l.take k, ArcIn S.length a ∧ 0 < valD D1 a.2.1.toNat) ∧ nn = min 4097 (0 + sumD D1 (l.take k))) ∧ 0 ≤ nn ∧ nn ≤ 4097 ∧ (∀ e g, Sane S e g → Fine S → AgreeD S D e → (∀ j, j < S.length → valD D j = -2 → g i < g j) → depth + g i ≤ 64 → gd = true ∧ AgreeD S D1 e)) ∧ Fr bd bd wd wx) (fun _ _ jv _ => l.length - (intOf jv).toNat)
      case atStart =>
        refine ⟨⟨0, 0, decide ((l.length : Int) ≤ 256), D.set i (-2), ρ, M, by omega, rfl, rfl, rfl, HTd.out, HK.out, HFd.out, HV.out.1, HV.out.2.1, HV.out.2.2.1, HV.out.2.2.2.1, fun hg => ?_, by omega, by omega, fun e g hs hfi hag hun hdg => ?_⟩, Fr.refl _ _ _⟩
        · have := of_decide_eq_true hg
          exact ⟨by omega, by simp, by simp only [List.take_zero, sumD, List.map_nil, List.sum_nil]; omega⟩
        · refine ⟨decide_eq_true ?_, HV.out.2.2.2.2 e hag⟩
          have := (hfi i hi).1
          rw [HAi.out.1] at this
          omega
      case round =>
        clear HK HTd HFd
        obtain ⟨⟨k, nn, gd, D1, ρ1, M1, hk, rfl, rfl, rfl, hcnt, hok, hfr, hd2, hk1, hk2, hk3, hgd, hn0, hn1, hsan⟩, hfw⟩ := hrel
        have HT1 := hidd hcnt
        have HK1 := hidd hok
        have HF1 := hidd hfr
        have Hd2 := hidd hd2
        have Hk1 := hidd hk1
        have Hk2 := hidd hk2
        have Hk3 := hidd hk3
        have Hgd := hidd hgd
        have Hsan := hidd hsan
        have HFW := hidd hfw
        have hbdr : bd < wr.heap.size := (Array.getElem?_eq_some_iff.1 hcnt.row).1
        have hsb : wr.heap[SB]? = some (.cells #[.bool false, .slice ai l.length ci] 82) := (hfw.block SB hSBd (by omega) (by omega)).trans Hsb.out
        have hdx : wr.heap[w.heap.size]? = some (.cells #[.int .i64 c, .slice (some ⟨b, off, none⟩) S.length cS] 27) := (hfw.block w.heap.size hdc (by omega) (by omega)).trans HDx.out
        have s1 : wr.cell? ⟨SB, 1, none⟩ = some (.slice ai l.length ci) := blkc hsb 1
        have t0 : wr.cell? ⟨w.heap.size, 0, none⟩ = some (.int .i64 c) := blkc hdx 0
        have t1 : wr.cell? ⟨w.heap.size, 1, none⟩ = some (.slice (some ⟨b, off, none⟩) S.length cS) := blkc hdx 1
        clear hcnt hok hfr hd2 hk1 hk2 hk3 hgd hsan hfw hsb
        by_cases hlt : k < l.length
        · have hkz : (k : Int) < (l.length : Int) := by omega
          cases gd with
          | true =>
            obtain ⟨b2, o2, rfl, hb2, hc2⟩ := (HHA.out.below HT1.out.old).resolve_left (fun h => by rw [h] at hlt; simp at hlt)
            obtain ⟨y0, y1, y2⟩ := hc2 k hlt
            clear hc2
            obtain ⟨p, hpe⟩ : ∃ p, l[k]? = some p := ⟨l[k], List.getElem?_eq_getElem hlt⟩
            have hpg : l.getD k ar0 = p := by rw [List.getD_eq_getElem?_getD, hpe]; rfl
            rw [hpg] at y0 y1 y2
            have hpm : p ∈ arcsAt S i := by rw [HAi.out.1]; exact List.mem_of_getElem? hpe
            have HPe := hidd hpe
            have HPm := hidd hpm
            clear hpe hpg hpm
            obtain ⟨p0, p1, p2⟩ := p
            dsimp only at y0 y1 y2
            have HBb : Hid (Below wr.heap.size wr (wr.alloc (.cells #[.int .i64 p0, .int .i64 p1, .int .i64 p2] 85))) := (Below.refl _ _).alloc (Nat.le_refl _) _
            have Hax := hidd (heap_alloc_new wr (.cells #[.int .i64 p0, .int .i64 p1, .int .i64 p2] 85))
            obtain ⟨we, hwe⟩ : ∃ we, wr.alloc (.cells #[.int .i64 p0, .int .i64 p1, .int .i64 p2] 85) = we := ⟨_, rfl⟩
            go_upto_region 13 with fail
            rw [hwe] at HBb Hax
            try rw [hwe]
            have HT2 := hidd (HT1.out.below HBb.out)
            have u0 : we.cell? ⟨wr.heap.size, 0, none⟩ = some (.int .i64 p0) := blkc Hax.out 0
            have u1 : we.cell? ⟨wr.heap.size, 1, none⟩ = some (.int .i64 p1) := blkc Hax.out 1
            have t0e : we.cell? ⟨w.heap.size, 0, none⟩ = some (.int .i64 c) := blkc (blko hdx HBb.out) 0
            have t1e : we.cell? ⟨w.heap.size, 1, none⟩ = some (.slice (some ⟨b, off, none⟩) S.length cS) := blkc (blko hdx HBb.out) 1
            clear hwe y0 y1 y2 s1 t0 t1 hdx
            by_cases hin : ArcIn S.length (p0, p1, p2)
            · have hin2 := hin
              obtain ⟨g0, g1, g2, g3⟩ := hin2
              dsimp only at g0 g1 g2 g3
              obtain ⟨P1, rfl⟩ := Int.eq_ofNat_of_zero_le g2
              have hP1 : P1 < S.length := by simpa using g3
              have g4 : (P1 : Int) < (S.length : Int) := by omega
              clear g3
              have HIn := hidd hin
              clear hin
              go_wp2_with fail
              have hcast : (depth : Int) + 1 = ((depth + 1 : Nat) : Int) := by omega
              have hcall := Hih.out P1 _ D1 ρ1 M1 hP1 HT2.out HK1.out
              rw [← hcast] at hcall
              refine hcall.mono ?_
              clear hcall hcast
              rintro e w3 ⟨x, D2, ρ2, M2, rfl, hcnt3, hfr3, hok3, hx0, hx1, hxv, hj1, hj2, hj3, hsan3⟩
              have HT3 := hidd hcnt3
              have HK3 := hidd hok3
              have HF3 := hidd (HF1.out.trans ((Fr.of_below HBb.out).trans hfr3))
              have HW3 := hidd (HFW.out.trans ((Fr.of_below HBb.out).trans hfr3))
              have Hd3 := hidd (hj2 i Hd2.out)
              have Hk13 : Hid (∀ j, 0 < valD D j → valD D2 j = valD D j) := fun j hj => by have h1 := Hk1.out j hj; rw [hj1 j (by rw [h1]; exact hj)]; exact h1
              have Hk23 : Hid (∀ j, valD D j = -2 → valD D2 j = -2) := fun j hj => hj2 j (Hk2.out j hj)
              have Hk33 : Hid (∀ j, valD D2 j = -2 → valD D j = -2 ∨ j = i) := fun j hj => Hk3.out j (hj3 j hj)
              have HS3 : Hid (∀ e g, Sane S e g → Fine S → AgreeD S D e → (∀ j, j < S.length → valD D j = -2 → g i < g j) → depth + g i ≤ 64 → x = (e P1 : Int) ∧ 1 ≤ e P1 ∧ AgreeD S D2 e) := fun e g hs hfi hag hun hdg => by
                have hl2 := hs.long i hi _ HPm.out
                simp only [Int.toNat_natCast] at hl2
                have h2 := hsan3 e g hs hfi (Hsan.out e g hs hfi hag hun hdg).2 (fun j hj hjv => by
                  rcases Hk3.out j hjv with h | h
                  · have := hun j hj h; omega
                  · rw [h]; omega) (by omega)
                exact ⟨h2.1, hs.least P1 hP1, h2.2⟩
              have HG3 : Hid (0 < x → (∀ a ∈ l.take (k + 1), ArcIn S.length a ∧ 0 < valD D2 a.2.1.toNat) ∧ min 4097 (nn + x) = min 4097 (0 + sumD D2 (l.take (k + 1)))) := fun hxp => by
                have hg := Hgd.out (by first | rfl | trivial)
                have hxv' := hxv hxp
                refine ⟨fun a ha => ?_, ?_⟩
                · obtain ⟨hkk, hke⟩ := List.getElem?_eq_some_iff.1 HPe.out
                  rw [List.take_succ_eq_append_getElem hkk, hke] at ha
                  rcases List.mem_append.1 ha with h | h
                  · have h1 := hg.2.1 a h
                    exact ⟨h1.1, by rw [hj1 _ h1.2]; exact h1.2⟩
                  · have : a = (p0, (P1 : Int), p2) := by simpa using h
                    subst this
                    refine ⟨HIn.out, ?_⟩
                    show 0 < valD D2 ((P1 : Int)).toNat
                    rw [Int.toNat_natCast, hxv']; exact hxp
                · rw [sumD_take HPe.out]
                  have e1 : sumD D2 (l.take k) = sumD D1 (l.take k) := sumD_congr fun a ha => hj1 _ (hg.2.1 a ha).2
                  show min 4097 (nn + x) = min 4097 (0 + (sumD D2 (l.take k) + valD D2 ((P1 : Int)).toNat))
                  rw [Int.toNat_natCast, hxv', e1, hg.2.2]
                  have := sumD_nonneg (fun a ha => (hg.2.1 a ha).2)
                  omega
              have hl256 := (Hgd.out (by first | rfl | trivial)).1
              clear hcnt3 hok3 hfr3 hxv hj1 hj2 hj3 hsan3 HT1 HK1 HF1 HFW Hd2 Hk1 Hk2 Hk3 Hgd Hsan HT2 Hih HPe HPm HIn HBb Hax u0 u1 t0e t1e
              have hmin : ∀ v : Int, v = min (nn + x) 4097 → v = min 4097 (nn + x) := fun v h => by omega
              by_cases hxp : 0 < x
              · by_cases hmn : nn + x ≤ 4097
                · go_wp2_with fail
                  all_goals
                    go_roundw
                    · exact ⟨⟨k + 1, nn + x, true, D2, ρ2, M2, by omega, by go_num, by go_num, by simp [hxp], HT3.out, HK3.out, HF3.out, Hd3.out, Hk13.out, Hk23.out, Hk33.out, (fun _ => ⟨hl256, (HG3.out hxp).1, by rw [← (HG3.out hxp).2]; omega⟩), by omega, by omega, fun e g hs hfi hag hun hdg => ⟨rfl, (HS3.out e g hs hfi hag hun hdg).2.2⟩⟩, HW3.out⟩
                    · simp [intOf]; omega
                · go_wp2_with fail
                  all_goals
                    go_roundw
                    · exact ⟨⟨k + 1, 4097, true, D2, ρ2, M2, by omega, by go_num, by go_num, by simp [hxp], HT3.out, HK3.out, HF3.out, Hd3.out, Hk13.out, Hk23.out, Hk33.out, (fun _ => ⟨hl256, (HG3.out hxp).1, by rw [← (HG3.out hxp).2]; omega⟩), by omega, by omega, fun e g hs hfi hag hun hdg => ⟨rfl, (HS3.out e g hs hfi hag hun hdg).2.2⟩⟩, HW3.out⟩
                    · simp [intOf]; omega
              · have hx00 : x = 0 := by omega
                subst hx00
                have hmn : nn + 0 ≤ 4097 := by omega
                go_wp2_with fail
                all_goals
                  go_roundw
                  · exact ⟨⟨k + 1, nn, false, D2, ρ2, M2, by omega, by go_num, by first | rfl | go_num, rfl, HT3.out, HK3.out, HF3.out, Hd3.out, Hk13.out, Hk23.out, Hk33.out, (fun h => by cases h), hn0, hn1, fun e g hs hfi hag hun hdg => by have := HS3.out e g hs hfi hag hun hdg; omega⟩, HW3.out⟩
                  · simp [intOf]; omega
            · have hnot := hin
              by_cases g0 : 0 ≤ p0
              · by_cases g1 : p0 ≤ 255
                · by_cases g2 : 0 ≤ p1
                  · have g3 : ¬ p1 < (S.length : Int) := fun h => hin ⟨g0, g1, g2, by show p1.toNat < S.length; omega⟩
                    clear hin
                    have HRb : Hid (CntAt w0 we bd (some ⟨b, off, none⟩) S D1 ∧ Fr bd bd w we ∧ Fr bd bd wd we) := ⟨HT2.out, HF1.out.trans (Fr.of_below HBb.out), HFW.out.trans (Fr.of_below HBb.out)⟩
                    go_wp2_with fail
                    go_roundw
                    · exact ⟨⟨k + 1, nn, false, D1, ρ1, M1, by omega, by go_num, rfl, rfl, HRb.out.1, HK1.out, HRb.out.2.1, Hd2.out, Hk1.out, Hk2.out, Hk3.out, (fun h => by cases h), hn0, hn1, fun e g hs hfi hag hun hdg => by exact absurd ((hfi i hi).2 _ HPm.out) hnot⟩, HRb.out.2.2⟩
                    · simp [intOf]; omega
                  · skip
                    clear hin
                    have HRb : Hid (CntAt w0 we bd (some ⟨b, off, none⟩) S D1 ∧ Fr bd bd w we ∧ Fr bd bd wd we) := ⟨HT2.out, HF1.out.trans (Fr.of_below HBb.out), HFW.out.trans (Fr.of_below HBb.out)⟩
                    go_wp2_with fail
                    go_roundw
                    · exact ⟨⟨k + 1, nn, false, D1, ρ1, M1, by omega, by go_num, rfl, rfl, HRb.out.1, HK1.out, HRb.out.2.1, Hd2.out, Hk1.out, Hk2.out, Hk3.out, (fun h => by cases h), hn0, hn1, fun e g hs hfi hag hun hdg => by exact absurd ((hfi i hi).2 _ HPm.out) hnot⟩, HRb.out.2.2⟩
                    · simp [intOf]; omega
                · skip
                  clear hin
                  have HRb : Hid (CntAt w0 we bd (some ⟨b, off, none⟩) S D1 ∧ Fr bd bd w we ∧ Fr bd bd wd we) := ⟨HT2.out, HF1.out.trans (Fr.of_below HBb.out), HFW.out.trans (Fr.of_below HBb.out)⟩
                  go_wp2_with fail
                  go_roundw
                  · exact ⟨⟨k + 1, nn, false, D1, ρ1, M1, by omega, by go_num, rfl, rfl, HRb.out.1, HK1.out, HRb.out.2.1, Hd2.out, Hk1.out, Hk2.out, Hk3.out, (fun h => by cases h), hn0, hn1, fun e g hs hfi hag hun hdg => by exact absurd ((hfi i hi).2 _ HPm.out) hnot⟩, HRb.out.2.2⟩
                  · simp [intOf]; omega
              · skip
                clear hin
                have HRb : Hid (CntAt w0 we bd (some ⟨b, off, none⟩) S D1 ∧ Fr bd bd w we ∧ Fr bd bd wd we) := ⟨HT2.out, HF1.out.trans (Fr.of_below HBb.out), HFW.out.trans (Fr.of_below HBb.out)⟩
                go_wp2_with fail
                go_roundw
                · exact ⟨⟨k + 1, nn, false, D1, ρ1, M1, by omega, by go_num, rfl, rfl, HRb.out.1, HK1.out, HRb.out.2.1, Hd2.out, Hk1.out, Hk2.out, Hk3.out, (fun h => by cases h), hn0, hn1, fun e g hs hfi hag hun hdg => by exact absurd ((hfi i hi).2 _ HPm.out) hnot⟩, HRb.out.2.2⟩
                · simp [intOf]; omega
          | false =>
            have z3 := HT1.out.cell (j := i) (by rw [HK1.out.len]; exact hi)
            have f3 : wr.frozen? ⟨bd, i, none⟩ = false := frozen_of_row wr bd i _ _ HT1.out.row
            have HEnd := hidd (count_end (D := D) (gd := false) (nn := nn) (X := 0) HK1.out hi Hp1.out Hd2.out Hk1.out Hk2.out Hk3.out (fun h => by cases h) ⟨hn0, hn1⟩ (by simp))
            have hse := HT1.out.set i (0)
            have HTe := hidd hse.1
            have HFe := hidd (HF1.out.trans hse.2)
            clear hse HT1 HK1 HF1 Hd2 Hk1 Hk2 Hk3 Hgd HFW hdx t0 t1
            go_wp2_with fail
            go_ret
            obtain ⟨ρ', M', e1, e2, e3, e4, e5, e6, e7, e8⟩ := HEnd.out
            first
            | exact ⟨0, D1.set i (0), ρ', M', rfl, HTe.out, HFe.out, e1, e2, e3, e4, e5, e6, e7, fun e g hs hfi hag hun hdg => e8 e g hs hfi (by have := (Hsan.out e g hs hfi hag hun hdg).1; cases this) (Hsan.out e g hs hfi hag hun hdg).2⟩
            | exact ⟨0, rfl, D1.set i (0), HTe.out, HFe.out, ⟨ρ', M', e1⟩, e2, e3, e4, e5, e6, e7, fun e g hs hfi hag hun hdg => e8 e g hs hfi (by have := (Hsan.out e g hs hfi hag hun hdg).1; cases this) (Hsan.out e g hs hfi hag hun hdg).2⟩
        · have hkz : ¬ (k : Int) < (l.length : Int) := by omega
          have hkl : l.take k = l := List.take_of_length_le (by omega)
          cases gd with
          | true =>
            have z3 := HT1.out.cell (j := i) (by rw [HK1.out.len]; exact hi)
            have f3 : wr.frozen? ⟨bd, i, none⟩ = false := frozen_of_row wr bd i _ _ HT1.out.row
            have HEnd := hidd (count_end (D := D) (gd := true) (nn := nn) (X := nn) HK1.out hi Hp1.out Hd2.out Hk1.out Hk2.out Hk3.out (fun _ => by rw [HAi.out.1, HAi.out.2]; have h := Hgd.out (by first | rfl | trivial); rw [hkl] at h; exact ⟨h.1, h.2.1, h.2.2⟩) ⟨hn0, hn1⟩ (by simp))
            have hse := HT1.out.set i (nn)
            have HTe := hidd hse.1
            have HFe := hidd (HF1.out.trans hse.2)
            clear hse HT1 HK1 HF1 Hd2 Hk1 Hk2 Hk3 Hgd HFW hdx t0 t1
            go_wp2_with fail
            go_ret
            obtain ⟨ρ', M', e1, e2, e3, e4, e5, e6, e7, e8⟩ := HEnd.out
            first
            | exact ⟨nn, D1.set i (nn), ρ', M', rfl, HTe.out, HFe.out, e1, e2, e3, e4, e5, e6, e7, fun e g hs hfi hag hun hdg => e8 e g hs hfi (by first | rfl | trivial) (Hsan.out e g hs hfi hag hun hdg).2⟩
            | exact ⟨nn, rfl, D1.set i (nn), HTe.out, HFe.out, ⟨ρ', M', e1⟩, e2, e3, e4, e5, e6, e7, fun e g hs hfi hag hun hdg => e8 e g hs hfi (by first | rfl | trivial) (Hsan.out e g hs hfi hag hun hdg).2⟩
          | false =>
            have z3 := HT1.out.cell (j := i) (by rw [HK1.out.len]; exact hi)
            have f3 : wr.frozen? ⟨bd, i, none⟩ = false := frozen_of_row wr bd i _ _ HT1.out.row
            have HEnd := hidd (count_end (D := D) (gd := false) (nn := nn) (X := 0) HK1.out hi Hp1.out Hd2.out Hk1.out Hk2.out Hk3.out (fun h => by cases h) ⟨hn0, hn1⟩ (by simp))
            have hse := HT1.out.set i (0)
            have HTe := hidd hse.1
            have HFe := hidd (HF1.out.trans hse.2)
            clear hse HT1 HK1 HF1 Hd2 Hk1 Hk2 Hk3 Hgd HFW hdx t0 t1
            go_wp2_with fail
            go_ret
            obtain ⟨ρ', M', e1, e2, e3, e4, e5, e6, e7, e8⟩ := HEnd.out
            first
            | exact ⟨0, D1.set i (0), ρ', M', rfl, HTe.out, HFe.out, e1, e2, e3, e4, e5, e6, e7, fun e g hs hfi hag hun hdg => e8 e g hs hfi (by have := (Hsan.out e g hs hfi hag hun hdg).1; cases this) (Hsan.out e g hs hfi hag hun hdg).2⟩
            | exact ⟨0, rfl, D1.set i (0), HTe.out, HFe.out, ⟨ρ', M', e1⟩, e2, e3, e4, e5, e6, e7, fun e g hs hfi hag hun hdg => e8 e g hs hfi (by have := (Hsan.out e g hs hfi hag hun hdg).1; cases this) (Hsan.out e g hs hfi hag hun hdg).2⟩
    | true =>
      go_enter Try.func62, Try.ntmps62
      go_upto_region 1 with fail
      rw [Hwa.out]
      go_wp2_with fail
      clear q2 f2 x0 x1 y1
      have hsz : (wa.setCell ⟨bd, i, none⟩ (.int .i64 (-2))).heap.size = wa.heap.size := by simp
      generalize wa.setCell ⟨bd, i, none⟩ (.int .i64 (-2)) = wc at *
      have hwcz : w.heap.size < wc.heap.size := (Array.getElem?_eq_some_iff.1 Hbx2.out).1
      have HBs : Hid (Below wc.heap.size wc (wc.alloc (.cells #[.bool true, .slice ai l.length ci] 82))) := (Below.refl _ _).alloc (Nat.le_refl _) _
      have Hsb := hidd (heap_alloc_new wc (.cells #[.bool true, .slice ai l.length ci] 82))
      have hbdc : bd < wc.heap.size := (Array.getElem?_eq_some_iff.1 HT.out.row).1
      rw [hsz] at Hsb HBs hbdc hwcz
      generalize wa.heap.size = SB at *
      have hSB : wc.heap.size = SB := hsz
      generalize wc.alloc (.cells #[.bool true, .slice ai l.length ci] 82) = wd at *
      have HBs2 : Hid (Below wc.heap.size wc wd) := by show Below _ _ _; rw [hSB]; exact HBs.out
      have HTd := hidd (HT.out.below HBs2.out)
      have HFd := hidd (HF.out.trans (Fr.of_below HBs2.out))
      have hdc : w.heap.size < wd.heap.size := Nat.lt_of_lt_of_le (by omega) HBs2.out.size
      have HDx : Hid (wd.heap[w.heap.size]? = some (.cells #[.int .i64 c, .slice (some ⟨b, off, none⟩) S.length cS] 27)) := blko Hbx2.out HBs2.out
      have hSBd : SB < wd.heap.size := (Array.getElem?_eq_some_iff.1 Hsb.out).1
      clear HBs HBs2 HT HF Hbx Hbx2 HBa
      go_loopw [10, 11, 12] (fun nv gv jv wx => (∃ (k : Nat) (nn : Int) (gd : Bool) (D1 : List Int) (ρ1 : Nat → Nat) (M1 : Nat), k ≤ l.length ∧ jv = .int .i64 (k : Int) ∧ nv = .int .i64 nn ∧ gv = .bool gd ∧ CntAt w0 wx bd (some ⟨b, off, none⟩) S D1 ∧ CntOK S D1 ρ1 M1 ∧ Fr bd bd w wx ∧ valD D1 i = -2 ∧ (∀ j, 0 < valD D j → valD D1 j = valD D j) ∧ (∀ j, valD D j = -2 → valD D1 j = -2) ∧ (∀ j, valD D1 j = -2 → valD D j = -2 ∨ j = i) ∧ (gd = true → l.length ≤ 256 ∧ (∀ a ∈ l.take k, ArcIn S.length a ∧ 0 < valD D1 a.2.1.toNat) ∧ nn = min 4097 (1 + sumD D1 (l.take k))) ∧ 0 ≤ nn ∧ nn ≤ 4097 ∧ (∀ e g, Sane S e g → Fine S → AgreeD S D e → (∀ j, j < S.length → valD D j = -2 → g i < g j) → depth + g i ≤ 64 → gd = true ∧ AgreeD S D1 e)) ∧ Fr bd bd wd wx) (fun _ _ jv _ => l.length - (intOf jv).toNat)
      case atStart =>
        refine ⟨⟨0, 1, decide ((l.length : Int) ≤ 256), D.set i (-2), ρ, M, by omega, rfl, rfl, rfl, HTd.out, HK.out, HFd.out, HV.out.1, HV.out.2.1, HV.out.2.2.1, HV.out.2.2.2.1, fun hg => ?_, by omega, by omega, fun e g hs hfi hag hun hdg => ?_⟩, Fr.refl _ _ _⟩
        · have := of_decide_eq_true hg
          exact ⟨by omega, by simp, by simp only [List.take_zero, sumD, List.map_nil, List.sum_nil]; omega⟩
        · refine ⟨decide_eq_true ?_, HV.out.2.2.2.2 e hag⟩
          have := (hfi i hi).1
          rw [HAi.out.1] at this
          omega
      case round =>
        clear HK HTd HFd
        obtain ⟨⟨k, nn, gd, D1, ρ1, M1, hk, rfl, rfl, rfl, hcnt, hok, hfr, hd2, hk1, hk2, hk3, hgd, hn0, hn1, hsan⟩, hfw⟩ := hrel
        have HT1 := hidd hcnt
        have HK1 := hidd hok
        have HF1 := hidd hfr
        have Hd2 := hidd hd2
        have Hk1 := hidd hk1
        have Hk2 := hidd hk2
        have Hk3 := hidd hk3
        have Hgd := hidd hgd
        have Hsan := hidd hsan
        have HFW := hidd hfw
        have hbdr : bd < wr.heap.size := (Array.getElem?_eq_some_iff.1 hcnt.row).1
        have hsb : wr.heap[SB]? = some (.cells #[.bool true, .slice ai l.length ci] 82) := (hfw.block SB hSBd (by omega) (by omega)).trans Hsb.out
        have hdx : wr.heap[w.heap.size]? = some (.cells #[.int .i64 c, .slice (some ⟨b, off, none⟩) S.length cS] 27) := (hfw.block w.heap.size hdc (by omega) (by omega)).trans HDx.out
        have s1 : wr.cell? ⟨SB, 1, none⟩ = some (.slice ai l.length ci) := blkc hsb 1
        have t0 : wr.cell? ⟨w.heap.size, 0, none⟩ = some (.int .i64 c) := blkc hdx 0
        have t1 : wr.cell? ⟨w.heap.size, 1, none⟩ = some (.slice (some ⟨b, off, none⟩) S.length cS) := blkc hdx 1
        clear hcnt hok hfr hd2 hk1 hk2 hk3 hgd hsan hfw hsb
        by_cases hlt : k < l.length
        · have hkz : (k : Int) < (l.length : Int) := by omega
          cases gd with
          | true =>
            obtain ⟨b2, o2, rfl, hb2, hc2⟩ := (HHA.out.below HT1.out.old).resolve_left (fun h => by rw [h] at hlt; simp at hlt)
            obtain ⟨y0, y1, y2⟩ := hc2 k hlt
            clear hc2
            obtain ⟨p, hpe⟩ : ∃ p, l[k]? = some p := ⟨l[k], List.getElem?_eq_getElem hlt⟩
            have hpg : l.getD k ar0 = p := by rw [List.getD_eq_getElem?_getD, hpe]; rfl
            rw [hpg] at y0 y1 y2
            have hpm : p ∈ arcsAt S i := by rw [HAi.out.1]; exact List.mem_of_getElem? hpe
            have HPe := hidd hpe
            have HPm := hidd hpm
            clear hpe hpg hpm
            obtain ⟨p0, p1, p2⟩ := p
            dsimp only at y0 y1 y2
            have HBb : Hid (Below wr.heap.size wr (wr.alloc (.cells #[.int .i64 p0, .int .i64 p1, .int .i64 p2] 85))) := (Below.refl _ _).alloc (Nat.le_refl _) _
            have Hax := hidd (heap_alloc_new wr (.cells #[.int .i64 p0, .int .i64 p1, .int .i64 p2] 85))
            obtain ⟨we, hwe⟩ : ∃ we, wr.alloc (.cells #[.int .i64 p0, .int .i64 p1, .int .i64 p2] 85) = we := ⟨_, rfl⟩
            go_upto_region 13 with fail
            rw [hwe] at HBb Hax
            try rw [hwe]
            have HT2 := hidd (HT1.out.below HBb.out)
            have u0 : we.cell? ⟨wr.heap.size, 0, none⟩ = some (.int .i64 p0) := blkc Hax.out 0
            have u1 : we.cell? ⟨wr.heap.size, 1, none⟩ = some (.int .i64 p1) := blkc Hax.out 1
            have t0e : we.cell? ⟨w.heap.size, 0, none⟩ = some (.int .i64 c) := blkc (blko hdx HBb.out) 0
            have t1e : we.cell? ⟨w.heap.size, 1, none⟩ = some (.slice (some ⟨b, off, none⟩) S.length cS) := blkc (blko hdx HBb.out) 1
            clear hwe y0 y1 y2 s1 t0 t1 hdx
            by_cases hin : ArcIn S.length (p0, p1, p2)
            · have hin2 := hin
              obtain ⟨g0, g1, g2, g3⟩ := hin2
              dsimp only at g0 g1 g2 g3
              obtain ⟨P1, rfl⟩ := Int.eq_ofNat_of_zero_le g2
              have hP1 : P1 < S.length := by simpa using g3
              have g4 : (P1 : Int) < (S.length : Int) := by omega
              clear g3
              have HIn := hidd hin
              clear hin
              go_wp2_with fail
              have hcast : (depth : Int) + 1 = ((depth + 1 : Nat) : Int) := by omega
              have hcall := Hih.out P1 _ D1 ρ1 M1 hP1 HT2.out HK1.out
              rw [← hcast] at hcall
              refine hcall.mono ?_
              clear hcall hcast
              rintro e w3 ⟨x, D2, ρ2, M2, rfl, hcnt3, hfr3, hok3, hx0, hx1, hxv, hj1, hj2, hj3, hsan3⟩
              have HT3 := hidd hcnt3
              have HK3 := hidd hok3
              have HF3 := hidd (HF1.out.trans ((Fr.of_below HBb.out).trans hfr3))
              have HW3 := hidd (HFW.out.trans ((Fr.of_below HBb.out).trans hfr3))
              have Hd3 := hidd (hj2 i Hd2.out)
              have Hk13 : Hid (∀ j, 0 < valD D j → valD D2 j = valD D j) := fun j hj => by have h1 := Hk1.out j hj; rw [hj1 j (by rw [h1]; exact hj)]; exact h1
              have Hk23 : Hid (∀ j, valD D j = -2 → valD D2 j = -2) := fun j hj => hj2 j (Hk2.out j hj)
              have Hk33 : Hid (∀ j, valD D2 j = -2 → valD D j = -2 ∨ j = i) := fun j hj => Hk3.out j (hj3 j hj)
              have HS3 : Hid (∀ e g, Sane S e g → Fine S → AgreeD S D e → (∀ j, j < S.length → valD D j = -2 → g i < g j) → depth + g i ≤ 64 → x = (e P1 : Int) ∧ 1 ≤ e P1 ∧ AgreeD S D2 e) := fun e g hs hfi hag hun hdg => by
                have hl2 := hs.long i hi _ HPm.out
                simp only [Int.toNat_natCast] at hl2
                have h2 := hsan3 e g hs hfi (Hsan.out e g hs hfi hag hun hdg).2 (fun j hj hjv => by
                  rcases Hk3.out j hjv with h | h
                  · have := hun j hj h; omega
                  · rw [h]; omega) (by omega)
                exact ⟨h2.1, hs.least P1 hP1, h2.2⟩
              have HG3 : Hid (0 < x → (∀ a ∈ l.take (k + 1), ArcIn S.length a ∧ 0 < valD D2 a.2.1.toNat) ∧ min 4097 (nn + x) = min 4097 (1 + sumD D2 (l.take (k + 1)))) := fun hxp => by
                have hg := Hgd.out (by first | rfl | trivial)
                have hxv' := hxv hxp
                refine ⟨fun a ha => ?_, ?_⟩
                · obtain ⟨hkk, hke⟩ := List.getElem?_eq_some_iff.1 HPe.out
                  rw [List.take_succ_eq_append_getElem hkk, hke] at ha
                  rcases List.mem_append.1 ha with h | h
                  · have h1 := hg.2.1 a h
                    exact ⟨h1.1, by rw [hj1 _ h1.2]; exact h1.2⟩
                  · have : a = (p0, (P1 : Int), p2) := by simpa using h
                    subst this
                    refine ⟨HIn.out, ?_⟩
                    show 0 < valD D2 ((P1 : Int)).toNat
                    rw [Int.toNat_natCast, hxv']; exact hxp
                · rw [sumD_take HPe.out]
                  have e1 : sumD D2 (l.take k) = sumD D1 (l.take k) := sumD_congr fun a ha => hj1 _ (hg.2.1 a ha).2
                  show min 4097 (nn + x) = min 4097 (1 + (sumD D2 (l.take k) + valD D2 ((P1 : Int)).toNat))
                  rw [Int.toNat_natCast, hxv', e1, hg.2.2]
                  have := sumD_nonneg (fun a ha => (hg.2.1 a ha).2)
                  omega
              have hl256 := (Hgd.out (by first | rfl | trivial)).1
              clear hcnt3 hok3 hfr3 hxv hj1 hj2 hj3 hsan3 HT1 HK1 HF1 HFW Hd2 Hk1 Hk2 Hk3 Hgd Hsan HT2 Hih HPe HPm HIn HBb Hax u0 u1 t0e t1e
              have hmin : ∀ v : Int, v = min (nn + x) 4097 → v = min 4097 (nn + x) := fun v h => by omega
              by_cases hxp : 0 < x
              · by_cases hmn : nn + x ≤ 4097
                · go_wp2_with fail
                  all_goals
                    go_roundw
                    · exact ⟨⟨k + 1, nn + x, true, D2, ρ2, M2, by omega, by go_num, by go_num, by simp [hxp], HT3.out, HK3.out, HF3.out, Hd3.out, Hk13.out, Hk23.out, Hk33.out, (fun _ => ⟨hl256, (HG3.out hxp).1, by rw [← (HG3.out hxp).2]; omega⟩), by omega, by omega, fun e g hs hfi hag hun hdg => ⟨rfl, (HS3.out e g hs hfi hag hun hdg).2.2⟩⟩, HW3.out⟩
                    · simp [intOf]; omega
                · go_wp2_with fail
                  all_goals
                    go_roundw
                    · exact ⟨⟨k + 1, 4097, true, D2, ρ2, M2, by omega, by go_num, by go_num, by simp [hxp], HT3.out, HK3.out, HF3.out, Hd3.out, Hk13.out, Hk23.out, Hk33.out, (fun _ => ⟨hl256, (HG3.out hxp).1, by rw [← (HG3.out hxp).2]; omega⟩), by omega, by omega, fun e g hs hfi hag hun hdg => ⟨rfl, (HS3.out e g hs hfi hag hun hdg).2.2⟩⟩, HW3.out⟩
                    · simp [intOf]; omega
              · have hx00 : x = 0 := by omega
                subst hx00
                have hmn : nn + 0 ≤ 4097 := by omega
                go_wp2_with fail
                all_goals
                  go_roundw
                  · exact ⟨⟨k + 1, nn, false, D2, ρ2, M2, by omega, by go_num, by first | rfl | go_num, rfl, HT3.out, HK3.out, HF3.out, Hd3.out, Hk13.out, Hk23.out, Hk33.out, (fun h => by cases h), hn0, hn1, fun e g hs hfi hag hun hdg => by have := HS3.out e g hs hfi hag hun hdg; omega⟩, HW3.out⟩
                  · simp [intOf]; omega
            · have hnot := hin
              by_cases g0 : 0 ≤ p0
              · by_cases g1 : p0 ≤ 255
                · by_cases g2 : 0 ≤ p1
                  · have g3 : ¬ p1 < (S.length : Int) := fun h => hin ⟨g0, g1, g2, by show p1.toNat < S.length; omega⟩
                    clear hin
                    have HRb : Hid (CntAt w0 we bd (some ⟨b, off, none⟩) S D1 ∧ Fr bd bd w we ∧ Fr bd bd wd we) := ⟨HT2.out, HF1.out.trans (Fr.of_below HBb.out), HFW.out.trans (Fr.of_below HBb.out)⟩
                    go_wp2_with fail
                    go_roundw
                    · exact ⟨⟨k + 1, nn, false, D1, ρ1, M1, by omega, by go_num, rfl, rfl, HRb.out.1, HK1.out, HRb.out.2.1, Hd2.out, Hk1.out, Hk2.out, Hk3.out, (fun h => by cases h), hn0, hn1, fun e g hs hfi hag hun hdg => by exact absurd ((hfi i hi).2 _ HPm.out) hnot⟩, HRb.out.2.2⟩
                    · simp [intOf]; omega
                  · skip
                    clear hin
                    have HRb : Hid (CntAt w0 we bd (some ⟨b, off, none⟩) S D1 ∧ Fr bd bd w we ∧ Fr bd bd wd we) := ⟨HT2.out, HF1.out.trans (Fr.of_below HBb.out), HFW.out.trans (Fr.of_below HBb.out)⟩
                    go_wp2_with fail
                    go_roundw
                    · exact ⟨⟨k + 1, nn, false, D1, ρ1, M1, by omega, by go_num, rfl, rfl, HRb.out.1, HK1.out, HRb.out.2.1, Hd2.out, Hk1.out, Hk2.out, Hk3.out, (fun h => by cases h), hn0, hn1, fun e g hs hfi hag hun hdg => by exact absurd ((hfi i hi).2 _ HPm.out) hnot⟩, HRb.out.2.2⟩
                    · simp [intOf]; omega
                · skip
                  clear hin
                  have HRb : Hid (CntAt w0 we bd (some ⟨b, off, none⟩) S D1 ∧ Fr bd bd w we ∧ Fr bd bd wd we) := ⟨HT2.out, HF1.out.trans (Fr.of_below HBb.out), HFW.out.trans (Fr.of_below HBb.out)⟩
                  go_wp2_with fail
                  go_roundw
                  · exact ⟨⟨k + 1, nn, false, D1, ρ1, M1, by omega, by go_num, rfl, rfl, HRb.out.1, HK1.out, HRb.out.2.1, Hd2.out, Hk1.out, Hk2.out, Hk3.out, (fun h => by cases h), hn0, hn1, fun e g hs hfi hag hun hdg => by exact absurd ((hfi i hi).2 _ HPm.out) hnot⟩, HRb.out.2.2⟩
                  · simp [intOf]; omega
              · skip
                clear hin
                have HRb : Hid (CntAt w0 we bd (some ⟨b, off, none⟩) S D1 ∧ Fr bd bd w we ∧ Fr bd bd wd we) := ⟨HT2.out, HF1.out.trans (Fr.of_below HBb.out), HFW.out.trans (Fr.of_below HBb.out)⟩
                go_wp2_with fail
                go_roundw
                · exact ⟨⟨k + 1, nn, false, D1, ρ1, M1, by omega, by go_num, rfl, rfl, HRb.out.1, HK1.out, HRb.out.2.1, Hd2.out, Hk1.out, Hk2.out, Hk3.out, (fun h => by cases h), hn0, hn1, fun e g hs hfi hag hun hdg => by exact absurd ((hfi i hi).2 _ HPm.out) hnot⟩, HRb.out.2.2⟩
                · simp [intOf]; omega
          | false =>
            have z3 := HT1.out.cell (j := i) (by rw [HK1.out.len]; exact hi)
            have f3 : wr.frozen? ⟨bd, i, none⟩ = false := frozen_of_row wr bd i _ _ HT1.out.row
            have HEnd := hidd (count_end (D := D) (gd := false) (nn := nn) (X := 0) HK1.out hi Hp1.out Hd2.out Hk1.out Hk2.out Hk3.out (fun h => by cases h) ⟨hn0, hn1⟩ (by simp))
            have hse := HT1.out.set i (0)
            have HTe := hidd hse.1
            have HFe := hidd (HF1.out.trans hse.2)
            clear hse HT1 HK1 HF1 Hd2 Hk1 Hk2 Hk3 Hgd HFW hdx t0 t1
            go_wp2_with fail
            go_ret
            obtain ⟨ρ', M', e1, e2, e3, e4, e5, e6, e7, e8⟩ := HEnd.out
            first
            | exact ⟨0, D1.set i (0), ρ', M', rfl, HTe.out, HFe.out, e1, e2, e3, e4, e5, e6, e7, fun e g hs hfi hag hun hdg => e8 e g hs hfi (by have := (Hsan.out e g hs hfi hag hun hdg).1; cases this) (Hsan.out e g hs hfi hag hun hdg).2⟩
            | exact ⟨0, rfl, D1.set i (0), HTe.out, HFe.out, ⟨ρ', M', e1⟩, e2, e3, e4, e5, e6, e7, fun e g hs hfi hag hun hdg => e8 e g hs hfi (by have := (Hsan.out e g hs hfi hag hun hdg).1; cases this) (Hsan.out e g hs hfi hag hun hdg).2⟩
        · have hkz : ¬ (k : Int) < (l.length : Int) := by omega
          have hkl : l.take k = l := List.take_of_length_le (by omega)
          cases gd with
          | true =>
            have z3 := HT1.out.cell (j := i) (by rw [HK1.out.len]; exact hi)
            have f3 : wr.frozen? ⟨bd, i, none⟩ = false := frozen_of_row wr bd i _ _ HT1.out.row
            have HEnd := hidd (count_end (D := D) (gd := true) (nn := nn) (X := nn) HK1.out hi Hp1.out Hd2.out Hk1.out Hk2.out Hk3.out (fun _ => by rw [HAi.out.1, HAi.out.2]; have h := Hgd.out (by first | rfl | trivial); rw [hkl] at h; exact ⟨h.1, h.2.1, h.2.2⟩) ⟨hn0, hn1⟩ (by simp))
            have hse := HT1.out.set i (nn)
            have HTe := hidd hse.1
            have HFe := hidd (HF1.out.trans hse.2)
            clear hse HT1 HK1 HF1 Hd2 Hk1 Hk2 Hk3 Hgd HFW hdx t0 t1
            go_wp2_with fail
            go_ret
            obtain ⟨ρ', M', e1, e2, e3, e4, e5, e6, e7, e8⟩ := HEnd.out
            first
            | exact ⟨nn, D1.set i (nn), ρ', M', rfl, HTe.out, HFe.out, e1, e2, e3, e4, e5, e6, e7, fun e g hs hfi hag hun hdg => e8 e g hs hfi (by first | rfl | trivial) (Hsan.out e g hs hfi hag hun hdg).2⟩
            | exact ⟨nn, rfl, D1.set i (nn), HTe.out, HFe.out, ⟨ρ', M', e1⟩, e2, e3, e4, e5, e6, e7, fun e g hs hfi hag hun hdg => e8 e g hs hfi (by first | rfl | trivial) (Hsan.out e g hs hfi hag hun hdg).2⟩
          | false =>
            have z3 := HT1.out.cell (j := i) (by rw [HK1.out.len]; exact hi)
            have f3 : wr.frozen? ⟨bd, i, none⟩ = false := frozen_of_row wr bd i _ _ HT1.out.row
            have HEnd := hidd (count_end (D := D) (gd := false) (nn := nn) (X := 0) HK1.out hi Hp1.out Hd2.out Hk1.out Hk2.out Hk3.out (fun h => by cases h) ⟨hn0, hn1⟩ (by simp))
            have hse := HT1.out.set i (0)
            have HTe := hidd hse.1
            have HFe := hidd (HF1.out.trans hse.2)
            clear hse HT1 HK1 HF1 Hd2 Hk1 Hk2 Hk3 Hgd HFW hdx t0 t1
            go_wp2_with fail
            go_ret
            obtain ⟨ρ', M', e1, e2, e3, e4, e5, e6, e7, e8⟩ := HEnd.out
            first
            | exact ⟨0, D1.set i (0), ρ', M', rfl, HTe.out, HFe.out, e1, e2, e3, e4, e5, e6, e7, fun e g hs hfi hag hun hdg => e8 e g hs hfi (by have := (Hsan.out e g hs hfi hag hun hdg).1; cases this) (Hsan.out e g hs hfi hag hun hdg).2⟩
            | exact ⟨0, rfl, D1.set i (0), HTe.out, HFe.out, ⟨ρ', M', e1⟩, e2, e3, e4, e5, e6, e7, fun e g hs hfi hag hun hdg => e8 e g hs hfi (by have := (Hsan.out e g hs hfi hag hun hdg).1; cases this) (Hsan.out e g hs hfi hag hun hdg).2⟩
/-- l04Count, at every depth. -/
theorem count_any (hn : S.length ≤ 16384) (hAl : ∀ i, (arcsAt S i).length ≤ 1048576) : ∀ (d depth : Nat), depth + d = 65 → CountC w0 bd aS cS c S depth
  | 0, depth, h => by
    intro i w D ρ M hi hcnt hok
    refine (count_known hi hcnt hok hn (Or.inr (by omega)) _ rfl).mono ?_
    rintro e w' ⟨rfl, hb⟩
    have hdom := hok.dom i hi
    exact ⟨_, D, ρ, M, rfl, hcnt.below hb, Fr.of_below hb, hok, by omega, by omega, fun h => by omega, fun j hj => rfl, fun j hj => hj, fun j hj => hj, fun e g _ _ _ _ hdg => by omega⟩
  | d + 1, depth, h => count_step hn hAl depth (by omega) (count_any hn hAl d (depth + 1) (by omega))
end
end Go.Proofs.Ytbkedgpligcicaa
