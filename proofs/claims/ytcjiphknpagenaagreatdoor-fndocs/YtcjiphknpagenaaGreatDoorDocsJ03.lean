import Derived.Deep.DeepCutAuto
import Derived.Deep.AppendLies
import Derived.Deep.RegionLaw
import Derived.Deep.RegionHeld3
import Derived.Test.YtcjiphknpagenaaGreatDoorDocsJ02
namespace Go.Proofs.YtcjiphknpagenaaGreatDoor
open Go Go.RowKit
set_option linter.unusedVariables false
set_option linter.unusedSimpArgs false
set_option maxRecDepth 100000
set_option maxHeartbeats 16000000
theorem Pz (b : Nat) (ao : Option Addr) (n cap : Nat) (A : Int) (w : World) (hn : n ≤ 1048576) (hA : A ≤ 1000000) (hs : Sx b ao n cap w A) (hcb : ∀ j, j < n → ∃ blk off, ao = some ⟨blk, off, none⟩ ∧ blk < w.heap.size) :
    Calls Tryz.prog 37 #[.pointer (some ⟨b, 0, none⟩)] w (R7 w b ao n cap (A + 60)) := by
  obtain ⟨i0, hi0, hz0, hz1, hz2⟩ := info_parts Tryz.infoSyn
  have HS := aa hs
  have HC := aa hcb
  have hb := hs.lt
  clear hs hcb
  go_enter Tryz.func37, Tryz.ntmps37
  go_wp2_with fail
  have FI : Hid ((w.alloc (.cells #[.bool false, .bool false, .bool false, .slice none 0 0, .slice none 0 0, .int .i64 0, .int .i64 0] 73)).heap[w.heap.size]? = some (.cells #[.bool false, .bool false, .bool false, .slice none 0 0, .slice none 0 0, .int .i64 0, .int .i64 0] 73)) := heap_alloc_new _ _
  have HB0 : Hid (But (fun x => x = b) w (w.alloc (.cells #[.bool false, .bool false, .bool false, .slice none 0 0, .slice none 0 0, .int .i64 0, .int .i64 0] 73))) := (But.refl _ _).alloc _
  have j5 := aa (HS.out.alloc (.cells #[.bool false, .bool false, .bool false, .slice none 0 0, .slice none 0 0, .int .i64 0, .int .i64 0] 73))
  generalize w.alloc (.cells #[.bool false, .bool false, .bool false, .slice none 0 0, .slice none 0 0, .int .i64 0, .int .i64 0] 73) = w1 at *
  refine (pK j5.out hn (by omega) 4 (by omega) (by omega)).mono ?_
  rintro e w2 ⟨x1, rfl, hs2, hb2⟩
  have HS2 := aa hs2
  have HB2 := aa hb2
  clear hs2 hb2
  go_wp2_with fail
  refine (pK HS2.out hn (by omega) 2 (by omega) (by omega)).mono ?_
  rintro e w3 ⟨x2, rfl, hs3, hb3⟩
  have ql := aa hs3
  have HB3 := aa hb3
  clear hs3 hb3
  go_wp2_with fail
  refine (pK ql.out hn (by omega) 10 (by omega) (by omega)).mono ?_
  rintro e w4 ⟨x3, rfl, hs4, hb4⟩
  have EC := aa hs4
  have bU : Hid (But (fun x => x = b) w1 w4) := (HB2.out.trans HB3.out (fun _ _ h => h) (fun _ _ h => h)).trans hb4 (fun _ _ h => h) (fun _ _ h => h)
  clear hs4 hb4
  go_upto_region 2 with fail
  have HD0 : Hid (DA w (w4.alloc (.cells #[.bool !x1, .bool x2, .bool x3, .slice none 0 0, .slice none 0 0, .int .i64 0, .int .i64 0] 73)) b ao n cap (A + 9) w.heap.size w4.heap.size (!x1) x2 x3 none 0 [] (.slice none 0 0) [] 0 0) := by
    have h1 : But (fun x => x = b) w w4 := HB0.out.trans bU.out (fun _ _ h => h) (fun _ _ h => h)
    have hz1 : w.heap.size < w1.heap.size := (Array.getElem?_eq_some_iff.1 FI.out).1
    have Aj := bU.out.size
    have hr : w4.heap[w.heap.size]? = _ := (bU.out.block _ hz1 (by omega)).trans FI.out
    exact ⟨(EC.out.alloc _).mono (by omega), h1.alloc _, ⟨_, (Below.heap_alloc _ _ _ (by omega)).trans hr, rfl⟩, heap_alloc_new _ _, Or.inl rfl, (fun blk off e => by cases e), World.ownsRow_nil _ _ _ _, hb, Nat.le_refl _, by omega, HC.out⟩
  clear HB2 HB3 bU j5 HS2 ql EC FI HB0 HS
  generalize w4.alloc (.cells #[.bool !x1, .bool x2, .bool x3, .slice none 0 0, .slice none 0 0, .int .i64 0, .int .i64 0] 73) = w5 at *
  generalize hBX : w4.heap.size = BX at *
  clear hBX
  generalize (!x1) = fo at *
  go_upto_if 14 with (go_at_call 19; refine (pK HD0.out.src hn (by omega) 2 (by omega) (by omega)).mono ?_; rintro e w6 ⟨x4, rfl, hs6, hb6⟩)
  have HD1 := aa (HD0.out.draw hs6 hb6)
  clear hs6 hb6 HD0
  go_cut [] (fun wy => ∃ aS cS stops, DA w wy b ao n cap (A + 15) w.heap.size BX fo x2 x3 aS cS stops (.slice none 0 0) [] 0 0 ∧ ((aS = none ∧ cS = 0) ∨ stops ≠ []) ∧ stops.length ≤ 4 ∧ ∀ t, t < stops.length → (stops.getD t []).length ≤ 16)
  case first =>
    cases x4 with
    | false =>
      go_wp2_with fail
      go_meet
      case rel =>
        exact ⟨none, 0, [], HD1.out.draw (HD1.out.src.mono (by omega)) (But.refl _ _), Or.inl ⟨rfl, rfl⟩, by simp, fun t ht => absurd ht (by simp)⟩
    | true =>
      have HDt := aa (HD1.out.alloc (.cells #[.string ⟨#[116, 104, 101]⟩, .string ⟨#[111, 102]⟩, .string ⟨#[97]⟩, .string ⟨#[105, 116, 39, 115]⟩] 9))
      have HTt : Hid ((w6.alloc (.cells #[.string ⟨#[116, 104, 101]⟩, .string ⟨#[111, 102]⟩, .string ⟨#[97]⟩, .string ⟨#[105, 116, 39, 115]⟩] 9)).heap[w6.heap.size]? = some (.cells #[.string ⟨#[116, 104, 101]⟩, .string ⟨#[111, 102]⟩, .string ⟨#[97]⟩, .string ⟨#[105, 116, 39, 115]⟩] 9)) := heap_alloc_new _ _
      have afw := HD1.out.size
      go_wp2_with fail
      refine (dx HDt.out.src hn (by omega) 4 (by omega) (by omega)).mono ?_
      rintro e w7 ⟨X, rfl, hX, hs7, iV⟩
      have HD2 := aa (HDt.out.draw hs7 iV)
      have xk : Hid (w7.heap[w6.heap.size]? = some (.cells #[.string ⟨#[116, 104, 101]⟩, .string ⟨#[111, 102]⟩, .string ⟨#[97]⟩, .string ⟨#[105, 116, 39, 115]⟩] 9)) := (iV.block _ (by simp) (by have := HD1.out.bl; have := HD1.out.but.size; omega)).trans HTt.out
      have c3 := ah HD2.out.box 3
      have f3 := frozen_of_row w7 BX 3 _ _ HD2.out.box
      simp at c3
      clear hs7 iV HDt HTt
      have hX2 : X < 4 := by omega
      -- STOPS
      go_wp2_with fail
      go_meet
      case rel =>
        have hlen : ([[116, 104, 101], [111, 102], [97], [105, 116, 39, 115]].take (1 + X) : List (List UInt8)).length = 1 + X := by rw [List.length_take]; simp; omega
        have hget : ∀ t, t < 1 + X → ([[116, 104, 101], [111, 102], [97], [105, 116, 39, 115]].take (1 + X) : List (List UInt8)).getD t [] = [[116, 104, 101], [111, 102], [97], [105, 116, 39, 115]].getD t [] := fun t ht => by
          rw [List.getD_eq_getElem?_getD, List.getElem?_take, if_pos ht, ← List.getD_eq_getElem?_getD]
        have h9 := HD2.out.JM (some ⟨w6.heap.size, 0, none⟩) 4 ([[116, 104, 101], [111, 102], [97], [105, 116, 39, 115]].take (1 + X)) (Or.inr ⟨w6.heap.size, 0, rfl, (Array.getElem?_eq_some_iff.1 xk.out).1, fun t ht => by
          rw [hlen] at ht
          rw [Nat.zero_add, ah xk.out t, hget t ht]
          match t, (show t < 4 by omega) with
          | 0, _ => rfl
          | 1, _ => rfl
          | 2, _ => rfl
          | 3, _ => rfl⟩) (fun blk off e => by cases e; exact afw)
        rw [hlen] at h9
        refine ⟨_, _, _, h9.draw (h9.src.mono (by omega)) (But.refl _ _), Or.inr (fun e => by rw [e] at hlen; simp at hlen; omega), by rw [hlen]; omega, fun t ht => ?_⟩
        rw [hlen] at ht
        rw [hget t ht]
        match t, (show t < 4 by omega) with
        | 0, _ => decide
        | 1, _ => decide
        | 2, _ => decide
        | 3, _ => decide
  case rest =>
    obtain ⟨aS, cS, stops, hD, hne, hsl, hss⟩ := hcut
    have qP := aa hne
    clear hne
    have HD2 := aa hD
    have Av := aa hss
    clear hD hss HD1
    go_upto_region 5 with (go_at_call 38; refine (dx HD2.out.src hn (by omega) 4 (by omega) (by omega)).mono ?_; rintro e w8 ⟨I, rfl, hI, Ux, dY⟩)
    have HD3 := aa (HD2.out.draw Ux dY)
    clear Ux dY HD2
    go_loopw [4] (fun iv wx => ∃ (i : Nat) (vY : Value) (af : List (List UInt8 × List UInt8)), iv = .int .i64 (i : Int) ∧ i ≤ 3 ∧ DA w wx b ao n cap (A + 18 + 3 * (3 - (i : Int))) w.heap.size BX fo x2 x3 aS cS stops vY af 0 0 ∧ af.length ≤ 3 - i ∧ (∀ y ∈ af, y.1.length ≤ 16 ∧ y.2.length ≤ 16) ∧ ∀ blk off, aS = some ⟨blk, off, none⟩ → vY.ownBlock ≠ some blk) (fun iv _ => (intOf iv).toNat)
    case atStart => exact ⟨I, _, [], rfl, by omega, HD3.out.draw (HD3.out.src.mono (by omega)) (But.refl _ _), by simp, (fun y hy => by simp at hy), (fun blk off e h => by cases h)⟩
    case round =>
      obtain ⟨i, vY, af, rfl, hi3, hD, hsy, hsz, hsep⟩ := hrel
      have HD4 := aa hD
      have uK := aa hsz
      have xS := aa hsep
      clear hD hsz hsep HD3
      by_cases hi : 0 < i
      · have hiz : (0 : Int) < (i : Int) := by omega
        go_upto_region 7 with fail
        have Em := aa (Yg HD4.out.syn)
        have EI : Hid (DA w ({ heap := wr.heap, tape := wr.tape, drawn := wr.drawn + 1, os := wr.os, output := wr.output } : World) b ao n cap (A + 18 + 3 * (3 - (i : Int))) w.heap.size BX fo x2 x3 aS cS stops vY af 0 0) := HD4.out.draw (HD4.out.src.below (below_drewN (Below.refl _ _) 1)) (But.of_below (below_drewN (Below.refl _ _) 1))
        refine wp_region_held (S := fun _ => True) (by kernel_rfl) ?_
        generalize ({ heap := wr.heap, tape := wr.tape, drawn := wr.drawn + 1, os := wr.os, output := wr.output } : World) = wd at *
        try refine tn ?_
        refine tx 0 ?_
        refine tx 2 ?_
        refine tx 3 ?_
        refine tx 4 ?_
        refine tx 5 ?_
        refine tx 6 ?_
        refine tx 8 ?_
        refine LV 1 7 9 (by kernel_rfl) ?_ ?_ ?_
        · refine aU vY _ rfl (by kernel_rfl) (jO _ _ _ _ rfl BX 4 vY Em.out (by kernel_rfl) (ah EI.out.box 4)) ?_
          refine ⟨trivial, ?_⟩
          try refine tn ?_
          refine lV 7 9 (by kernel_rfl) ?_ ?_
          · refine aU (.slice (some ⟨wd.heap.size, 0, none⟩) 5 5) (wd.alloc (.cells #[.string ⟨#[99, 97, 116]⟩, .string ⟨#[102, 101, 108, 105, 110, 101]⟩, .string ⟨#[114, 117, 110]⟩, .string ⟨#[114, 117, 110, 110, 105, 110, 103]⟩, .string ⟨#[104, 111, 117, 115, 101]⟩, .string ⟨#[104, 111, 109, 101]⟩, .string ⟨#[113, 117, 105, 99, 107]⟩, .string ⟨#[102, 97, 115, 116]⟩, .string ⟨#[114, 117, 110, 110, 105, 110, 103]⟩, .string ⟨#[106, 111, 103]⟩] 114)) rfl (by kernel_rfl) (qm _ _ _ _ _ _ _ _ rfl _ _ _ _ _ _ _ _ _ _ (by kernel_rfl) (by kernel_rfl) (by kernel_rfl) (by kernel_rfl) (by kernel_rfl)) ?_
            refine ⟨trivial, ?_⟩
            try refine tn ?_
            have HT2 : Hid ((wd.alloc (.cells #[.string ⟨#[99, 97, 116]⟩, .string ⟨#[102, 101, 108, 105, 110, 101]⟩, .string ⟨#[114, 117, 110]⟩, .string ⟨#[114, 117, 110, 110, 105, 110, 103]⟩, .string ⟨#[104, 111, 117, 115, 101]⟩, .string ⟨#[104, 111, 109, 101]⟩, .string ⟨#[113, 117, 105, 99, 107]⟩, .string ⟨#[102, 97, 115, 116]⟩, .string ⟨#[114, 117, 110, 110, 105, 110, 103]⟩, .string ⟨#[106, 111, 103]⟩] 114)).heap[wd.heap.size]? = some (.cells #[.string ⟨#[99, 97, 116]⟩, .string ⟨#[102, 101, 108, 105, 110, 101]⟩, .string ⟨#[114, 117, 110]⟩, .string ⟨#[114, 117, 110, 110, 105, 110, 103]⟩, .string ⟨#[104, 111, 117, 115, 101]⟩, .string ⟨#[104, 111, 109, 101]⟩, .string ⟨#[113, 117, 105, 99, 107]⟩, .string ⟨#[102, 97, 115, 116]⟩, .string ⟨#[114, 117, 110, 110, 105, 110, 103]⟩, .string ⟨#[106, 111, 103]⟩] 114)) := heap_alloc_new _ _
            have HZ2 : Hid (BX < wd.heap.size) := EI.out.size
            have HE2 := aa (EI.out.alloc (.cells #[.string ⟨#[99, 97, 116]⟩, .string ⟨#[102, 101, 108, 105, 110, 101]⟩, .string ⟨#[114, 117, 110]⟩, .string ⟨#[114, 117, 110, 110, 105, 110, 103]⟩, .string ⟨#[104, 111, 117, 115, 101]⟩, .string ⟨#[104, 111, 109, 101]⟩, .string ⟨#[113, 117, 105, 99, 107]⟩, .string ⟨#[102, 97, 115, 116]⟩, .string ⟨#[114, 117, 110, 110, 105, 110, 103]⟩, .string ⟨#[106, 111, 103]⟩] 114))
            generalize wd.alloc (.cells #[.string ⟨#[99, 97, 116]⟩, .string ⟨#[102, 101, 108, 105, 110, 101]⟩, .string ⟨#[114, 117, 110]⟩, .string ⟨#[114, 117, 110, 110, 105, 110, 103]⟩, .string ⟨#[104, 111, 117, 115, 101]⟩, .string ⟨#[104, 111, 109, 101]⟩, .string ⟨#[113, 117, 105, 99, 107]⟩, .string ⟨#[102, 97, 115, 116]⟩, .string ⟨#[114, 117, 110, 110, 105, 110, 103]⟩, .string ⟨#[106, 111, 103]⟩] 114) = wa2 at *
            generalize wd.heap.size = T2 at *
            refine aH 9 (by kernel_rfl) ?_
            · refine bI 38 #[.pointer (some ⟨b, 0, none⟩), .int .i64 5] rfl (by kernel_rfl) (bK _ _ _ _ _ _ _ _ rfl _ _ (by kernel_rfl) (by kernel_rfl) (Tryz.call38 _ _)) ?_
              refine (dx HE2.out.src hn (by omega) 5 (by omega) (by omega)).mono ?_
              rintro e' J6 ⟨X, rfl, hX, hsx, hbx⟩
              have HE3 := aa (HE2.out.draw hsx hbx)
              have HT3 : Hid (J6.heap[T2]? = some (.cells #[.string ⟨#[99, 97, 116]⟩, .string ⟨#[102, 101, 108, 105, 110, 101]⟩, .string ⟨#[114, 117, 110]⟩, .string ⟨#[114, 117, 110, 110, 105, 110, 103]⟩, .string ⟨#[104, 111, 117, 115, 101]⟩, .string ⟨#[104, 111, 109, 101]⟩, .string ⟨#[113, 117, 105, 99, 107]⟩, .string ⟨#[102, 97, 115, 116]⟩, .string ⟨#[114, 117, 110, 110, 105, 110, 103]⟩, .string ⟨#[106, 111, 103]⟩] 114)) := (hbx.block _ (Array.getElem?_eq_some_iff.1 HT2.out).1 (by have := HZ2.out; have := HD4.out.bl; have := HD4.out.xl; have := HD4.out.rl; omega)).trans HT2.out
              clear hsx hbx
              refine ⟨trivial, ?_⟩
              try refine tn ?_
              refine wpAnyH_take (i := 10) (v := .pointer (some ⟨T2, X * 2, none⟩)) rfl (by kernel_rfl) (by kernel_rfl) (by kernel_rfl) (fun _ _ _ h => h) (Or.inl ⟨by kernel_rfl, fun W hW => oz W _ _ _ _ rfl T2 X (by kernel_rfl) (by kernel_rfl) (by omega)⟩) trivial ?_
              try refine tn ?_
              refine aH 11 (by kernel_rfl) ?_
              · obtain ⟨y, hy0, hy1, hyl⟩ := ug HT3.out X (by omega)
                refine aU (.agg #[.string (bs y.1), .string (bs y.2)]) _ rfl (by kernel_rfl) (lN _ _ _ _ rfl T2 (X * 2) _ _ (by kernel_rfl) hy0 hy1) ?_
                refine ⟨trivial, ?_⟩
                clear hy0 hy1
                try refine tn ?_
                refine aH 12 (by kernel_rfl) ?_
                · refine aU (.slice (some ⟨J6.heap.size, 0, none⟩) 1 1) (J6.alloc (.cells #[.string (bs y.1), .string (bs y.2)] 114)) rfl (by kernel_rfl) (iW _ _ _ _ rfl _ _ (by kernel_rfl)) ?_
                  refine ⟨trivial, ?_⟩
                  try refine tn ?_
                  have HN5 : Hid ((J6.alloc (.cells #[.string (bs y.1), .string (bs y.2)] 114)).heap[J6.heap.size]? = some (.cells #[.string (bs y.1), .string (bs y.2)] 114)) := heap_alloc_new _ _
                  have R5 := aa (HE3.out.alloc (.cells #[.string (bs y.1), .string (bs y.2)] 114))
                  generalize J6.alloc (.cells #[.string (bs y.1), .string (bs y.2)] 114) = wc5 at *
                  generalize J6.heap.size = N5 at *
                  have hbz := R5.out.size
                  refine aH 13 (by kernel_rfl) ?_
                  refine jF rfl (by kernel_rfl) (wp_append_lies _ (.tmp 28) (.tmp 39) 71 rfl (BX + 1) 114 i0 (.agg #[.string ⟨#[]⟩, .string ⟨#[]⟩]) 2 32 Tryz.underlying71 hi0 hz0 hz1 hz2 rfl (by decide) vY _ _ (by kernel_rfl) R5.out.syn ⟨N5, 0, none⟩ 1 1 [.string (bs y.1), .string (bs y.2)] (by kernel_rfl) rfl (World.news_of_block HN5.out) (by intro v hv; simp at hv; rcases hv with rfl | rfl <;> rfl) (by omega) (by unfold maxLen; omega) (by omega) (by omega) _ rfl ?_)
                  intro g6 bL iD hown hgrow hat hlt
                  refine ⟨trivial, ?_⟩
                  try refine tn ?_
                  have HF := aa (R5.out.more (qP.out.imp And.left id) xS.out hown hgrow hat)
                  have bq : Hid (iD.heap[BX]? = _) := (hgrow.block BX hbz (fun e => by have := (fA R5.out.syn BX e.symm).1; omega)).trans R5.out.box
                  clear hown hgrow hat hlt
                  refine tx 14 ?_
                  refine aH 15 (by kernel_rfl) ?_
                  refine ek (iD.setCell ⟨BX, 4, none⟩ (.slice (some ⟨g6, 0, none⟩) (af.length + 1) bL)) rfl (by kernel_rfl) (iy _ _ _ _ _ rfl BX 4 _ _ _ vY (by kernel_rfl) (by kernel_rfl) (ah bq.out 4) (aC bq.out 4)) ?_
                  refine ⟨trivial, ?_⟩
                  try refine tn ?_
                  refine wpAnyH_done (by kernel_rfl) ?_ _
                  clear bq
                  generalize iD.setCell ⟨BX, 4, none⟩ (.slice (some ⟨g6, 0, none⟩) (af.length + 1) bL) = EU at *
                  go_wp2_with fail
                  refine ⟨⟨i - 1, _, af ++ [y], by rw [show ((i - 1 : Nat) : Int) = (i : Int) - 1 by omega], by omega, HF.out.1.draw (HF.out.1.src.mono (by omega)) (But.refl _ _), by rw [List.length_append, List.length_singleton]; omega, ?_, HF.out.2⟩, by simp [intOf]; omega⟩
                  intro z hz
                  rcases List.mem_append.1 hz with hz | hz
                  · exact uK.out z hz
                  · rw [List.mem_singleton] at hz; rw [hz]; exact hyl
          · refine bI 38 #[.pointer (some ⟨b, 0, none⟩), .int .i64 5] rfl (by kernel_rfl) (bK _ _ _ _ _ _ _ _ rfl _ _ (by kernel_rfl) (by kernel_rfl) (Tryz.call38 _ _)) ?_
            refine (dx EI.out.src hn (by omega) 5 (by omega) (by omega)).mono ?_
            rintro e' Kv ⟨X, rfl, hX, hsx, hbx⟩
            have HE6 := aa (EI.out.draw hsx hbx)
            clear hsx hbx
            refine ⟨trivial, ?_⟩
            try refine tn ?_
            refine aH 7 (by kernel_rfl) ?_
            · refine aU (.slice (some ⟨Kv.heap.size, 0, none⟩) 5 5) (Kv.alloc (.cells #[.string ⟨#[99, 97, 116]⟩, .string ⟨#[102, 101, 108, 105, 110, 101]⟩, .string ⟨#[114, 117, 110]⟩, .string ⟨#[114, 117, 110, 110, 105, 110, 103]⟩, .string ⟨#[104, 111, 117, 115, 101]⟩, .string ⟨#[104, 111, 109, 101]⟩, .string ⟨#[113, 117, 105, 99, 107]⟩, .string ⟨#[102, 97, 115, 116]⟩, .string ⟨#[114, 117, 110, 110, 105, 110, 103]⟩, .string ⟨#[106, 111, 103]⟩] 114)) rfl (by kernel_rfl) (qm _ _ _ _ _ _ _ _ rfl _ _ _ _ _ _ _ _ _ _ (by kernel_rfl) (by kernel_rfl) (by kernel_rfl) (by kernel_rfl) (by kernel_rfl)) ?_
              refine ⟨trivial, ?_⟩
              try refine tn ?_
              have xk : Hid ((Kv.alloc (.cells #[.string ⟨#[99, 97, 116]⟩, .string ⟨#[102, 101, 108, 105, 110, 101]⟩, .string ⟨#[114, 117, 110]⟩, .string ⟨#[114, 117, 110, 110, 105, 110, 103]⟩, .string ⟨#[104, 111, 117, 115, 101]⟩, .string ⟨#[104, 111, 109, 101]⟩, .string ⟨#[113, 117, 105, 99, 107]⟩, .string ⟨#[102, 97, 115, 116]⟩, .string ⟨#[114, 117, 110, 110, 105, 110, 103]⟩, .string ⟨#[106, 111, 103]⟩] 114)).heap[Kv.heap.size]? = some (.cells #[.string ⟨#[99, 97, 116]⟩, .string ⟨#[102, 101, 108, 105, 110, 101]⟩, .string ⟨#[114, 117, 110]⟩, .string ⟨#[114, 117, 110, 110, 105, 110, 103]⟩, .string ⟨#[104, 111, 117, 115, 101]⟩, .string ⟨#[104, 111, 109, 101]⟩, .string ⟨#[113, 117, 105, 99, 107]⟩, .string ⟨#[102, 97, 115, 116]⟩, .string ⟨#[114, 117, 110, 110, 105, 110, 103]⟩, .string ⟨#[106, 111, 103]⟩] 114)) := heap_alloc_new _ _
              have HZ7 : Hid (BX < Kv.heap.size) := HE6.out.size
              have HE7 := aa (HE6.out.alloc (.cells #[.string ⟨#[99, 97, 116]⟩, .string ⟨#[102, 101, 108, 105, 110, 101]⟩, .string ⟨#[114, 117, 110]⟩, .string ⟨#[114, 117, 110, 110, 105, 110, 103]⟩, .string ⟨#[104, 111, 117, 115, 101]⟩, .string ⟨#[104, 111, 109, 101]⟩, .string ⟨#[113, 117, 105, 99, 107]⟩, .string ⟨#[102, 97, 115, 116]⟩, .string ⟨#[114, 117, 110, 110, 105, 110, 103]⟩, .string ⟨#[106, 111, 103]⟩] 114))
              generalize Kv.alloc (.cells #[.string ⟨#[99, 97, 116]⟩, .string ⟨#[102, 101, 108, 105, 110, 101]⟩, .string ⟨#[114, 117, 110]⟩, .string ⟨#[114, 117, 110, 110, 105, 110, 103]⟩, .string ⟨#[104, 111, 117, 115, 101]⟩, .string ⟨#[104, 111, 109, 101]⟩, .string ⟨#[113, 117, 105, 99, 107]⟩, .string ⟨#[102, 97, 115, 116]⟩, .string ⟨#[114, 117, 110, 110, 105, 110, 103]⟩, .string ⟨#[106, 111, 103]⟩] 114) = Ot at *
              generalize Kv.heap.size = T7 at *
              refine wpAnyH_take (i := 10) (v := .pointer (some ⟨T7, X * 2, none⟩)) rfl (by kernel_rfl) (by kernel_rfl) (by kernel_rfl) (fun _ _ _ h => h) (Or.inl ⟨by kernel_rfl, fun W hW => oz W _ _ _ _ rfl T7 X (by kernel_rfl) (by kernel_rfl) (by omega)⟩) trivial ?_
              try refine tn ?_
              refine aH 11 (by kernel_rfl) ?_
              · obtain ⟨y, hy0, hy1, hyl⟩ := ug xk.out X (by omega)
                refine aU (.agg #[.string (bs y.1), .string (bs y.2)]) _ rfl (by kernel_rfl) (lN _ _ _ _ rfl T7 (X * 2) _ _ (by kernel_rfl) hy0 hy1) ?_
                refine ⟨trivial, ?_⟩
                clear hy0 hy1
                try refine tn ?_
                refine aH 12 (by kernel_rfl) ?_
                · refine aU (.slice (some ⟨Ot.heap.size, 0, none⟩) 1 1) (Ot.alloc (.cells #[.string (bs y.1), .string (bs y.2)] 114)) rfl (by kernel_rfl) (iW _ _ _ _ rfl _ _ (by kernel_rfl)) ?_
                  refine ⟨trivial, ?_⟩
                  try refine tn ?_
                  have HN9 : Hid ((Ot.alloc (.cells #[.string (bs y.1), .string (bs y.2)] 114)).heap[Ot.heap.size]? = some (.cells #[.string (bs y.1), .string (bs y.2)] 114)) := heap_alloc_new _ _
                  have TQ := aa (HE7.out.alloc (.cells #[.string (bs y.1), .string (bs y.2)] 114))
                  generalize Ot.alloc (.cells #[.string (bs y.1), .string (bs y.2)] 114) = wc9 at *
                  generalize Ot.heap.size = N9 at *
                  have hbz := TQ.out.size
                  refine aH 13 (by kernel_rfl) ?_
                  refine jF rfl (by kernel_rfl) (wp_append_lies _ (.tmp 28) (.tmp 39) 71 rfl (BX + 1) 114 i0 (.agg #[.string ⟨#[]⟩, .string ⟨#[]⟩]) 2 32 Tryz.underlying71 hi0 hz0 hz1 hz2 rfl (by decide) vY _ _ (by kernel_rfl) TQ.out.syn ⟨N9, 0, none⟩ 1 1 [.string (bs y.1), .string (bs y.2)] (by kernel_rfl) rfl (World.news_of_block HN9.out) (by intro v hv; simp at hv; rcases hv with rfl | rfl <;> rfl) (by omega) (by unfold maxLen; omega) (by omega) (by omega) _ rfl ?_)
                  intro g6 bL iD hown hgrow hat hlt
                  refine ⟨trivial, ?_⟩
                  try refine tn ?_
                  have HF := aa (TQ.out.more (qP.out.imp And.left id) xS.out hown hgrow hat)
                  have bq : Hid (iD.heap[BX]? = _) := (hgrow.block BX hbz (fun e => by have := (fA TQ.out.syn BX e.symm).1; omega)).trans TQ.out.box
                  clear hown hgrow hat hlt
                  refine tx 14 ?_
                  refine aH 15 (by kernel_rfl) ?_
                  refine ek (iD.setCell ⟨BX, 4, none⟩ (.slice (some ⟨g6, 0, none⟩) (af.length + 1) bL)) rfl (by kernel_rfl) (iy _ _ _ _ _ rfl BX 4 _ _ _ vY (by kernel_rfl) (by kernel_rfl) (ah bq.out 4) (aC bq.out 4)) ?_
                  refine ⟨trivial, ?_⟩
                  try refine tn ?_
                  refine wpAnyH_done (by kernel_rfl) ?_ _
                  clear bq
                  generalize iD.setCell ⟨BX, 4, none⟩ (.slice (some ⟨g6, 0, none⟩) (af.length + 1) bL) = EU at *
                  go_wp2_with fail
                  refine ⟨⟨i - 1, _, af ++ [y], by rw [show ((i - 1 : Nat) : Int) = (i : Int) - 1 by omega], by omega, HF.out.1.draw (HF.out.1.src.mono (by omega)) (But.refl _ _), by rw [List.length_append, List.length_singleton]; omega, ?_, HF.out.2⟩, by simp [intOf]; omega⟩
                  intro z hz
                  rcases List.mem_append.1 hz with hz | hz
                  · exact uK.out z hz
                  · rw [List.mem_singleton] at hz; rw [hz]; exact hyl
        · refine aU (.slice (some ⟨wd.heap.size, 0, none⟩) 5 5) (wd.alloc (.cells #[.string ⟨#[99, 97, 116]⟩, .string ⟨#[102, 101, 108, 105, 110, 101]⟩, .string ⟨#[114, 117, 110]⟩, .string ⟨#[114, 117, 110, 110, 105, 110, 103]⟩, .string ⟨#[104, 111, 117, 115, 101]⟩, .string ⟨#[104, 111, 109, 101]⟩, .string ⟨#[113, 117, 105, 99, 107]⟩, .string ⟨#[102, 97, 115, 116]⟩, .string ⟨#[114, 117, 110, 110, 105, 110, 103]⟩, .string ⟨#[106, 111, 103]⟩] 114)) rfl (by kernel_rfl) (qm _ _ _ _ _ _ _ _ rfl _ _ _ _ _ _ _ _ _ _ (by kernel_rfl) (by kernel_rfl) (by kernel_rfl) (by kernel_rfl) (by kernel_rfl)) ?_
          refine ⟨trivial, ?_⟩
          try refine tn ?_
          have P9 : Hid ((wd.alloc (.cells #[.string ⟨#[99, 97, 116]⟩, .string ⟨#[102, 101, 108, 105, 110, 101]⟩, .string ⟨#[114, 117, 110]⟩, .string ⟨#[114, 117, 110, 110, 105, 110, 103]⟩, .string ⟨#[104, 111, 117, 115, 101]⟩, .string ⟨#[104, 111, 109, 101]⟩, .string ⟨#[113, 117, 105, 99, 107]⟩, .string ⟨#[102, 97, 115, 116]⟩, .string ⟨#[114, 117, 110, 110, 105, 110, 103]⟩, .string ⟨#[106, 111, 103]⟩] 114)).heap[wd.heap.size]? = some (.cells #[.string ⟨#[99, 97, 116]⟩, .string ⟨#[102, 101, 108, 105, 110, 101]⟩, .string ⟨#[114, 117, 110]⟩, .string ⟨#[114, 117, 110, 110, 105, 110, 103]⟩, .string ⟨#[104, 111, 117, 115, 101]⟩, .string ⟨#[104, 111, 109, 101]⟩, .string ⟨#[113, 117, 105, 99, 107]⟩, .string ⟨#[102, 97, 115, 116]⟩, .string ⟨#[114, 117, 110, 110, 105, 110, 103]⟩, .string ⟨#[106, 111, 103]⟩] 114)) := heap_alloc_new _ _
          have Z5 : Hid (BX < wd.heap.size) := EI.out.size
          have Mq := aa (EI.out.alloc (.cells #[.string ⟨#[99, 97, 116]⟩, .string ⟨#[102, 101, 108, 105, 110, 101]⟩, .string ⟨#[114, 117, 110]⟩, .string ⟨#[114, 117, 110, 110, 105, 110, 103]⟩, .string ⟨#[104, 111, 117, 115, 101]⟩, .string ⟨#[104, 111, 109, 101]⟩, .string ⟨#[113, 117, 105, 99, 107]⟩, .string ⟨#[102, 97, 115, 116]⟩, .string ⟨#[114, 117, 110, 110, 105, 110, 103]⟩, .string ⟨#[106, 111, 103]⟩] 114))
          generalize wd.alloc (.cells #[.string ⟨#[99, 97, 116]⟩, .string ⟨#[102, 101, 108, 105, 110, 101]⟩, .string ⟨#[114, 117, 110]⟩, .string ⟨#[114, 117, 110, 110, 105, 110, 103]⟩, .string ⟨#[104, 111, 117, 115, 101]⟩, .string ⟨#[104, 111, 109, 101]⟩, .string ⟨#[113, 117, 105, 99, 107]⟩, .string ⟨#[102, 97, 115, 116]⟩, .string ⟨#[114, 117, 110, 110, 105, 110, 103]⟩, .string ⟨#[106, 111, 103]⟩] 114) = aiT at *
          generalize wd.heap.size = EM at *
          refine lV 1 9 (by kernel_rfl) ?_ ?_
          · refine aU vY _ rfl (by kernel_rfl) (jO _ _ _ _ rfl BX 4 vY Em.out (by kernel_rfl) (ah Mq.out.box 4)) ?_
            refine ⟨trivial, ?_⟩
            try refine tn ?_
            refine aH 9 (by kernel_rfl) ?_
            · refine bI 38 #[.pointer (some ⟨b, 0, none⟩), .int .i64 5] rfl (by kernel_rfl) (bK _ _ _ _ _ _ _ _ rfl _ _ (by kernel_rfl) (by kernel_rfl) (Tryz.call38 _ _)) ?_
              refine (dx Mq.out.src hn (by omega) 5 (by omega) (by omega)).mono ?_
              rintro e' Ed ⟨X, rfl, hX, hsx, hbx⟩
              have agc := aa (Mq.out.draw hsx hbx)
              have afW : Hid (Ed.heap[EM]? = some (.cells #[.string ⟨#[99, 97, 116]⟩, .string ⟨#[102, 101, 108, 105, 110, 101]⟩, .string ⟨#[114, 117, 110]⟩, .string ⟨#[114, 117, 110, 110, 105, 110, 103]⟩, .string ⟨#[104, 111, 117, 115, 101]⟩, .string ⟨#[104, 111, 109, 101]⟩, .string ⟨#[113, 117, 105, 99, 107]⟩, .string ⟨#[102, 97, 115, 116]⟩, .string ⟨#[114, 117, 110, 110, 105, 110, 103]⟩, .string ⟨#[106, 111, 103]⟩] 114)) := (hbx.block _ (Array.getElem?_eq_some_iff.1 P9.out).1 (by have := Z5.out; have := HD4.out.bl; have := HD4.out.xl; have := HD4.out.rl; omega)).trans P9.out
              clear hsx hbx
              refine ⟨trivial, ?_⟩
              try refine tn ?_
              refine wpAnyH_take (i := 10) (v := .pointer (some ⟨EM, X * 2, none⟩)) rfl (by kernel_rfl) (by kernel_rfl) (by kernel_rfl) (fun _ _ _ h => h) (Or.inl ⟨by kernel_rfl, fun W hW => oz W _ _ _ _ rfl EM X (by kernel_rfl) (by kernel_rfl) (by omega)⟩) trivial ?_
              try refine tn ?_
              refine aH 11 (by kernel_rfl) ?_
              · obtain ⟨y, hy0, hy1, hyl⟩ := ug afW.out X (by omega)
                refine aU (.agg #[.string (bs y.1), .string (bs y.2)]) _ rfl (by kernel_rfl) (lN _ _ _ _ rfl EM (X * 2) _ _ (by kernel_rfl) hy0 hy1) ?_
                refine ⟨trivial, ?_⟩
                clear hy0 hy1
                try refine tn ?_
                refine aH 12 (by kernel_rfl) ?_
                · refine aU (.slice (some ⟨Ed.heap.size, 0, none⟩) 1 1) (Ed.alloc (.cells #[.string (bs y.1), .string (bs y.2)] 114)) rfl (by kernel_rfl) (iW _ _ _ _ rfl _ _ (by kernel_rfl)) ?_
                  refine ⟨trivial, ?_⟩
                  try refine tn ?_
                  have agh : Hid ((Ed.alloc (.cells #[.string (bs y.1), .string (bs y.2)] 114)).heap[Ed.heap.size]? = some (.cells #[.string (bs y.1), .string (bs y.2)] 114)) := heap_alloc_new _ _
                  have J9 := aa (agc.out.alloc (.cells #[.string (bs y.1), .string (bs y.2)] 114))
                  generalize Ed.alloc (.cells #[.string (bs y.1), .string (bs y.2)] 114) = ai0 at *
                  generalize Ed.heap.size = N14 at *
                  have hbz := J9.out.size
                  refine aH 13 (by kernel_rfl) ?_
                  refine jF rfl (by kernel_rfl) (wp_append_lies _ (.tmp 28) (.tmp 39) 71 rfl (BX + 1) 114 i0 (.agg #[.string ⟨#[]⟩, .string ⟨#[]⟩]) 2 32 Tryz.underlying71 hi0 hz0 hz1 hz2 rfl (by decide) vY _ _ (by kernel_rfl) J9.out.syn ⟨N14, 0, none⟩ 1 1 [.string (bs y.1), .string (bs y.2)] (by kernel_rfl) rfl (World.news_of_block agh.out) (by intro v hv; simp at hv; rcases hv with rfl | rfl <;> rfl) (by omega) (by unfold maxLen; omega) (by omega) (by omega) _ rfl ?_)
                  intro g6 bL iD hown hgrow hat hlt
                  refine ⟨trivial, ?_⟩
                  try refine tn ?_
                  have HF := aa (J9.out.more (qP.out.imp And.left id) xS.out hown hgrow hat)
                  have bq : Hid (iD.heap[BX]? = _) := (hgrow.block BX hbz (fun e => by have := (fA J9.out.syn BX e.symm).1; omega)).trans J9.out.box
                  clear hown hgrow hat hlt
                  refine tx 14 ?_
                  refine aH 15 (by kernel_rfl) ?_
                  refine ek (iD.setCell ⟨BX, 4, none⟩ (.slice (some ⟨g6, 0, none⟩) (af.length + 1) bL)) rfl (by kernel_rfl) (iy _ _ _ _ _ rfl BX 4 _ _ _ vY (by kernel_rfl) (by kernel_rfl) (ah bq.out 4) (aC bq.out 4)) ?_
                  refine ⟨trivial, ?_⟩
                  try refine tn ?_
                  refine wpAnyH_done (by kernel_rfl) ?_ _
                  clear bq
                  generalize iD.setCell ⟨BX, 4, none⟩ (.slice (some ⟨g6, 0, none⟩) (af.length + 1) bL) = EU at *
                  go_wp2_with fail
                  refine ⟨⟨i - 1, _, af ++ [y], by rw [show ((i - 1 : Nat) : Int) = (i : Int) - 1 by omega], by omega, HF.out.1.draw (HF.out.1.src.mono (by omega)) (But.refl _ _), by rw [List.length_append, List.length_singleton]; omega, ?_, HF.out.2⟩, by simp [intOf]; omega⟩
                  intro z hz
                  rcases List.mem_append.1 hz with hz | hz
                  · exact uK.out z hz
                  · rw [List.mem_singleton] at hz; rw [hz]; exact hyl
          · refine bI 38 #[.pointer (some ⟨b, 0, none⟩), .int .i64 5] rfl (by kernel_rfl) (bK _ _ _ _ _ _ _ _ rfl _ _ (by kernel_rfl) (by kernel_rfl) (Tryz.call38 _ _)) ?_
            refine (dx Mq.out.src hn (by omega) 5 (by omega) (by omega)).mono ?_
            rintro e' nP ⟨X, rfl, hX, hsx, hbx⟩
            have KV := aa (Mq.out.draw hsx hbx)
            have aaJ : Hid (nP.heap[EM]? = some (.cells #[.string ⟨#[99, 97, 116]⟩, .string ⟨#[102, 101, 108, 105, 110, 101]⟩, .string ⟨#[114, 117, 110]⟩, .string ⟨#[114, 117, 110, 110, 105, 110, 103]⟩, .string ⟨#[104, 111, 117, 115, 101]⟩, .string ⟨#[104, 111, 109, 101]⟩, .string ⟨#[113, 117, 105, 99, 107]⟩, .string ⟨#[102, 97, 115, 116]⟩, .string ⟨#[114, 117, 110, 110, 105, 110, 103]⟩, .string ⟨#[106, 111, 103]⟩] 114)) := (hbx.block _ (Array.getElem?_eq_some_iff.1 P9.out).1 (by have := Z5.out; have := HD4.out.bl; have := HD4.out.xl; have := HD4.out.rl; omega)).trans P9.out
            clear hsx hbx
            refine ⟨trivial, ?_⟩
            try refine tn ?_
            refine wpAnyH_take (i := 10) (v := .pointer (some ⟨EM, X * 2, none⟩)) rfl (by kernel_rfl) (by kernel_rfl) (by kernel_rfl) (fun _ _ _ h => h) (Or.inl ⟨by kernel_rfl, fun W hW => oz W _ _ _ _ rfl EM X (by kernel_rfl) (by kernel_rfl) (by omega)⟩) trivial ?_
            try refine tn ?_
            refine lV 1 11 (by kernel_rfl) ?_ ?_
            · refine aU vY _ rfl (by kernel_rfl) (jO _ _ _ _ rfl BX 4 vY Em.out (by kernel_rfl) (ah KV.out.box 4)) ?_
              refine ⟨trivial, ?_⟩
              try refine tn ?_
              refine aH 11 (by kernel_rfl) ?_
              · obtain ⟨y, hy0, hy1, hyl⟩ := ug aaJ.out X (by omega)
                refine aU (.agg #[.string (bs y.1), .string (bs y.2)]) _ rfl (by kernel_rfl) (lN _ _ _ _ rfl EM (X * 2) _ _ (by kernel_rfl) hy0 hy1) ?_
                refine ⟨trivial, ?_⟩
                clear hy0 hy1
                try refine tn ?_
                refine aH 12 (by kernel_rfl) ?_
                · refine aU (.slice (some ⟨nP.heap.size, 0, none⟩) 1 1) (nP.alloc (.cells #[.string (bs y.1), .string (bs y.2)] 114)) rfl (by kernel_rfl) (iW _ _ _ _ rfl _ _ (by kernel_rfl)) ?_
                  refine ⟨trivial, ?_⟩
                  try refine tn ?_
                  have afm : Hid ((nP.alloc (.cells #[.string (bs y.1), .string (bs y.2)] 114)).heap[nP.heap.size]? = some (.cells #[.string (bs y.1), .string (bs y.2)] 114)) := heap_alloc_new _ _
                  have KD := aa (KV.out.alloc (.cells #[.string (bs y.1), .string (bs y.2)] 114))
                  generalize nP.alloc (.cells #[.string (bs y.1), .string (bs y.2)] 114) = ajk at *
                  generalize nP.heap.size = N18 at *
                  have hbz := KD.out.size
                  refine aH 13 (by kernel_rfl) ?_
                  refine jF rfl (by kernel_rfl) (wp_append_lies _ (.tmp 28) (.tmp 39) 71 rfl (BX + 1) 114 i0 (.agg #[.string ⟨#[]⟩, .string ⟨#[]⟩]) 2 32 Tryz.underlying71 hi0 hz0 hz1 hz2 rfl (by decide) vY _ _ (by kernel_rfl) KD.out.syn ⟨N18, 0, none⟩ 1 1 [.string (bs y.1), .string (bs y.2)] (by kernel_rfl) rfl (World.news_of_block afm.out) (by intro v hv; simp at hv; rcases hv with rfl | rfl <;> rfl) (by omega) (by unfold maxLen; omega) (by omega) (by omega) _ rfl ?_)
                  intro g6 bL iD hown hgrow hat hlt
                  refine ⟨trivial, ?_⟩
                  try refine tn ?_
                  have HF := aa (KD.out.more (qP.out.imp And.left id) xS.out hown hgrow hat)
                  have bq : Hid (iD.heap[BX]? = _) := (hgrow.block BX hbz (fun e => by have := (fA KD.out.syn BX e.symm).1; omega)).trans KD.out.box
                  clear hown hgrow hat hlt
                  refine tx 14 ?_
                  refine aH 15 (by kernel_rfl) ?_
                  refine ek (iD.setCell ⟨BX, 4, none⟩ (.slice (some ⟨g6, 0, none⟩) (af.length + 1) bL)) rfl (by kernel_rfl) (iy _ _ _ _ _ rfl BX 4 _ _ _ vY (by kernel_rfl) (by kernel_rfl) (ah bq.out 4) (aC bq.out 4)) ?_
                  refine ⟨trivial, ?_⟩
                  try refine tn ?_
                  refine wpAnyH_done (by kernel_rfl) ?_ _
                  clear bq
                  generalize iD.setCell ⟨BX, 4, none⟩ (.slice (some ⟨g6, 0, none⟩) (af.length + 1) bL) = EU at *
                  go_wp2_with fail
                  refine ⟨⟨i - 1, _, af ++ [y], by rw [show ((i - 1 : Nat) : Int) = (i : Int) - 1 by omega], by omega, HF.out.1.draw (HF.out.1.src.mono (by omega)) (But.refl _ _), by rw [List.length_append, List.length_singleton]; omega, ?_, HF.out.2⟩, by simp [intOf]; omega⟩
                  intro z hz
                  rcases List.mem_append.1 hz with hz | hz
                  · exact uK.out z hz
                  · rw [List.mem_singleton] at hz; rw [hz]; exact hyl
            · obtain ⟨y, hy0, hy1, hyl⟩ := ug aaJ.out X (by omega)
              refine aU (.agg #[.string (bs y.1), .string (bs y.2)]) _ rfl (by kernel_rfl) (lN _ _ _ _ rfl EM (X * 2) _ _ (by kernel_rfl) hy0 hy1) ?_
              refine ⟨trivial, ?_⟩
              clear hy0 hy1
              try refine tn ?_
              refine lV 1 12 (by kernel_rfl) ?_ ?_
              · refine aU vY _ rfl (by kernel_rfl) (jO _ _ _ _ rfl BX 4 vY Em.out (by kernel_rfl) (ah KV.out.box 4)) ?_
                refine ⟨trivial, ?_⟩
                try refine tn ?_
                refine aH 12 (by kernel_rfl) ?_
                · refine aU (.slice (some ⟨nP.heap.size, 0, none⟩) 1 1) (nP.alloc (.cells #[.string (bs y.1), .string (bs y.2)] 114)) rfl (by kernel_rfl) (iW _ _ _ _ rfl _ _ (by kernel_rfl)) ?_
                  refine ⟨trivial, ?_⟩
                  try refine tn ?_
                  have afI : Hid ((nP.alloc (.cells #[.string (bs y.1), .string (bs y.2)] 114)).heap[nP.heap.size]? = some (.cells #[.string (bs y.1), .string (bs y.2)] 114)) := heap_alloc_new _ _
                  have Lx := aa (KV.out.alloc (.cells #[.string (bs y.1), .string (bs y.2)] 114))
                  generalize nP.alloc (.cells #[.string (bs y.1), .string (bs y.2)] 114) = aiE at *
                  generalize nP.heap.size = N21 at *
                  have hbz := Lx.out.size
                  refine aH 13 (by kernel_rfl) ?_
                  refine jF rfl (by kernel_rfl) (wp_append_lies _ (.tmp 28) (.tmp 39) 71 rfl (BX + 1) 114 i0 (.agg #[.string ⟨#[]⟩, .string ⟨#[]⟩]) 2 32 Tryz.underlying71 hi0 hz0 hz1 hz2 rfl (by decide) vY _ _ (by kernel_rfl) Lx.out.syn ⟨N21, 0, none⟩ 1 1 [.string (bs y.1), .string (bs y.2)] (by kernel_rfl) rfl (World.news_of_block afI.out) (by intro v hv; simp at hv; rcases hv with rfl | rfl <;> rfl) (by omega) (by unfold maxLen; omega) (by omega) (by omega) _ rfl ?_)
                  intro g6 bL iD hown hgrow hat hlt
                  refine ⟨trivial, ?_⟩
                  try refine tn ?_
                  have HF := aa (Lx.out.more (qP.out.imp And.left id) xS.out hown hgrow hat)
                  have bq : Hid (iD.heap[BX]? = _) := (hgrow.block BX hbz (fun e => by have := (fA Lx.out.syn BX e.symm).1; omega)).trans Lx.out.box
                  clear hown hgrow hat hlt
                  refine tx 14 ?_
                  refine aH 15 (by kernel_rfl) ?_
                  refine ek (iD.setCell ⟨BX, 4, none⟩ (.slice (some ⟨g6, 0, none⟩) (af.length + 1) bL)) rfl (by kernel_rfl) (iy _ _ _ _ _ rfl BX 4 _ _ _ vY (by kernel_rfl) (by kernel_rfl) (ah bq.out 4) (aC bq.out 4)) ?_
                  refine ⟨trivial, ?_⟩
                  try refine tn ?_
                  refine wpAnyH_done (by kernel_rfl) ?_ _
                  clear bq
                  generalize iD.setCell ⟨BX, 4, none⟩ (.slice (some ⟨g6, 0, none⟩) (af.length + 1) bL) = EU at *
                  go_wp2_with fail
                  refine ⟨⟨i - 1, _, af ++ [y], by rw [show ((i - 1 : Nat) : Int) = (i : Int) - 1 by omega], by omega, HF.out.1.draw (HF.out.1.src.mono (by omega)) (But.refl _ _), by rw [List.length_append, List.length_singleton]; omega, ?_, HF.out.2⟩, by simp [intOf]; omega⟩
                  intro z hz
                  rcases List.mem_append.1 hz with hz | hz
                  · exact uK.out z hz
                  · rw [List.mem_singleton] at hz; rw [hz]; exact hyl
              · refine aU (.slice (some ⟨nP.heap.size, 0, none⟩) 1 1) (nP.alloc (.cells #[.string (bs y.1), .string (bs y.2)] 114)) rfl (by kernel_rfl) (iW _ _ _ _ rfl _ _ (by kernel_rfl)) ?_
                refine ⟨trivial, ?_⟩
                try refine tn ?_
                have afb : Hid ((nP.alloc (.cells #[.string (bs y.1), .string (bs y.2)] 114)).heap[nP.heap.size]? = some (.cells #[.string (bs y.1), .string (bs y.2)] 114)) := heap_alloc_new _ _
                have FZ := aa (KV.out.alloc (.cells #[.string (bs y.1), .string (bs y.2)] 114))
                generalize nP.alloc (.cells #[.string (bs y.1), .string (bs y.2)] 114) = aix at *
                generalize nP.heap.size = N22 at *
                refine aH 1 (by kernel_rfl) ?_
                · refine aU vY _ rfl (by kernel_rfl) (jO _ _ _ _ rfl BX 4 vY Em.out (by kernel_rfl) (ah FZ.out.box 4)) ?_
                  refine ⟨trivial, ?_⟩
                  try refine tn ?_
                  have hbz := FZ.out.size
                  refine aH 13 (by kernel_rfl) ?_
                  refine jF rfl (by kernel_rfl) (wp_append_lies _ (.tmp 28) (.tmp 39) 71 rfl (BX + 1) 114 i0 (.agg #[.string ⟨#[]⟩, .string ⟨#[]⟩]) 2 32 Tryz.underlying71 hi0 hz0 hz1 hz2 rfl (by decide) vY _ _ (by kernel_rfl) FZ.out.syn ⟨N22, 0, none⟩ 1 1 [.string (bs y.1), .string (bs y.2)] (by kernel_rfl) rfl (World.news_of_block afb.out) (by intro v hv; simp at hv; rcases hv with rfl | rfl <;> rfl) (by omega) (by unfold maxLen; omega) (by omega) (by omega) _ rfl ?_)
                  intro g6 bL iD hown hgrow hat hlt
                  refine ⟨trivial, ?_⟩
                  try refine tn ?_
                  have HF := aa (FZ.out.more (qP.out.imp And.left id) xS.out hown hgrow hat)
                  have bq : Hid (iD.heap[BX]? = _) := (hgrow.block BX hbz (fun e => by have := (fA FZ.out.syn BX e.symm).1; omega)).trans FZ.out.box
                  clear hown hgrow hat hlt
                  refine tx 14 ?_
                  refine aH 15 (by kernel_rfl) ?_
                  refine ek (iD.setCell ⟨BX, 4, none⟩ (.slice (some ⟨g6, 0, none⟩) (af.length + 1) bL)) rfl (by kernel_rfl) (iy _ _ _ _ _ rfl BX 4 _ _ _ vY (by kernel_rfl) (by kernel_rfl) (ah bq.out 4) (aC bq.out 4)) ?_
                  refine ⟨trivial, ?_⟩
                  try refine tn ?_
                  refine wpAnyH_done (by kernel_rfl) ?_ _
                  clear bq
                  generalize iD.setCell ⟨BX, 4, none⟩ (.slice (some ⟨g6, 0, none⟩) (af.length + 1) bL) = EU at *
                  go_wp2_with fail
                  refine ⟨⟨i - 1, _, af ++ [y], by rw [show ((i - 1 : Nat) : Int) = (i : Int) - 1 by omega], by omega, HF.out.1.draw (HF.out.1.src.mono (by omega)) (But.refl _ _), by rw [List.length_append, List.length_singleton]; omega, ?_, HF.out.2⟩, by simp [intOf]; omega⟩
                  intro z hz
                  rcases List.mem_append.1 hz with hz | hz
                  · exact uK.out z hz
                  · rw [List.mem_singleton] at hz; rw [hz]; exact hyl
        · refine bI 38 #[.pointer (some ⟨b, 0, none⟩), .int .i64 5] rfl (by kernel_rfl) (bK _ _ _ _ _ _ _ _ rfl _ _ (by kernel_rfl) (by kernel_rfl) (Tryz.call38 _ _)) ?_
          refine (dx EI.out.src hn (by omega) 5 (by omega) (by omega)).mono ?_
          rintro e' rC ⟨X, rfl, hX, hsx, hbx⟩
          have Ka := aa (EI.out.draw hsx hbx)
          clear hsx hbx
          refine ⟨trivial, ?_⟩
          try refine tn ?_
          refine lV 1 7 (by kernel_rfl) ?_ ?_
          · refine aU vY _ rfl (by kernel_rfl) (jO _ _ _ _ rfl BX 4 vY Em.out (by kernel_rfl) (ah Ka.out.box 4)) ?_
            refine ⟨trivial, ?_⟩
            try refine tn ?_
            refine aH 7 (by kernel_rfl) ?_
            · refine aU (.slice (some ⟨rC.heap.size, 0, none⟩) 5 5) (rC.alloc (.cells #[.string ⟨#[99, 97, 116]⟩, .string ⟨#[102, 101, 108, 105, 110, 101]⟩, .string ⟨#[114, 117, 110]⟩, .string ⟨#[114, 117, 110, 110, 105, 110, 103]⟩, .string ⟨#[104, 111, 117, 115, 101]⟩, .string ⟨#[104, 111, 109, 101]⟩, .string ⟨#[113, 117, 105, 99, 107]⟩, .string ⟨#[102, 97, 115, 116]⟩, .string ⟨#[114, 117, 110, 110, 105, 110, 103]⟩, .string ⟨#[106, 111, 103]⟩] 114)) rfl (by kernel_rfl) (qm _ _ _ _ _ _ _ _ rfl _ _ _ _ _ _ _ _ _ _ (by kernel_rfl) (by kernel_rfl) (by kernel_rfl) (by kernel_rfl) (by kernel_rfl)) ?_
              refine ⟨trivial, ?_⟩
              try refine tn ?_
              have afy : Hid ((rC.alloc (.cells #[.string ⟨#[99, 97, 116]⟩, .string ⟨#[102, 101, 108, 105, 110, 101]⟩, .string ⟨#[114, 117, 110]⟩, .string ⟨#[114, 117, 110, 110, 105, 110, 103]⟩, .string ⟨#[104, 111, 117, 115, 101]⟩, .string ⟨#[104, 111, 109, 101]⟩, .string ⟨#[113, 117, 105, 99, 107]⟩, .string ⟨#[102, 97, 115, 116]⟩, .string ⟨#[114, 117, 110, 110, 105, 110, 103]⟩, .string ⟨#[106, 111, 103]⟩] 114)).heap[rC.heap.size]? = some (.cells #[.string ⟨#[99, 97, 116]⟩, .string ⟨#[102, 101, 108, 105, 110, 101]⟩, .string ⟨#[114, 117, 110]⟩, .string ⟨#[114, 117, 110, 110, 105, 110, 103]⟩, .string ⟨#[104, 111, 117, 115, 101]⟩, .string ⟨#[104, 111, 109, 101]⟩, .string ⟨#[113, 117, 105, 99, 107]⟩, .string ⟨#[102, 97, 115, 116]⟩, .string ⟨#[114, 117, 110, 110, 105, 110, 103]⟩, .string ⟨#[106, 111, 103]⟩] 114)) := heap_alloc_new _ _
              have ajc : Hid (BX < rC.heap.size) := Ka.out.size
              have af1 := aa (Ka.out.alloc (.cells #[.string ⟨#[99, 97, 116]⟩, .string ⟨#[102, 101, 108, 105, 110, 101]⟩, .string ⟨#[114, 117, 110]⟩, .string ⟨#[114, 117, 110, 110, 105, 110, 103]⟩, .string ⟨#[104, 111, 117, 115, 101]⟩, .string ⟨#[104, 111, 109, 101]⟩, .string ⟨#[113, 117, 105, 99, 107]⟩, .string ⟨#[102, 97, 115, 116]⟩, .string ⟨#[114, 117, 110, 110, 105, 110, 103]⟩, .string ⟨#[106, 111, 103]⟩] 114))
              generalize rC.alloc (.cells #[.string ⟨#[99, 97, 116]⟩, .string ⟨#[102, 101, 108, 105, 110, 101]⟩, .string ⟨#[114, 117, 110]⟩, .string ⟨#[114, 117, 110, 110, 105, 110, 103]⟩, .string ⟨#[104, 111, 117, 115, 101]⟩, .string ⟨#[104, 111, 109, 101]⟩, .string ⟨#[113, 117, 105, 99, 107]⟩, .string ⟨#[102, 97, 115, 116]⟩, .string ⟨#[114, 117, 110, 110, 105, 110, 103]⟩, .string ⟨#[106, 111, 103]⟩] 114) = FY at *
              generalize rC.heap.size = T26 at *
              refine wpAnyH_take (i := 10) (v := .pointer (some ⟨T26, X * 2, none⟩)) rfl (by kernel_rfl) (by kernel_rfl) (by kernel_rfl) (fun _ _ _ h => h) (Or.inl ⟨by kernel_rfl, fun W hW => oz W _ _ _ _ rfl T26 X (by kernel_rfl) (by kernel_rfl) (by omega)⟩) trivial ?_
              try refine tn ?_
              refine aH 11 (by kernel_rfl) ?_
              · obtain ⟨y, hy0, hy1, hyl⟩ := ug afy.out X (by omega)
                refine aU (.agg #[.string (bs y.1), .string (bs y.2)]) _ rfl (by kernel_rfl) (lN _ _ _ _ rfl T26 (X * 2) _ _ (by kernel_rfl) hy0 hy1) ?_
                refine ⟨trivial, ?_⟩
                clear hy0 hy1
                try refine tn ?_
                refine aH 12 (by kernel_rfl) ?_
                · refine aU (.slice (some ⟨FY.heap.size, 0, none⟩) 1 1) (FY.alloc (.cells #[.string (bs y.1), .string (bs y.2)] 114)) rfl (by kernel_rfl) (iW _ _ _ _ rfl _ _ (by kernel_rfl)) ?_
                  refine ⟨trivial, ?_⟩
                  try refine tn ?_
                  have afx : Hid ((FY.alloc (.cells #[.string (bs y.1), .string (bs y.2)] 114)).heap[FY.heap.size]? = some (.cells #[.string (bs y.1), .string (bs y.2)] 114)) := heap_alloc_new _ _
                  have J5 := aa (af1.out.alloc (.cells #[.string (bs y.1), .string (bs y.2)] 114))
                  generalize FY.alloc (.cells #[.string (bs y.1), .string (bs y.2)] 114) = aja at *
                  generalize FY.heap.size = N28 at *
                  have hbz := J5.out.size
                  refine aH 13 (by kernel_rfl) ?_
                  refine jF rfl (by kernel_rfl) (wp_append_lies _ (.tmp 28) (.tmp 39) 71 rfl (BX + 1) 114 i0 (.agg #[.string ⟨#[]⟩, .string ⟨#[]⟩]) 2 32 Tryz.underlying71 hi0 hz0 hz1 hz2 rfl (by decide) vY _ _ (by kernel_rfl) J5.out.syn ⟨N28, 0, none⟩ 1 1 [.string (bs y.1), .string (bs y.2)] (by kernel_rfl) rfl (World.news_of_block afx.out) (by intro v hv; simp at hv; rcases hv with rfl | rfl <;> rfl) (by omega) (by unfold maxLen; omega) (by omega) (by omega) _ rfl ?_)
                  intro g6 bL iD hown hgrow hat hlt
                  refine ⟨trivial, ?_⟩
                  try refine tn ?_
                  have HF := aa (J5.out.more (qP.out.imp And.left id) xS.out hown hgrow hat)
                  have bq : Hid (iD.heap[BX]? = _) := (hgrow.block BX hbz (fun e => by have := (fA J5.out.syn BX e.symm).1; omega)).trans J5.out.box
                  clear hown hgrow hat hlt
                  refine tx 14 ?_
                  refine aH 15 (by kernel_rfl) ?_
                  refine ek (iD.setCell ⟨BX, 4, none⟩ (.slice (some ⟨g6, 0, none⟩) (af.length + 1) bL)) rfl (by kernel_rfl) (iy _ _ _ _ _ rfl BX 4 _ _ _ vY (by kernel_rfl) (by kernel_rfl) (ah bq.out 4) (aC bq.out 4)) ?_
                  refine ⟨trivial, ?_⟩
                  try refine tn ?_
                  refine wpAnyH_done (by kernel_rfl) ?_ _
                  clear bq
                  generalize iD.setCell ⟨BX, 4, none⟩ (.slice (some ⟨g6, 0, none⟩) (af.length + 1) bL) = EU at *
                  go_wp2_with fail
                  refine ⟨⟨i - 1, _, af ++ [y], by rw [show ((i - 1 : Nat) : Int) = (i : Int) - 1 by omega], by omega, HF.out.1.draw (HF.out.1.src.mono (by omega)) (But.refl _ _), by rw [List.length_append, List.length_singleton]; omega, ?_, HF.out.2⟩, by simp [intOf]; omega⟩
                  intro z hz
                  rcases List.mem_append.1 hz with hz | hz
                  · exact uK.out z hz
                  · rw [List.mem_singleton] at hz; rw [hz]; exact hyl
          · refine aU (.slice (some ⟨rC.heap.size, 0, none⟩) 5 5) (rC.alloc (.cells #[.string ⟨#[99, 97, 116]⟩, .string ⟨#[102, 101, 108, 105, 110, 101]⟩, .string ⟨#[114, 117, 110]⟩, .string ⟨#[114, 117, 110, 110, 105, 110, 103]⟩, .string ⟨#[104, 111, 117, 115, 101]⟩, .string ⟨#[104, 111, 109, 101]⟩, .string ⟨#[113, 117, 105, 99, 107]⟩, .string ⟨#[102, 97, 115, 116]⟩, .string ⟨#[114, 117, 110, 110, 105, 110, 103]⟩, .string ⟨#[106, 111, 103]⟩] 114)) rfl (by kernel_rfl) (qm _ _ _ _ _ _ _ _ rfl _ _ _ _ _ _ _ _ _ _ (by kernel_rfl) (by kernel_rfl) (by kernel_rfl) (by kernel_rfl) (by kernel_rfl)) ?_
            refine ⟨trivial, ?_⟩
            try refine tn ?_
            have aaX : Hid ((rC.alloc (.cells #[.string ⟨#[99, 97, 116]⟩, .string ⟨#[102, 101, 108, 105, 110, 101]⟩, .string ⟨#[114, 117, 110]⟩, .string ⟨#[114, 117, 110, 110, 105, 110, 103]⟩, .string ⟨#[104, 111, 117, 115, 101]⟩, .string ⟨#[104, 111, 109, 101]⟩, .string ⟨#[113, 117, 105, 99, 107]⟩, .string ⟨#[102, 97, 115, 116]⟩, .string ⟨#[114, 117, 110, 110, 105, 110, 103]⟩, .string ⟨#[106, 111, 103]⟩] 114)).heap[rC.heap.size]? = some (.cells #[.string ⟨#[99, 97, 116]⟩, .string ⟨#[102, 101, 108, 105, 110, 101]⟩, .string ⟨#[114, 117, 110]⟩, .string ⟨#[114, 117, 110, 110, 105, 110, 103]⟩, .string ⟨#[104, 111, 117, 115, 101]⟩, .string ⟨#[104, 111, 109, 101]⟩, .string ⟨#[113, 117, 105, 99, 107]⟩, .string ⟨#[102, 97, 115, 116]⟩, .string ⟨#[114, 117, 110, 110, 105, 110, 103]⟩, .string ⟨#[106, 111, 103]⟩] 114)) := heap_alloc_new _ _
            have ai7 : Hid (BX < rC.heap.size) := Ka.out.size
            have MH := aa (Ka.out.alloc (.cells #[.string ⟨#[99, 97, 116]⟩, .string ⟨#[102, 101, 108, 105, 110, 101]⟩, .string ⟨#[114, 117, 110]⟩, .string ⟨#[114, 117, 110, 110, 105, 110, 103]⟩, .string ⟨#[104, 111, 117, 115, 101]⟩, .string ⟨#[104, 111, 109, 101]⟩, .string ⟨#[113, 117, 105, 99, 107]⟩, .string ⟨#[102, 97, 115, 116]⟩, .string ⟨#[114, 117, 110, 110, 105, 110, 103]⟩, .string ⟨#[106, 111, 103]⟩] 114))
            generalize rC.alloc (.cells #[.string ⟨#[99, 97, 116]⟩, .string ⟨#[102, 101, 108, 105, 110, 101]⟩, .string ⟨#[114, 117, 110]⟩, .string ⟨#[114, 117, 110, 110, 105, 110, 103]⟩, .string ⟨#[104, 111, 117, 115, 101]⟩, .string ⟨#[104, 111, 109, 101]⟩, .string ⟨#[113, 117, 105, 99, 107]⟩, .string ⟨#[102, 97, 115, 116]⟩, .string ⟨#[114, 117, 110, 110, 105, 110, 103]⟩, .string ⟨#[106, 111, 103]⟩] 114) = oH at *
            generalize rC.heap.size = X8 at *
            refine wpAnyH_take (i := 10) (v := .pointer (some ⟨X8, X * 2, none⟩)) rfl (by kernel_rfl) (by kernel_rfl) (by kernel_rfl) (fun _ _ _ h => h) (Or.inl ⟨by kernel_rfl, fun W hW => oz W _ _ _ _ rfl X8 X (by kernel_rfl) (by kernel_rfl) (by omega)⟩) trivial ?_
            try refine tn ?_
            refine lV 1 11 (by kernel_rfl) ?_ ?_
            · refine aU vY _ rfl (by kernel_rfl) (jO _ _ _ _ rfl BX 4 vY Em.out (by kernel_rfl) (ah MH.out.box 4)) ?_
              refine ⟨trivial, ?_⟩
              try refine tn ?_
              refine aH 11 (by kernel_rfl) ?_
              · obtain ⟨y, hy0, hy1, hyl⟩ := ug aaX.out X (by omega)
                refine aU (.agg #[.string (bs y.1), .string (bs y.2)]) _ rfl (by kernel_rfl) (lN _ _ _ _ rfl X8 (X * 2) _ _ (by kernel_rfl) hy0 hy1) ?_
                refine ⟨trivial, ?_⟩
                clear hy0 hy1
                try refine tn ?_
                refine aH 12 (by kernel_rfl) ?_
                · refine aU (.slice (some ⟨oH.heap.size, 0, none⟩) 1 1) (oH.alloc (.cells #[.string (bs y.1), .string (bs y.2)] 114)) rfl (by kernel_rfl) (iW _ _ _ _ rfl _ _ (by kernel_rfl)) ?_
                  refine ⟨trivial, ?_⟩
                  try refine tn ?_
                  have afL : Hid ((oH.alloc (.cells #[.string (bs y.1), .string (bs y.2)] 114)).heap[oH.heap.size]? = some (.cells #[.string (bs y.1), .string (bs y.2)] 114)) := heap_alloc_new _ _
                  have Mc := aa (MH.out.alloc (.cells #[.string (bs y.1), .string (bs y.2)] 114))
                  generalize oH.alloc (.cells #[.string (bs y.1), .string (bs y.2)] 114) = aji at *
                  generalize oH.heap.size = N32 at *
                  have hbz := Mc.out.size
                  refine aH 13 (by kernel_rfl) ?_
                  refine jF rfl (by kernel_rfl) (wp_append_lies _ (.tmp 28) (.tmp 39) 71 rfl (BX + 1) 114 i0 (.agg #[.string ⟨#[]⟩, .string ⟨#[]⟩]) 2 32 Tryz.underlying71 hi0 hz0 hz1 hz2 rfl (by decide) vY _ _ (by kernel_rfl) Mc.out.syn ⟨N32, 0, none⟩ 1 1 [.string (bs y.1), .string (bs y.2)] (by kernel_rfl) rfl (World.news_of_block afL.out) (by intro v hv; simp at hv; rcases hv with rfl | rfl <;> rfl) (by omega) (by unfold maxLen; omega) (by omega) (by omega) _ rfl ?_)
                  intro g6 bL iD hown hgrow hat hlt
                  refine ⟨trivial, ?_⟩
                  try refine tn ?_
                  have HF := aa (Mc.out.more (qP.out.imp And.left id) xS.out hown hgrow hat)
                  have bq : Hid (iD.heap[BX]? = _) := (hgrow.block BX hbz (fun e => by have := (fA Mc.out.syn BX e.symm).1; omega)).trans Mc.out.box
                  clear hown hgrow hat hlt
                  refine tx 14 ?_
                  refine aH 15 (by kernel_rfl) ?_
                  refine ek (iD.setCell ⟨BX, 4, none⟩ (.slice (some ⟨g6, 0, none⟩) (af.length + 1) bL)) rfl (by kernel_rfl) (iy _ _ _ _ _ rfl BX 4 _ _ _ vY (by kernel_rfl) (by kernel_rfl) (ah bq.out 4) (aC bq.out 4)) ?_
                  refine ⟨trivial, ?_⟩
                  try refine tn ?_
                  refine wpAnyH_done (by kernel_rfl) ?_ _
                  clear bq
                  generalize iD.setCell ⟨BX, 4, none⟩ (.slice (some ⟨g6, 0, none⟩) (af.length + 1) bL) = EU at *
                  go_wp2_with fail
                  refine ⟨⟨i - 1, _, af ++ [y], by rw [show ((i - 1 : Nat) : Int) = (i : Int) - 1 by omega], by omega, HF.out.1.draw (HF.out.1.src.mono (by omega)) (But.refl _ _), by rw [List.length_append, List.length_singleton]; omega, ?_, HF.out.2⟩, by simp [intOf]; omega⟩
                  intro z hz
                  rcases List.mem_append.1 hz with hz | hz
                  · exact uK.out z hz
                  · rw [List.mem_singleton] at hz; rw [hz]; exact hyl
            · obtain ⟨y, hy0, hy1, hyl⟩ := ug aaX.out X (by omega)
              refine aU (.agg #[.string (bs y.1), .string (bs y.2)]) _ rfl (by kernel_rfl) (lN _ _ _ _ rfl X8 (X * 2) _ _ (by kernel_rfl) hy0 hy1) ?_
              refine ⟨trivial, ?_⟩
              clear hy0 hy1
              try refine tn ?_
              refine lV 1 12 (by kernel_rfl) ?_ ?_
              · refine aU vY _ rfl (by kernel_rfl) (jO _ _ _ _ rfl BX 4 vY Em.out (by kernel_rfl) (ah MH.out.box 4)) ?_
                refine ⟨trivial, ?_⟩
                try refine tn ?_
                refine aH 12 (by kernel_rfl) ?_
                · refine aU (.slice (some ⟨oH.heap.size, 0, none⟩) 1 1) (oH.alloc (.cells #[.string (bs y.1), .string (bs y.2)] 114)) rfl (by kernel_rfl) (iW _ _ _ _ rfl _ _ (by kernel_rfl)) ?_
                  refine ⟨trivial, ?_⟩
                  try refine tn ?_
                  have afA : Hid ((oH.alloc (.cells #[.string (bs y.1), .string (bs y.2)] 114)).heap[oH.heap.size]? = some (.cells #[.string (bs y.1), .string (bs y.2)] 114)) := heap_alloc_new _ _
                  have JX := aa (MH.out.alloc (.cells #[.string (bs y.1), .string (bs y.2)] 114))
                  generalize oH.alloc (.cells #[.string (bs y.1), .string (bs y.2)] 114) = ai8 at *
                  generalize oH.heap.size = N35 at *
                  have hbz := JX.out.size
                  refine aH 13 (by kernel_rfl) ?_
                  refine jF rfl (by kernel_rfl) (wp_append_lies _ (.tmp 28) (.tmp 39) 71 rfl (BX + 1) 114 i0 (.agg #[.string ⟨#[]⟩, .string ⟨#[]⟩]) 2 32 Tryz.underlying71 hi0 hz0 hz1 hz2 rfl (by decide) vY _ _ (by kernel_rfl) JX.out.syn ⟨N35, 0, none⟩ 1 1 [.string (bs y.1), .string (bs y.2)] (by kernel_rfl) rfl (World.news_of_block afA.out) (by intro v hv; simp at hv; rcases hv with rfl | rfl <;> rfl) (by omega) (by unfold maxLen; omega) (by omega) (by omega) _ rfl ?_)
                  intro g6 bL iD hown hgrow hat hlt
                  refine ⟨trivial, ?_⟩
                  try refine tn ?_
                  have HF := aa (JX.out.more (qP.out.imp And.left id) xS.out hown hgrow hat)
                  have bq : Hid (iD.heap[BX]? = _) := (hgrow.block BX hbz (fun e => by have := (fA JX.out.syn BX e.symm).1; omega)).trans JX.out.box
                  clear hown hgrow hat hlt
                  refine tx 14 ?_
                  refine aH 15 (by kernel_rfl) ?_
                  refine ek (iD.setCell ⟨BX, 4, none⟩ (.slice (some ⟨g6, 0, none⟩) (af.length + 1) bL)) rfl (by kernel_rfl) (iy _ _ _ _ _ rfl BX 4 _ _ _ vY (by kernel_rfl) (by kernel_rfl) (ah bq.out 4) (aC bq.out 4)) ?_
                  refine ⟨trivial, ?_⟩
                  try refine tn ?_
                  refine wpAnyH_done (by kernel_rfl) ?_ _
                  clear bq
                  generalize iD.setCell ⟨BX, 4, none⟩ (.slice (some ⟨g6, 0, none⟩) (af.length + 1) bL) = EU at *
                  go_wp2_with fail
                  refine ⟨⟨i - 1, _, af ++ [y], by rw [show ((i - 1 : Nat) : Int) = (i : Int) - 1 by omega], by omega, HF.out.1.draw (HF.out.1.src.mono (by omega)) (But.refl _ _), by rw [List.length_append, List.length_singleton]; omega, ?_, HF.out.2⟩, by simp [intOf]; omega⟩
                  intro z hz
                  rcases List.mem_append.1 hz with hz | hz
                  · exact uK.out z hz
                  · rw [List.mem_singleton] at hz; rw [hz]; exact hyl
              · refine aU (.slice (some ⟨oH.heap.size, 0, none⟩) 1 1) (oH.alloc (.cells #[.string (bs y.1), .string (bs y.2)] 114)) rfl (by kernel_rfl) (iW _ _ _ _ rfl _ _ (by kernel_rfl)) ?_
                refine ⟨trivial, ?_⟩
                try refine tn ?_
                have ae6 : Hid ((oH.alloc (.cells #[.string (bs y.1), .string (bs y.2)] 114)).heap[oH.heap.size]? = some (.cells #[.string (bs y.1), .string (bs y.2)] 114)) := heap_alloc_new _ _
                have Gh := aa (MH.out.alloc (.cells #[.string (bs y.1), .string (bs y.2)] 114))
                generalize oH.alloc (.cells #[.string (bs y.1), .string (bs y.2)] 114) = aje at *
                generalize oH.heap.size = N36 at *
                refine aH 1 (by kernel_rfl) ?_
                · refine aU vY _ rfl (by kernel_rfl) (jO _ _ _ _ rfl BX 4 vY Em.out (by kernel_rfl) (ah Gh.out.box 4)) ?_
                  refine ⟨trivial, ?_⟩
                  try refine tn ?_
                  have hbz := Gh.out.size
                  refine aH 13 (by kernel_rfl) ?_
                  refine jF rfl (by kernel_rfl) (wp_append_lies _ (.tmp 28) (.tmp 39) 71 rfl (BX + 1) 114 i0 (.agg #[.string ⟨#[]⟩, .string ⟨#[]⟩]) 2 32 Tryz.underlying71 hi0 hz0 hz1 hz2 rfl (by decide) vY _ _ (by kernel_rfl) Gh.out.syn ⟨N36, 0, none⟩ 1 1 [.string (bs y.1), .string (bs y.2)] (by kernel_rfl) rfl (World.news_of_block ae6.out) (by intro v hv; simp at hv; rcases hv with rfl | rfl <;> rfl) (by omega) (by unfold maxLen; omega) (by omega) (by omega) _ rfl ?_)
                  intro g6 bL iD hown hgrow hat hlt
                  refine ⟨trivial, ?_⟩
                  try refine tn ?_
                  have HF := aa (Gh.out.more (qP.out.imp And.left id) xS.out hown hgrow hat)
                  have bq : Hid (iD.heap[BX]? = _) := (hgrow.block BX hbz (fun e => by have := (fA Gh.out.syn BX e.symm).1; omega)).trans Gh.out.box
                  clear hown hgrow hat hlt
                  refine tx 14 ?_
                  refine aH 15 (by kernel_rfl) ?_
                  refine ek (iD.setCell ⟨BX, 4, none⟩ (.slice (some ⟨g6, 0, none⟩) (af.length + 1) bL)) rfl (by kernel_rfl) (iy _ _ _ _ _ rfl BX 4 _ _ _ vY (by kernel_rfl) (by kernel_rfl) (ah bq.out 4) (aC bq.out 4)) ?_
                  refine ⟨trivial, ?_⟩
                  try refine tn ?_
                  refine wpAnyH_done (by kernel_rfl) ?_ _
                  clear bq
                  generalize iD.setCell ⟨BX, 4, none⟩ (.slice (some ⟨g6, 0, none⟩) (af.length + 1) bL) = EU at *
                  go_wp2_with fail
                  refine ⟨⟨i - 1, _, af ++ [y], by rw [show ((i - 1 : Nat) : Int) = (i : Int) - 1 by omega], by omega, HF.out.1.draw (HF.out.1.src.mono (by omega)) (But.refl _ _), by rw [List.length_append, List.length_singleton]; omega, ?_, HF.out.2⟩, by simp [intOf]; omega⟩
                  intro z hz
                  rcases List.mem_append.1 hz with hz | hz
                  · exact uK.out z hz
                  · rw [List.mem_singleton] at hz; rw [hz]; exact hyl
      · have hiz : ¬ (0 : Int) < (i : Int) := by omega
        have HD5 := aa (HD4.out.draw (HD4.out.src.mono (A' := A + 27) (by omega)) (But.refl _ _))
        clear HD4
        go_upto_if 43 with (go_at_call 19; refine (pK HD5.out.src hn (by omega) 8 (by omega) (by omega)).mono ?_; rintro e w9 ⟨x5, rfl, RV, dm⟩)
        have HD6 := aa (HD5.out.draw RV dm)
        clear RV dm HD5
        go_cut [] (fun wy => ∃ lo hi : Int, DA w wy b ao n cap (A + 36) w.heap.size BX fo x2 x3 aS cS stops vY af lo hi ∧ -100 ≤ lo ∧ lo ≤ 100 ∧ -100 ≤ hi ∧ hi ≤ 100)
        case first =>
          cases x5 with
          | false =>
            go_wp2_with fail
            go_meet
            case rel => exact ⟨0, 0, HD6.out.draw (HD6.out.src.mono (by omega)) (But.refl _ _), by omega, by omega, by omega, by omega⟩
          | true =>
            have c5 := ah HD6.out.box 5
            have f5 := aC HD6.out.box 5
            go_upto_region 9 with fail
            go_wp2_with (go_at_call 38; refine (dx HD6.out.src hn (by omega) 3 (by omega) (by omega)).mono ?_; rintro e wA ⟨Z, rfl, hZ, hsA, ic⟩; have HD7 := aa (HD6.out.draw hsA ic); have c5 := ah HD7.out.box 5; have f5 := aC HD7.out.box 5; clear hsA ic)
            have wu := aa (HD7.out.Qk (1 + (Z : Int)))
            clear HD7 c5 f5 HD6
            generalize wA.setCell ⟨BX, 5, none⟩ (.int .i64 (1 + (Z : Int))) = wB at *
            have LG : Hid (DA w ({ heap := wB.heap, tape := wB.tape, drawn := wB.drawn + 1, os := wB.os, output := wB.output } : World) b ao n cap (A + 33) w.heap.size BX fo x2 x3 aS cS stops vY af (1 + (Z : Int)) 0) := wu.out.draw ((wu.out.src.below (below_drewN (Below.refl _ _) 1)).mono (by omega)) (But.of_below (below_drewN (Below.refl _ _) 1))
            refine wp_region_held (S := fun w' => w'.cell? ⟨BX, 5, none⟩ = some (.int .i64 (1 + (Z : Int)))) (by kernel_rfl) ?_
            generalize ({ heap := wB.heap, tape := wB.tape, drawn := wB.drawn + 1, os := wB.os, output := wB.output } : World) = wd at *
            have Am : wd.cell? ⟨BX, 5, none⟩ = some (.int .i64 (1 + (Z : Int))) := ah LG.out.box 5
            try refine tn ?_
            refine tx 0 ?_ (hS := Am)
            refine tx 1 ?_ (hS := Am)
            refine tx 2 ?_ (hS := Am)
            refine aH 3 (by kernel_rfl) ?_
            refine bI 38 #[.pointer (some ⟨b, 0, none⟩), .int .i64 2] rfl (by kernel_rfl) (bK _ _ _ _ _ _ _ _ rfl _ _ (by kernel_rfl) (by kernel_rfl) (Tryz.call38 _ _)) ?_
            refine (dx LG.out.src hn (by omega) 2 (by omega) (by omega)).mono ?_
            rintro e' wD ⟨X, rfl, hX, hsx, hbx⟩
            have HE := aa (LG.out.draw hsx hbx)
            clear hsx hbx Am
            have Am : wD.cell? ⟨BX, 5, none⟩ = some (.int .i64 (1 + (Z : Int))) := ah HE.out.box 5
            refine ⟨Am, ?_⟩
            try refine tn ?_
            refine wpAnyH_take (i := 4) (v := .int .i64 (1 + (Z : Int) + (X : Int))) rfl (by kernel_rfl) (by kernel_rfl) (by kernel_rfl) (fun _ _ _ h => h) (Or.inl ⟨by kernel_rfl, ?_⟩) Am ?_
            · (intro w hSw; (try dsimp only at hSw); go_simp; first | done | exact acI (by omega) (by omega))
            try refine tn ?_
            refine tx 5 ?_ (hS := Am)
            refine aH 6 (by kernel_rfl) ?_
            refine ek (wD.setCell ⟨BX, 6, none⟩ (.int .i64 (1 + (Z : Int) + (X : Int)))) rfl (by kernel_rfl) (Nr _ _ _ _ _ rfl BX 6 _ (.int .i64 0) (by kernel_rfl) (by kernel_rfl) (ah HE.out.box 6) (aC HE.out.box 6)) ?_
            have HF := aa (HE.out.Ql (1 + (Z : Int) + (X : Int)))
            refine ⟨ah HF.out.box 5, ?_⟩
            try refine tn ?_
            refine wpAnyH_done (by kernel_rfl) ?_ _
            clear Am HE LG wu
            generalize wD.setCell ⟨BX, 6, none⟩ (.int .i64 (1 + (Z : Int) + (X : Int))) = wE at *
            go_wp2_with fail
            go_meet
            case rel => exact ⟨_, _, HF.out.draw (HF.out.src.mono (by omega)) (But.refl _ _), by omega, by omega, by omega, by omega⟩
        case rest =>
          obtain ⟨lo, hi', hD, hl1, hl2, hl3, hl4⟩ := hcut
          have wu := aa hD
          clear hD HD6
          obtain ⟨aY, nY, cY, rfl⟩ := Yg wu.out.syn
          obtain ⟨cs, hr1, hr2⟩ := wu.out.res
          obtain ⟨r0, r1, r2, r3, r4, r5, r6, rfl⟩ := D6 hr2
          have c0 : wc.cell? ⟨BX, 0, none⟩ = some (.bool fo) := ah wu.out.box 0
          have d0 : wc.cell? ⟨w.heap.size, 0, none⟩ = some r0 := ah hr1 0
          have e0 := aC hr1 0
          have c1 : wc.cell? ⟨BX, 1, none⟩ = some (.bool x2) := ah wu.out.box 1
          have d1 : wc.cell? ⟨w.heap.size, 1, none⟩ = some r1 := ah hr1 1
          have e1 := aC hr1 1
          have c2 : wc.cell? ⟨BX, 2, none⟩ = some (.bool x3) := ah wu.out.box 2
          have d2 : wc.cell? ⟨w.heap.size, 2, none⟩ = some r2 := ah hr1 2
          have e2 := aC hr1 2
          have c3 : wc.cell? ⟨BX, 3, none⟩ = some (.slice aS stops.length cS) := ah wu.out.box 3
          have d3 : wc.cell? ⟨w.heap.size, 3, none⟩ = some r3 := ah hr1 3
          have e3 := aC hr1 3
          have c4 : wc.cell? ⟨BX, 4, none⟩ = some (.slice aY nY cY) := ah wu.out.box 4
          have d4 : wc.cell? ⟨w.heap.size, 4, none⟩ = some r4 := ah hr1 4
          have e4 := aC hr1 4
          have c5 : wc.cell? ⟨BX, 5, none⟩ = some (.int .i64 lo) := ah wu.out.box 5
          have d5 : wc.cell? ⟨w.heap.size, 5, none⟩ = some r5 := ah hr1 5
          have e5 := aC hr1 5
          have c6 : wc.cell? ⟨BX, 6, none⟩ = some (.int .i64 hi') := ah wu.out.box 6
          have d6 : wc.cell? ⟨w.heap.size, 6, none⟩ = some r6 := ah hr1 6
          have e6 := aC hr1 6
          have hxl := wu.out.xl
          clear hr1 hr2
          go_wp2_with fail
          refine bodyPost_ret (v := .agg #[.bool fo, .bool x2, .bool x3, .slice aS stops.length cS, .slice aY nY cY, .int .i64 lo, .int .i64 hi']) (by simp [results, Tryz.results37, go_sem, *]) rfl ?_
          have HR := aa (((((((wu.out.dM 0 (.bool fo)).dM 1 (.bool x2)).dM 2 (.bool x3)).dM 3 (.slice aS stops.length cS)).dM 4 (.slice aY nY cY)).dM 5 (.int .i64 lo)).dM 6 (.int .i64 hi'))
          exact HR.out.drawn (by omega) hsl Av.out (by omega) uK.out qP.out hl1 hl2 hl3 hl4
end Go.Proofs.YtcjiphknpagenaaGreatDoor
