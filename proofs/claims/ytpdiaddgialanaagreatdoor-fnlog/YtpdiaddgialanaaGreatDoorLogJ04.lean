import Derived.Test.YtpdiaddgialanaaGreatDoorLogJ03
import Derived.Deep.RegionWith
import Derived.Test.YtpdiaddgialanaaGreatDoorLogJ02
import Derived.Deep.DeepCutAuto
import Derived.Deep.AppendLies
import Derived.Deep.RegionLaw
import Derived.OrdersHeld
import Derived.WalkKit
import Derived.Deep.RegionHeld3
namespace Go.Proofs.YtpdiaddgialanaaGreatDoor
open Go Go.RowKit
set_option linter.unusedVariables false
set_option linter.unusedSimpArgs false
set_option maxRecDepth 100000

set_option maxHeartbeats 16000000 in
theorem drawAz_any (b : Nat) (ao : Option Addr) (n cap : Nat) (A : Int) (w : World) (hn : n ≤ 1048576) (hA : A ≤ 1000000) (hs : Sx b ao n cap w A) (hcb : ∀ j, j < n → ∃ blk off, ao = some ⟨blk, off, none⟩ ∧ blk < w.heap.size) :
    Calls Tryz.prog 60 #[.pointer (some ⟨b, 0, none⟩)] w (DrawnA w b ao n cap (A + 60)) := by
  obtain ⟨i0, hi0, hz0, hz1, hz2⟩ := info_parts Tryz.infoSyn
  have HS := hidd hs
  have HC := hidd hcb
  have hb := hs.lt
  clear hs hcb
  go_enter Tryz.func60, Tryz.ntmps60
  go_wp2_with fail
  have HR0 : Hid ((w.alloc (.cells #[.bool false, .bool false, .bool false, .slice none 0 0, .slice none 0 0, .int .i64 0, .int .i64 0] 114)).heap[w.heap.size]? = some (.cells #[.bool false, .bool false, .bool false, .slice none 0 0, .slice none 0 0, .int .i64 0, .int .i64 0] 114)) := heap_alloc_new _ _
  have HB0 : Hid (But (fun x => x = b) w (w.alloc (.cells #[.bool false, .bool false, .bool false, .slice none 0 0, .slice none 0 0, .int .i64 0, .int .i64 0] 114))) := (But.refl _ _).alloc _
  have HS1 := hidd (HS.out.alloc (.cells #[.bool false, .bool false, .bool false, .slice none 0 0, .slice none 0 0, .int .i64 0, .int .i64 0] 114))
  generalize w.alloc (.cells #[.bool false, .bool false, .bool false, .slice none 0 0, .slice none 0 0, .int .i64 0, .int .i64 0] 114) = w1 at *
  refine (chanceS HS1.out hn (by omega) 4 (by omega) (by omega)).mono ?_
  rintro e w2 ⟨x1, rfl, hs2, hb2⟩
  have HS2 := hidd hs2
  have HB2 := hidd hb2
  clear hs2 hb2
  go_wp2_with fail
  refine (chanceS HS2.out hn (by omega) 2 (by omega) (by omega)).mono ?_
  rintro e w3 ⟨x2, rfl, hs3, hb3⟩
  have HS3 := hidd hs3
  have HB3 := hidd hb3
  clear hs3 hb3
  go_wp2_with fail
  refine (chanceS HS3.out hn (by omega) 10 (by omega) (by omega)).mono ?_
  rintro e w4 ⟨x3, rfl, hs4, hb4⟩
  have HS4 := hidd hs4
  have HB4 : Hid (But (fun x => x = b) w1 w4) := (HB2.out.trans HB3.out (fun _ _ h => h) (fun _ _ h => h)).trans hb4 (fun _ _ h => h) (fun _ _ h => h)
  clear hs4 hb4
  go_upto_region 2 with fail
  have HD0 : Hid (DA w (w4.alloc (.cells #[.bool !x1, .bool x2, .bool x3, .slice none 0 0, .slice none 0 0, .int .i64 0, .int .i64 0] 114)) b ao n cap (A + 9) w.heap.size w4.heap.size (!x1) x2 x3 none 0 [] (.slice none 0 0) [] 0 0) := by
    have h1 : But (fun x => x = b) w w4 := HB0.out.trans HB4.out (fun _ _ h => h) (fun _ _ h => h)
    have hz1 : w.heap.size < w1.heap.size := (Array.getElem?_eq_some_iff.1 HR0.out).1
    have hz4 := HB4.out.size
    have hr : w4.heap[w.heap.size]? = _ := (HB4.out.block _ hz1 (by omega)).trans HR0.out
    exact ⟨(HS4.out.alloc _).mono (by omega), h1.alloc _, ⟨_, (Below.heap_alloc _ _ _ (by omega)).trans hr, rfl⟩, heap_alloc_new _ _, Or.inl rfl, (fun blk off e => by cases e), World.ownsRow_nil _ _ _ _, hb, Nat.le_refl _, by omega, HC.out⟩
  clear HB2 HB3 HB4 HS1 HS2 HS3 HS4 HR0 HB0 HS
  generalize w4.alloc (.cells #[.bool !x1, .bool x2, .bool x3, .slice none 0 0, .slice none 0 0, .int .i64 0, .int .i64 0] 114) = w5 at *
  generalize hBX : w4.heap.size = BX at *
  clear hBX
  generalize (!x1) = fo at *
  go_upto_if 14 with (go_at_call 29; refine (chanceS HD0.out.src hn (by omega) 2 (by omega) (by omega)).mono ?_; rintro e w6 ⟨x4, rfl, hs6, hb6⟩)
  have HD1 := hidd (HD0.out.draw hs6 hb6)
  clear hs6 hb6 HD0
  go_cut [] (fun wy => ∃ aS cS stops, DA w wy b ao n cap (A + 15) w.heap.size BX fo x2 x3 aS cS stops (.slice none 0 0) [] 0 0 ∧ ((aS = none ∧ cS = 0) ∨ stops ≠ []) ∧ stops.length ≤ 4 ∧ ∀ t, t < stops.length → (stops.getD t []).length ≤ 16)
  case first =>
    cases x4 with
    | false =>
      go_wp2_with fail
      go_meet
      case rel =>
        exact ⟨none, 0, [], HD1.out.draw (HD1.out.src.mono (by omega)) (But.refl _ _), Or.inl ⟨rfl, rfl⟩, by simp, fun t ht => absurd ht (by simp)⟩
    | true =>
      have HDt := hidd (HD1.out.alloc (.cells #[.string ⟨#[116, 104, 101]⟩, .string ⟨#[111, 102]⟩, .string ⟨#[97]⟩, .string ⟨#[105, 116, 39, 115]⟩] 9))
      have HTt : Hid ((w6.alloc (.cells #[.string ⟨#[116, 104, 101]⟩, .string ⟨#[111, 102]⟩, .string ⟨#[97]⟩, .string ⟨#[105, 116, 39, 115]⟩] 9)).heap[w6.heap.size]? = some (.cells #[.string ⟨#[116, 104, 101]⟩, .string ⟨#[111, 102]⟩, .string ⟨#[97]⟩, .string ⟨#[105, 116, 39, 115]⟩] 9)) := heap_alloc_new _ _
      have hBX6 := HD1.out.size
      go_wp2_with fail
      refine (nextS HDt.out.src hn (by omega) 4 (by omega) (by omega)).mono ?_
      rintro e w7 ⟨X, rfl, hX, hs7, hb7⟩
      have HD2 := hidd (HDt.out.draw hs7 hb7)
      have HT7 : Hid (w7.heap[w6.heap.size]? = some (.cells #[.string ⟨#[116, 104, 101]⟩, .string ⟨#[111, 102]⟩, .string ⟨#[97]⟩, .string ⟨#[105, 116, 39, 115]⟩] 9)) := (hb7.block _ (by simp) (by have := HD1.out.bl; have := HD1.out.but.size; omega)).trans HTt.out
      have c3 := blkc HD2.out.box 3
      have f3 := frozen_of_row w7 BX 3 _ _ HD2.out.box
      simp at c3
      clear hs7 hb7 HDt HTt
      have hX2 : X < 4 := by omega
      -- STOPS
      go_wp2_with fail
      go_meet
      case rel =>
        have hlen : ([[116, 104, 101], [111, 102], [97], [105, 116, 39, 115]].take (1 + X) : List (List UInt8)).length = 1 + X := by rw [List.length_take]; simp; omega
        have hget : ∀ t, t < 1 + X → ([[116, 104, 101], [111, 102], [97], [105, 116, 39, 115]].take (1 + X) : List (List UInt8)).getD t [] = [[116, 104, 101], [111, 102], [97], [105, 116, 39, 115]].getD t [] := fun t ht => by
          rw [List.getD_eq_getElem?_getD, List.getElem?_take, if_pos ht, ← List.getD_eq_getElem?_getD]
        have h9 := HD2.out.setS (some ⟨w6.heap.size, 0, none⟩) 4 ([[116, 104, 101], [111, 102], [97], [105, 116, 39, 115]].take (1 + X)) (Or.inr ⟨w6.heap.size, 0, rfl, (Array.getElem?_eq_some_iff.1 HT7.out).1, fun t ht => by
          rw [hlen] at ht
          rw [Nat.zero_add, blkc HT7.out t, hget t ht]
          match t, (show t < 4 by omega) with
          | 0, _ => rfl
          | 1, _ => rfl
          | 2, _ => rfl
          | 3, _ => rfl⟩) (fun blk off e => by cases e; exact hBX6)
        rw [hlen] at h9
        refine ⟨_, _, _, h9.draw (h9.src.mono (by omega)) (But.refl _ _), Or.inr (fun e => by rw [e] at hlen; simp at hlen; omega), by rw [hlen]; omega, fun t ht => ?_⟩
        rw [hlen] at ht
        rw [hget t ht]
        match t, (show t < 4 by omega) with
        | 0, _ => decide
        | 1, _ => decide
        | 2, _ => decide
        | 3, _ => decide
  case rest =>
    obtain ⟨aS, cS, stops, hD, hne, hsl, hss⟩ := hcut
    have HNe := hidd hne
    clear hne
    have HD2 := hidd hD
    have HSs := hidd hss
    clear hD hss HD1
    go_upto_region 5 with (go_at_call 14; refine (nextS HD2.out.src hn (by omega) 4 (by omega) (by omega)).mono ?_; rintro e w8 ⟨I, rfl, hI, hs8, hb8⟩)
    have HD3 := hidd (HD2.out.draw hs8 hb8)
    clear hs8 hb8 HD2
    go_loopw [4] (fun iv wx => ∃ (i : Nat) (vY : Value) (syns : List (List UInt8 × List UInt8)), iv = .int .i64 (i : Int) ∧ i ≤ 3 ∧ DA w wx b ao n cap (A + 18 + 3 * (3 - (i : Int))) w.heap.size BX fo x2 x3 aS cS stops vY syns 0 0 ∧ syns.length ≤ 3 - i ∧ (∀ y ∈ syns, y.1.length ≤ 16 ∧ y.2.length ≤ 16) ∧ ∀ blk off, aS = some ⟨blk, off, none⟩ → vY.ownBlock ≠ some blk) (fun iv _ => (intOf iv).toNat)
    case atStart => exact ⟨I, _, [], rfl, by omega, HD3.out.draw (HD3.out.src.mono (by omega)) (But.refl _ _), by simp, (fun y hy => by simp at hy), (fun blk off e h => by cases h)⟩
    case round =>
      obtain ⟨i, vY, syns, rfl, hi3, hD, hsy, hsz, hsep⟩ := hrel
      have HD4 := hidd hD
      have HZy := hidd hsz
      have HSep := hidd hsep
      clear hD hsz hsep HD3
      by_cases hi : 0 < i
      · have hiz : (0 : Int) < (i : Int) := by omega
        go_upto_region 7 with fail
        have HVY := hidd (ownSl HD4.out.syn)
        have HDd : Hid (DA w ({ heap := wr.heap, tape := wr.tape, drawn := wr.drawn + 1, os := wr.os, output := wr.output } : World) b ao n cap (A + 18 + 3 * (3 - (i : Int))) w.heap.size BX fo x2 x3 aS cS stops vY syns 0 0) := HD4.out.draw (HD4.out.src.below (below_drewN (Below.refl _ _) 1)) (But.of_below (below_drewN (Below.refl _ _) 1))
        refine wp_region_held (S := fun _ => True) (by kernel_rfl) ?_
        generalize ({ heap := wr.heap, tape := wr.tape, drawn := wr.drawn + 1, os := wr.os, output := wr.output } : World) = wd at *
        try simp only [Act.put, List.getElem_toArray, List.getElem_cons_succ, List.getElem_cons_zero, List.setIfInBounds_toArray, List.set_cons_zero, List.set_cons_succ]
        refine tkX 0 (hS := trivial) (h := ?_)
        try simp only [Act.put, List.getElem_toArray, List.getElem_cons_succ, List.getElem_cons_zero, List.setIfInBounds_toArray, List.set_cons_zero, List.set_cons_succ]
        refine tkX 2 (hS := trivial) (h := ?_)
        try simp only [Act.put, List.getElem_toArray, List.getElem_cons_succ, List.getElem_cons_zero, List.setIfInBounds_toArray, List.set_cons_zero, List.set_cons_succ]
        refine tkX 3 (hS := trivial) (h := ?_)
        try simp only [Act.put, List.getElem_toArray, List.getElem_cons_succ, List.getElem_cons_zero, List.setIfInBounds_toArray, List.set_cons_zero, List.set_cons_succ]
        refine tkX 4 (hS := trivial) (h := ?_)
        try simp only [Act.put, List.getElem_toArray, List.getElem_cons_succ, List.getElem_cons_zero, List.setIfInBounds_toArray, List.set_cons_zero, List.set_cons_succ]
        refine tkX 5 (hS := trivial) (h := ?_)
        try simp only [Act.put, List.getElem_toArray, List.getElem_cons_succ, List.getElem_cons_zero, List.setIfInBounds_toArray, List.set_cons_zero, List.set_cons_succ]
        refine tkX 6 (hS := trivial) (h := ?_)
        try simp only [Act.put, List.getElem_toArray, List.getElem_cons_succ, List.getElem_cons_zero, List.setIfInBounds_toArray, List.set_cons_zero, List.set_cons_succ]
        refine tkX 8 (hS := trivial) (h := ?_)
        try simp only [Act.put, List.getElem_toArray, List.getElem_cons_succ, List.getElem_cons_zero, List.setIfInBounds_toArray, List.set_cons_zero, List.set_cons_succ]
        refine wpAnyH_three 1 7 9 (by kernel_rfl) ?_ ?_ ?_
        · refine wpOp_val vY _ rfl (by kernel_rfl) (exec_loadYs _ _ _ _ rfl BX 4 vY HVY.out (by kernel_rfl) (blkc HDd.out.box 4)) ?_
          refine ⟨trivial, ?_⟩
          try simp only [Act.put, List.getElem_toArray, List.getElem_cons_succ, List.getElem_cons_zero, List.setIfInBounds_toArray, List.set_cons_zero, List.set_cons_succ]
          refine wpAnyH_two 7 9 (by kernel_rfl) ?_ ?_
          · refine wpOp_val (.slice (some ⟨wd.heap.size, 0, none⟩) 5 5) (wd.alloc (.cells #[.string ⟨#[99, 97, 116]⟩, .string ⟨#[102, 101, 108, 105, 110, 101]⟩, .string ⟨#[114, 117, 110]⟩, .string ⟨#[114, 117, 110, 110, 105, 110, 103]⟩, .string ⟨#[104, 111, 117, 115, 101]⟩, .string ⟨#[104, 111, 109, 101]⟩, .string ⟨#[113, 117, 105, 99, 107]⟩, .string ⟨#[102, 97, 115, 116]⟩, .string ⟨#[114, 117, 110, 110, 105, 110, 103]⟩, .string ⟨#[106, 111, 103]⟩] 151)) rfl (by kernel_rfl) (exec_build5 _ _ _ _ _ _ _ _ rfl _ _ _ _ _ _ _ _ _ _ (by kernel_rfl) (by kernel_rfl) (by kernel_rfl) (by kernel_rfl) (by kernel_rfl)) ?_
            refine ⟨trivial, ?_⟩
            try simp only [Act.put, List.getElem_toArray, List.getElem_cons_succ, List.getElem_cons_zero, List.setIfInBounds_toArray, List.set_cons_zero, List.set_cons_succ]
            have HT2 : Hid ((wd.alloc (.cells #[.string ⟨#[99, 97, 116]⟩, .string ⟨#[102, 101, 108, 105, 110, 101]⟩, .string ⟨#[114, 117, 110]⟩, .string ⟨#[114, 117, 110, 110, 105, 110, 103]⟩, .string ⟨#[104, 111, 117, 115, 101]⟩, .string ⟨#[104, 111, 109, 101]⟩, .string ⟨#[113, 117, 105, 99, 107]⟩, .string ⟨#[102, 97, 115, 116]⟩, .string ⟨#[114, 117, 110, 110, 105, 110, 103]⟩, .string ⟨#[106, 111, 103]⟩] 151)).heap[wd.heap.size]? = some (.cells #[.string ⟨#[99, 97, 116]⟩, .string ⟨#[102, 101, 108, 105, 110, 101]⟩, .string ⟨#[114, 117, 110]⟩, .string ⟨#[114, 117, 110, 110, 105, 110, 103]⟩, .string ⟨#[104, 111, 117, 115, 101]⟩, .string ⟨#[104, 111, 109, 101]⟩, .string ⟨#[113, 117, 105, 99, 107]⟩, .string ⟨#[102, 97, 115, 116]⟩, .string ⟨#[114, 117, 110, 110, 105, 110, 103]⟩, .string ⟨#[106, 111, 103]⟩] 151)) := heap_alloc_new _ _
            have HZ2 : Hid (BX < wd.heap.size) := HDd.out.size
            have HE2 := hidd (HDd.out.alloc (.cells #[.string ⟨#[99, 97, 116]⟩, .string ⟨#[102, 101, 108, 105, 110, 101]⟩, .string ⟨#[114, 117, 110]⟩, .string ⟨#[114, 117, 110, 110, 105, 110, 103]⟩, .string ⟨#[104, 111, 117, 115, 101]⟩, .string ⟨#[104, 111, 109, 101]⟩, .string ⟨#[113, 117, 105, 99, 107]⟩, .string ⟨#[102, 97, 115, 116]⟩, .string ⟨#[114, 117, 110, 110, 105, 110, 103]⟩, .string ⟨#[106, 111, 103]⟩] 151))
            generalize wd.alloc (.cells #[.string ⟨#[99, 97, 116]⟩, .string ⟨#[102, 101, 108, 105, 110, 101]⟩, .string ⟨#[114, 117, 110]⟩, .string ⟨#[114, 117, 110, 110, 105, 110, 103]⟩, .string ⟨#[104, 111, 117, 115, 101]⟩, .string ⟨#[104, 111, 109, 101]⟩, .string ⟨#[113, 117, 105, 99, 107]⟩, .string ⟨#[102, 97, 115, 116]⟩, .string ⟨#[114, 117, 110, 110, 105, 110, 103]⟩, .string ⟨#[106, 111, 103]⟩] 151) = wa2 at *
            generalize wd.heap.size = T2 at *
            refine wpAnyH_one 9 (by kernel_rfl) ?_
            · refine wpOp_call 14 #[.pointer (some ⟨b, 0, none⟩), .int .i64 5] rfl (by kernel_rfl) (rbx_call2 _ _ _ _ _ _ _ _ rfl _ _ (by kernel_rfl) (by kernel_rfl) (Tryz.call14 _ _)) ?_
              refine (nextS HE2.out.src hn (by omega) 5 (by omega) (by omega)).mono ?_
              rintro e' wb3 ⟨X, rfl, hX, hsx, hbx⟩
              have HE3 := hidd (HE2.out.draw hsx hbx)
              have HT3 : Hid (wb3.heap[T2]? = some (.cells #[.string ⟨#[99, 97, 116]⟩, .string ⟨#[102, 101, 108, 105, 110, 101]⟩, .string ⟨#[114, 117, 110]⟩, .string ⟨#[114, 117, 110, 110, 105, 110, 103]⟩, .string ⟨#[104, 111, 117, 115, 101]⟩, .string ⟨#[104, 111, 109, 101]⟩, .string ⟨#[113, 117, 105, 99, 107]⟩, .string ⟨#[102, 97, 115, 116]⟩, .string ⟨#[114, 117, 110, 110, 105, 110, 103]⟩, .string ⟨#[106, 111, 103]⟩] 151)) := (hbx.block _ (Array.getElem?_eq_some_iff.1 HT2.out).1 (by have := HZ2.out; have := HD4.out.bl; have := HD4.out.xl; have := HD4.out.rl; omega)).trans HT2.out
              clear hsx hbx
              refine ⟨trivial, ?_⟩
              try simp only [Act.put, List.getElem_toArray, List.getElem_cons_succ, List.getElem_cons_zero, List.setIfInBounds_toArray, List.set_cons_zero, List.set_cons_succ]
              refine wpAnyH_take (i := 10) (v := .pointer (some ⟨T2, X * 2, none⟩)) rfl (by kernel_rfl) (by kernel_rfl) (by kernel_rfl) (fun _ _ _ h => h) (Or.inl ⟨by kernel_rfl, fun W hW => exec_indexY W _ _ _ _ rfl T2 X (by kernel_rfl) (by kernel_rfl) (by omega)⟩) trivial ?_
              try simp only [Act.put, List.getElem_toArray, List.getElem_cons_succ, List.getElem_cons_zero, List.setIfInBounds_toArray, List.set_cons_zero, List.set_cons_succ]
              refine wpAnyH_one 11 (by kernel_rfl) ?_
              · obtain ⟨y, hy0, hy1, hyl⟩ := synTab HT3.out X (by omega)
                refine wpOp_val (.agg #[.string (bs y.1), .string (bs y.2)]) _ rfl (by kernel_rfl) (exec_loadY _ _ _ _ rfl T2 (X * 2) _ _ (by kernel_rfl) hy0 hy1) ?_
                refine ⟨trivial, ?_⟩
                clear hy0 hy1
                try simp only [Act.put, List.getElem_toArray, List.getElem_cons_succ, List.getElem_cons_zero, List.setIfInBounds_toArray, List.set_cons_zero, List.set_cons_succ]
                refine wpAnyH_one 12 (by kernel_rfl) ?_
                · refine wpOp_val (.slice (some ⟨wb3.heap.size, 0, none⟩) 1 1) (wb3.alloc (.cells #[.string (bs y.1), .string (bs y.2)] 151)) rfl (by kernel_rfl) (exec_buildY _ _ _ _ rfl _ _ (by kernel_rfl)) ?_
                  refine ⟨trivial, ?_⟩
                  try simp only [Act.put, List.getElem_toArray, List.getElem_cons_succ, List.getElem_cons_zero, List.setIfInBounds_toArray, List.set_cons_zero, List.set_cons_succ]
                  have HN5 : Hid ((wb3.alloc (.cells #[.string (bs y.1), .string (bs y.2)] 151)).heap[wb3.heap.size]? = some (.cells #[.string (bs y.1), .string (bs y.2)] 151)) := heap_alloc_new _ _
                  have HE5 := hidd (HE3.out.alloc (.cells #[.string (bs y.1), .string (bs y.2)] 151))
                  generalize wb3.alloc (.cells #[.string (bs y.1), .string (bs y.2)] 151) = wc5 at *
                  generalize wb3.heap.size = N5 at *
                  have hbz := HE5.out.size
                  refine wpAnyH_one 13 (by kernel_rfl) ?_
                  refine wpOp_wp rfl (by kernel_rfl) (wp_append_lies _ (.tmp 28) (.tmp 39) 112 rfl (BX + 1) 151 i0 (.agg #[.string ⟨#[]⟩, .string ⟨#[]⟩]) 2 32 Tryz.underlying112 hi0 hz0 hz1 hz2 rfl (by decide) vY _ _ (by kernel_rfl) HE5.out.syn ⟨N5, 0, none⟩ 1 1 [.string (bs y.1), .string (bs y.2)] (by kernel_rfl) rfl (World.news_of_block HN5.out) (by intro v hv; simp at hv; rcases hv with rfl | rfl <;> rfl) (by omega) (by unfold maxLen; omega) (by omega) (by omega) _ rfl ?_)
                  intro g6 cp6 w13 hown hgrow hat hlt
                  refine ⟨trivial, ?_⟩
                  try simp only [Act.put, List.getElem_toArray, List.getElem_cons_succ, List.getElem_cons_zero, List.setIfInBounds_toArray, List.set_cons_zero, List.set_cons_succ]
                  have HF := hidd (HE5.out.more (HNe.out.imp And.left id) HSep.out hown hgrow hat)
                  have HBx : Hid (w13.heap[BX]? = _) := (hgrow.block BX hbz (fun e => by have := (own2_base HE5.out.syn BX e.symm).1; omega)).trans HE5.out.box
                  clear hown hgrow hat hlt
                  refine tkX 14 (hS := trivial) (h := ?_)
                  try simp only [Act.put, List.getElem_toArray, List.getElem_cons_succ, List.getElem_cons_zero, List.setIfInBounds_toArray, List.set_cons_zero, List.set_cons_succ]
                  refine wpAnyH_one 15 (by kernel_rfl) ?_
                  refine wpOp_skip (w13.setCell ⟨BX, 4, none⟩ (.slice (some ⟨g6, 0, none⟩) (syns.length + 1) cp6)) rfl (by kernel_rfl) (exec_storeYs _ _ _ _ _ rfl BX 4 _ _ _ vY (by kernel_rfl) (by kernel_rfl) (blkc HBx.out 4) (blkf HBx.out 4)) ?_
                  refine ⟨trivial, ?_⟩
                  try simp only [Act.put, List.getElem_toArray, List.getElem_cons_succ, List.getElem_cons_zero, List.setIfInBounds_toArray, List.set_cons_zero, List.set_cons_succ]
                  refine wpAnyH_done (by kernel_rfl) ?_ _
                  clear HBx
                  generalize w13.setCell ⟨BX, 4, none⟩ (.slice (some ⟨g6, 0, none⟩) (syns.length + 1) cp6) = w15 at *
                  go_wp2_with fail
                  refine ⟨⟨i - 1, _, syns ++ [y], by rw [show ((i - 1 : Nat) : Int) = (i : Int) - 1 by omega], by omega, HF.out.1.draw (HF.out.1.src.mono (by omega)) (But.refl _ _), by rw [List.length_append, List.length_singleton]; omega, ?_, HF.out.2⟩, by simp [intOf]; omega⟩
                  intro z hz
                  rcases List.mem_append.1 hz with hz | hz
                  · exact HZy.out z hz
                  · rw [List.mem_singleton] at hz; rw [hz]; exact hyl
          · refine wpOp_call 14 #[.pointer (some ⟨b, 0, none⟩), .int .i64 5] rfl (by kernel_rfl) (rbx_call2 _ _ _ _ _ _ _ _ rfl _ _ (by kernel_rfl) (by kernel_rfl) (Tryz.call14 _ _)) ?_
            refine (nextS HDd.out.src hn (by omega) 5 (by omega) (by omega)).mono ?_
            rintro e' wb6 ⟨X, rfl, hX, hsx, hbx⟩
            have HE6 := hidd (HDd.out.draw hsx hbx)
            clear hsx hbx
            refine ⟨trivial, ?_⟩
            try simp only [Act.put, List.getElem_toArray, List.getElem_cons_succ, List.getElem_cons_zero, List.setIfInBounds_toArray, List.set_cons_zero, List.set_cons_succ]
            refine wpAnyH_one 7 (by kernel_rfl) ?_
            · refine wpOp_val (.slice (some ⟨wb6.heap.size, 0, none⟩) 5 5) (wb6.alloc (.cells #[.string ⟨#[99, 97, 116]⟩, .string ⟨#[102, 101, 108, 105, 110, 101]⟩, .string ⟨#[114, 117, 110]⟩, .string ⟨#[114, 117, 110, 110, 105, 110, 103]⟩, .string ⟨#[104, 111, 117, 115, 101]⟩, .string ⟨#[104, 111, 109, 101]⟩, .string ⟨#[113, 117, 105, 99, 107]⟩, .string ⟨#[102, 97, 115, 116]⟩, .string ⟨#[114, 117, 110, 110, 105, 110, 103]⟩, .string ⟨#[106, 111, 103]⟩] 151)) rfl (by kernel_rfl) (exec_build5 _ _ _ _ _ _ _ _ rfl _ _ _ _ _ _ _ _ _ _ (by kernel_rfl) (by kernel_rfl) (by kernel_rfl) (by kernel_rfl) (by kernel_rfl)) ?_
              refine ⟨trivial, ?_⟩
              try simp only [Act.put, List.getElem_toArray, List.getElem_cons_succ, List.getElem_cons_zero, List.setIfInBounds_toArray, List.set_cons_zero, List.set_cons_succ]
              have HT7 : Hid ((wb6.alloc (.cells #[.string ⟨#[99, 97, 116]⟩, .string ⟨#[102, 101, 108, 105, 110, 101]⟩, .string ⟨#[114, 117, 110]⟩, .string ⟨#[114, 117, 110, 110, 105, 110, 103]⟩, .string ⟨#[104, 111, 117, 115, 101]⟩, .string ⟨#[104, 111, 109, 101]⟩, .string ⟨#[113, 117, 105, 99, 107]⟩, .string ⟨#[102, 97, 115, 116]⟩, .string ⟨#[114, 117, 110, 110, 105, 110, 103]⟩, .string ⟨#[106, 111, 103]⟩] 151)).heap[wb6.heap.size]? = some (.cells #[.string ⟨#[99, 97, 116]⟩, .string ⟨#[102, 101, 108, 105, 110, 101]⟩, .string ⟨#[114, 117, 110]⟩, .string ⟨#[114, 117, 110, 110, 105, 110, 103]⟩, .string ⟨#[104, 111, 117, 115, 101]⟩, .string ⟨#[104, 111, 109, 101]⟩, .string ⟨#[113, 117, 105, 99, 107]⟩, .string ⟨#[102, 97, 115, 116]⟩, .string ⟨#[114, 117, 110, 110, 105, 110, 103]⟩, .string ⟨#[106, 111, 103]⟩] 151)) := heap_alloc_new _ _
              have HZ7 : Hid (BX < wb6.heap.size) := HE6.out.size
              have HE7 := hidd (HE6.out.alloc (.cells #[.string ⟨#[99, 97, 116]⟩, .string ⟨#[102, 101, 108, 105, 110, 101]⟩, .string ⟨#[114, 117, 110]⟩, .string ⟨#[114, 117, 110, 110, 105, 110, 103]⟩, .string ⟨#[104, 111, 117, 115, 101]⟩, .string ⟨#[104, 111, 109, 101]⟩, .string ⟨#[113, 117, 105, 99, 107]⟩, .string ⟨#[102, 97, 115, 116]⟩, .string ⟨#[114, 117, 110, 110, 105, 110, 103]⟩, .string ⟨#[106, 111, 103]⟩] 151))
              generalize wb6.alloc (.cells #[.string ⟨#[99, 97, 116]⟩, .string ⟨#[102, 101, 108, 105, 110, 101]⟩, .string ⟨#[114, 117, 110]⟩, .string ⟨#[114, 117, 110, 110, 105, 110, 103]⟩, .string ⟨#[104, 111, 117, 115, 101]⟩, .string ⟨#[104, 111, 109, 101]⟩, .string ⟨#[113, 117, 105, 99, 107]⟩, .string ⟨#[102, 97, 115, 116]⟩, .string ⟨#[114, 117, 110, 110, 105, 110, 103]⟩, .string ⟨#[106, 111, 103]⟩] 151) = wa7 at *
              generalize wb6.heap.size = T7 at *
              refine wpAnyH_take (i := 10) (v := .pointer (some ⟨T7, X * 2, none⟩)) rfl (by kernel_rfl) (by kernel_rfl) (by kernel_rfl) (fun _ _ _ h => h) (Or.inl ⟨by kernel_rfl, fun W hW => exec_indexY W _ _ _ _ rfl T7 X (by kernel_rfl) (by kernel_rfl) (by omega)⟩) trivial ?_
              try simp only [Act.put, List.getElem_toArray, List.getElem_cons_succ, List.getElem_cons_zero, List.setIfInBounds_toArray, List.set_cons_zero, List.set_cons_succ]
              refine wpAnyH_one 11 (by kernel_rfl) ?_
              · obtain ⟨y, hy0, hy1, hyl⟩ := synTab HT7.out X (by omega)
                refine wpOp_val (.agg #[.string (bs y.1), .string (bs y.2)]) _ rfl (by kernel_rfl) (exec_loadY _ _ _ _ rfl T7 (X * 2) _ _ (by kernel_rfl) hy0 hy1) ?_
                refine ⟨trivial, ?_⟩
                clear hy0 hy1
                try simp only [Act.put, List.getElem_toArray, List.getElem_cons_succ, List.getElem_cons_zero, List.setIfInBounds_toArray, List.set_cons_zero, List.set_cons_succ]
                refine wpAnyH_one 12 (by kernel_rfl) ?_
                · refine wpOp_val (.slice (some ⟨wa7.heap.size, 0, none⟩) 1 1) (wa7.alloc (.cells #[.string (bs y.1), .string (bs y.2)] 151)) rfl (by kernel_rfl) (exec_buildY _ _ _ _ rfl _ _ (by kernel_rfl)) ?_
                  refine ⟨trivial, ?_⟩
                  try simp only [Act.put, List.getElem_toArray, List.getElem_cons_succ, List.getElem_cons_zero, List.setIfInBounds_toArray, List.set_cons_zero, List.set_cons_succ]
                  have HN9 : Hid ((wa7.alloc (.cells #[.string (bs y.1), .string (bs y.2)] 151)).heap[wa7.heap.size]? = some (.cells #[.string (bs y.1), .string (bs y.2)] 151)) := heap_alloc_new _ _
                  have HE9 := hidd (HE7.out.alloc (.cells #[.string (bs y.1), .string (bs y.2)] 151))
                  generalize wa7.alloc (.cells #[.string (bs y.1), .string (bs y.2)] 151) = wc9 at *
                  generalize wa7.heap.size = N9 at *
                  have hbz := HE9.out.size
                  refine wpAnyH_one 13 (by kernel_rfl) ?_
                  refine wpOp_wp rfl (by kernel_rfl) (wp_append_lies _ (.tmp 28) (.tmp 39) 112 rfl (BX + 1) 151 i0 (.agg #[.string ⟨#[]⟩, .string ⟨#[]⟩]) 2 32 Tryz.underlying112 hi0 hz0 hz1 hz2 rfl (by decide) vY _ _ (by kernel_rfl) HE9.out.syn ⟨N9, 0, none⟩ 1 1 [.string (bs y.1), .string (bs y.2)] (by kernel_rfl) rfl (World.news_of_block HN9.out) (by intro v hv; simp at hv; rcases hv with rfl | rfl <;> rfl) (by omega) (by unfold maxLen; omega) (by omega) (by omega) _ rfl ?_)
                  intro g6 cp6 w13 hown hgrow hat hlt
                  refine ⟨trivial, ?_⟩
                  try simp only [Act.put, List.getElem_toArray, List.getElem_cons_succ, List.getElem_cons_zero, List.setIfInBounds_toArray, List.set_cons_zero, List.set_cons_succ]
                  have HF := hidd (HE9.out.more (HNe.out.imp And.left id) HSep.out hown hgrow hat)
                  have HBx : Hid (w13.heap[BX]? = _) := (hgrow.block BX hbz (fun e => by have := (own2_base HE9.out.syn BX e.symm).1; omega)).trans HE9.out.box
                  clear hown hgrow hat hlt
                  refine tkX 14 (hS := trivial) (h := ?_)
                  try simp only [Act.put, List.getElem_toArray, List.getElem_cons_succ, List.getElem_cons_zero, List.setIfInBounds_toArray, List.set_cons_zero, List.set_cons_succ]
                  refine wpAnyH_one 15 (by kernel_rfl) ?_
                  refine wpOp_skip (w13.setCell ⟨BX, 4, none⟩ (.slice (some ⟨g6, 0, none⟩) (syns.length + 1) cp6)) rfl (by kernel_rfl) (exec_storeYs _ _ _ _ _ rfl BX 4 _ _ _ vY (by kernel_rfl) (by kernel_rfl) (blkc HBx.out 4) (blkf HBx.out 4)) ?_
                  refine ⟨trivial, ?_⟩
                  try simp only [Act.put, List.getElem_toArray, List.getElem_cons_succ, List.getElem_cons_zero, List.setIfInBounds_toArray, List.set_cons_zero, List.set_cons_succ]
                  refine wpAnyH_done (by kernel_rfl) ?_ _
                  clear HBx
                  generalize w13.setCell ⟨BX, 4, none⟩ (.slice (some ⟨g6, 0, none⟩) (syns.length + 1) cp6) = w15 at *
                  go_wp2_with fail
                  refine ⟨⟨i - 1, _, syns ++ [y], by rw [show ((i - 1 : Nat) : Int) = (i : Int) - 1 by omega], by omega, HF.out.1.draw (HF.out.1.src.mono (by omega)) (But.refl _ _), by rw [List.length_append, List.length_singleton]; omega, ?_, HF.out.2⟩, by simp [intOf]; omega⟩
                  intro z hz
                  rcases List.mem_append.1 hz with hz | hz
                  · exact HZy.out z hz
                  · rw [List.mem_singleton] at hz; rw [hz]; exact hyl
        · refine wpOp_val (.slice (some ⟨wd.heap.size, 0, none⟩) 5 5) (wd.alloc (.cells #[.string ⟨#[99, 97, 116]⟩, .string ⟨#[102, 101, 108, 105, 110, 101]⟩, .string ⟨#[114, 117, 110]⟩, .string ⟨#[114, 117, 110, 110, 105, 110, 103]⟩, .string ⟨#[104, 111, 117, 115, 101]⟩, .string ⟨#[104, 111, 109, 101]⟩, .string ⟨#[113, 117, 105, 99, 107]⟩, .string ⟨#[102, 97, 115, 116]⟩, .string ⟨#[114, 117, 110, 110, 105, 110, 103]⟩, .string ⟨#[106, 111, 103]⟩] 151)) rfl (by kernel_rfl) (exec_build5 _ _ _ _ _ _ _ _ rfl _ _ _ _ _ _ _ _ _ _ (by kernel_rfl) (by kernel_rfl) (by kernel_rfl) (by kernel_rfl) (by kernel_rfl)) ?_
          refine ⟨trivial, ?_⟩
          try simp only [Act.put, List.getElem_toArray, List.getElem_cons_succ, List.getElem_cons_zero, List.setIfInBounds_toArray, List.set_cons_zero, List.set_cons_succ]
          have HT10 : Hid ((wd.alloc (.cells #[.string ⟨#[99, 97, 116]⟩, .string ⟨#[102, 101, 108, 105, 110, 101]⟩, .string ⟨#[114, 117, 110]⟩, .string ⟨#[114, 117, 110, 110, 105, 110, 103]⟩, .string ⟨#[104, 111, 117, 115, 101]⟩, .string ⟨#[104, 111, 109, 101]⟩, .string ⟨#[113, 117, 105, 99, 107]⟩, .string ⟨#[102, 97, 115, 116]⟩, .string ⟨#[114, 117, 110, 110, 105, 110, 103]⟩, .string ⟨#[106, 111, 103]⟩] 151)).heap[wd.heap.size]? = some (.cells #[.string ⟨#[99, 97, 116]⟩, .string ⟨#[102, 101, 108, 105, 110, 101]⟩, .string ⟨#[114, 117, 110]⟩, .string ⟨#[114, 117, 110, 110, 105, 110, 103]⟩, .string ⟨#[104, 111, 117, 115, 101]⟩, .string ⟨#[104, 111, 109, 101]⟩, .string ⟨#[113, 117, 105, 99, 107]⟩, .string ⟨#[102, 97, 115, 116]⟩, .string ⟨#[114, 117, 110, 110, 105, 110, 103]⟩, .string ⟨#[106, 111, 103]⟩] 151)) := heap_alloc_new _ _
          have HZ10 : Hid (BX < wd.heap.size) := HDd.out.size
          have HE10 := hidd (HDd.out.alloc (.cells #[.string ⟨#[99, 97, 116]⟩, .string ⟨#[102, 101, 108, 105, 110, 101]⟩, .string ⟨#[114, 117, 110]⟩, .string ⟨#[114, 117, 110, 110, 105, 110, 103]⟩, .string ⟨#[104, 111, 117, 115, 101]⟩, .string ⟨#[104, 111, 109, 101]⟩, .string ⟨#[113, 117, 105, 99, 107]⟩, .string ⟨#[102, 97, 115, 116]⟩, .string ⟨#[114, 117, 110, 110, 105, 110, 103]⟩, .string ⟨#[106, 111, 103]⟩] 151))
          generalize wd.alloc (.cells #[.string ⟨#[99, 97, 116]⟩, .string ⟨#[102, 101, 108, 105, 110, 101]⟩, .string ⟨#[114, 117, 110]⟩, .string ⟨#[114, 117, 110, 110, 105, 110, 103]⟩, .string ⟨#[104, 111, 117, 115, 101]⟩, .string ⟨#[104, 111, 109, 101]⟩, .string ⟨#[113, 117, 105, 99, 107]⟩, .string ⟨#[102, 97, 115, 116]⟩, .string ⟨#[114, 117, 110, 110, 105, 110, 103]⟩, .string ⟨#[106, 111, 103]⟩] 151) = wa10 at *
          generalize wd.heap.size = T10 at *
          refine wpAnyH_two 1 9 (by kernel_rfl) ?_ ?_
          · refine wpOp_val vY _ rfl (by kernel_rfl) (exec_loadYs _ _ _ _ rfl BX 4 vY HVY.out (by kernel_rfl) (blkc HE10.out.box 4)) ?_
            refine ⟨trivial, ?_⟩
            try simp only [Act.put, List.getElem_toArray, List.getElem_cons_succ, List.getElem_cons_zero, List.setIfInBounds_toArray, List.set_cons_zero, List.set_cons_succ]
            refine wpAnyH_one 9 (by kernel_rfl) ?_
            · refine wpOp_call 14 #[.pointer (some ⟨b, 0, none⟩), .int .i64 5] rfl (by kernel_rfl) (rbx_call2 _ _ _ _ _ _ _ _ rfl _ _ (by kernel_rfl) (by kernel_rfl) (Tryz.call14 _ _)) ?_
              refine (nextS HE10.out.src hn (by omega) 5 (by omega) (by omega)).mono ?_
              rintro e' wb12 ⟨X, rfl, hX, hsx, hbx⟩
              have HE12 := hidd (HE10.out.draw hsx hbx)
              have HT12 : Hid (wb12.heap[T10]? = some (.cells #[.string ⟨#[99, 97, 116]⟩, .string ⟨#[102, 101, 108, 105, 110, 101]⟩, .string ⟨#[114, 117, 110]⟩, .string ⟨#[114, 117, 110, 110, 105, 110, 103]⟩, .string ⟨#[104, 111, 117, 115, 101]⟩, .string ⟨#[104, 111, 109, 101]⟩, .string ⟨#[113, 117, 105, 99, 107]⟩, .string ⟨#[102, 97, 115, 116]⟩, .string ⟨#[114, 117, 110, 110, 105, 110, 103]⟩, .string ⟨#[106, 111, 103]⟩] 151)) := (hbx.block _ (Array.getElem?_eq_some_iff.1 HT10.out).1 (by have := HZ10.out; have := HD4.out.bl; have := HD4.out.xl; have := HD4.out.rl; omega)).trans HT10.out
              clear hsx hbx
              refine ⟨trivial, ?_⟩
              try simp only [Act.put, List.getElem_toArray, List.getElem_cons_succ, List.getElem_cons_zero, List.setIfInBounds_toArray, List.set_cons_zero, List.set_cons_succ]
              refine wpAnyH_take (i := 10) (v := .pointer (some ⟨T10, X * 2, none⟩)) rfl (by kernel_rfl) (by kernel_rfl) (by kernel_rfl) (fun _ _ _ h => h) (Or.inl ⟨by kernel_rfl, fun W hW => exec_indexY W _ _ _ _ rfl T10 X (by kernel_rfl) (by kernel_rfl) (by omega)⟩) trivial ?_
              try simp only [Act.put, List.getElem_toArray, List.getElem_cons_succ, List.getElem_cons_zero, List.setIfInBounds_toArray, List.set_cons_zero, List.set_cons_succ]
              refine wpAnyH_one 11 (by kernel_rfl) ?_
              · obtain ⟨y, hy0, hy1, hyl⟩ := synTab HT12.out X (by omega)
                refine wpOp_val (.agg #[.string (bs y.1), .string (bs y.2)]) _ rfl (by kernel_rfl) (exec_loadY _ _ _ _ rfl T10 (X * 2) _ _ (by kernel_rfl) hy0 hy1) ?_
                refine ⟨trivial, ?_⟩
                clear hy0 hy1
                try simp only [Act.put, List.getElem_toArray, List.getElem_cons_succ, List.getElem_cons_zero, List.setIfInBounds_toArray, List.set_cons_zero, List.set_cons_succ]
                refine wpAnyH_one 12 (by kernel_rfl) ?_
                · refine wpOp_val (.slice (some ⟨wb12.heap.size, 0, none⟩) 1 1) (wb12.alloc (.cells #[.string (bs y.1), .string (bs y.2)] 151)) rfl (by kernel_rfl) (exec_buildY _ _ _ _ rfl _ _ (by kernel_rfl)) ?_
                  refine ⟨trivial, ?_⟩
                  try simp only [Act.put, List.getElem_toArray, List.getElem_cons_succ, List.getElem_cons_zero, List.setIfInBounds_toArray, List.set_cons_zero, List.set_cons_succ]
                  have HN14 : Hid ((wb12.alloc (.cells #[.string (bs y.1), .string (bs y.2)] 151)).heap[wb12.heap.size]? = some (.cells #[.string (bs y.1), .string (bs y.2)] 151)) := heap_alloc_new _ _
                  have HE14 := hidd (HE12.out.alloc (.cells #[.string (bs y.1), .string (bs y.2)] 151))
                  generalize wb12.alloc (.cells #[.string (bs y.1), .string (bs y.2)] 151) = wc14 at *
                  generalize wb12.heap.size = N14 at *
                  have hbz := HE14.out.size
                  refine wpAnyH_one 13 (by kernel_rfl) ?_
                  refine wpOp_wp rfl (by kernel_rfl) (wp_append_lies _ (.tmp 28) (.tmp 39) 112 rfl (BX + 1) 151 i0 (.agg #[.string ⟨#[]⟩, .string ⟨#[]⟩]) 2 32 Tryz.underlying112 hi0 hz0 hz1 hz2 rfl (by decide) vY _ _ (by kernel_rfl) HE14.out.syn ⟨N14, 0, none⟩ 1 1 [.string (bs y.1), .string (bs y.2)] (by kernel_rfl) rfl (World.news_of_block HN14.out) (by intro v hv; simp at hv; rcases hv with rfl | rfl <;> rfl) (by omega) (by unfold maxLen; omega) (by omega) (by omega) _ rfl ?_)
                  intro g6 cp6 w13 hown hgrow hat hlt
                  refine ⟨trivial, ?_⟩
                  try simp only [Act.put, List.getElem_toArray, List.getElem_cons_succ, List.getElem_cons_zero, List.setIfInBounds_toArray, List.set_cons_zero, List.set_cons_succ]
                  have HF := hidd (HE14.out.more (HNe.out.imp And.left id) HSep.out hown hgrow hat)
                  have HBx : Hid (w13.heap[BX]? = _) := (hgrow.block BX hbz (fun e => by have := (own2_base HE14.out.syn BX e.symm).1; omega)).trans HE14.out.box
                  clear hown hgrow hat hlt
                  refine tkX 14 (hS := trivial) (h := ?_)
                  try simp only [Act.put, List.getElem_toArray, List.getElem_cons_succ, List.getElem_cons_zero, List.setIfInBounds_toArray, List.set_cons_zero, List.set_cons_succ]
                  refine wpAnyH_one 15 (by kernel_rfl) ?_
                  refine wpOp_skip (w13.setCell ⟨BX, 4, none⟩ (.slice (some ⟨g6, 0, none⟩) (syns.length + 1) cp6)) rfl (by kernel_rfl) (exec_storeYs _ _ _ _ _ rfl BX 4 _ _ _ vY (by kernel_rfl) (by kernel_rfl) (blkc HBx.out 4) (blkf HBx.out 4)) ?_
                  refine ⟨trivial, ?_⟩
                  try simp only [Act.put, List.getElem_toArray, List.getElem_cons_succ, List.getElem_cons_zero, List.setIfInBounds_toArray, List.set_cons_zero, List.set_cons_succ]
                  refine wpAnyH_done (by kernel_rfl) ?_ _
                  clear HBx
                  generalize w13.setCell ⟨BX, 4, none⟩ (.slice (some ⟨g6, 0, none⟩) (syns.length + 1) cp6) = w15 at *
                  go_wp2_with fail
                  refine ⟨⟨i - 1, _, syns ++ [y], by rw [show ((i - 1 : Nat) : Int) = (i : Int) - 1 by omega], by omega, HF.out.1.draw (HF.out.1.src.mono (by omega)) (But.refl _ _), by rw [List.length_append, List.length_singleton]; omega, ?_, HF.out.2⟩, by simp [intOf]; omega⟩
                  intro z hz
                  rcases List.mem_append.1 hz with hz | hz
                  · exact HZy.out z hz
                  · rw [List.mem_singleton] at hz; rw [hz]; exact hyl
          · refine wpOp_call 14 #[.pointer (some ⟨b, 0, none⟩), .int .i64 5] rfl (by kernel_rfl) (rbx_call2 _ _ _ _ _ _ _ _ rfl _ _ (by kernel_rfl) (by kernel_rfl) (Tryz.call14 _ _)) ?_
            refine (nextS HE10.out.src hn (by omega) 5 (by omega) (by omega)).mono ?_
            rintro e' wb15 ⟨X, rfl, hX, hsx, hbx⟩
            have HE15 := hidd (HE10.out.draw hsx hbx)
            have HT15 : Hid (wb15.heap[T10]? = some (.cells #[.string ⟨#[99, 97, 116]⟩, .string ⟨#[102, 101, 108, 105, 110, 101]⟩, .string ⟨#[114, 117, 110]⟩, .string ⟨#[114, 117, 110, 110, 105, 110, 103]⟩, .string ⟨#[104, 111, 117, 115, 101]⟩, .string ⟨#[104, 111, 109, 101]⟩, .string ⟨#[113, 117, 105, 99, 107]⟩, .string ⟨#[102, 97, 115, 116]⟩, .string ⟨#[114, 117, 110, 110, 105, 110, 103]⟩, .string ⟨#[106, 111, 103]⟩] 151)) := (hbx.block _ (Array.getElem?_eq_some_iff.1 HT10.out).1 (by have := HZ10.out; have := HD4.out.bl; have := HD4.out.xl; have := HD4.out.rl; omega)).trans HT10.out
            clear hsx hbx
            refine ⟨trivial, ?_⟩
            try simp only [Act.put, List.getElem_toArray, List.getElem_cons_succ, List.getElem_cons_zero, List.setIfInBounds_toArray, List.set_cons_zero, List.set_cons_succ]
            refine wpAnyH_take (i := 10) (v := .pointer (some ⟨T10, X * 2, none⟩)) rfl (by kernel_rfl) (by kernel_rfl) (by kernel_rfl) (fun _ _ _ h => h) (Or.inl ⟨by kernel_rfl, fun W hW => exec_indexY W _ _ _ _ rfl T10 X (by kernel_rfl) (by kernel_rfl) (by omega)⟩) trivial ?_
            try simp only [Act.put, List.getElem_toArray, List.getElem_cons_succ, List.getElem_cons_zero, List.setIfInBounds_toArray, List.set_cons_zero, List.set_cons_succ]
            refine wpAnyH_two 1 11 (by kernel_rfl) ?_ ?_
            · refine wpOp_val vY _ rfl (by kernel_rfl) (exec_loadYs _ _ _ _ rfl BX 4 vY HVY.out (by kernel_rfl) (blkc HE15.out.box 4)) ?_
              refine ⟨trivial, ?_⟩
              try simp only [Act.put, List.getElem_toArray, List.getElem_cons_succ, List.getElem_cons_zero, List.setIfInBounds_toArray, List.set_cons_zero, List.set_cons_succ]
              refine wpAnyH_one 11 (by kernel_rfl) ?_
              · obtain ⟨y, hy0, hy1, hyl⟩ := synTab HT15.out X (by omega)
                refine wpOp_val (.agg #[.string (bs y.1), .string (bs y.2)]) _ rfl (by kernel_rfl) (exec_loadY _ _ _ _ rfl T10 (X * 2) _ _ (by kernel_rfl) hy0 hy1) ?_
                refine ⟨trivial, ?_⟩
                clear hy0 hy1
                try simp only [Act.put, List.getElem_toArray, List.getElem_cons_succ, List.getElem_cons_zero, List.setIfInBounds_toArray, List.set_cons_zero, List.set_cons_succ]
                refine wpAnyH_one 12 (by kernel_rfl) ?_
                · refine wpOp_val (.slice (some ⟨wb15.heap.size, 0, none⟩) 1 1) (wb15.alloc (.cells #[.string (bs y.1), .string (bs y.2)] 151)) rfl (by kernel_rfl) (exec_buildY _ _ _ _ rfl _ _ (by kernel_rfl)) ?_
                  refine ⟨trivial, ?_⟩
                  try simp only [Act.put, List.getElem_toArray, List.getElem_cons_succ, List.getElem_cons_zero, List.setIfInBounds_toArray, List.set_cons_zero, List.set_cons_succ]
                  have HN18 : Hid ((wb15.alloc (.cells #[.string (bs y.1), .string (bs y.2)] 151)).heap[wb15.heap.size]? = some (.cells #[.string (bs y.1), .string (bs y.2)] 151)) := heap_alloc_new _ _
                  have HE18 := hidd (HE15.out.alloc (.cells #[.string (bs y.1), .string (bs y.2)] 151))
                  generalize wb15.alloc (.cells #[.string (bs y.1), .string (bs y.2)] 151) = wc18 at *
                  generalize wb15.heap.size = N18 at *
                  have hbz := HE18.out.size
                  refine wpAnyH_one 13 (by kernel_rfl) ?_
                  refine wpOp_wp rfl (by kernel_rfl) (wp_append_lies _ (.tmp 28) (.tmp 39) 112 rfl (BX + 1) 151 i0 (.agg #[.string ⟨#[]⟩, .string ⟨#[]⟩]) 2 32 Tryz.underlying112 hi0 hz0 hz1 hz2 rfl (by decide) vY _ _ (by kernel_rfl) HE18.out.syn ⟨N18, 0, none⟩ 1 1 [.string (bs y.1), .string (bs y.2)] (by kernel_rfl) rfl (World.news_of_block HN18.out) (by intro v hv; simp at hv; rcases hv with rfl | rfl <;> rfl) (by omega) (by unfold maxLen; omega) (by omega) (by omega) _ rfl ?_)
                  intro g6 cp6 w13 hown hgrow hat hlt
                  refine ⟨trivial, ?_⟩
                  try simp only [Act.put, List.getElem_toArray, List.getElem_cons_succ, List.getElem_cons_zero, List.setIfInBounds_toArray, List.set_cons_zero, List.set_cons_succ]
                  have HF := hidd (HE18.out.more (HNe.out.imp And.left id) HSep.out hown hgrow hat)
                  have HBx : Hid (w13.heap[BX]? = _) := (hgrow.block BX hbz (fun e => by have := (own2_base HE18.out.syn BX e.symm).1; omega)).trans HE18.out.box
                  clear hown hgrow hat hlt
                  refine tkX 14 (hS := trivial) (h := ?_)
                  try simp only [Act.put, List.getElem_toArray, List.getElem_cons_succ, List.getElem_cons_zero, List.setIfInBounds_toArray, List.set_cons_zero, List.set_cons_succ]
                  refine wpAnyH_one 15 (by kernel_rfl) ?_
                  refine wpOp_skip (w13.setCell ⟨BX, 4, none⟩ (.slice (some ⟨g6, 0, none⟩) (syns.length + 1) cp6)) rfl (by kernel_rfl) (exec_storeYs _ _ _ _ _ rfl BX 4 _ _ _ vY (by kernel_rfl) (by kernel_rfl) (blkc HBx.out 4) (blkf HBx.out 4)) ?_
                  refine ⟨trivial, ?_⟩
                  try simp only [Act.put, List.getElem_toArray, List.getElem_cons_succ, List.getElem_cons_zero, List.setIfInBounds_toArray, List.set_cons_zero, List.set_cons_succ]
                  refine wpAnyH_done (by kernel_rfl) ?_ _
                  clear HBx
                  generalize w13.setCell ⟨BX, 4, none⟩ (.slice (some ⟨g6, 0, none⟩) (syns.length + 1) cp6) = w15 at *
                  go_wp2_with fail
                  refine ⟨⟨i - 1, _, syns ++ [y], by rw [show ((i - 1 : Nat) : Int) = (i : Int) - 1 by omega], by omega, HF.out.1.draw (HF.out.1.src.mono (by omega)) (But.refl _ _), by rw [List.length_append, List.length_singleton]; omega, ?_, HF.out.2⟩, by simp [intOf]; omega⟩
                  intro z hz
                  rcases List.mem_append.1 hz with hz | hz
                  · exact HZy.out z hz
                  · rw [List.mem_singleton] at hz; rw [hz]; exact hyl
            · obtain ⟨y, hy0, hy1, hyl⟩ := synTab HT15.out X (by omega)
              refine wpOp_val (.agg #[.string (bs y.1), .string (bs y.2)]) _ rfl (by kernel_rfl) (exec_loadY _ _ _ _ rfl T10 (X * 2) _ _ (by kernel_rfl) hy0 hy1) ?_
              refine ⟨trivial, ?_⟩
              clear hy0 hy1
              try simp only [Act.put, List.getElem_toArray, List.getElem_cons_succ, List.getElem_cons_zero, List.setIfInBounds_toArray, List.set_cons_zero, List.set_cons_succ]
              refine wpAnyH_two 1 12 (by kernel_rfl) ?_ ?_
              · refine wpOp_val vY _ rfl (by kernel_rfl) (exec_loadYs _ _ _ _ rfl BX 4 vY HVY.out (by kernel_rfl) (blkc HE15.out.box 4)) ?_
                refine ⟨trivial, ?_⟩
                try simp only [Act.put, List.getElem_toArray, List.getElem_cons_succ, List.getElem_cons_zero, List.setIfInBounds_toArray, List.set_cons_zero, List.set_cons_succ]
                refine wpAnyH_one 12 (by kernel_rfl) ?_
                · refine wpOp_val (.slice (some ⟨wb15.heap.size, 0, none⟩) 1 1) (wb15.alloc (.cells #[.string (bs y.1), .string (bs y.2)] 151)) rfl (by kernel_rfl) (exec_buildY _ _ _ _ rfl _ _ (by kernel_rfl)) ?_
                  refine ⟨trivial, ?_⟩
                  try simp only [Act.put, List.getElem_toArray, List.getElem_cons_succ, List.getElem_cons_zero, List.setIfInBounds_toArray, List.set_cons_zero, List.set_cons_succ]
                  have HN21 : Hid ((wb15.alloc (.cells #[.string (bs y.1), .string (bs y.2)] 151)).heap[wb15.heap.size]? = some (.cells #[.string (bs y.1), .string (bs y.2)] 151)) := heap_alloc_new _ _
                  have HE21 := hidd (HE15.out.alloc (.cells #[.string (bs y.1), .string (bs y.2)] 151))
                  generalize wb15.alloc (.cells #[.string (bs y.1), .string (bs y.2)] 151) = wc21 at *
                  generalize wb15.heap.size = N21 at *
                  have hbz := HE21.out.size
                  refine wpAnyH_one 13 (by kernel_rfl) ?_
                  refine wpOp_wp rfl (by kernel_rfl) (wp_append_lies _ (.tmp 28) (.tmp 39) 112 rfl (BX + 1) 151 i0 (.agg #[.string ⟨#[]⟩, .string ⟨#[]⟩]) 2 32 Tryz.underlying112 hi0 hz0 hz1 hz2 rfl (by decide) vY _ _ (by kernel_rfl) HE21.out.syn ⟨N21, 0, none⟩ 1 1 [.string (bs y.1), .string (bs y.2)] (by kernel_rfl) rfl (World.news_of_block HN21.out) (by intro v hv; simp at hv; rcases hv with rfl | rfl <;> rfl) (by omega) (by unfold maxLen; omega) (by omega) (by omega) _ rfl ?_)
                  intro g6 cp6 w13 hown hgrow hat hlt
                  refine ⟨trivial, ?_⟩
                  try simp only [Act.put, List.getElem_toArray, List.getElem_cons_succ, List.getElem_cons_zero, List.setIfInBounds_toArray, List.set_cons_zero, List.set_cons_succ]
                  have HF := hidd (HE21.out.more (HNe.out.imp And.left id) HSep.out hown hgrow hat)
                  have HBx : Hid (w13.heap[BX]? = _) := (hgrow.block BX hbz (fun e => by have := (own2_base HE21.out.syn BX e.symm).1; omega)).trans HE21.out.box
                  clear hown hgrow hat hlt
                  refine tkX 14 (hS := trivial) (h := ?_)
                  try simp only [Act.put, List.getElem_toArray, List.getElem_cons_succ, List.getElem_cons_zero, List.setIfInBounds_toArray, List.set_cons_zero, List.set_cons_succ]
                  refine wpAnyH_one 15 (by kernel_rfl) ?_
                  refine wpOp_skip (w13.setCell ⟨BX, 4, none⟩ (.slice (some ⟨g6, 0, none⟩) (syns.length + 1) cp6)) rfl (by kernel_rfl) (exec_storeYs _ _ _ _ _ rfl BX 4 _ _ _ vY (by kernel_rfl) (by kernel_rfl) (blkc HBx.out 4) (blkf HBx.out 4)) ?_
                  refine ⟨trivial, ?_⟩
                  try simp only [Act.put, List.getElem_toArray, List.getElem_cons_succ, List.getElem_cons_zero, List.setIfInBounds_toArray, List.set_cons_zero, List.set_cons_succ]
                  refine wpAnyH_done (by kernel_rfl) ?_ _
                  clear HBx
                  generalize w13.setCell ⟨BX, 4, none⟩ (.slice (some ⟨g6, 0, none⟩) (syns.length + 1) cp6) = w15 at *
                  go_wp2_with fail
                  refine ⟨⟨i - 1, _, syns ++ [y], by rw [show ((i - 1 : Nat) : Int) = (i : Int) - 1 by omega], by omega, HF.out.1.draw (HF.out.1.src.mono (by omega)) (But.refl _ _), by rw [List.length_append, List.length_singleton]; omega, ?_, HF.out.2⟩, by simp [intOf]; omega⟩
                  intro z hz
                  rcases List.mem_append.1 hz with hz | hz
                  · exact HZy.out z hz
                  · rw [List.mem_singleton] at hz; rw [hz]; exact hyl
              · refine wpOp_val (.slice (some ⟨wb15.heap.size, 0, none⟩) 1 1) (wb15.alloc (.cells #[.string (bs y.1), .string (bs y.2)] 151)) rfl (by kernel_rfl) (exec_buildY _ _ _ _ rfl _ _ (by kernel_rfl)) ?_
                refine ⟨trivial, ?_⟩
                try simp only [Act.put, List.getElem_toArray, List.getElem_cons_succ, List.getElem_cons_zero, List.setIfInBounds_toArray, List.set_cons_zero, List.set_cons_succ]
                have HN22 : Hid ((wb15.alloc (.cells #[.string (bs y.1), .string (bs y.2)] 151)).heap[wb15.heap.size]? = some (.cells #[.string (bs y.1), .string (bs y.2)] 151)) := heap_alloc_new _ _
                have HE22 := hidd (HE15.out.alloc (.cells #[.string (bs y.1), .string (bs y.2)] 151))
                generalize wb15.alloc (.cells #[.string (bs y.1), .string (bs y.2)] 151) = wc22 at *
                generalize wb15.heap.size = N22 at *
                refine wpAnyH_one 1 (by kernel_rfl) ?_
                · refine wpOp_val vY _ rfl (by kernel_rfl) (exec_loadYs _ _ _ _ rfl BX 4 vY HVY.out (by kernel_rfl) (blkc HE22.out.box 4)) ?_
                  refine ⟨trivial, ?_⟩
                  try simp only [Act.put, List.getElem_toArray, List.getElem_cons_succ, List.getElem_cons_zero, List.setIfInBounds_toArray, List.set_cons_zero, List.set_cons_succ]
                  have hbz := HE22.out.size
                  refine wpAnyH_one 13 (by kernel_rfl) ?_
                  refine wpOp_wp rfl (by kernel_rfl) (wp_append_lies _ (.tmp 28) (.tmp 39) 112 rfl (BX + 1) 151 i0 (.agg #[.string ⟨#[]⟩, .string ⟨#[]⟩]) 2 32 Tryz.underlying112 hi0 hz0 hz1 hz2 rfl (by decide) vY _ _ (by kernel_rfl) HE22.out.syn ⟨N22, 0, none⟩ 1 1 [.string (bs y.1), .string (bs y.2)] (by kernel_rfl) rfl (World.news_of_block HN22.out) (by intro v hv; simp at hv; rcases hv with rfl | rfl <;> rfl) (by omega) (by unfold maxLen; omega) (by omega) (by omega) _ rfl ?_)
                  intro g6 cp6 w13 hown hgrow hat hlt
                  refine ⟨trivial, ?_⟩
                  try simp only [Act.put, List.getElem_toArray, List.getElem_cons_succ, List.getElem_cons_zero, List.setIfInBounds_toArray, List.set_cons_zero, List.set_cons_succ]
                  have HF := hidd (HE22.out.more (HNe.out.imp And.left id) HSep.out hown hgrow hat)
                  have HBx : Hid (w13.heap[BX]? = _) := (hgrow.block BX hbz (fun e => by have := (own2_base HE22.out.syn BX e.symm).1; omega)).trans HE22.out.box
                  clear hown hgrow hat hlt
                  refine tkX 14 (hS := trivial) (h := ?_)
                  try simp only [Act.put, List.getElem_toArray, List.getElem_cons_succ, List.getElem_cons_zero, List.setIfInBounds_toArray, List.set_cons_zero, List.set_cons_succ]
                  refine wpAnyH_one 15 (by kernel_rfl) ?_
                  refine wpOp_skip (w13.setCell ⟨BX, 4, none⟩ (.slice (some ⟨g6, 0, none⟩) (syns.length + 1) cp6)) rfl (by kernel_rfl) (exec_storeYs _ _ _ _ _ rfl BX 4 _ _ _ vY (by kernel_rfl) (by kernel_rfl) (blkc HBx.out 4) (blkf HBx.out 4)) ?_
                  refine ⟨trivial, ?_⟩
                  try simp only [Act.put, List.getElem_toArray, List.getElem_cons_succ, List.getElem_cons_zero, List.setIfInBounds_toArray, List.set_cons_zero, List.set_cons_succ]
                  refine wpAnyH_done (by kernel_rfl) ?_ _
                  clear HBx
                  generalize w13.setCell ⟨BX, 4, none⟩ (.slice (some ⟨g6, 0, none⟩) (syns.length + 1) cp6) = w15 at *
                  go_wp2_with fail
                  refine ⟨⟨i - 1, _, syns ++ [y], by rw [show ((i - 1 : Nat) : Int) = (i : Int) - 1 by omega], by omega, HF.out.1.draw (HF.out.1.src.mono (by omega)) (But.refl _ _), by rw [List.length_append, List.length_singleton]; omega, ?_, HF.out.2⟩, by simp [intOf]; omega⟩
                  intro z hz
                  rcases List.mem_append.1 hz with hz | hz
                  · exact HZy.out z hz
                  · rw [List.mem_singleton] at hz; rw [hz]; exact hyl
        · refine wpOp_call 14 #[.pointer (some ⟨b, 0, none⟩), .int .i64 5] rfl (by kernel_rfl) (rbx_call2 _ _ _ _ _ _ _ _ rfl _ _ (by kernel_rfl) (by kernel_rfl) (Tryz.call14 _ _)) ?_
          refine (nextS HDd.out.src hn (by omega) 5 (by omega) (by omega)).mono ?_
          rintro e' wb24 ⟨X, rfl, hX, hsx, hbx⟩
          have HE24 := hidd (HDd.out.draw hsx hbx)
          clear hsx hbx
          refine ⟨trivial, ?_⟩
          try simp only [Act.put, List.getElem_toArray, List.getElem_cons_succ, List.getElem_cons_zero, List.setIfInBounds_toArray, List.set_cons_zero, List.set_cons_succ]
          refine wpAnyH_two 1 7 (by kernel_rfl) ?_ ?_
          · refine wpOp_val vY _ rfl (by kernel_rfl) (exec_loadYs _ _ _ _ rfl BX 4 vY HVY.out (by kernel_rfl) (blkc HE24.out.box 4)) ?_
            refine ⟨trivial, ?_⟩
            try simp only [Act.put, List.getElem_toArray, List.getElem_cons_succ, List.getElem_cons_zero, List.setIfInBounds_toArray, List.set_cons_zero, List.set_cons_succ]
            refine wpAnyH_one 7 (by kernel_rfl) ?_
            · refine wpOp_val (.slice (some ⟨wb24.heap.size, 0, none⟩) 5 5) (wb24.alloc (.cells #[.string ⟨#[99, 97, 116]⟩, .string ⟨#[102, 101, 108, 105, 110, 101]⟩, .string ⟨#[114, 117, 110]⟩, .string ⟨#[114, 117, 110, 110, 105, 110, 103]⟩, .string ⟨#[104, 111, 117, 115, 101]⟩, .string ⟨#[104, 111, 109, 101]⟩, .string ⟨#[113, 117, 105, 99, 107]⟩, .string ⟨#[102, 97, 115, 116]⟩, .string ⟨#[114, 117, 110, 110, 105, 110, 103]⟩, .string ⟨#[106, 111, 103]⟩] 151)) rfl (by kernel_rfl) (exec_build5 _ _ _ _ _ _ _ _ rfl _ _ _ _ _ _ _ _ _ _ (by kernel_rfl) (by kernel_rfl) (by kernel_rfl) (by kernel_rfl) (by kernel_rfl)) ?_
              refine ⟨trivial, ?_⟩
              try simp only [Act.put, List.getElem_toArray, List.getElem_cons_succ, List.getElem_cons_zero, List.setIfInBounds_toArray, List.set_cons_zero, List.set_cons_succ]
              have HT26 : Hid ((wb24.alloc (.cells #[.string ⟨#[99, 97, 116]⟩, .string ⟨#[102, 101, 108, 105, 110, 101]⟩, .string ⟨#[114, 117, 110]⟩, .string ⟨#[114, 117, 110, 110, 105, 110, 103]⟩, .string ⟨#[104, 111, 117, 115, 101]⟩, .string ⟨#[104, 111, 109, 101]⟩, .string ⟨#[113, 117, 105, 99, 107]⟩, .string ⟨#[102, 97, 115, 116]⟩, .string ⟨#[114, 117, 110, 110, 105, 110, 103]⟩, .string ⟨#[106, 111, 103]⟩] 151)).heap[wb24.heap.size]? = some (.cells #[.string ⟨#[99, 97, 116]⟩, .string ⟨#[102, 101, 108, 105, 110, 101]⟩, .string ⟨#[114, 117, 110]⟩, .string ⟨#[114, 117, 110, 110, 105, 110, 103]⟩, .string ⟨#[104, 111, 117, 115, 101]⟩, .string ⟨#[104, 111, 109, 101]⟩, .string ⟨#[113, 117, 105, 99, 107]⟩, .string ⟨#[102, 97, 115, 116]⟩, .string ⟨#[114, 117, 110, 110, 105, 110, 103]⟩, .string ⟨#[106, 111, 103]⟩] 151)) := heap_alloc_new _ _
              have HZ26 : Hid (BX < wb24.heap.size) := HE24.out.size
              have HE26 := hidd (HE24.out.alloc (.cells #[.string ⟨#[99, 97, 116]⟩, .string ⟨#[102, 101, 108, 105, 110, 101]⟩, .string ⟨#[114, 117, 110]⟩, .string ⟨#[114, 117, 110, 110, 105, 110, 103]⟩, .string ⟨#[104, 111, 117, 115, 101]⟩, .string ⟨#[104, 111, 109, 101]⟩, .string ⟨#[113, 117, 105, 99, 107]⟩, .string ⟨#[102, 97, 115, 116]⟩, .string ⟨#[114, 117, 110, 110, 105, 110, 103]⟩, .string ⟨#[106, 111, 103]⟩] 151))
              generalize wb24.alloc (.cells #[.string ⟨#[99, 97, 116]⟩, .string ⟨#[102, 101, 108, 105, 110, 101]⟩, .string ⟨#[114, 117, 110]⟩, .string ⟨#[114, 117, 110, 110, 105, 110, 103]⟩, .string ⟨#[104, 111, 117, 115, 101]⟩, .string ⟨#[104, 111, 109, 101]⟩, .string ⟨#[113, 117, 105, 99, 107]⟩, .string ⟨#[102, 97, 115, 116]⟩, .string ⟨#[114, 117, 110, 110, 105, 110, 103]⟩, .string ⟨#[106, 111, 103]⟩] 151) = wa26 at *
              generalize wb24.heap.size = T26 at *
              refine wpAnyH_take (i := 10) (v := .pointer (some ⟨T26, X * 2, none⟩)) rfl (by kernel_rfl) (by kernel_rfl) (by kernel_rfl) (fun _ _ _ h => h) (Or.inl ⟨by kernel_rfl, fun W hW => exec_indexY W _ _ _ _ rfl T26 X (by kernel_rfl) (by kernel_rfl) (by omega)⟩) trivial ?_
              try simp only [Act.put, List.getElem_toArray, List.getElem_cons_succ, List.getElem_cons_zero, List.setIfInBounds_toArray, List.set_cons_zero, List.set_cons_succ]
              refine wpAnyH_one 11 (by kernel_rfl) ?_
              · obtain ⟨y, hy0, hy1, hyl⟩ := synTab HT26.out X (by omega)
                refine wpOp_val (.agg #[.string (bs y.1), .string (bs y.2)]) _ rfl (by kernel_rfl) (exec_loadY _ _ _ _ rfl T26 (X * 2) _ _ (by kernel_rfl) hy0 hy1) ?_
                refine ⟨trivial, ?_⟩
                clear hy0 hy1
                try simp only [Act.put, List.getElem_toArray, List.getElem_cons_succ, List.getElem_cons_zero, List.setIfInBounds_toArray, List.set_cons_zero, List.set_cons_succ]
                refine wpAnyH_one 12 (by kernel_rfl) ?_
                · refine wpOp_val (.slice (some ⟨wa26.heap.size, 0, none⟩) 1 1) (wa26.alloc (.cells #[.string (bs y.1), .string (bs y.2)] 151)) rfl (by kernel_rfl) (exec_buildY _ _ _ _ rfl _ _ (by kernel_rfl)) ?_
                  refine ⟨trivial, ?_⟩
                  try simp only [Act.put, List.getElem_toArray, List.getElem_cons_succ, List.getElem_cons_zero, List.setIfInBounds_toArray, List.set_cons_zero, List.set_cons_succ]
                  have HN28 : Hid ((wa26.alloc (.cells #[.string (bs y.1), .string (bs y.2)] 151)).heap[wa26.heap.size]? = some (.cells #[.string (bs y.1), .string (bs y.2)] 151)) := heap_alloc_new _ _
                  have HE28 := hidd (HE26.out.alloc (.cells #[.string (bs y.1), .string (bs y.2)] 151))
                  generalize wa26.alloc (.cells #[.string (bs y.1), .string (bs y.2)] 151) = wc28 at *
                  generalize wa26.heap.size = N28 at *
                  have hbz := HE28.out.size
                  refine wpAnyH_one 13 (by kernel_rfl) ?_
                  refine wpOp_wp rfl (by kernel_rfl) (wp_append_lies _ (.tmp 28) (.tmp 39) 112 rfl (BX + 1) 151 i0 (.agg #[.string ⟨#[]⟩, .string ⟨#[]⟩]) 2 32 Tryz.underlying112 hi0 hz0 hz1 hz2 rfl (by decide) vY _ _ (by kernel_rfl) HE28.out.syn ⟨N28, 0, none⟩ 1 1 [.string (bs y.1), .string (bs y.2)] (by kernel_rfl) rfl (World.news_of_block HN28.out) (by intro v hv; simp at hv; rcases hv with rfl | rfl <;> rfl) (by omega) (by unfold maxLen; omega) (by omega) (by omega) _ rfl ?_)
                  intro g6 cp6 w13 hown hgrow hat hlt
                  refine ⟨trivial, ?_⟩
                  try simp only [Act.put, List.getElem_toArray, List.getElem_cons_succ, List.getElem_cons_zero, List.setIfInBounds_toArray, List.set_cons_zero, List.set_cons_succ]
                  have HF := hidd (HE28.out.more (HNe.out.imp And.left id) HSep.out hown hgrow hat)
                  have HBx : Hid (w13.heap[BX]? = _) := (hgrow.block BX hbz (fun e => by have := (own2_base HE28.out.syn BX e.symm).1; omega)).trans HE28.out.box
                  clear hown hgrow hat hlt
                  refine tkX 14 (hS := trivial) (h := ?_)
                  try simp only [Act.put, List.getElem_toArray, List.getElem_cons_succ, List.getElem_cons_zero, List.setIfInBounds_toArray, List.set_cons_zero, List.set_cons_succ]
                  refine wpAnyH_one 15 (by kernel_rfl) ?_
                  refine wpOp_skip (w13.setCell ⟨BX, 4, none⟩ (.slice (some ⟨g6, 0, none⟩) (syns.length + 1) cp6)) rfl (by kernel_rfl) (exec_storeYs _ _ _ _ _ rfl BX 4 _ _ _ vY (by kernel_rfl) (by kernel_rfl) (blkc HBx.out 4) (blkf HBx.out 4)) ?_
                  refine ⟨trivial, ?_⟩
                  try simp only [Act.put, List.getElem_toArray, List.getElem_cons_succ, List.getElem_cons_zero, List.setIfInBounds_toArray, List.set_cons_zero, List.set_cons_succ]
                  refine wpAnyH_done (by kernel_rfl) ?_ _
                  clear HBx
                  generalize w13.setCell ⟨BX, 4, none⟩ (.slice (some ⟨g6, 0, none⟩) (syns.length + 1) cp6) = w15 at *
                  go_wp2_with fail
                  refine ⟨⟨i - 1, _, syns ++ [y], by rw [show ((i - 1 : Nat) : Int) = (i : Int) - 1 by omega], by omega, HF.out.1.draw (HF.out.1.src.mono (by omega)) (But.refl _ _), by rw [List.length_append, List.length_singleton]; omega, ?_, HF.out.2⟩, by simp [intOf]; omega⟩
                  intro z hz
                  rcases List.mem_append.1 hz with hz | hz
                  · exact HZy.out z hz
                  · rw [List.mem_singleton] at hz; rw [hz]; exact hyl
          · refine wpOp_val (.slice (some ⟨wb24.heap.size, 0, none⟩) 5 5) (wb24.alloc (.cells #[.string ⟨#[99, 97, 116]⟩, .string ⟨#[102, 101, 108, 105, 110, 101]⟩, .string ⟨#[114, 117, 110]⟩, .string ⟨#[114, 117, 110, 110, 105, 110, 103]⟩, .string ⟨#[104, 111, 117, 115, 101]⟩, .string ⟨#[104, 111, 109, 101]⟩, .string ⟨#[113, 117, 105, 99, 107]⟩, .string ⟨#[102, 97, 115, 116]⟩, .string ⟨#[114, 117, 110, 110, 105, 110, 103]⟩, .string ⟨#[106, 111, 103]⟩] 151)) rfl (by kernel_rfl) (exec_build5 _ _ _ _ _ _ _ _ rfl _ _ _ _ _ _ _ _ _ _ (by kernel_rfl) (by kernel_rfl) (by kernel_rfl) (by kernel_rfl) (by kernel_rfl)) ?_
            refine ⟨trivial, ?_⟩
            try simp only [Act.put, List.getElem_toArray, List.getElem_cons_succ, List.getElem_cons_zero, List.setIfInBounds_toArray, List.set_cons_zero, List.set_cons_succ]
            have HT29 : Hid ((wb24.alloc (.cells #[.string ⟨#[99, 97, 116]⟩, .string ⟨#[102, 101, 108, 105, 110, 101]⟩, .string ⟨#[114, 117, 110]⟩, .string ⟨#[114, 117, 110, 110, 105, 110, 103]⟩, .string ⟨#[104, 111, 117, 115, 101]⟩, .string ⟨#[104, 111, 109, 101]⟩, .string ⟨#[113, 117, 105, 99, 107]⟩, .string ⟨#[102, 97, 115, 116]⟩, .string ⟨#[114, 117, 110, 110, 105, 110, 103]⟩, .string ⟨#[106, 111, 103]⟩] 151)).heap[wb24.heap.size]? = some (.cells #[.string ⟨#[99, 97, 116]⟩, .string ⟨#[102, 101, 108, 105, 110, 101]⟩, .string ⟨#[114, 117, 110]⟩, .string ⟨#[114, 117, 110, 110, 105, 110, 103]⟩, .string ⟨#[104, 111, 117, 115, 101]⟩, .string ⟨#[104, 111, 109, 101]⟩, .string ⟨#[113, 117, 105, 99, 107]⟩, .string ⟨#[102, 97, 115, 116]⟩, .string ⟨#[114, 117, 110, 110, 105, 110, 103]⟩, .string ⟨#[106, 111, 103]⟩] 151)) := heap_alloc_new _ _
            have HZ29 : Hid (BX < wb24.heap.size) := HE24.out.size
            have HE29 := hidd (HE24.out.alloc (.cells #[.string ⟨#[99, 97, 116]⟩, .string ⟨#[102, 101, 108, 105, 110, 101]⟩, .string ⟨#[114, 117, 110]⟩, .string ⟨#[114, 117, 110, 110, 105, 110, 103]⟩, .string ⟨#[104, 111, 117, 115, 101]⟩, .string ⟨#[104, 111, 109, 101]⟩, .string ⟨#[113, 117, 105, 99, 107]⟩, .string ⟨#[102, 97, 115, 116]⟩, .string ⟨#[114, 117, 110, 110, 105, 110, 103]⟩, .string ⟨#[106, 111, 103]⟩] 151))
            generalize wb24.alloc (.cells #[.string ⟨#[99, 97, 116]⟩, .string ⟨#[102, 101, 108, 105, 110, 101]⟩, .string ⟨#[114, 117, 110]⟩, .string ⟨#[114, 117, 110, 110, 105, 110, 103]⟩, .string ⟨#[104, 111, 117, 115, 101]⟩, .string ⟨#[104, 111, 109, 101]⟩, .string ⟨#[113, 117, 105, 99, 107]⟩, .string ⟨#[102, 97, 115, 116]⟩, .string ⟨#[114, 117, 110, 110, 105, 110, 103]⟩, .string ⟨#[106, 111, 103]⟩] 151) = wa29 at *
            generalize wb24.heap.size = T29 at *
            refine wpAnyH_take (i := 10) (v := .pointer (some ⟨T29, X * 2, none⟩)) rfl (by kernel_rfl) (by kernel_rfl) (by kernel_rfl) (fun _ _ _ h => h) (Or.inl ⟨by kernel_rfl, fun W hW => exec_indexY W _ _ _ _ rfl T29 X (by kernel_rfl) (by kernel_rfl) (by omega)⟩) trivial ?_
            try simp only [Act.put, List.getElem_toArray, List.getElem_cons_succ, List.getElem_cons_zero, List.setIfInBounds_toArray, List.set_cons_zero, List.set_cons_succ]
            refine wpAnyH_two 1 11 (by kernel_rfl) ?_ ?_
            · refine wpOp_val vY _ rfl (by kernel_rfl) (exec_loadYs _ _ _ _ rfl BX 4 vY HVY.out (by kernel_rfl) (blkc HE29.out.box 4)) ?_
              refine ⟨trivial, ?_⟩
              try simp only [Act.put, List.getElem_toArray, List.getElem_cons_succ, List.getElem_cons_zero, List.setIfInBounds_toArray, List.set_cons_zero, List.set_cons_succ]
              refine wpAnyH_one 11 (by kernel_rfl) ?_
              · obtain ⟨y, hy0, hy1, hyl⟩ := synTab HT29.out X (by omega)
                refine wpOp_val (.agg #[.string (bs y.1), .string (bs y.2)]) _ rfl (by kernel_rfl) (exec_loadY _ _ _ _ rfl T29 (X * 2) _ _ (by kernel_rfl) hy0 hy1) ?_
                refine ⟨trivial, ?_⟩
                clear hy0 hy1
                try simp only [Act.put, List.getElem_toArray, List.getElem_cons_succ, List.getElem_cons_zero, List.setIfInBounds_toArray, List.set_cons_zero, List.set_cons_succ]
                refine wpAnyH_one 12 (by kernel_rfl) ?_
                · refine wpOp_val (.slice (some ⟨wa29.heap.size, 0, none⟩) 1 1) (wa29.alloc (.cells #[.string (bs y.1), .string (bs y.2)] 151)) rfl (by kernel_rfl) (exec_buildY _ _ _ _ rfl _ _ (by kernel_rfl)) ?_
                  refine ⟨trivial, ?_⟩
                  try simp only [Act.put, List.getElem_toArray, List.getElem_cons_succ, List.getElem_cons_zero, List.setIfInBounds_toArray, List.set_cons_zero, List.set_cons_succ]
                  have HN32 : Hid ((wa29.alloc (.cells #[.string (bs y.1), .string (bs y.2)] 151)).heap[wa29.heap.size]? = some (.cells #[.string (bs y.1), .string (bs y.2)] 151)) := heap_alloc_new _ _
                  have HE32 := hidd (HE29.out.alloc (.cells #[.string (bs y.1), .string (bs y.2)] 151))
                  generalize wa29.alloc (.cells #[.string (bs y.1), .string (bs y.2)] 151) = wc32 at *
                  generalize wa29.heap.size = N32 at *
                  have hbz := HE32.out.size
                  refine wpAnyH_one 13 (by kernel_rfl) ?_
                  refine wpOp_wp rfl (by kernel_rfl) (wp_append_lies _ (.tmp 28) (.tmp 39) 112 rfl (BX + 1) 151 i0 (.agg #[.string ⟨#[]⟩, .string ⟨#[]⟩]) 2 32 Tryz.underlying112 hi0 hz0 hz1 hz2 rfl (by decide) vY _ _ (by kernel_rfl) HE32.out.syn ⟨N32, 0, none⟩ 1 1 [.string (bs y.1), .string (bs y.2)] (by kernel_rfl) rfl (World.news_of_block HN32.out) (by intro v hv; simp at hv; rcases hv with rfl | rfl <;> rfl) (by omega) (by unfold maxLen; omega) (by omega) (by omega) _ rfl ?_)
                  intro g6 cp6 w13 hown hgrow hat hlt
                  refine ⟨trivial, ?_⟩
                  try simp only [Act.put, List.getElem_toArray, List.getElem_cons_succ, List.getElem_cons_zero, List.setIfInBounds_toArray, List.set_cons_zero, List.set_cons_succ]
                  have HF := hidd (HE32.out.more (HNe.out.imp And.left id) HSep.out hown hgrow hat)
                  have HBx : Hid (w13.heap[BX]? = _) := (hgrow.block BX hbz (fun e => by have := (own2_base HE32.out.syn BX e.symm).1; omega)).trans HE32.out.box
                  clear hown hgrow hat hlt
                  refine tkX 14 (hS := trivial) (h := ?_)
                  try simp only [Act.put, List.getElem_toArray, List.getElem_cons_succ, List.getElem_cons_zero, List.setIfInBounds_toArray, List.set_cons_zero, List.set_cons_succ]
                  refine wpAnyH_one 15 (by kernel_rfl) ?_
                  refine wpOp_skip (w13.setCell ⟨BX, 4, none⟩ (.slice (some ⟨g6, 0, none⟩) (syns.length + 1) cp6)) rfl (by kernel_rfl) (exec_storeYs _ _ _ _ _ rfl BX 4 _ _ _ vY (by kernel_rfl) (by kernel_rfl) (blkc HBx.out 4) (blkf HBx.out 4)) ?_
                  refine ⟨trivial, ?_⟩
                  try simp only [Act.put, List.getElem_toArray, List.getElem_cons_succ, List.getElem_cons_zero, List.setIfInBounds_toArray, List.set_cons_zero, List.set_cons_succ]
                  refine wpAnyH_done (by kernel_rfl) ?_ _
                  clear HBx
                  generalize w13.setCell ⟨BX, 4, none⟩ (.slice (some ⟨g6, 0, none⟩) (syns.length + 1) cp6) = w15 at *
                  go_wp2_with fail
                  refine ⟨⟨i - 1, _, syns ++ [y], by rw [show ((i - 1 : Nat) : Int) = (i : Int) - 1 by omega], by omega, HF.out.1.draw (HF.out.1.src.mono (by omega)) (But.refl _ _), by rw [List.length_append, List.length_singleton]; omega, ?_, HF.out.2⟩, by simp [intOf]; omega⟩
                  intro z hz
                  rcases List.mem_append.1 hz with hz | hz
                  · exact HZy.out z hz
                  · rw [List.mem_singleton] at hz; rw [hz]; exact hyl
            · obtain ⟨y, hy0, hy1, hyl⟩ := synTab HT29.out X (by omega)
              refine wpOp_val (.agg #[.string (bs y.1), .string (bs y.2)]) _ rfl (by kernel_rfl) (exec_loadY _ _ _ _ rfl T29 (X * 2) _ _ (by kernel_rfl) hy0 hy1) ?_
              refine ⟨trivial, ?_⟩
              clear hy0 hy1
              try simp only [Act.put, List.getElem_toArray, List.getElem_cons_succ, List.getElem_cons_zero, List.setIfInBounds_toArray, List.set_cons_zero, List.set_cons_succ]
              refine wpAnyH_two 1 12 (by kernel_rfl) ?_ ?_
              · refine wpOp_val vY _ rfl (by kernel_rfl) (exec_loadYs _ _ _ _ rfl BX 4 vY HVY.out (by kernel_rfl) (blkc HE29.out.box 4)) ?_
                refine ⟨trivial, ?_⟩
                try simp only [Act.put, List.getElem_toArray, List.getElem_cons_succ, List.getElem_cons_zero, List.setIfInBounds_toArray, List.set_cons_zero, List.set_cons_succ]
                refine wpAnyH_one 12 (by kernel_rfl) ?_
                · refine wpOp_val (.slice (some ⟨wa29.heap.size, 0, none⟩) 1 1) (wa29.alloc (.cells #[.string (bs y.1), .string (bs y.2)] 151)) rfl (by kernel_rfl) (exec_buildY _ _ _ _ rfl _ _ (by kernel_rfl)) ?_
                  refine ⟨trivial, ?_⟩
                  try simp only [Act.put, List.getElem_toArray, List.getElem_cons_succ, List.getElem_cons_zero, List.setIfInBounds_toArray, List.set_cons_zero, List.set_cons_succ]
                  have HN35 : Hid ((wa29.alloc (.cells #[.string (bs y.1), .string (bs y.2)] 151)).heap[wa29.heap.size]? = some (.cells #[.string (bs y.1), .string (bs y.2)] 151)) := heap_alloc_new _ _
                  have HE35 := hidd (HE29.out.alloc (.cells #[.string (bs y.1), .string (bs y.2)] 151))
                  generalize wa29.alloc (.cells #[.string (bs y.1), .string (bs y.2)] 151) = wc35 at *
                  generalize wa29.heap.size = N35 at *
                  have hbz := HE35.out.size
                  refine wpAnyH_one 13 (by kernel_rfl) ?_
                  refine wpOp_wp rfl (by kernel_rfl) (wp_append_lies _ (.tmp 28) (.tmp 39) 112 rfl (BX + 1) 151 i0 (.agg #[.string ⟨#[]⟩, .string ⟨#[]⟩]) 2 32 Tryz.underlying112 hi0 hz0 hz1 hz2 rfl (by decide) vY _ _ (by kernel_rfl) HE35.out.syn ⟨N35, 0, none⟩ 1 1 [.string (bs y.1), .string (bs y.2)] (by kernel_rfl) rfl (World.news_of_block HN35.out) (by intro v hv; simp at hv; rcases hv with rfl | rfl <;> rfl) (by omega) (by unfold maxLen; omega) (by omega) (by omega) _ rfl ?_)
                  intro g6 cp6 w13 hown hgrow hat hlt
                  refine ⟨trivial, ?_⟩
                  try simp only [Act.put, List.getElem_toArray, List.getElem_cons_succ, List.getElem_cons_zero, List.setIfInBounds_toArray, List.set_cons_zero, List.set_cons_succ]
                  have HF := hidd (HE35.out.more (HNe.out.imp And.left id) HSep.out hown hgrow hat)
                  have HBx : Hid (w13.heap[BX]? = _) := (hgrow.block BX hbz (fun e => by have := (own2_base HE35.out.syn BX e.symm).1; omega)).trans HE35.out.box
                  clear hown hgrow hat hlt
                  refine tkX 14 (hS := trivial) (h := ?_)
                  try simp only [Act.put, List.getElem_toArray, List.getElem_cons_succ, List.getElem_cons_zero, List.setIfInBounds_toArray, List.set_cons_zero, List.set_cons_succ]
                  refine wpAnyH_one 15 (by kernel_rfl) ?_
                  refine wpOp_skip (w13.setCell ⟨BX, 4, none⟩ (.slice (some ⟨g6, 0, none⟩) (syns.length + 1) cp6)) rfl (by kernel_rfl) (exec_storeYs _ _ _ _ _ rfl BX 4 _ _ _ vY (by kernel_rfl) (by kernel_rfl) (blkc HBx.out 4) (blkf HBx.out 4)) ?_
                  refine ⟨trivial, ?_⟩
                  try simp only [Act.put, List.getElem_toArray, List.getElem_cons_succ, List.getElem_cons_zero, List.setIfInBounds_toArray, List.set_cons_zero, List.set_cons_succ]
                  refine wpAnyH_done (by kernel_rfl) ?_ _
                  clear HBx
                  generalize w13.setCell ⟨BX, 4, none⟩ (.slice (some ⟨g6, 0, none⟩) (syns.length + 1) cp6) = w15 at *
                  go_wp2_with fail
                  refine ⟨⟨i - 1, _, syns ++ [y], by rw [show ((i - 1 : Nat) : Int) = (i : Int) - 1 by omega], by omega, HF.out.1.draw (HF.out.1.src.mono (by omega)) (But.refl _ _), by rw [List.length_append, List.length_singleton]; omega, ?_, HF.out.2⟩, by simp [intOf]; omega⟩
                  intro z hz
                  rcases List.mem_append.1 hz with hz | hz
                  · exact HZy.out z hz
                  · rw [List.mem_singleton] at hz; rw [hz]; exact hyl
              · refine wpOp_val (.slice (some ⟨wa29.heap.size, 0, none⟩) 1 1) (wa29.alloc (.cells #[.string (bs y.1), .string (bs y.2)] 151)) rfl (by kernel_rfl) (exec_buildY _ _ _ _ rfl _ _ (by kernel_rfl)) ?_
                refine ⟨trivial, ?_⟩
                try simp only [Act.put, List.getElem_toArray, List.getElem_cons_succ, List.getElem_cons_zero, List.setIfInBounds_toArray, List.set_cons_zero, List.set_cons_succ]
                have HN36 : Hid ((wa29.alloc (.cells #[.string (bs y.1), .string (bs y.2)] 151)).heap[wa29.heap.size]? = some (.cells #[.string (bs y.1), .string (bs y.2)] 151)) := heap_alloc_new _ _
                have HE36 := hidd (HE29.out.alloc (.cells #[.string (bs y.1), .string (bs y.2)] 151))
                generalize wa29.alloc (.cells #[.string (bs y.1), .string (bs y.2)] 151) = wc36 at *
                generalize wa29.heap.size = N36 at *
                refine wpAnyH_one 1 (by kernel_rfl) ?_
                · refine wpOp_val vY _ rfl (by kernel_rfl) (exec_loadYs _ _ _ _ rfl BX 4 vY HVY.out (by kernel_rfl) (blkc HE36.out.box 4)) ?_
                  refine ⟨trivial, ?_⟩
                  try simp only [Act.put, List.getElem_toArray, List.getElem_cons_succ, List.getElem_cons_zero, List.setIfInBounds_toArray, List.set_cons_zero, List.set_cons_succ]
                  have hbz := HE36.out.size
                  refine wpAnyH_one 13 (by kernel_rfl) ?_
                  refine wpOp_wp rfl (by kernel_rfl) (wp_append_lies _ (.tmp 28) (.tmp 39) 112 rfl (BX + 1) 151 i0 (.agg #[.string ⟨#[]⟩, .string ⟨#[]⟩]) 2 32 Tryz.underlying112 hi0 hz0 hz1 hz2 rfl (by decide) vY _ _ (by kernel_rfl) HE36.out.syn ⟨N36, 0, none⟩ 1 1 [.string (bs y.1), .string (bs y.2)] (by kernel_rfl) rfl (World.news_of_block HN36.out) (by intro v hv; simp at hv; rcases hv with rfl | rfl <;> rfl) (by omega) (by unfold maxLen; omega) (by omega) (by omega) _ rfl ?_)
                  intro g6 cp6 w13 hown hgrow hat hlt
                  refine ⟨trivial, ?_⟩
                  try simp only [Act.put, List.getElem_toArray, List.getElem_cons_succ, List.getElem_cons_zero, List.setIfInBounds_toArray, List.set_cons_zero, List.set_cons_succ]
                  have HF := hidd (HE36.out.more (HNe.out.imp And.left id) HSep.out hown hgrow hat)
                  have HBx : Hid (w13.heap[BX]? = _) := (hgrow.block BX hbz (fun e => by have := (own2_base HE36.out.syn BX e.symm).1; omega)).trans HE36.out.box
                  clear hown hgrow hat hlt
                  refine tkX 14 (hS := trivial) (h := ?_)
                  try simp only [Act.put, List.getElem_toArray, List.getElem_cons_succ, List.getElem_cons_zero, List.setIfInBounds_toArray, List.set_cons_zero, List.set_cons_succ]
                  refine wpAnyH_one 15 (by kernel_rfl) ?_
                  refine wpOp_skip (w13.setCell ⟨BX, 4, none⟩ (.slice (some ⟨g6, 0, none⟩) (syns.length + 1) cp6)) rfl (by kernel_rfl) (exec_storeYs _ _ _ _ _ rfl BX 4 _ _ _ vY (by kernel_rfl) (by kernel_rfl) (blkc HBx.out 4) (blkf HBx.out 4)) ?_
                  refine ⟨trivial, ?_⟩
                  try simp only [Act.put, List.getElem_toArray, List.getElem_cons_succ, List.getElem_cons_zero, List.setIfInBounds_toArray, List.set_cons_zero, List.set_cons_succ]
                  refine wpAnyH_done (by kernel_rfl) ?_ _
                  clear HBx
                  generalize w13.setCell ⟨BX, 4, none⟩ (.slice (some ⟨g6, 0, none⟩) (syns.length + 1) cp6) = w15 at *
                  go_wp2_with fail
                  refine ⟨⟨i - 1, _, syns ++ [y], by rw [show ((i - 1 : Nat) : Int) = (i : Int) - 1 by omega], by omega, HF.out.1.draw (HF.out.1.src.mono (by omega)) (But.refl _ _), by rw [List.length_append, List.length_singleton]; omega, ?_, HF.out.2⟩, by simp [intOf]; omega⟩
                  intro z hz
                  rcases List.mem_append.1 hz with hz | hz
                  · exact HZy.out z hz
                  · rw [List.mem_singleton] at hz; rw [hz]; exact hyl
      · have hiz : ¬ (0 : Int) < (i : Int) := by omega
        have HD5 := hidd (HD4.out.draw (HD4.out.src.mono (A' := A + 27) (by omega)) (But.refl _ _))
        clear HD4
        go_upto_if 43 with (go_at_call 29; refine (chanceS HD5.out.src hn (by omega) 8 (by omega) (by omega)).mono ?_; rintro e w9 ⟨x5, rfl, hs9, hb9⟩)
        have HD6 := hidd (HD5.out.draw hs9 hb9)
        clear hs9 hb9 HD5
        go_cut [] (fun wy => ∃ lo hi : Int, DA w wy b ao n cap (A + 36) w.heap.size BX fo x2 x3 aS cS stops vY syns lo hi ∧ -100 ≤ lo ∧ lo ≤ 100 ∧ -100 ≤ hi ∧ hi ≤ 100)
        case first =>
          cases x5 with
          | false =>
            go_wp2_with fail
            go_meet
            case rel => exact ⟨0, 0, HD6.out.draw (HD6.out.src.mono (by omega)) (But.refl _ _), by omega, by omega, by omega, by omega⟩
          | true =>
            have c5 := blkc HD6.out.box 5
            have f5 := blkf HD6.out.box 5
            go_upto_region 9 with fail
            go_wp2_with (go_at_call 14; refine (nextS HD6.out.src hn (by omega) 3 (by omega) (by omega)).mono ?_; rintro e wA ⟨Z, rfl, hZ, hsA, hbA⟩; have HD7 := hidd (HD6.out.draw hsA hbA); have c5 := blkc HD7.out.box 5; have f5 := blkf HD7.out.box 5; clear hsA hbA)
            have HD8 := hidd (HD7.out.setLo (1 + (Z : Int)))
            clear HD7 c5 f5 HD6
            generalize wA.setCell ⟨BX, 5, none⟩ (.int .i64 (1 + (Z : Int))) = wB at *
            have HD9 : Hid (DA w ({ heap := wB.heap, tape := wB.tape, drawn := wB.drawn + 1, os := wB.os, output := wB.output } : World) b ao n cap (A + 33) w.heap.size BX fo x2 x3 aS cS stops vY syns (1 + (Z : Int)) 0) := HD8.out.draw ((HD8.out.src.below (below_drewN (Below.refl _ _) 1)).mono (by omega)) (But.of_below (below_drewN (Below.refl _ _) 1))
            refine wp_region_held (S := fun w' => w'.cell? ⟨BX, 5, none⟩ = some (.int .i64 (1 + (Z : Int)))) (by kernel_rfl) ?_
            generalize ({ heap := wB.heap, tape := wB.tape, drawn := wB.drawn + 1, os := wB.os, output := wB.output } : World) = wd at *
            have hSx : wd.cell? ⟨BX, 5, none⟩ = some (.int .i64 (1 + (Z : Int))) := blkc HD9.out.box 5
            try simp only [Act.put, List.getElem_toArray, List.getElem_cons_succ, List.getElem_cons_zero, List.setIfInBounds_toArray, List.set_cons_zero, List.set_cons_succ]
            refine tkX 0 (hS := hSx) (h := ?_)
            try simp only [Act.put, List.getElem_toArray, List.getElem_cons_succ, List.getElem_cons_zero, List.setIfInBounds_toArray, List.set_cons_zero, List.set_cons_succ]
            refine tkX 1 (hS := hSx) (h := ?_)
            try simp only [Act.put, List.getElem_toArray, List.getElem_cons_succ, List.getElem_cons_zero, List.setIfInBounds_toArray, List.set_cons_zero, List.set_cons_succ]
            refine tkX 2 (hS := hSx) (h := ?_)
            try simp only [Act.put, List.getElem_toArray, List.getElem_cons_succ, List.getElem_cons_zero, List.setIfInBounds_toArray, List.set_cons_zero, List.set_cons_succ]
            refine wpAnyH_one 3 (by kernel_rfl) ?_
            refine wpOp_call 14 #[.pointer (some ⟨b, 0, none⟩), .int .i64 2] rfl (by kernel_rfl) (rbx_call2 _ _ _ _ _ _ _ _ rfl _ _ (by kernel_rfl) (by kernel_rfl) (Tryz.call14 _ _)) ?_
            refine (nextS HD9.out.src hn (by omega) 2 (by omega) (by omega)).mono ?_
            rintro e' wD ⟨X, rfl, hX, hsx, hbx⟩
            have HE := hidd (HD9.out.draw hsx hbx)
            clear hsx hbx hSx
            have hSx : wD.cell? ⟨BX, 5, none⟩ = some (.int .i64 (1 + (Z : Int))) := blkc HE.out.box 5
            refine ⟨hSx, ?_⟩
            try simp only [Act.put, List.getElem_toArray, List.getElem_cons_succ, List.getElem_cons_zero, List.setIfInBounds_toArray, List.set_cons_zero, List.set_cons_succ]
            refine wpAnyH_take (i := 4) (v := .int .i64 (1 + (Z : Int) + (X : Int))) rfl (by kernel_rfl) (by kernel_rfl) (by kernel_rfl) (fun _ _ _ h => h) (Or.inl ⟨by kernel_rfl, ?_⟩) hSx ?_
            · (intro w hSw; (try dsimp only at hSw); go_simp; first | done | exact w64_of (by omega) (by omega))
            try simp only [Act.put, List.getElem_toArray, List.getElem_cons_succ, List.getElem_cons_zero, List.setIfInBounds_toArray, List.set_cons_zero, List.set_cons_succ]
            refine tkX 5 (hS := hSx) (h := ?_)
            try simp only [Act.put, List.getElem_toArray, List.getElem_cons_succ, List.getElem_cons_zero, List.setIfInBounds_toArray, List.set_cons_zero, List.set_cons_succ]
            refine wpAnyH_one 6 (by kernel_rfl) ?_
            refine wpOp_skip (wD.setCell ⟨BX, 6, none⟩ (.int .i64 (1 + (Z : Int) + (X : Int)))) rfl (by kernel_rfl) (exec_storeI _ _ _ _ _ rfl BX 6 _ (.int .i64 0) (by kernel_rfl) (by kernel_rfl) (blkc HE.out.box 6) (blkf HE.out.box 6)) ?_
            have HF := hidd (HE.out.setHi (1 + (Z : Int) + (X : Int)))
            refine ⟨blkc HF.out.box 5, ?_⟩
            try simp only [Act.put, List.getElem_toArray, List.getElem_cons_succ, List.getElem_cons_zero, List.setIfInBounds_toArray, List.set_cons_zero, List.set_cons_succ]
            refine wpAnyH_done (by kernel_rfl) ?_ _
            clear hSx HE HD9 HD8
            generalize wD.setCell ⟨BX, 6, none⟩ (.int .i64 (1 + (Z : Int) + (X : Int))) = wE at *
            go_wp2_with fail
            go_meet
            case rel => exact ⟨_, _, HF.out.draw (HF.out.src.mono (by omega)) (But.refl _ _), by omega, by omega, by omega, by omega⟩
        case rest =>
          obtain ⟨lo, hi', hD, hl1, hl2, hl3, hl4⟩ := hcut
          have HD8 := hidd hD
          clear hD HD6
          obtain ⟨aY, nY, cY, rfl⟩ := ownSl HD8.out.syn
          obtain ⟨cs, hr1, hr2⟩ := HD8.out.res
          obtain ⟨r0, r1, r2, r3, r4, r5, r6, rfl⟩ := arr7 hr2
          have c0 : wc.cell? ⟨BX, 0, none⟩ = some (.bool fo) := blkc HD8.out.box 0
          have d0 : wc.cell? ⟨w.heap.size, 0, none⟩ = some r0 := blkc hr1 0
          have e0 := blkf hr1 0
          have c1 : wc.cell? ⟨BX, 1, none⟩ = some (.bool x2) := blkc HD8.out.box 1
          have d1 : wc.cell? ⟨w.heap.size, 1, none⟩ = some r1 := blkc hr1 1
          have e1 := blkf hr1 1
          have c2 : wc.cell? ⟨BX, 2, none⟩ = some (.bool x3) := blkc HD8.out.box 2
          have d2 : wc.cell? ⟨w.heap.size, 2, none⟩ = some r2 := blkc hr1 2
          have e2 := blkf hr1 2
          have c3 : wc.cell? ⟨BX, 3, none⟩ = some (.slice aS stops.length cS) := blkc HD8.out.box 3
          have d3 : wc.cell? ⟨w.heap.size, 3, none⟩ = some r3 := blkc hr1 3
          have e3 := blkf hr1 3
          have c4 : wc.cell? ⟨BX, 4, none⟩ = some (.slice aY nY cY) := blkc HD8.out.box 4
          have d4 : wc.cell? ⟨w.heap.size, 4, none⟩ = some r4 := blkc hr1 4
          have e4 := blkf hr1 4
          have c5 : wc.cell? ⟨BX, 5, none⟩ = some (.int .i64 lo) := blkc HD8.out.box 5
          have d5 : wc.cell? ⟨w.heap.size, 5, none⟩ = some r5 := blkc hr1 5
          have e5 := blkf hr1 5
          have c6 : wc.cell? ⟨BX, 6, none⟩ = some (.int .i64 hi') := blkc HD8.out.box 6
          have d6 : wc.cell? ⟨w.heap.size, 6, none⟩ = some r6 := blkc hr1 6
          have e6 := blkf hr1 6
          have hxl := HD8.out.xl
          clear hr1 hr2
          go_wp2_with fail
          refine bodyPost_ret (v := .agg #[.bool fo, .bool x2, .bool x3, .slice aS stops.length cS, .slice aY nY cY, .int .i64 lo, .int .i64 hi']) (by simp [results, Tryz.results60, go_sem, *]) rfl ?_
          have HR := hidd (((((((HD8.out.setR 0 (.bool fo)).setR 1 (.bool x2)).setR 2 (.bool x3)).setR 3 (.slice aS stops.length cS)).setR 4 (.slice aY nY cY)).setR 5 (.int .i64 lo)).setR 6 (.int .i64 hi'))
          exact HR.out.drawn (by omega) hsl HSs.out (by omega) HZy.out HNe.out hl1 hl2 hl3 hl4
end Go.Proofs.YtpdiaddgialanaaGreatDoor
