import Derived.Test.YtpdiaddgialanaaGreatDoorLogJ11
import Derived.Test.YtpdiaddgialanaaGreatDoorLogJ12
import Derived.Lib.BitFns
import Derived.Lib.ItoaNum
namespace Go.Proofs.YtpdiaddgialanaaGreatDoor
open Go Go.RowKit
set_option linter.unusedVariables false
set_option linter.unusedSimpArgs false
set_option maxRecDepth 100000

/-! A record is drawn out of code. -/
structure RS (w : World) (base b : Nat) (ao : Option Addr) (n cap : Nat) (A : Int) (g2 g4 : Nat) (kd sq : Int) (id did : List UInt8) (dv : Value) (V : List Vl) (ys : List Value) (W : World) : Prop where
  src : Sx b ao n cap W A
  bel : Below base w W
  box : W.heap[g4]? = some (.cells #[.int .i64 kd, .int .i64 sq, .string ⟨id.toArray⟩, .string ⟨did.toArray⟩, dv] 28)
  res : W.heap[g2]? = some (.cells #[.int .i64 0, .int .i64 0, .string ⟨#[]⟩, .string ⟨#[]⟩, .slice none 0 0] 28)
  doc : DocV W base dv V ys
  hb : base ≤ w.heap.size
  bb : base ≤ b
  xl : base ≤ g4
  rl : base ≤ g2
  ne : g2 ≠ g4
  cb : ∀ j, j < n → ∃ blk off, ao = some ⟨blk, off, none⟩ ∧ blk < base
section
variable {w W W' : World} {base b : Nat} {ao : Option Addr} {n cap : Nat} {A A' : Int} {g2 g4 : Nat} {kd sq : Int} {id did : List UInt8} {dv : Value} {V : List Vl} {ys : List Value}
theorem RS.size (h : RS w base b ao n cap A g2 g4 kd sq id did dv V ys W) : base ≤ W.heap.size := Nat.le_trans h.hb h.bel.size
theorem RS.draw (h : RS w base b ao n cap A g2 g4 kd sq id did dv V ys W) (hs : Sx b ao n cap W' A') (hb : But (fun x => x = b) W W') : RS w base b ao n cap A' g2 g4 kd sq id did dv V ys W' :=
  ⟨hs, h.bel.trans (hb.below h.size fun i hi e => by have := h.bb; omega), hb.blk h.box (h.src.neT h.box (by decide)), hb.blk h.res (h.src.neT h.res (by decide)), h.doc.keep (h.src.keepD hb), h.hb, h.bb, h.xl, h.rl, h.ne, h.cb⟩
theorem RS.below (h : RS w base b ao n cap A g2 g4 kd sq id did dv V ys W) (hb : Below W.heap.size W W') : RS w base b ao n cap A g2 g4 kd sq id did dv V ys W' := h.draw (h.src.below hb) (But.of_below hb)
theorem RS.mono (h : RS w base b ao n cap A g2 g4 kd sq id did dv V ys W) (hA : A ≤ A') : RS w base b ao n cap A' g2 g4 kd sq id did dv V ys W := ⟨h.src.mono hA, h.bel, h.box, h.res, h.doc, h.hb, h.bb, h.xl, h.rl, h.ne, h.cb⟩
theorem KeepD.rec {g k : Nat} {u : Value} {cs : Array Value} (h : W.heap[g]? = some (.cells cs 28)) : KeepD W (W.setCell ⟨g, k, none⟩ u) := KeepD.set h (by decide) (by decide) (by decide)
theorem RS.set {kd' sq' : Int} {id' did' : List UInt8} (h : RS w base b ao n cap A g2 g4 kd sq id did dv V ys W) (k : Nat) (u : Value) (he : (#[.int .i64 kd, .int .i64 sq, .string ⟨id.toArray⟩, .string ⟨did.toArray⟩, dv] : Array Value).setIfInBounds k u = #[.int .i64 kd', .int .i64 sq', .string ⟨id'.toArray⟩, .string ⟨did'.toArray⟩, dv]) : RS w base b ao n cap A g2 g4 kd' sq' id' did' dv V ys (W.setCell ⟨g4, k, none⟩ u) := by
  have hxl := h.xl
  have hbx := blk_setk h.box k u
  rw [he] at hbx
  refine ⟨h.src.set g4 k _ (h.src.neT h.box (by decide)) (fun j hj => ?_), h.bel.setCell (p := ⟨g4, k, none⟩) hxl _, hbx, (heap_set_other _ _ _ _ _ h.ne).trans h.res, h.doc.keep (KeepD.rec h.box), h.hb, h.bb, h.xl, h.rl, h.ne, h.cb⟩
  obtain ⟨blk, off, h1, h2⟩ := h.cb j hj
  exact ⟨blk, off, h1, by omega⟩
/-- Another document. -/
theorem RS.setD {did' : List UInt8} {dv' : Value} {V' : List Vl} {ys' : List Value} (h : RS w base b ao n cap A g2 g4 kd sq id did dv V ys W) (hs : Sx b ao n cap W' A') (hb : Below base W W') (hk : KeepR W W') (hd : DocV W' base dv' V' ys') : RS w base b ao n cap A' g2 g4 kd sq id did' dv' V' ys' ((W'.setCell ⟨g4, 3, none⟩ (.string ⟨did'.toArray⟩)).setCell ⟨g4, 4, none⟩ dv') := by
  have hxl := h.xl
  have hbx := hk _ _ h.box
  have hrs := hk _ _ h.res
  have h3 := blk_setk hbx 3 (.string ⟨did'.toArray⟩)
  have hc : ∀ j, j < n → ∃ blk off, ao = some ⟨blk, off, none⟩ ∧ blk ≠ g4 := fun j hj => by
    obtain ⟨blk, off, h1, h2⟩ := h.cb j hj
    exact ⟨blk, off, h1, by omega⟩
  refine ⟨(hs.set g4 3 _ (hs.neT hbx (by decide)) hc).set g4 4 _ (hs.neT hbx (by decide)) hc, ((h.bel.trans hb).setCell (p := ⟨g4, 3, none⟩) hxl _).setCell (p := ⟨g4, 4, none⟩) hxl _, ?_, ?_, hd.keep ((KeepD.rec hbx).trans (KeepD.rec h3)), h.hb, h.bb, h.xl, h.rl, h.ne, h.cb⟩
  · have := blk_setk h3 4 dv'
    simpa using this
  · rw [heap_set_other _ _ _ _ _ h.ne, heap_set_other _ _ _ _ _ h.ne]
    exact hrs
theorem RS.cells (h : RS w base b ao n cap A g2 g4 kd sq id did dv V ys W) : W.cell? ⟨g4, 0, none⟩ = some (.int .i64 kd) ∧ W.cell? ⟨g4, 1, none⟩ = some (.int .i64 sq) ∧ W.cell? ⟨g4, 2, none⟩ = some (.string ⟨id.toArray⟩) ∧ W.cell? ⟨g4, 3, none⟩ = some (.string ⟨did.toArray⟩) ∧ W.cell? ⟨g4, 4, none⟩ = some dv := ⟨blkc h.box 0, blkc h.box 1, blkc h.box 2, blkc h.box 3, blkc h.box 4⟩
end
/-- What is there behind the switch. -/
def RF (w : World) (base b : Nat) (ao : Option Addr) (n cap : Nat) (A : Int) (g2 g4 : Nat) (W : World) : Prop := ∃ (kd sq : Int) (id did : List UInt8) (dv : Value) (V : List Vl) (ys : List Value), id.length ≤ 10 ∧ did.length ≤ 40 ∧ SmB V ∧ RS w base b ao n cap A g2 g4 kd sq id did dv V ys W
def DrawnRB (w : World) (e : Ending) (w' : World) : Prop :=
  ∃ (kd sq : Int) (id did : List UInt8) (a : Option Addr) (c : Nat) (V : List Vl), e = .returned (.agg #[.int .i64 kd, .int .i64 sq, .string ⟨id.toArray⟩, .string ⟨did.toArray⟩, .slice a V.length c]) ∧ id.length ≤ 10 ∧ did.length ≤ 40 ∧ HoldV w' a V ∧ SmB V ∧ Below w.heap.size w w'
set_option maxHeartbeats 16000000 in
theorem drawRB_any (ao : Option Addr) (n cap : Nat) (w : World) (hn : n ≤ 1048576) (hc : CodeIn w ao n) :
    Calls Tryz.prog 5 #[.slice ao n cap] w (DrawnRB w) := by
  have HC := hidd hc
  clear hc
  go_enter Tryz.func5, Tryz.ntmps5
  go_upto_region 1 with fail
  have HB1 : Hid (Below w.heap.size w (w.alloc (.cells #[.int .i64 0, .int .i64 0, .string ⟨#[]⟩, .string ⟨#[]⟩, .slice none 0 0] 28))) := (Below.refl _ _).alloc (Nat.le_refl _) _
  have HX1 := hidd (heap_alloc_new w (.cells #[.int .i64 0, .int .i64 0, .string ⟨#[]⟩, .string ⟨#[]⟩, .slice none 0 0] 28))
  obtain ⟨g2, hg2⟩ : ∃ g, w.heap.size = g := ⟨_, rfl⟩
  have HG2 : Hid (w.heap.size = g2) := hg2
  rw [hg2] at HX1
  simp only [hg2]
  clear hg2
  generalize w.alloc (.cells #[.int .i64 0, .int .i64 0, .string ⟨#[]⟩, .string ⟨#[]⟩, .slice none 0 0] 28) = w1 at *
  go_wp2_with fail
  refine (source_any ao n cap w1 hn).mono ?_
  rintro e w2 ⟨rfl, hsrc, hgr⟩
  have hbw : Below w1.heap.size w1 w2 := (Below.refl _ _).grown hgr (Nat.le_refl _) (fun k hk => by cases hk)
  have HS2 : Hid (Sx w1.heap.size ao n cap w2 0) := ⟨0, (n : Int) % 1000, by omega, by omega, by omega, by omega, hsrc, (HC.out.below HB1.out).code hgr⟩
  have HB2 := hidd (HB1.out.trans (hbw.mono HB1.out.size))
  have HX2 := hidd (blko HX1.out hbw)
  have HGb : Hid (w.heap.size ≤ w1.heap.size ∧ g2 < w1.heap.size) := ⟨HB1.out.size, (Array.getElem?_eq_some_iff.1 HX1.out).1⟩
  clear hsrc hgr hbw HX1 HB1
  obtain ⟨b, hb⟩ : ∃ g, w1.heap.size = g := ⟨_, rfl⟩
  rw [hb] at HS2 HGb
  simp only [hb]
  clear hb
  go_wp2_with fail
  refine (nextS HS2.out hn (by omega) 300 (by omega) (by omega)).mono ?_
  rintro e w3 ⟨x, rfl, hx, hs3, hb3⟩
  have HS3 := hidd hs3
  have HB3 : Hid (Below w.heap.size w w3) := HB2.out.trans (hb3.below HB2.out.size (fun i hi e => by have := HGb.out.1; omega))
  have HX3 := hidd (hb3.blk HX2.out (by have := HGb.out.2; omega))
  clear hs3 hb3 HS2 HB2 HX2
  go_wp2_with fail
  refine (drawRec_any b ao n cap _ (1 + (x : Int)) w3 hn (by omega) HS3.out (fun j hj => by obtain ⟨blk, off, z, h1, h2, _⟩ := HC.out j hj; exact ⟨blk, off, h1, Nat.lt_of_lt_of_le h2 HB3.out.size⟩)).mono ?_
  rintro e w4 ⟨kd, id, did, dv, V, ys, rfl, hidl, hdl, hdo, hsm, hs4, hb4⟩
  have HDo := hidd (hdo.low HB3.out.size)
  have HSm := hidd hsm
  obtain ⟨ad, cd, rfl⟩ := own_slice hdo.row
  obtain ⟨NV, hNV⟩ : ∃ N, V.length = N := ⟨_, rfl⟩
  have HNV := hidd hNV
  rw [hNV] at HDo
  simp only [hNV]
  have HB4 : Hid (Below w.heap.size w w4) := HB3.out.trans (hb4.below HB3.out.size (fun i hi e => by have := HGb.out.1; omega))
  have HS4 := hidd hs4
  have HX4 := hidd (hb4.blk HX3.out (by have := HGb.out.2; omega))
  clear hs4 hb4 hdo hsm hNV HS3 HB3 HX3
  obtain ⟨sq, hsq⟩ : ∃ q : Int, 1 + (x : Int) = q := ⟨_, rfl⟩
  simp only [hsq]
  clear hsq
  go_upto_region 3 with fail
  have hbA : Below w4.heap.size w4 (w4.alloc (.cells #[.int .i64 kd, .int .i64 sq, .string ⟨id.toArray⟩, .string ⟨did.toArray⟩, .slice ad NV cd] 28)) := (Below.refl _ _).alloc (Nat.le_refl _) _
  have HD5 := hidd (HDo.out.keep (KeepD.below hbA))
  have HR5 : Hid (RS w w.heap.size b ao n cap (0 + 3 + 3000) g2 w4.heap.size kd sq id did (.slice ad NV cd) V ys (w4.alloc (.cells #[.int .i64 kd, .int .i64 sq, .string ⟨id.toArray⟩, .string ⟨did.toArray⟩, .slice ad NV cd] 28))) :=
    ⟨HS4.out.below hbA, HB4.out.trans (hbA.mono HB4.out.size), heap_alloc_new w4 _, blko HX4.out hbA, HD5.out.v, Nat.le_refl _, HGb.out.1, HB4.out.size, Nat.le_of_eq HG2.out, by have := (Array.getElem?_eq_some_iff.1 HX4.out).1; omega, fun j hj => by obtain ⟨blk, off, z, h1, h2, _⟩ := HC.out j hj; exact ⟨blk, off, h1, h2⟩⟩
  clear hbA HDo HS4 HB4 HX4
  obtain ⟨g4, hg4⟩ : ∃ g, w4.heap.size = g := ⟨_, rfl⟩
  rw [hg4] at HR5
  simp only [hg4]
  clear hg4
  generalize w4.alloc (.cells #[.int .i64 kd, .int .i64 sq, .string ⟨id.toArray⟩, .string ⟨did.toArray⟩, .slice ad NV cd] 28) = w5 at *
  obtain ⟨base, hbase⟩ : ∃ g, w.heap.size = g := ⟨_, rfl⟩
  have HBase : Hid (w.heap.size = base) := hbase
  rw [hbase] at HR5 HD5
  clear hbase
  go_upto_block 0 with (go_at_call 14; refine (nextS HR5.out.src hn (by omega) 12 (by omega) (by omega)).mono ?_; rintro e w6 ⟨r, rfl, hr, hs6, hb6⟩)
  have HR6 := hidd (HR5.out.draw hs6 hb6)
  have HD6 := hidd (HD5.out.keep (HR5.out.src.keepD hb6))
  clear hs6 hb6 HR5 HD5
  obtain ⟨rz, hrz⟩ : ∃ z : Int, (r : Int) = z := ⟨_, rfl⟩
  simp only [hrz]
  clear hrz
  go_cut [] (fun wy => RF w base b ao n cap 5000 g2 g4 wy)
  case first =>
    obtain ⟨e0, e1, e2, e3, e4⟩ := HR6.out.cells
    by_cases h0 : rz = 0
    · subst h0
      clear e0 e1 e2 e3 e4
      go_wp2_with fail
      refine (oddNum_any b ao n cap _ w6 hn (by omega) HR6.out.src).mono ?_
      rintro e w7 ⟨z, rfl, hs7, hb7⟩
      have HR7 := hidd (HR6.out.draw hs7 hb7)
      clear hs7 hb7 HR6 HD6
      have c1 := blkc HR7.out.box 1
      have f1 := blkf HR7.out.box 1
      simp only [List.getElem?_toArray, List.getElem?_cons_zero, List.getElem?_cons_succ] at c1
      have HE := hidd (HR7.out.set (kd' := kd) (sq' := z) (id' := id) (did' := did) 1 (.int .i64 z) rfl)
      go_wp2_with fail
      go_meet
      case rel => exact ⟨_, _, _, _, _, _, _, hidl, by omega, HSm.out.b, HE.out.mono (by omega)⟩
    · have h0b : (rz == 0) = false := by simpa using h0
      by_cases h1 : rz = 1
      · subst h1
        clear e0 e1 e2 e3 e4
        go_wp2_with fail
        refine (nextS HR6.out.src hn (by omega) 5 (by omega) (by omega)).mono ?_
        rintro e w7 ⟨z, rfl, hz, hs7, hb7⟩
        have HR7 := hidd (HR6.out.draw hs7 hb7)
        clear hs7 hb7 HR6 HD6
        have c1 := blkc HR7.out.box 0
        have f1 := blkf HR7.out.box 0
        simp only [List.getElem?_toArray, List.getElem?_cons_zero, List.getElem?_cons_succ] at c1
        have HE := hidd (HR7.out.set (kd' := (z : Int) - 1) (sq' := sq) (id' := id) (did' := did) 0 (.int .i64 ((z : Int) - 1)) rfl)
        go_wp2_with fail
        go_meet
        case rel => exact ⟨_, _, _, _, _, _, _, hidl, by omega, HSm.out.b, HE.out.mono (by omega)⟩
      · have h1b : (rz == 1) = false := by simpa using h1
        by_cases h2 : rz = 2
        · subst h2
          clear e0 e1 e2 e3 e4
          go_wp2_with fail
          have hba : Below w6.heap.size w6 (w6.alloc (.cells #[.string ⟨#[]⟩, .string ⟨#[120]⟩, .string ⟨#[97, 32, 98]⟩] 9)) := (Below.refl _ _).alloc (Nat.le_refl _) _
          have HR7 := hidd (HR6.out.below hba)
          have HT5 := hidd (heap_alloc_new w6 (.cells #[.string ⟨#[]⟩, .string ⟨#[120]⟩, .string ⟨#[97, 32, 98]⟩] 9))
          have HTb : Hid (b < w6.heap.size) := HR6.out.src.lt
          clear hba HR6 HD6
          obtain ⟨tq, htq⟩ : ∃ g, w6.heap.size = g := ⟨_, rfl⟩
          rw [htq] at HT5 HTb
          simp only [htq]
          clear htq
          generalize w6.alloc (.cells #[.string ⟨#[]⟩, .string ⟨#[120]⟩, .string ⟨#[97, 32, 98]⟩] 9) = w7 at *
          refine (nextS HR7.out.src hn (by omega) 3 (by omega) (by omega)).mono ?_
          rintro e w8 ⟨y, rfl, hy, hs8, hb8⟩
          have HR8 := hidd (HR7.out.draw hs8 hb8)
          have HT8 := hidd (hb8.blk HT5.out (fun e => by have := HTb.out; omega))
          clear hs8 hb8 HR7 HT5
          obtain ⟨tl, htl, hcl⟩ := tab3_at y (by omega) (t0 := []) (t1 := [120]) (t2 := [97, 32, 98]) 10 (by decide) (by decide) (by decide) HT8.out
          have hyz : (y : Int) < 3 := by omega
          have c1 := blkc HR8.out.box 2
          have f1 := blkf HR8.out.box 2
          simp only [List.getElem?_toArray, List.getElem?_cons_zero, List.getElem?_cons_succ] at c1
          have HE := hidd (HR8.out.set (kd' := kd) (sq' := sq) (id' := tl) (did' := did) 2 (.string ⟨tl.toArray⟩) rfl)
          go_wp2_with fail
          go_meet
          case rel => exact ⟨_, _, _, _, _, _, _, htl, by omega, HSm.out.b, HE.out.mono (by omega)⟩
        · have h2b : (rz == 2) = false := by simpa using h2
          by_cases h3 : rz = 3
          · subst h3
            go_wp2_with fail
            refine (bentDoc_any b ao n cap _ w6 base did _ V ys hn (by omega) HR6.out.src HR6.out.cb HR6.out.size HR6.out.bb HD6.out HSm.out hdl).mono ?_
            rintro e w7 ⟨did', a', c', V', ys', rfl, hd', hdv', hsm', hs7, hb7, hk7⟩
            obtain ⟨N', hN'⟩ : ∃ N, V'.length = N := ⟨_, rfl⟩
            rw [hN'] at hdv'
            simp only [hN']
            clear hN'
            have HE := hidd (HR6.out.setD (did' := did') hs7 hb7 hk7 hdv')
            have hbx := hk7 _ _ HR6.out.box
            have c3 := blkc hbx 3
            have c4 := blkc hbx 4
            have f3 := blkf hbx 3
            have f4 := blkf hbx 4
            simp only [List.getElem?_toArray, List.getElem?_cons_zero, List.getElem?_cons_succ] at c3 c4
            have HF' : Hid (did'.length ≤ 40 ∧ SmB V') := ⟨hd', hsm'⟩
            clear hs7 hb7 hk7 hdv' hbx hd' hsm' HR6 HD6 e0 e1 e2 e3 e4
            go_wp2_with fail
            go_meet
            case rel => exact ⟨_, _, _, _, _, _, _, hidl, HF'.out.1, HF'.out.2, HE.out.mono (by omega)⟩
          · have h3b : (rz == 3) = false := by simpa using h3
            clear e0 e1 e2 e3 e4
            go_wp2_with fail
            go_meet
            case rel => exact ⟨_, _, _, _, _, _, _, hidl, by omega, HSm.out.b, HR6.out.mono (by omega)⟩
  case rest =>
    obtain ⟨kd', sq', id', did', dv', V', ys', hid', hd', hsm', hR⟩ := hcut
    obtain ⟨a', c', rfl⟩ := own_slice hR.doc.row
    obtain ⟨N', hN'⟩ : ∃ N, V'.length = N := ⟨_, rfl⟩
    rw [hN'] at hR
    have HR := hidd hR
    have HN' := hidd hN'
    have HF' : Hid (id'.length ≤ 10 ∧ did'.length ≤ 40 ∧ SmB V') := ⟨hid', hd', hsm'⟩
    obtain ⟨e0, e1, e2, e3, e4⟩ := hR.cells
    clear hR hN' hid' hd' hsm' HR6 HD6
    have x0 := blkc HR.out.res 0
    have x1 := blkc HR.out.res 1
    have x2 := blkc HR.out.res 2
    have x3 := blkc HR.out.res 3
    have x4 := blkc HR.out.res 4
    have y0 := blkf HR.out.res 0
    have y1 := blkf HR.out.res 1
    have y2 := blkf HR.out.res 2
    have y3 := blkf HR.out.res 3
    have y4 := blkf HR.out.res 4
    simp only [List.getElem?_toArray, List.getElem?_cons_zero, List.getElem?_cons_succ] at x0 x1 x2 x3 x4
    go_wp2
    have hfin := hidd (set5_at HR.out.res (.int .i64 kd') (.int .i64 sq') (.string ⟨id'.toArray⟩) (.string ⟨did'.toArray⟩) (.slice a' N' c'))
    have hB : Below w.heap.size w (set5 wc g2 (.int .i64 kd') (.int .i64 sq') (.string ⟨id'.toArray⟩) (.string ⟨did'.toArray⟩) (.slice a' N' c')) := by
      have h1 := HR.out.bel
      rw [← HBase.out] at h1
      exact h1.trans ((set5_but _ _ _ _ _).below (Nat.le_trans (Nat.le_refl _) h1.size) (fun i hi e => by have := HG2.out; omega))
    have hDo := (HR.out.doc.keep (set5_keepD HR.out.res (.int .i64 kd') (.int .i64 sq') (.string ⟨id'.toArray⟩) (.string ⟨did'.toArray⟩) (.slice a' N' c'))).hold
    unfold set5 at hfin hB hDo
    refine bodyPost_ret (v := .agg #[.int .i64 kd', .int .i64 sq', .string ⟨id'.toArray⟩, .string ⟨did'.toArray⟩, .slice a' N' c']) ?_ rfl ⟨kd', sq', id', did', a', c', V', by rw [HN'.out], HF'.out.1, HF'.out.2.1, hDo.2, HF'.out.2.2, hB⟩
    clear hB hDo x0 x1 x2 x3 x4 y0 y1 y2 y3 y4 e0 e1 e2 e3 e4
    generalize ((((wc.setCell ⟨g2, 0, none⟩ (.int .i64 kd')).setCell ⟨g2, 1, none⟩ (.int .i64 sq')).setCell ⟨g2, 2, none⟩ (.string ⟨id'.toArray⟩)).setCell ⟨g2, 3, none⟩ (.string ⟨did'.toArray⟩)).setCell ⟨g2, 4, none⟩ (.slice a' N' c') = wf at *
    have z0 := blkc hfin.out 0
    have z1 := blkc hfin.out 1
    have z2 := blkc hfin.out 2
    have z3 := blkc hfin.out 3
    have z4 := blkc hfin.out 4
    simp at z0 z1 z2 z3 z4
    simp [results, Tryz.results5, go_sem, z0, z1, z2, z3, z4]
end Go.Proofs.YtpdiaddgialanaaGreatDoor

namespace Go.Proofs.YtpdiaddgialanaaGreatDoor
open Go
set_option linter.unusedVariables false

/-! Numbers in bytes of seven bits. -/
def putL (v : Nat) : List UInt8 := if v < 128 then [UInt8.ofNat v] else UInt8.ofNat (128 + v % 128) :: putL (v / 128)
termination_by v
decreasing_by omega
theorem putL_small (v : Nat) (h : v < 128) : putL v = [UInt8.ofNat v] := by rw [putL, if_pos h]
theorem putL_big (v : Nat) (h : ¬ v < 128) : putL v = UInt8.ofNat (128 + v % 128) :: putL (v / 128) := by rw [putL, if_neg h]
theorem putL_pos (v : Nat) : 1 ≤ (putL v).length := by
  by_cases h : v < 128
  · rw [putL_small v h]; simp
  · rw [putL_big v h]; simp
theorem putL_length (k : Nat) : ∀ v, v < 128 ^ (k + 1) → (putL v).length ≤ k + 1 := by
  induction k with
  | zero => intro v h; rw [putL_small v (by simpa using h)]; simp
  | succ k ih =>
    intro v h
    by_cases hv : v < 128
    · rw [putL_small v hv]; simp
    · rw [putL_big v hv]
      have : v / 128 < 128 ^ (k + 1) := Nat.div_lt_of_lt_mul (by rw [Nat.pow_succ] at h; omega)
      have := ih _ this
      simp; omega
theorem putL_length9 (v : Nat) (h : v < 4611686018427387904) : (putL v).length ≤ 9 := putL_length 8 v (Nat.lt_trans h (by decide))
def getGo : List UInt8 → Nat → Nat → Option (Nat × Nat)
  | [], _, _ => none
  | c :: t, n, v =>
    if 9 ≤ n ∨ (n = 8 ∧ 63 < c.toNat) then none
    else if c.toNat < 128 then (if n = 0 ∨ 0 < c.toNat then some (v + c.toNat % 128 * 128 ^ n, n + 1) else none)
    else getGo t (n + 1) (v + c.toNat % 128 * 128 ^ n)
def getL (bs : List UInt8) : Option (Nat × Nat) := getGo bs 0 0
theorem pow128 (n : Nat) (h : 9 ≤ n) : 9223372036854775808 ≤ 128 ^ n := by
  have : 128 ^ 9 ≤ 128 ^ n := Nat.pow_le_pow_right (by omega) h
  simpa using this
theorem pow128_8 (n : Nat) (h : 8 ≤ n) : 72057594037927936 ≤ 128 ^ n := by
  have : 128 ^ 8 ≤ 128 ^ n := Nat.pow_le_pow_right (by omega) h
  simpa using this
theorem ofNat_toNat (v : Nat) (h : v < 256) : (UInt8.ofNat v).toNat = v := by simp; omega
theorem getGo_put (x : Nat) : ∀ (rest : List UInt8) (n v : Nat), x * 128 ^ n < 4611686018427387904 → (n = 0 ∨ 0 < x) → getGo (putL x ++ rest) n v = some (v + x * 128 ^ n, n + (putL x).length) := by
  induction x using Nat.strongRecOn with
  | _ x ih =>
    intro rest n v hx hn
    by_cases h : x < 128
    · rw [putL_small x h]
      simp only [List.cons_append, List.nil_append, getGo]
      rw [ofNat_toNat x (by omega)]
      have h1 : ¬ (9 ≤ n ∨ (n = 8 ∧ 63 < x)) := by
        rintro (h9 | ⟨rfl, h8⟩)
        · have := pow128 n h9
          rcases hn with rfl | hp
          · omega
          · have : 1 * 128 ^ n ≤ x * 128 ^ n := Nat.mul_le_mul_right _ hp
            omega
        · omega
      rw [if_neg h1, if_pos h, if_pos hn, Nat.mod_eq_of_lt h]
      simp
    · rw [putL_big x h]
      simp only [List.cons_append, getGo]
      rw [ofNat_toNat _ (by omega)]
      have h1 : ¬ (9 ≤ n ∨ (n = 8 ∧ 63 < 128 + x % 128)) := by
        intro hh
        have h8 : 8 ≤ n := by omega
        have := pow128_8 n h8
        have : 128 * 128 ^ n ≤ x * 128 ^ n := Nat.mul_le_mul_right _ (by omega)
        omega
      have e := Nat.div_add_mod x 128
      have key : x / 128 * 128 ^ (n + 1) + x % 128 * 128 ^ n = x * 128 ^ n := by rw [Nat.pow_succ]; grind
      rw [if_neg h1, if_neg (by omega), ih (x / 128) (by omega) rest (n + 1) _ (by omega) (by omega)]
      have e2 : (128 + x % 128) % 128 = x % 128 := by omega
      rw [e2]
      simp only [List.length_cons, Option.some.injEq, Prod.mk.injEq]
      omega
theorem getGo_inv (bs : List UInt8) : ∀ (n v v' n' : Nat), getGo bs n v = some (v', n') →
    ∃ x, bs.take (n' - n) = putL x ∧ v' = v + x * 128 ^ n ∧ (n = 0 ∨ 0 < x) ∧ x * 128 ^ n < 4611686018427387904 ∧ n' = n + (putL x).length := by
  induction bs with
  | nil => intro n v v' n' h; simp [getGo] at h
  | cons c t ih =>
    intro n v v' n' h
    rw [getGo] at h
    have hc : c.toNat < 256 := c.toNat_lt
    split at h
    · cases h
    · rename_i h1
      split at h
      · rename_i h2
        split at h
        · rename_i h3
          simp only [Option.some.injEq, Prod.mk.injEq] at h
          obtain ⟨rfl, rfl⟩ := h
          have hp : putL c.toNat = [c] := by rw [putL_small _ h2]; simp
          refine ⟨c.toNat, ?_, by rw [Nat.mod_eq_of_lt h2], h3, ?_, by rw [hp]; rfl⟩
          · rw [hp]; simp
          · by_cases h8 : n = 8
            · subst h8; omega
            · have : 128 ^ n ≤ 128 ^ 7 := Nat.pow_le_pow_right (by omega) (by omega)
              have : c.toNat * 128 ^ n ≤ 127 * 128 ^ 7 := Nat.mul_le_mul (by omega) this
              omega
        · cases h
      · rename_i h2
        obtain ⟨x, h3, rfl, h4, h5, h6⟩ := ih _ _ _ _ h
        have h4' : 0 < x := by omega
        have hp : putL (x * 128 + c.toNat % 128) = c :: putL x := by
          rw [putL_big _ (by omega)]
          have e1 : (x * 128 + c.toNat % 128) % 128 = c.toNat % 128 := by omega
          have e2 : (x * 128 + c.toNat % 128) / 128 = x := by omega
          have e3 : 128 + c.toNat % 128 = c.toNat := by omega
          rw [e1, e2, e3]; simp
        refine ⟨x * 128 + c.toNat % 128, ?_, ?_, Or.inr (by omega), ?_, ?_⟩
        · rw [hp]
          have : n' - n = (n' - (n + 1)) + 1 := by omega
          rw [this, List.take_succ_cons, h3]
        · rw [Nat.pow_succ]; grind
        · by_cases h7 : n ≤ 7
          · have hq : x * 128 ^ n * 128 < 4611686018427387904 := by rw [Nat.pow_succ] at h5; grind
            have hq2 : x * 128 ^ n < 36028797018963968 := by omega
            have e : (x * 128 + c.toNat % 128) * 128 ^ n = x * 128 ^ n * 128 + c.toNat % 128 * 128 ^ n := by grind
            rw [e]
            -- the digits below
            have hP : 0 < 128 ^ n := Nat.pow_pos (by omega)
            have hr : c.toNat % 128 * 128 ^ n < 128 ^ (n + 1) := by
              rw [Nat.pow_succ, Nat.mul_comm (128 ^ n)]
              exact Nat.mul_lt_mul_of_pos_right (by omega) hP
            have hd : 128 ^ (n + 1) ∣ 4611686018427387904 := by
              have : (4611686018427387904 : Nat) = 128 ^ 8 * 64 := by decide
              rw [this]
              exact Nat.dvd_trans (Nat.pow_dvd_pow 128 (by omega)) (Nat.dvd_mul_right _ _)
            obtain ⟨q, hq3⟩ := hd
            have e4 : x * 128 ^ n * 128 = 128 ^ (n + 1) * x := by rw [Nat.pow_succ]; grind
            have hxq : x < q := by
              rw [hq3, e4] at hq
              exact Nat.lt_of_mul_lt_mul_left hq
            have : 128 ^ (n + 1) * (x + 1) ≤ 128 ^ (n + 1) * q := Nat.mul_le_mul_left _ hxq
            rw [e4]
            rw [Nat.mul_add, Nat.mul_one] at this
            omega
          · exfalso
            have h8 : n = 8 := by omega
            subst h8
            omega
        · rw [hp, List.length_cons]; omega
theorem getL_put (x : Nat) (rest : List UInt8) (h : x < 4611686018427387904) : getL (putL x ++ rest) = some (x, (putL x).length) := by
  have := getGo_put x rest 0 0 (by simpa using h) (Or.inl rfl)
  simpa [getL] using this
theorem getL_inv {bs : List UInt8} {v n : Nat} (h : getL bs = some (v, n)) : bs.take n = putL v ∧ v < 4611686018427387904 ∧ n = (putL v).length := by
  obtain ⟨x, h1, h2, h3, h4, h5⟩ := getGo_inv bs 0 0 v n h
  have e : v = x := by simpa using h2
  subst e
  simp at h1 h4 h5
  exact ⟨h1, h4, h5⟩
theorem getL_le {bs : List UInt8} {v n : Nat} (h : getL bs = some (v, n)) : n ≤ bs.length ∧ n ≤ 9 ∧ 1 ≤ n := by
  obtain ⟨h1, h2, h3⟩ := getL_inv h
  have := putL_length9 v h2
  have := putL_pos v
  have : (bs.take n).length = n := by rw [h1, h3]
  rw [List.length_take] at this
  omega
end Go.Proofs.YtpdiaddgialanaaGreatDoor
