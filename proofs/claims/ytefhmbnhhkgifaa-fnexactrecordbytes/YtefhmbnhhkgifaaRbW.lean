import Derived.Test.YtefhmbnhhkgifaaRbV
import Derived.Test.YtefhmbnhhkgifaaDoK
import Derived.Test.YtefhmbnhhkgifaaWithin
namespace Go.Proofs.Ytefhmbnhhkgifaa
open Go Go.RowKit
set_option linter.unusedVariables false
set_option linter.unusedSimpArgs false
set_option maxRecDepth 100000

theorem conv_take {W : World} {a : Option Addr} {n c : Nat} {l : List UInt8} (hl : l.length = n) (h : n = 0 ∨ ∃ b off, a = some ⟨b, off, none⟩ ∧ BytesAt W b off l) : (convert 28 9 (.slice a n c)).run Try.prog W = .ok (.string ⟨l.toArray⟩) W := by
  subst hl
  rcases h with h | ⟨b, off, rfl, hB⟩
  · have e : l = [] := List.length_eq_zero_iff.1 h
    subst e
    cases a with
    | none => exact run_convert_bytes_nil W 28 5 Try.underlying28 Try.underlying5 0 c 9 Try.underlying9
    | some ad => exact run_convert_bytes_back W 28 9 5 ad c [] Try.underlying28 Try.underlying5 Try.underlying9 fun j hj => absurd hj (by simp)
  · refine run_convert_bytes_back W 28 9 5 ⟨b, off, none⟩ c l Try.underlying28 Try.underlying5 Try.underlying9 fun j hj => ?_
    have := hB j hj
    rw [Go.WideShapes.add_plain, this]
    simp [List.getD_eq_getElem?_getD, hj]
set_option maxHeartbeats 2000000 in
theorem appTextL_any (base : Nat) (v : Value) (M t : List UInt8) (w : World) (ht : t.length ≤ 600000000) (hn : M.length ≤ 900000000000) (hb : base ≤ w.heap.size) (h : w.ownsRow base 5 1 v M.length (Lib.byteCells M)) :
    Calls Try.prog 21 #[v, .string ⟨t.toArray⟩] w (AppP base M (txB t) w) := by
  obtain ⟨i1, hi1, hy0, hy1, hy2⟩ := info_parts Try.infoByte
  have HI := hidd (appInt_any base v M t.length w (by omega) (by omega) hb h)
  have hsl : (⟨t.toArray⟩ : ByteArray).size = t.length := by rw [Lib.size_eq]
  have hpl := putL_length9 t.length (by omega)
  have HE : Hid (M ++ txB t = M ++ putL t.length ++ t) := by show _ = _; simp [txB]
  have hL : (M ++ putL t.length).length ≤ 900000000009 := by rw [List.length_append]; omega
  clear h
  unfold AppP at HI
  generalize M ++ putL t.length = N at HE hL HI
  go_enter Try.func21, Try.ntmps21
  go_wp2_with fail
  refine HI.out.mono ?_
  rintro e w1 ⟨v1, rfl, ho1, hb1, hk1⟩
  have HO1 := hidd ho1
  have HB1 := hidd hb1
  have HK1 := hidd hk1
  have hz1 := hb1.size
  clear ho1 hb1 hk1 HI
  dsimp only
  go_wp2_with (at_builtin; refine Lib.wpList_append_own_string _ rfl _ _ 28 9 rfl base 5 i1 Try.underlying28 Try.underlying9 hi1 hy0 hy1 hy2 v1 N.length (Lib.byteCells N) rfl HO1.out ⟨t.toArray⟩ rfl (by rw [hsl]; unfold maxLen; omega) (by rw [hsl]; omega) (by omega) ?_)
  intro v7 w7 hown7 hgrow7 hnil7
  rw [strCells_eq] at hown7
  have HO7 := hidd hown7
  have HB7 : Hid (Below base w w7) := HB1.out.grown hgrow7 (by omega) (fun k hk => (own_blk HO1.out hk).1)
  have HK7 : Hid (KeepB w w7) := HK1.out.trans (.grown HO1.out hgrow7)
  clear hown7 hgrow7 hnil7
  go_wp2_with fail
  go_ret
  exact ⟨v7, rfl, by rw [HE.out, List.length_append, Lib.byteCells_append]; exact HO7.out, HB7.out, HK7.out⟩
set_option maxHeartbeats 4000000 in
theorem bodySize_any (id : List UInt8) (a : Option Addr) (cap : Nat) (V : List Vl) (w : World) (hn : V.length ≤ 1048576) (hA : ∀ i, (V.getD i vl0).1.length ≤ 1048576 ∧ (V.getD i vl0).2.1.length ≤ 1048576 ∧ (V.getD i vl0).2.2.length ≤ 1048576) (hB : bodyV V ≤ 1048576) (hS : HoldV w a V) :
    Calls Try.prog 36 #[.agg #[.string ⟨id.toArray⟩, .slice a V.length cap]] w fun e w' => e = .returned (.int .i64 (bodyV V : Int)) ∧ Below w.heap.size w w' := by
  have HS := hidd hS
  have HA := hidd hA
  clear hS hA
  have HBa := hidd ((Below.refl w.heap.size w).alloc (Nat.le_refl _) (.cells #[.string ⟨id.toArray⟩, .slice a V.length cap] 33))
  go_enter Try.func36, Try.ntmps36
  go_wp2_with fail
  obtain ⟨wa, hwa⟩ : ∃ wa, w.alloc (.cells #[.string ⟨id.toArray⟩, .slice a V.length cap] 33) = wa := ⟨_, rfl⟩
  rw [hwa] at HBa
  try rw [hwa]
  clear hwa
  go_loopw [3, 11] (fun sv iv wr => ∃ k : Nat, k ≤ V.length ∧ iv = .int .i64 (k : Int) ∧ sv = .int .i64 (bodyV (V.take k) : Int) ∧ Below wa.heap.size wa wr) (fun _ iv _ => V.length - (intOf iv).toNat)
  case atStart => exact ⟨0, Nat.zero_le _, rfl, by simp [bodyV], Below.refl _ _⟩
  case round =>
    obtain ⟨k, hk, rfl, rfl, hbel⟩ := hrel
    have HB := hidd hbel
    clear hbel
    by_cases hlt : k < V.length
    · have hkz : (k : Int) < (V.length : Int) := by omega
      obtain ⟨b, off, rfl, hbl, hc⟩ := ((HS.out.below HBa.out).below HB.out).resolve_left (fun h => by rw [h] at hlt; simp at hlt)
      obtain ⟨x0, ⟨at_, ct, x1, hTx⟩, an, cn, x2, hZ⟩ := hc k hlt
      clear hc hZ
      have hal := HA.out k
      have HT := hidd (bodyV_take V hlt)
      have hle := bodyV_take_le V (k + 1)
      rw [HT.out] at hle
      obtain ⟨Y, hY⟩ : ∃ Y, bodyV (V.take k) = Y := ⟨_, rfl⟩
      rw [hY] at HT hle
      rw [hY]
      clear hY
      generalize V.getD k vl0 = s at *
      obtain ⟨f, tx, nz⟩ := s
      dsimp only at x0 x1 x2 hTx hal HT hle
      have HTx := hidd hTx
      clear hTx
      go_upto_region 5 with fail
      obtain ⟨wb, hwb⟩ : ∃ wb, wr.alloc (.cells #[.string ⟨f.toArray⟩, .slice at_ tx.length ct, .slice an nz.length cn] 65) = wb := ⟨_, rfl⟩
      have HBb := hidd ((Below.refl wr.heap.size wr).alloc (Nat.le_refl _) (.cells #[.string ⟨f.toArray⟩, .slice at_ tx.length ct, .slice an nz.length cn] 65))
      have HXb := hidd (heap_alloc_new wr (.cells #[.string ⟨f.toArray⟩, .slice at_ tx.length ct, .slice an nz.length cn] 65))
      rw [hwb] at HBb HXb
      try rw [hwb]
      clear hwb
      have v1 : wb.cell? ⟨wr.heap.size, 1, none⟩ = some (.slice at_ tx.length ct) := blkc HXb.out 1
      have HTb := hidd (HTx.out.below HBb.out)
      clear HTx
      go_wp2_with fail
      go_loopw [3, 18] (fun sv jv wz => ∃ j : Nat, j ≤ tx.length ∧ jv = .int .i64 (j : Int) ∧ sv = .int .i64 ((Y + txSum (tx.take j) : Nat) : Int) ∧ wz = wb) (fun _ jv _ => tx.length - (intOf jv).toNat)
      case atStart => exact ⟨0, Nat.zero_le _, rfl, by simp [txSum], rfl⟩
      case round =>
        obtain ⟨j, hj, rfl, rfl, hww⟩ := hrel
        have hww' := hww.symm
        subst hww'
        clear hww
        by_cases hjt : j < tx.length
        · have hjz : (j : Int) < (tx.length : Int) := by omega
          obtain ⟨bt, ot, rfl, hbt, hct⟩ := HTb.out.resolve_left (fun e => by rw [e] at hjt; simp at hjt)
          have t1 := hct j hjt
          clear hct
          have HT2 := hidd (txSum_take tx hjt)
          have hle2 := txSum_take_le tx (j + 1)
          rw [HT2.out] at hle2
          generalize tx.getD j [] = t at *
          generalize txSum (tx.take j) = Z at *
          have hfl : (⟨t.toArray⟩ : ByteArray).size = t.length := by rw [Lib.size_eq]
          go_wp2_with fail
          go_roundw
          case rel => exact ⟨j + 1, by omega, by go_num, by rw [HT2.out]; go_num, by first | trivial | rfl⟩
          case measure => simp [intOf]; omega
        · have hjz : ¬ (j : Int) < (tx.length : Int) := by omega
          have HE : Hid (Y + txSum (tx.take j) = bodyV (V.take (k + 1))) := by show _ = _; rw [HT.out, show j = tx.length by omega, List.take_length]
          generalize Y + txSum (tx.take j) = Z at *
          go_wp2_with fail
          go_roundw
          case rel => exact ⟨k + 1, by omega, by go_num, by rw [HE.out], HB.out.trans (HBb.out.mono HB.out.size)⟩
          case measure => simp [intOf]; omega
    · have hkz : ¬ (k : Int) < (V.length : Int) := by omega
      have HE : Hid (bodyV (V.take k) = bodyV V) := by show _ = _; rw [show k = V.length by omega, List.take_length]
      generalize bodyV (V.take k) = Z at *
      go_wp2_with fail
      go_ret
      rw [HE.out]
      exact ⟨rfl, HBa.out.trans (HB.out.mono HBa.out.size)⟩
set_option maxHeartbeats 4000000 in
theorem least_any (id : List UInt8) (a : Option Addr) (cap : Nat) (V : List Vl) (w : World) (hn : V.length ≤ 1048576) (hA : ∀ i, (V.getD i vl0).1.length ≤ 1048576 ∧ (V.getD i vl0).2.1.length ≤ 1048576 ∧ (V.getD i vl0).2.2.length ≤ 1048576) (hB : leV V ≤ 1048576) (hS : HoldV w a V) :
    Calls Try.prog 18 #[.agg #[.string ⟨id.toArray⟩, .slice a V.length cap]] w fun e w' => e = .returned (.int .i64 (leV V : Int)) ∧ Below w.heap.size w w' := by
  have HS := hidd hS
  have HA := hidd hA
  have HLe : Hid (leV V = bodyV V + lsV V) := rfl
  have hbl : bodyV V + lsV V ≤ 1048576 := hB
  have HY := hidd (fun (W : World) (hW : HoldV W a V) => bodySize_any id a cap V W hn hA (by omega) hW)
  clear hS hA
  have HBa := hidd ((Below.refl w.heap.size w).alloc (Nat.le_refl _) (.cells #[.string ⟨id.toArray⟩, .slice a V.length cap] 33))
  have HX := hidd (heap_alloc_new w (.cells #[.string ⟨id.toArray⟩, .slice a V.length cap] 33))
  go_enter Try.func18, Try.ntmps18
  go_upto_region 1 with fail
  obtain ⟨wa, hwa⟩ : ∃ wa, w.alloc (.cells #[.string ⟨id.toArray⟩, .slice a V.length cap] 33) = wa := ⟨_, rfl⟩
  rw [hwa] at HBa HX
  try rw [hwa]
  clear hwa
  have x0 := blkc HX.out 0
  have x1 := blkc HX.out 1
  go_wp2_with fail
  refine (HY.out _ (HS.out.below HBa.out)).mono ?_
  rintro e w1 ⟨rfl, hb1⟩
  have HB1 := hidd (HBa.out.trans (hb1.mono HBa.out.size))
  have HX1 := hidd (blko HX.out hb1)
  replace x0 := blkc HX1.out 0
  replace x1 := blkc HX1.out 1
  clear hb1 HX HY
  dsimp only
  obtain ⟨Y, hY⟩ : ∃ Y, bodyV V = Y := ⟨_, rfl⟩
  rw [hY] at HLe hbl
  try rw [hY]
  clear hY
  go_wp2_with fail
  go_loopw [3, 11] (fun sv iv wr => ∃ k : Nat, k ≤ V.length ∧ iv = .int .i64 (k : Int) ∧ sv = .int .i64 ((Y + lsV (V.take k) : Nat) : Int) ∧ Below w1.heap.size w1 wr) (fun _ iv _ => V.length - (intOf iv).toNat)
  case atStart => exact ⟨0, Nat.zero_le _, rfl, by simp [lsV], Below.refl _ _⟩
  case round =>
    obtain ⟨k, hk, rfl, rfl, hbel⟩ := hrel
    have HB := hidd hbel
    clear hbel x0 x1
    by_cases hlt : k < V.length
    · have hkz : (k : Int) < (V.length : Int) := by omega
      obtain ⟨b, off, rfl, hbl2, hc⟩ := ((HS.out.below HB1.out).below HB.out).resolve_left (fun h => by rw [h] at hlt; simp at hlt)
      obtain ⟨x0, ⟨at_, ct, x1, hTx⟩, an, cn, x2, hZ⟩ := hc k hlt
      clear hc hZ hTx
      have hal := HA.out k
      have HT := hidd (lsV_take V hlt)
      have hle := lsV_take_le V (k + 1)
      rw [HT.out] at hle
      obtain ⟨Z, hZ⟩ : ∃ Z, lsV (V.take k) = Z := ⟨_, rfl⟩
      rw [hZ] at HT hle
      rw [hZ]
      clear hZ
      generalize V.getD k vl0 = s at *
      obtain ⟨f, tx, nz⟩ := s
      dsimp only at x0 x1 x2 hal HT hle
      have hvl : vlL (f, tx, nz) = f.length + tx.length + nz.length := rfl
      rw [hvl] at HT hle
      clear hvl
      have hfl : (⟨f.toArray⟩ : ByteArray).size = f.length := by rw [Lib.size_eq]
      go_upto_region 5 with fail
      obtain ⟨wb, hwb⟩ : ∃ wb, wr.alloc (.cells #[.string ⟨f.toArray⟩, .slice at_ tx.length ct, .slice an nz.length cn] 65) = wb := ⟨_, rfl⟩
      have HBb := hidd ((Below.refl wr.heap.size wr).alloc (Nat.le_refl _) (.cells #[.string ⟨f.toArray⟩, .slice at_ tx.length ct, .slice an nz.length cn] 65))
      have HXb := hidd (heap_alloc_new wr (.cells #[.string ⟨f.toArray⟩, .slice at_ tx.length ct, .slice an nz.length cn] 65))
      rw [hwb] at HBb HXb
      try rw [hwb]
      clear hwb x0 x1 x2
      have v0 := blkc HXb.out 0
      have v1 := blkc HXb.out 1
      have v2 := blkc HXb.out 2
      go_wp2_with fail
      go_roundw
      case rel => exact ⟨k + 1, by omega, by go_num, by rw [HT.out]; go_num, HB.out.trans (HBb.out.mono HB.out.size)⟩
      case measure => simp [intOf]; omega
    · have hkz : ¬ (k : Int) < (V.length : Int) := by omega
      have HE : Hid (Y + lsV (V.take k) = leV V) := by show _ = _; rw [HLe.out, show k = V.length by omega, List.take_length]
      generalize Y + lsV (V.take k) = Z at *
      go_wp2_with fail
      go_ret
      rw [HE.out]
      exact ⟨rfl, HB1.out.trans (HB.out.mono HB1.out.size)⟩
end Go.Proofs.Ytefhmbnhhkgifaa
