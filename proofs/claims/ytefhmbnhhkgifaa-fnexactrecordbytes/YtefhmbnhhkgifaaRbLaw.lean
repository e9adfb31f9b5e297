import Derived.Test.YtefhmbnhhkgifaaRbLa
import Derived.Test.YtefhmbnhhkgifaaByteS
namespace Go.Proofs.Ytefhmbnhhkgifaa
open Go Go.RowKit
set_option linter.unusedVariables false

theorem szRec_ok {id : List UInt8} {d : Dc} (h : 0 ≤ szRec id d) : id.length ≤ 1048576 ∧ d.1.length ≤ 1048576 ∧ d.2.length ≤ 1048576 ∧ (∀ i, (d.2.getD i vl0).1.length ≤ 1048576 ∧ (d.2.getD i vl0).2.1.length ≤ 1048576 ∧ (d.2.getD i vl0).2.2.length ≤ 1048576) ∧ (dcOK d = true → (dcB d).length ≤ 500000000) ∧ leV d.2 ≤ 1048576 := by
  unfold szRec at h
  split at h
  · omega
  · obtain ⟨h1, h2, h3, h4⟩ := szDcL_ok (by omega) (by omega) h
    exact ⟨by omega, h1, h2, h3, h4, szDcL_sum (by omega) (by omega) h⟩
set_option maxHeartbeats 4000000 in
set_option maxRecDepth 100000 in
theorem recLaw_any (kd sq : Int) (id did : List UInt8) (a : Option Addr) (cap : Nat) (V : List Vl) (w : World) (hi : id.length ≤ 9223372036854775807) (hdi : did.length ≤ 9223372036854775807) (hn : V.length ≤ 9223372036854775807) (hA : ∀ i, VlLen (V.getD i vl0)) (hS : HoldV w a V) :
    Calls Try.prog 3 #[.agg #[.int .i64 kd, .int .i64 sq, .string ⟨id.toArray⟩, .string ⟨did.toArray⟩, .slice a V.length cap]] w fun e w' => e = .returned (.bool true) ∧ Below w.heap.size w w' := by
  have HS := hidd hS
  clear hS
  have HBa : Hid (Below w.heap.size w (w.alloc (.cells #[.int .i64 kd, .int .i64 sq, .string ⟨id.toArray⟩, .string ⟨did.toArray⟩, .slice a V.length cap] 26))) := (Below.refl _ _).alloc (Nat.le_refl _) _
  have HSz : Hid (∀ W, HoldV W a V → Calls Try.prog 4 #[.agg #[.int .i64 kd, .int .i64 sq, .string ⟨id.toArray⟩, .string ⟨did.toArray⟩, .slice a V.length cap], .int .i64 1048576] W fun e w' => e = .returned (.int .i64 (szRec id (did, V))) ∧ Below W.heap.size W w') := fun W hW => szRecord_any kd sq id did a cap V W hi hdi hn hA hW
  obtain ⟨X, hX⟩ : ∃ X, szRec id (did, V) = X := ⟨_, rfl⟩
  rw [hX] at HSz
  have hbx := hidd (heap_alloc_new w (.cells #[.int .i64 kd, .int .i64 sq, .string ⟨id.toArray⟩, .string ⟨did.toArray⟩, .slice a V.length cap] 26))
  go_enter Try.func3, Try.ntmps3
  go_wp2_with fail
  refine (HSz.out _ (HS.out.below HBa.out)).mono ?_
  rintro e w1 ⟨rfl, hb1⟩
  have HB1 := hidd (HBa.out.trans (hb1.mono HBa.out.size))
  have Hbox1 := hidd (blko hbx.out hb1)
  have hw1 : w.heap.size < w1.heap.size := (Array.getElem?_eq_some_iff.1 Hbox1.out).1
  clear hb1
  by_cases hX0 : X < 0
  · go_wp2_with fail
    go_ret
    exact ⟨rfl, HB1.out⟩
  · obtain ⟨hi2, hdi2, hn2, hA2, hSz, hle⟩ := szRec_ok (id := id) (d := (did, V)) (by omega)
    dsimp only at hdi2 hn2 hA2 hle
    have HA2 := hidd hA2
    have HTo : Hid (∀ W, HoldV W a V → Calls Try.prog 6 #[.agg #[.int .i64 kd, .int .i64 sq, .string ⟨id.toArray⟩, .string ⟨did.toArray⟩, .slice a V.length cap]] W fun e w' => ∃ g, e = .returned (.agg #[.int .i64 kd, .int .i64 sq, .string ⟨id.toArray⟩, .string ⟨did.toArray⟩, .slice (some ⟨g, 0, none⟩) V.length V.length]) ∧ W.heap.size ≤ g ∧ DocAt w' g V ∧ Below W.heap.size W w') := fun W hW => toRecord_any kd sq id did a cap V W hn2 HA2.out hW
    have HLs : Hid (∀ i, ((V.map fun v => (v.2.1.length, v.2.2.length)).getD i (0, 0)).1 ≤ 1048576 ∧ ((V.map fun v => (v.2.1.length, v.2.2.length)).getD i (0, 0)).2 ≤ 1048576) := fun i => by
      have h9 := HA2.out i
      by_cases hh : i < V.length
      · simp [List.getD_eq_getElem?_getD, hh] at h9 ⊢
        omega
      · simp [List.getD_eq_getElem?_getD, hh]
    have hbl : (rcO (kd, sq, id, (did, V))).1.length ≤ 500000000 := by
      unfold rcO
      split
      · split
        · simp
        · dsimp only; omega
      · simp
    clear hA2 hX hA HSz hbx HBa
    have HSz2 := hidd hSz
    clear hSz
    have b0 : w1.cell? ⟨w.heap.size, 0, none⟩ = some (.int .i64 kd) := blkc Hbox1.out 0
    have b1 : w1.cell? ⟨w.heap.size, 1, none⟩ = some (.int .i64 sq) := blkc Hbox1.out 1
    have b2 : w1.cell? ⟨w.heap.size, 2, none⟩ = some (.string ⟨id.toArray⟩) := blkc Hbox1.out 2
    have b3 : w1.cell? ⟨w.heap.size, 3, none⟩ = some (.string ⟨did.toArray⟩) := blkc Hbox1.out 3
    have b4 : w1.cell? ⟨w.heap.size, 4, none⟩ = some (.slice a V.length cap) := blkc Hbox1.out 4
    go_wp2_with fail
    refine (HTo.out _ (HS.out.below HB1.out)).mono ?_
    rintro e w2 ⟨g2, rfl, hg2, hh2, hb2⟩
    have HB2 := hidd (HB1.out.trans (hb2.mono HB1.out.size))
    have HH2 := hidd hh2.hold
    have Hbox2 := hidd (blko Hbox1.out hb2)
    clear hh2 hb2 b0 b1 b2 b3 b4 Hbox1
    go_wp2_with fail
    refine (specRec_any kd sq id did _ _ V _ hi2 hdi2 hn2 HA2.out HSz2.out hle HH2.out).mono ?_
    rintro e w3 ⟨v0, rfl, hown0, hb3⟩
    have HO0 := hidd hown0
    have HB3 := hidd (HB2.out.trans (hb3.mono HB2.out.size))
    have Hbox3 := hidd (blko Hbox2.out hb3)
    clear hown0 hb3 HH2 Hbox2
    obtain ⟨zs, hzs⟩ : ∃ zs, (rcO (kd, sq, id, (did, V))).1 = zs := ⟨_, rfl⟩
    obtain ⟨cd, hcd⟩ : ∃ cd, (rcO (kd, sq, id, (did, V))).2 = cd := ⟨_, rfl⟩
    rw [hzs] at HO0 hbl
    have Hzs := hidd hzs
    have Hcd := hidd hcd
    try rw [hcd]
    clear hzs hcd
    have HIm2 : Hid (∀ (g cp : Nat) (W : World), HoldV W (some ⟨g, 0, none⟩) V → Calls Try.prog 7 #[.agg #[.int .i64 kd, .int .i64 sq, .string ⟨id.toArray⟩, .string ⟨did.toArray⟩, .slice (some ⟨g, 0, none⟩) V.length cp]] W fun e w' => ∃ v, e = .returned (.tuple #[v, .int .i64 cd]) ∧ w'.ownsRow W.heap.size 5 1 v zs.length (Lib.byteCells zs) ∧ Below W.heap.size W w') := fun g cp W hW => by
      have := implRec_any kd sq id did (some ⟨g, 0, none⟩) cp V W hi2 hdi2 hn2 HA2.out HSz2.out hle hW
      rw [Hzs.out, Hcd.out] at this
      exact this
    clear Hzs Hcd
    have hcdn : (cd != cd) = false := by simp
    have hwz3 : w.heap.size < w3.heap.size := (Array.getElem?_eq_some_iff.1 Hbox3.out).1
    have b0 : w3.cell? ⟨w.heap.size, 0, none⟩ = some (.int .i64 kd) := blkc Hbox3.out 0
    have b1 : w3.cell? ⟨w.heap.size, 1, none⟩ = some (.int .i64 sq) := blkc Hbox3.out 1
    have b2 : w3.cell? ⟨w.heap.size, 2, none⟩ = some (.string ⟨id.toArray⟩) := blkc Hbox3.out 2
    have b3 : w3.cell? ⟨w.heap.size, 3, none⟩ = some (.string ⟨did.toArray⟩) := blkc Hbox3.out 3
    have b4 : w3.cell? ⟨w.heap.size, 4, none⟩ = some (.slice a V.length cap) := blkc Hbox3.out 4
    dsimp only
    go_wp2_with fail
    refine (HTo.out _ (HS.out.below HB3.out)).mono ?_
    rintro e w4 ⟨g4, rfl, hg4, hh4, hb4⟩
    have HB4 := hidd (HB3.out.trans (hb4.mono HB3.out.size))
    have HBx : Hid (Below w4.heap.size w4 (w4.alloc (.cells #[.int .i64 kd, .int .i64 sq, .string ⟨id.toArray⟩, .string ⟨did.toArray⟩, .slice (some ⟨g4, 0, none⟩) V.length V.length] 35))) := (Below.refl _ _).alloc (Nat.le_refl _) _
    have Hbx5 := hidd (heap_alloc_new w4 (.cells #[.int .i64 kd, .int .i64 sq, .string ⟨id.toArray⟩, .string ⟨did.toArray⟩, .slice (some ⟨g4, 0, none⟩) V.length V.length] 35))
    have Hbox4 := hidd (blko Hbox3.out hb4)
    have HH4 := hidd hh4
    have HO04 := hidd (own_below HO0.out hb4)
    clear hh4 hb4 b0 b1 b2 b3 b4 Hbox3 HO0
    go_upto_region 7 with fail
    obtain ⟨w5, hw5⟩ : ∃ w5, w4.alloc (.cells #[.int .i64 kd, .int .i64 sq, .string ⟨id.toArray⟩, .string ⟨did.toArray⟩, .slice (some ⟨g4, 0, none⟩) V.length V.length] 35) = w5 := ⟨_, rfl⟩
    rw [hw5] at HBx Hbx5
    try rw [hw5]
    clear hw5
    have HB5 := hidd (HB4.out.trans (HBx.out.mono HB4.out.size))
    have HH5 := hidd (HH4.out.below HBx.out)
    have Hbox5 := hidd (blko Hbox4.out HBx.out)
    have HO05 := hidd (own_below HO04.out HBx.out)
    have d0 : w5.cell? ⟨w4.heap.size, 0, none⟩ = some (.int .i64 kd) := blkc Hbx5.out 0
    have d1 : w5.cell? ⟨w4.heap.size, 1, none⟩ = some (.int .i64 sq) := blkc Hbx5.out 1
    have d2 : w5.cell? ⟨w4.heap.size, 2, none⟩ = some (.string ⟨id.toArray⟩) := blkc Hbx5.out 2
    have d3 : w5.cell? ⟨w4.heap.size, 3, none⟩ = some (.string ⟨did.toArray⟩) := blkc Hbx5.out 3
    have d4 : w5.cell? ⟨w4.heap.size, 4, none⟩ = some (.slice (some ⟨g4, 0, none⟩) V.length V.length) := blkc Hbx5.out 4
    clear HH4 Hbox4 HO04
    go_wp2_with fail
    refine (HIm2.out g4 _ _ HH5.out.hold).mono ?_
    rintro e w6 ⟨v1, rfl, hown6, hb6⟩
    have HO1 := hidd hown6
    have HO0 := hidd (own_below HO05.out hb6)
    have HN : Hid (v0.ownBlock = none ∨ v0.ownBlock ≠ v1.ownBlock) := own_apart HO05.out hown6
    have HB6 := hidd (HB5.out.trans (hb6.mono HB5.out.size))
    have HH6 := hidd (HH5.out.below hb6)
    have Hbox6 := hidd (blko Hbox5.out hb6)
    have Hbx6 := hidd (blko Hbx5.out hb6)
    have hw56 := HB5.out.size
    have hwz5 : w.heap.size < w5.heap.size := (Array.getElem?_eq_some_iff.1 Hbox5.out).1
    clear hown6 hb6 HH5 Hbox5 Hbx5 d0 d1 d2 d3 d4 HBx HO05
    dsimp only
    go_wp2_with fail
    refine (eqBytes_own _ _ zs.length v1 v0 zs _ (by omega) rfl HO1.out HO0.out).mono ?_
    rintro e w7 ⟨rfl, m7, hw7⟩
    have hbd7 : Below w6.heap.size w6 w7 := by rw [hw7]; exact below_drewN (Below.refl _ _) m7
    have HO1' := hidd (own_below HO1.out hbd7)
    have HO0' := hidd (own_below HO0.out hbd7)
    have HB7 := hidd (HB6.out.trans (hbd7.mono HB6.out.size))
    have HH7 := hidd (HH6.out.below hbd7)
    have Hbox7 := hidd (blko Hbox6.out hbd7)
    have Hbx7 := hidd (blko Hbx6.out hbd7)
    clear hw7 hbd7 HO1 HO0 HB6 HH6 Hbox6 Hbx6
    have b0 : w7.cell? ⟨w.heap.size, 0, none⟩ = some (.int .i64 kd) := blkc Hbox7.out 0
    have b1 : w7.cell? ⟨w.heap.size, 1, none⟩ = some (.int .i64 sq) := blkc Hbox7.out 1
    have b2 : w7.cell? ⟨w.heap.size, 2, none⟩ = some (.string ⟨id.toArray⟩) := blkc Hbox7.out 2
    have b3 : w7.cell? ⟨w.heap.size, 3, none⟩ = some (.string ⟨did.toArray⟩) := blkc Hbox7.out 3
    have b4 : w7.cell? ⟨w.heap.size, 4, none⟩ = some (.slice a V.length cap) := blkc Hbox7.out 4
    have d0 : w7.cell? ⟨w4.heap.size, 0, none⟩ = some (.int .i64 kd) := blkc Hbx7.out 0
    have d1 : w7.cell? ⟨w4.heap.size, 1, none⟩ = some (.int .i64 sq) := blkc Hbx7.out 1
    have d2 : w7.cell? ⟨w4.heap.size, 2, none⟩ = some (.string ⟨id.toArray⟩) := blkc Hbx7.out 2
    have d3 : w7.cell? ⟨w4.heap.size, 3, none⟩ = some (.string ⟨did.toArray⟩) := blkc Hbx7.out 3
    have d4 : w7.cell? ⟨w4.heap.size, 4, none⟩ = some (.slice (some ⟨g4, 0, none⟩) V.length V.length) := blkc Hbx7.out 4
    have hbd : Below w7.heap.size w7 w7.drew := below_drewN (Below.refl _ _) 1
    have HSd := hidd ((HS.out.below HB7.out).below hbd)
    have HHd := hidd (HH7.out.below hbd)
    have Hbxd := hidd (blko Hbx7.out hbd)
    have HBd := hidd hbd
    clear hbd
    dsimp only
    go_upto_region 10 with fail
    go_cut [45] (fun cv wy => cv = .bool false ∧ Below w7.heap.size w7 wy)
    case first =>
      go_region_with (first
        | (go_at_call 6; refine (HTo.out _ HSd.out).mono ?_; rintro e' w8 ⟨g8, rfl, hg8, hh8, hb8⟩; have y0 : w8.cell? ⟨w4.heap.size, 0, none⟩ = some (.int .i64 kd) := blkc (blko Hbxd.out hb8) 0; have y1 : w8.cell? ⟨w4.heap.size, 1, none⟩ = some (.int .i64 sq) := blkc (blko Hbxd.out hb8) 1; have y2 : w8.cell? ⟨w4.heap.size, 2, none⟩ = some (.string ⟨id.toArray⟩) := blkc (blko Hbxd.out hb8) 2; have y3 : w8.cell? ⟨w4.heap.size, 3, none⟩ = some (.string ⟨did.toArray⟩) := blkc (blko Hbxd.out hb8) 3; have y4 : w8.cell? ⟨w4.heap.size, 4, none⟩ = some (.slice (some ⟨g4, 0, none⟩) V.length V.length) := blkc (blko Hbxd.out hb8) 4)
        | (go_at_call 9; refine (eqRecord_any kd sq id did _ _ _ _ V _ hn2 HA2.out (HHd.out.below hb8).hold hh8.hold).mono ?_; rintro e'' w9 ⟨rfl, hb9⟩))
      all_goals
        go_wp2_with fail
        go_meet
        exact ⟨rfl, HBd.out.trans ((hb8.trans (hb9.mono hb8.size)).mono HBd.out.size)⟩
    case rest =>
      obtain ⟨rfl, hby⟩ := hcut
      have HO1 := hidd (own_below HO1'.out hby)
      have HO0 := hidd (own_below HO0'.out hby)
      have HBc := hidd (HB7.out.trans (hby.mono HB7.out.size))
      have HMc := hidd ((HH7.out.below hby).str)
      have Hboxc := hidd (blko Hbox7.out hby)
      have Hbxc := hidd (blko Hbx7.out hby)
      clear hby HO1' HO0' HB7 HH7 Hbox7 Hbx7 b0 b1 b2 b3 b4 d0 d1 d2 d3 d4 HSd HHd Hbxd HBd
      have d0 : wc.cell? ⟨w4.heap.size, 0, none⟩ = some (.int .i64 kd) := blkc Hbxc.out 0
      have d1 : wc.cell? ⟨w4.heap.size, 1, none⟩ = some (.int .i64 sq) := blkc Hbxc.out 1
      have d2 : wc.cell? ⟨w4.heap.size, 2, none⟩ = some (.string ⟨id.toArray⟩) := blkc Hbxc.out 2
      have d3 : wc.cell? ⟨w4.heap.size, 3, none⟩ = some (.string ⟨did.toArray⟩) := blkc Hbxc.out 3
      have d4 : wc.cell? ⟨w4.heap.size, 4, none⟩ = some (.slice (some ⟨g4, 0, none⟩) V.length V.length) := blkc Hbxc.out 4
      have HMk := hidd (markRecord_any kd sq id did g4 V.length (V.map fun v => (v.2.1.length, v.2.2.length)) wc (by rw [List.length_map]; exact hn2) HLs.out HMc.out)
      rw [List.length_map] at HMk
      go_wp2_with fail
      refine HMk.out.mono ?_
      rintro e w10 ⟨k10, rfl, wb, hba, hf10⟩
      have hgw : w.heap.size < g4 := by omega
      have HO1a := own_below HO1.out hba
      have HO0a := own_below HO0.out hba
      have HO1m := hidd (own_congr HO1a fun b hb => by obtain ⟨_, cur, hc⟩ := own_blk HO1a hb; exact hf10.typ b cur _ hc (by decide) (by decide) (by decide))
      have HO0m := hidd (own_congr HO0a fun b hb => by obtain ⟨_, cur, hc⟩ := own_blk HO0a hb; exact hf10.typ b cur _ hc (by decide) (by decide) (by decide))
      have hwcs := HBc.out.size
      have HBm : Hid (Below w.heap.size w w10) := (HBc.out.trans (hba.mono hwcs)).trans (hf10.below (by omega) (by have := hba.size; omega))
      have Hboxm : Hid (w10.heap[w.heap.size]? = some (.cells #[.int .i64 kd, .int .i64 sq, .string ⟨id.toArray⟩, .string ⟨did.toArray⟩, .slice a V.length cap] 26)) := (hf10.low w.heap.size hgw (Array.getElem?_eq_some_iff.1 (blko Hboxc.out hba)).1).trans (blko Hboxc.out hba)
      clear hf10 hba HO1a HO0a HO1 HO0 HMk HMc Hboxc Hbxc d0 d1 d2 d3 d4
      dsimp only
      go_wp2_with fail
      refine (eqBytes_own _ _ zs.length v1 v0 zs _ (by omega) rfl HO1m.out HO0m.out).mono ?_
      rintro e w11 ⟨rfl, m11, rfl⟩
      dsimp only
      go_wp2_with fail
      refine (markBytes_own _ zs.length v1 _ 1 _ (by omega) (by omega) (by omega) (own_drewN HO1m.out m11)).mono ?_
      rintro e w12 ⟨rfl, hown12, hg12⟩
      have HO4 := hidd hown12
      have HO0n := hidd ((own_drewN HO0m.out m11).kept hg12 HN.out)
      have HBn : Hid (Below w.heap.size w w12) := (below_drewN HBm.out m11).grown hg12 HBm.out.size (fun k hk => Nat.le_trans hw56 (own_block HO1m.out k hk))
      have Hboxn : Hid (w12.heap[w.heap.size]? = some (.cells #[.int .i64 kd, .int .i64 sq, .string ⟨id.toArray⟩, .string ⟨did.toArray⟩, .slice a V.length cap] 26)) := box_grown Hboxm.out (below_drewN (Below.refl _ _) m11) hg12 (fun e => by have := own_block HO1m.out _ e; omega)
      clear hown12 hg12 HO1m HO0m Hboxm HBm
      dsimp only
      go_wp2_with fail
      refine (heldBytes_own _ zs.length v1 1 _ (by omega) (by omega) (by omega) HO4.out).mono ?_
      rintro e w13 ⟨rfl, hw13⟩
      have hw13' := hw13.symm
      subst hw13'
      clear hw13
      have b0 : w12.cell? ⟨w.heap.size, 0, none⟩ = some (.int .i64 kd) := blkc Hboxn.out 0
      have b1 : w12.cell? ⟨w.heap.size, 1, none⟩ = some (.int .i64 sq) := blkc Hboxn.out 1
      have b2 : w12.cell? ⟨w.heap.size, 2, none⟩ = some (.string ⟨id.toArray⟩) := blkc Hboxn.out 2
      have b3 : w12.cell? ⟨w.heap.size, 3, none⟩ = some (.string ⟨did.toArray⟩) := blkc Hboxn.out 3
      have b4 : w12.cell? ⟨w.heap.size, 4, none⟩ = some (.slice a V.length cap) := blkc Hboxn.out 4
      dsimp only
      go_wp2_with fail
      refine (HTo.out _ (HS.out.below HBn.out)).mono ?_
      rintro e w14 ⟨g14, rfl, hg14, hh14, hb14⟩
      have HH14 := hidd hh14.hold
      have HO4a := hidd (own_below HO4.out hb14)
      have HO0o := hidd (own_below HO0n.out hb14)
      have HBo := hidd (HBn.out.trans (hb14.mono HBn.out.size))
      clear hh14 hb14 HO4 HO0n HBn b0 b1 b2 b3 b4
      dsimp only
      go_wp2_with fail
      refine (HIm2.out g14 _ _ HH14.out).mono ?_
      rintro e w15 ⟨v2, rfl, hown15, hb15⟩
      have HO15 := hidd hown15
      have HO4b := hidd (own_below HO4a.out hb15)
      have HO0p := hidd (own_below HO0o.out hb15)
      have HBp := hidd (HBo.out.trans (hb15.mono HBo.out.size))
      clear hown15 hb15 HO4a HO0o HBo
      dsimp only
      go_wp2_with fail
      refine (eqBytes_own _ _ zs.length v2 v0 zs _ (by omega) rfl HO15.out HO0p.out).mono ?_
      rintro e w16 ⟨rfl, m16, rfl⟩
      dsimp only
      go_wp2_with fail
      refine (heldBytes_own _ zs.length v1 1 _ (by omega) (by omega) (by omega) (own_drewN HO4b.out m16)).mono ?_
      rintro e w17 ⟨rfl, rfl⟩
      dsimp only
      go_wp2_with fail
      go_ret
      exact ⟨rfl, below_drewN HBp.out m16⟩
end Go.Proofs.Ytefhmbnhhkgifaa
