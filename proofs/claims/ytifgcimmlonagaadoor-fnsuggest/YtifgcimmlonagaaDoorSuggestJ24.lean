import Derived.Test.YtifgcimmlonagaaDoorSuggestJ20
import Derived.Test.YtifgcimmlonagaaDoorSuggestJ09
import Derived.Deep.AppendLies
import Derived.Deep.RegionLaw
import Derived.BigQuiet
import Derived.WalkLawsBesides
namespace Go.Proofs.YtifgcimmlonagaaDoor
open Go Go.RowKit
set_option linter.unusedVariables false

/-! spec.Edits: the table of changes, row for row. -/
def zI (l : List Int) : List Value := l.map (Value.int .i64)
theorem zI_snoc (l : List Int) (x : Int) : zI (l ++ [x]) = zI l ++ [.int .i64 x] := by simp [zI]
def edZ (a b : List Int) (i k : Nat) : Int := ((edAt a b i k : Nat) : Int)
def rowE (a b : List Int) (i k : Nat) : List Int := (List.range k).map (edZ a b i)
theorem rowE_succ (a b : List Int) (i k : Nat) : rowE a b i (k + 1) = rowE a b i k ++ [edZ a b i k] := by simp [rowE, List.range_succ]
theorem rowE_at (a b : List Int) (i : Nat) {k q : Nat} (h : q < k) : (zI (rowE a b i k))[q]? = some (.int .i64 (edZ a b i q)) := by
  simp [zI, rowE, h]
theorem edZ_bd (a b : List Int) (i k : Nat) : 0 ≤ edZ a b i k ∧ edZ a b i k ≤ a.length + b.length := by
  have := edAt_le a b i k
  unfold edZ
  omega
/-- A slice of ints as a walk has it. -/
def HoldI (w : World) (v : Value) (zs : List Int) : Prop :=
  ∃ ad cap, v = .slice ad zs.length cap ∧ (zs = [] ∨ ∃ g off, ad = some ⟨g, off, none⟩ ∧ g < w.heap.size ∧ ∀ t, t < zs.length → w.cell? ⟨g, off + t, none⟩ = some (.int .i64 (zs.getD t 0)))
theorem HoldI.own {w : World} {base : Nat} {v : Value} {zs : List Int} (h : w.ownsRow base 3 1 v zs.length (zI zs)) : HoldI w v zs := by
  rcases own_cases h with ⟨rfl, h0⟩ | ⟨g, cap, rfl, _, hg⟩
  · exact ⟨none, 0, by rw [h0], Or.inl (List.length_eq_zero_iff.1 h0)⟩
  · exact ⟨_, cap, rfl, Or.inr ⟨g, 0, rfl, hg, own_cells h rfl⟩⟩
theorem HoldI.below {w w' : World} {v : Value} {zs : List Int} (h : HoldI w v zs) (hb : Below w.heap.size w w') : HoldI w' v zs := by
  obtain ⟨ad, cap, rfl, h | ⟨g, off, rfl, hg, hc⟩⟩ := h
  · exact ⟨ad, cap, rfl, Or.inl h⟩
  · exact ⟨_, cap, rfl, Or.inr ⟨g, off, rfl, Nat.lt_of_lt_of_le hg hb.size, fun t ht => (hb.cell (p := ⟨g, off + t, none⟩) hg).trans (hc t ht)⟩⟩
theorem min3_eq (c y z d : Int) (h : d = min c (min y z)) : (if z < (if y < c then y else c) then z else (if y < c then y else c)) = d := by
  subst h
  split <;> split at * <;> omega
set_option maxHeartbeats 4000000 in
set_option maxRecDepth 100000 in
theorem l05Edits_any (a b : List Int) (va vb : Value) (w : World) (hal : a.length ≤ 200) (hbl : b.length ≤ 200) (ha : HoldI w va a) (hb : HoldI w vb b) :
    Calls Tryd.prog 38 #[va, vb] w fun e w' => e = .returned (.int .i64 (edits a b : Nat)) ∧ Below w.heap.size w w' := by
  obtain ⟨i0, hi, hz0, hz1, hz2⟩ := info_parts Tryd.infoInt
  obtain ⟨aa, ca, rfl, haa⟩ := ha
  obtain ⟨ab, cb, rfl, hab⟩ := hb
  have HA := hidd haa
  have HB := hidd hab
  clear haa hab
  go_enter Tryd.func38, Tryd.ntmps38
  go_wp2
  go_loopw [5, 6] (fun rv kv wr => ∃ k : Nat, k ≤ b.length + 1 ∧ kv = .int .i64 (k : Int) ∧ wr.ownsRow w.heap.size 3 1 rv k (zI (rowE a b 0 k)) ∧ Below w.heap.size w wr) (fun _ kv _ => b.length + 1 - (intOf kv).toNat)
  case atStart => exact ⟨0, Nat.zero_le _, rfl, own_empty w 3, (Below.refl _ _).alloc (Nat.le_refl _) _⟩
  case round =>
    obtain ⟨k, hk, rfl, hown, hbel⟩ := hrel
    have HO := hidd hown
    have HBe := hidd hbel
    have hzw := hbel.size
    clear hown hbel
    by_cases hlt : k ≤ b.length
    · have hltz : (k : Int) ≤ (b.length : Int) := by omega
      have He : Hid (rowE a b 0 (k + 1) = rowE a b 0 k ++ [(k : Int)]) := by show _ = _; rw [rowE_succ, edZ, edAt_zero_left a b k hlt]
      go_wp2_with (at_builtin; refine wpList_append_own _ rfl _ _ 42 rfl w.heap.size 3 i0 (.int .i64 0) 1 8 Tryd.underlying42 hi hz0 hz1 hz2 rfl (by decide) _ _ _ rfl (HO.out.alloc _) ⟨wr.heap.size, 0, none⟩ 1 1 [.int .i64 (k : Int)] rfl rfl ?c1 ?c2 ?c3 ?c4 ?c5 ?_)
      case c1 =>
        intro j u hj
        match j, hj with
        | 0, hj => simp at hj; subst hj; simp [Addr.add]
      case c2 => intro u hu; simp at hu; subst hu; rfl
      case c3 => unfold maxLen; omega
      case c4 => omega
      case c5 => simp; omega
      intro v' w2 hown' hgrow hne
      have R : Hid (w2.ownsRow w.heap.size 3 1 v' (k + 1) (zI (rowE a b 0 (k + 1))) ∧ Below w.heap.size w w2) := by
        refine ⟨?_, (HBe.out.alloc hzw _).grown hgrow (by simp; omega) (own_block HO.out)⟩
        rw [He.out, zI_snoc]
        exact hown'
      clear hown' hgrow HO HBe
      go_wp2
      go_roundw
      case rel => exact ⟨k + 1, by omega, by go_num, R.out.1, R.out.2⟩
      case measure => simp [intOf]; omega
    · have hltz : ¬ (k : Int) ≤ (b.length : Int) := by omega
      obtain rfl : k = b.length + 1 := by omega
      go_wp2
      go_loopw [5, 7] (fun rv iv wr => ∃ (j : Nat) , 1 ≤ j ∧ j ≤ a.length + 1 ∧ iv = .int .i64 (j : Int) ∧ wr.ownsRow w.heap.size 3 1 rv (b.length + 1) (zI (rowE a b (j - 1) (b.length + 1))) ∧ Below w.heap.size w wr) (fun _ iv _ => a.length + 1 - (intOf iv).toNat)
      case atStart => exact ⟨1, by omega, by omega, rfl, HO.out, HBe.out⟩
      case round =>
        obtain ⟨j, hj1, hj, rfl, hown, hbel⟩ := hrel
        clear HO HBe hzw
        have HO := hidd hown
        have HBe := hidd hbel
        have hzw := hbel.size
        clear hown hbel
        rcases own_cases HO.out with ⟨_, h0⟩ | ⟨gr, cr, rfl, hgr1, hgr2⟩
        · omega
        by_cases hjl : j ≤ a.length
        · have hjz : (j : Int) ≤ (a.length : Int) := by omega
          obtain ⟨i, hji⟩ : ∃ i, j = i + 1 := ⟨j - 1, by omega⟩
          have hil : i < a.length := by omega
          have hilz : (i : Int) < (a.length : Int) := by omega
          have hiz : (j : Int) - 1 = (i : Int) := by omega
          have HE0 : Hid (rowE a b (i + 1) 1 = [(j : Int)]) := by
            show _ = _
            rw [rowE_succ, edZ, edAt_zero_right a b (i + 1) (by omega), ← hji]; rfl
          have HE1 := hidd (fun k (h1 : k < b.length) => edAt_step a b i k hil h1)
          rw [show j - 1 = i from by omega] at HO
          clear hji
          obtain ⟨ga, oa, rfl, hga, hca⟩ := HA.out.resolve_left (fun h => by rw [h] at hil; simp at hil)
          have HCa := hidd hca
          clear hca
          have HBn : Hid (Below w.heap.size w (wr.alloc (.cells #[.int .i64 (j : Int)] 3))) := HBe.out.alloc hzw _
          have HOn : Hid ((wr.alloc (.cells #[.int .i64 (j : Int)] 3)).ownsRow wr.heap.size 3 1 (.slice (some ⟨wr.heap.size, 0, none⟩) 1 1) 1 (zI (rowE a b (i + 1) 1))) := by
            show World.ownsRow _ _ _ _ _ _ _
            rw [HE0.out]
            have := World.ownsRow_lit (base := wr.heap.size) (e := 3) (size := 1) wr #[.int .i64 (j : Int)] 1 (Nat.le_refl _) (by unfold maxLen; omega) (by simp)
            simpa [zI] using this
          have HOr : Hid ((wr.alloc (.cells #[.int .i64 (j : Int)] 3)).ownsRow w.heap.size 3 1 (.slice (some ⟨gr, 0, none⟩) (b.length + 1) cr) (b.length + 1) (zI (rowE a b i (b.length + 1)))) := HO.out.alloc _
          go_wp2
          generalize wr.alloc (.cells #[.int .i64 (j : Int)] 3) = wn at *
          generalize wr.heap.size = Bn at *
          go_loopw [8, 9] (fun nv kv wx => ∃ k : Nat, 1 ≤ k ∧ k ≤ b.length + 1 ∧ kv = .int .i64 (k : Int) ∧ wx.ownsRow Bn 3 1 nv k (zI (rowE a b (i + 1) k)) ∧ wx.ownsRow w.heap.size 3 1 (.slice (some ⟨gr, 0, none⟩) (b.length + 1) cr) (b.length + 1) (zI (rowE a b i (b.length + 1))) ∧ Below w.heap.size w wx ∧ Bn ≤ wx.heap.size) (fun _ kv _ => b.length + 1 - (intOf kv).toNat)
          case atStart => exact ⟨1, by omega, by omega, rfl, HOn.out, HOr.out, HBn.out, by have := own_lt HOn.out; omega⟩
          case round =>
            obtain ⟨k, hk1, hk, rfl, hown, hownr, hbel, hsz⟩ := hrel
            clear HOn HOr HBn HBe
            have HOn := hidd hown
            have HOr := hidd hownr
            have HBe := hidd hbel
            have hzx := hbel.size
            clear hown hownr hbel
            rcases own_cases HOn.out with ⟨_, h0⟩ | ⟨gn, cn, rfl, hgn1, hgn2⟩
            · omega
            by_cases hkl : k ≤ b.length
            · have hkz : (k : Int) ≤ (b.length : Int) := by omega
              obtain ⟨q, hkq⟩ : ∃ q, k = q + 1 := ⟨k - 1, by omega⟩
              have hql : q < b.length := by omega
              have hqlz : (q : Int) < (b.length : Int) := by omega
              have hqz : (k : Int) - 1 = (q : Int) := by omega
              have hq1 : (q : Int) < (b.length : Int) + 1 := by omega
              have hk1z : (k : Int) < (b.length : Int) + 1 := by omega
              have hqk : (q : Int) < (k : Int) := by omega
              obtain ⟨gb, ob, rfl, hgb, hcb⟩ := HB.out.resolve_left (fun h => by rw [h] at hql; simp at hql)
              have g1 := (HBe.out.cell (p := ⟨ga, oa + i, none⟩) hga).trans (HCa.out i hil)
              have g2 := (HBe.out.cell (p := ⟨gb, ob + q, none⟩) hgb).trans (hcb q hql)
              have r1 := (HOr.out.cellAt q (by omega)).trans (rowE_at a b i (show q < b.length + 1 by omega))
              have r2 := (HOr.out.cellAt k (by omega)).trans (rowE_at a b i (show k < b.length + 1 by omega))
              have n1 := (HOn.out.cellAt q (by omega)).trans (rowE_at a b (i + 1) (show q < k by omega))
              have HSt := hidd (HE1.out q hql)
              have Hrow := hidd (rowE_succ a b (i + 1) k)
              have b1 := edZ_bd a b i q
              have b2 := edZ_bd a b i k
              have b3 := edZ_bd a b (i + 1) q
              have hv : edZ a b (i + 1) k = min (edZ a b i q + ne1 (a.getD i 0) (b.getD q 0)) (min (edZ a b i k + 1) (edZ a b (i + 1) q + 1)) := by
                have := HSt.out
                rw [hkq]
                simp only [edZ]
                omega
              have Hv := hidd hv
              clear hv hkq hcb
              generalize a.getD i 0 = x at *
              generalize b.getD q 0 = y at *
              generalize edZ a b i q = d0 at *
              generalize edZ a b i k = d1 at *
              generalize edZ a b (i + 1) q = d2 at *
              generalize edZ a b (i + 1) k = d3 at *
              by_cases hxy : x = y
              · have hxb : (x != y) = false := by simp [hxy]
                obtain ⟨y1, hy1⟩ : ∃ y1, d1 + 1 = y1 := ⟨_, rfl⟩
                obtain ⟨z1, hz1'⟩ : ∃ z1, d2 + 1 = z1 := ⟨_, rfl⟩
                obtain ⟨c1, hc1⟩ : ∃ c1, d0 = c1 := ⟨_, rfl⟩
                have hd3 : d3 = min c1 (min y1 z1) := by rw [Hv.out]; simp only [ne1, hxy, if_true]; omega
                have hd3b : 0 ≤ d3 ∧ d3 ≤ 1000 := by omega
                have hmn := min3_eq c1 y1 z1 d3 hd3
                have hwy : IntKind.i64.wrap y1 = y1 := by exact IntWalk.i64_in _ ⟨by omega, by omega⟩
                have hwz : IntKind.i64.wrap z1 = z1 := by exact IntWalk.i64_in _ ⟨by omega, by omega⟩
                have hwq : IntKind.i64.wrap (q : Int) = (q : Int) := by exact IntWalk.i64_in _ ⟨by omega, by omega⟩
                have hwi : IntKind.i64.wrap (i : Int) = (i : Int) := by exact IntWalk.i64_in _ ⟨by omega, by omega⟩
                have Hne : Hid (some gr ≠ (Value.slice (some ⟨gn, 0, none⟩) k cn).ownBlock) := by show _ ≠ _; simp [Value.ownBlock]; omega
                clear hd3 hxy Hv
                go_wp2
                go_quiet (fail)
                all_goals go_wp2
                have HOnq := hidd (own_drewN HOn.out nq)
                have HOrq := hidd (own_drewN HOr.out nq)
                have HBq := hidd (below_drewN HBe.out nq)
                have r2q : (wr.drewN nq).cell? ⟨gr, k, none⟩ = some (.int .i64 d1) := by simpa using r2
                have n1q : (wr.drewN nq).cell? ⟨gn, q, none⟩ = some (.int .i64 d2) := by simpa using n1
                have hsq : Bn ≤ (wr.drewN nq).heap.size := by simpa using hsz
                have hgrq : gr < (wr.drewN nq).heap.size := by have := own_lt HOr.out; simpa using this
                clear r1 r2 n1 g1 g2 HOn HOr HBe
                generalize wr.drewN nq = wq at *
                go_region_law (refine step_append_lies _ rfl (.tmp 54) (.tmp 68) 42 rfl Bn 3 i0 (.int .i64 0) 1 8 Tryd.underlying42 hi hz0 hz1 hz2 rfl (by decide) (.slice (some ⟨gn, 0, none⟩) k cn) k (zI (rowE a b (i + 1) k)) (by simp [Act.eval]) (HOnq.out.drew.alloc _) ⟨wq.heap.size, 0, none⟩ 1 1 [.int .i64 d3] (by simp [Act.eval]) rfl (by intro j' u' hj'; match j', hj' with | 0, hj' => simp at hj'; subst hj'; simp [Addr.add]) (by intro u' hu'; simp at hu'; subst hu'; rfl) (by omega) (by unfold maxLen; omega) (by omega) (by simp; omega) _ rfl ?_; intro g6 cp6 w6 hown6 hgrow6 hat6 hlt6)
                all_goals
                  have R6 : Hid (w6.ownsRow Bn 3 1 (.slice (some ⟨g6, 0, none⟩) (k + 1) cp6) (k + 1) (zI (rowE a b (i + 1) (k + 1))) ∧ w6.ownsRow w.heap.size 3 1 (.slice (some ⟨gr, 0, none⟩) (b.length + 1) cr) (b.length + 1) (zI (rowE a b i (b.length + 1))) ∧ Below w.heap.size w w6 ∧ Bn ≤ w6.heap.size) := by
                    have hz := hgrow6.size
                    simp at hz
                    refine ⟨?_, (HOrq.out.drew.alloc _).kept hgrow6 (Or.inr Hne.out), ((below_drewN HBq.out 1).alloc (by have := HBq.out.size; simpa using this) _).grown hgrow6 (by have := HBq.out.size; simp; omega) (fun m hm => by have := own_block HOnq.out m hm; omega), by omega⟩
                    rw [Hrow.out, zI_snoc]; exact hown6
                  clear hown6 hgrow6 hat6 hlt6 HOnq HOrq HBq
                  go_wp2
                  go_roundw
                  · exact ⟨k + 1, by omega, by omega, by go_num, R6.out.1, R6.out.2.1, R6.out.2.2.1, R6.out.2.2.2⟩
                  · simp [intOf]; omega
              · have hxb : (x != y) = true := by simp [hxy]
                obtain ⟨y1, hy1⟩ : ∃ y1, d1 + 1 = y1 := ⟨_, rfl⟩
                obtain ⟨z1, hz1'⟩ : ∃ z1, d2 + 1 = z1 := ⟨_, rfl⟩
                obtain ⟨c1, hc1⟩ : ∃ c1, d0 + 1 = c1 := ⟨_, rfl⟩
                have hd3 : d3 = min c1 (min y1 z1) := by rw [Hv.out]; simp only [ne1, hxy, if_false]; omega
                have hd3b : 0 ≤ d3 ∧ d3 ≤ 1000 := by omega
                have hmn := min3_eq c1 y1 z1 d3 hd3
                have hwy : IntKind.i64.wrap y1 = y1 := by exact IntWalk.i64_in _ ⟨by omega, by omega⟩
                have hwz : IntKind.i64.wrap z1 = z1 := by exact IntWalk.i64_in _ ⟨by omega, by omega⟩
                have hwq : IntKind.i64.wrap (q : Int) = (q : Int) := by exact IntWalk.i64_in _ ⟨by omega, by omega⟩
                have hwi : IntKind.i64.wrap (i : Int) = (i : Int) := by exact IntWalk.i64_in _ ⟨by omega, by omega⟩
                have Hne : Hid (some gr ≠ (Value.slice (some ⟨gn, 0, none⟩) k cn).ownBlock) := by show _ ≠ _; simp [Value.ownBlock]; omega
                clear hd3 hxy Hv
                go_wp2
                go_quiet (fail)
                all_goals go_wp2
                have HOnq := hidd (own_drewN HOn.out nq)
                have HOrq := hidd (own_drewN HOr.out nq)
                have HBq := hidd (below_drewN HBe.out nq)
                have r2q : (wr.drewN nq).cell? ⟨gr, k, none⟩ = some (.int .i64 d1) := by simpa using r2
                have n1q : (wr.drewN nq).cell? ⟨gn, q, none⟩ = some (.int .i64 d2) := by simpa using n1
                have hsq : Bn ≤ (wr.drewN nq).heap.size := by simpa using hsz
                have hgrq : gr < (wr.drewN nq).heap.size := by have := own_lt HOr.out; simpa using this
                clear r1 r2 n1 g1 g2 HOn HOr HBe
                generalize wr.drewN nq = wq at *
                go_region_law (refine step_append_lies _ rfl (.tmp 54) (.tmp 68) 42 rfl Bn 3 i0 (.int .i64 0) 1 8 Tryd.underlying42 hi hz0 hz1 hz2 rfl (by decide) (.slice (some ⟨gn, 0, none⟩) k cn) k (zI (rowE a b (i + 1) k)) (by simp [Act.eval]) (HOnq.out.drew.alloc _) ⟨wq.heap.size, 0, none⟩ 1 1 [.int .i64 d3] (by simp [Act.eval]) rfl (by intro j' u' hj'; match j', hj' with | 0, hj' => simp at hj'; subst hj'; simp [Addr.add]) (by intro u' hu'; simp at hu'; subst hu'; rfl) (by omega) (by unfold maxLen; omega) (by omega) (by simp; omega) _ rfl ?_; intro g6 cp6 w6 hown6 hgrow6 hat6 hlt6)
                all_goals
                  have R6 : Hid (w6.ownsRow Bn 3 1 (.slice (some ⟨g6, 0, none⟩) (k + 1) cp6) (k + 1) (zI (rowE a b (i + 1) (k + 1))) ∧ w6.ownsRow w.heap.size 3 1 (.slice (some ⟨gr, 0, none⟩) (b.length + 1) cr) (b.length + 1) (zI (rowE a b i (b.length + 1))) ∧ Below w.heap.size w w6 ∧ Bn ≤ w6.heap.size) := by
                    have hz := hgrow6.size
                    simp at hz
                    refine ⟨?_, (HOrq.out.drew.alloc _).kept hgrow6 (Or.inr Hne.out), ((below_drewN HBq.out 1).alloc (by have := HBq.out.size; simpa using this) _).grown hgrow6 (by have := HBq.out.size; simp; omega) (fun m hm => by have := own_block HOnq.out m hm; omega), by omega⟩
                    rw [Hrow.out, zI_snoc]; exact hown6
                  clear hown6 hgrow6 hat6 hlt6 HOnq HOrq HBq
                  go_wp2
                  go_roundw
                  · exact ⟨k + 1, by omega, by omega, by go_num, R6.out.1, R6.out.2.1, R6.out.2.2.1, R6.out.2.2.2⟩
                  · simp [intOf]; omega
            · have hkz : ¬ (k : Int) ≤ (b.length : Int) := by omega
              obtain rfl : k = b.length + 1 := by omega
              go_wp2
              go_roundw
              case rel => exact ⟨j + 1, by omega, by omega, by go_num, by rw [show j + 1 - 1 = i + 1 from by omega]; exact own_mono HOn.out (by omega), HBe.out⟩
              case measure => simp [intOf]; omega
        · have hjz : ¬ (j : Int) ≤ (a.length : Int) := by omega
          obtain rfl : j = a.length + 1 := by omega
          have r1 := (HO.out.cellAt b.length (by omega)).trans (rowE_at a b (a.length + 1 - 1) (show b.length < b.length + 1 by omega))
          have hd : Hid (edZ a b (a.length + 1 - 1) b.length = (edits a b : Nat)) := rfl
          rw [hd.out] at r1
          have hbz : (b.length : Int) < (b.length : Int) + 1 := by omega
          go_wp2
          go_ret
          exact ⟨rfl, HBe.out⟩
end Go.Proofs.YtifgcimmlonagaaDoor

namespace Go.Proofs.YtifgcimmlonagaaDoor
open Go Go.RowKit
set_option linter.unusedVariables false

/-! spec.Edits. -/
def edCode (s t : ByteArray) : Int :=
  if 65536 < s.size ∨ 65536 < t.size then 2 else if validB s = false then 3 else if validB t = false then 3 else if 200 < (runes s).length ∨ 200 < (runes t).length then 12 else 0
def edVal (s t : ByteArray) : Int := if edCode s t = 0 then ((edits (runes s) (runes t) : Nat) : Int) else 0
theorem edCode_ok {s t : ByteArray} (h1 : ¬ 65536 < s.size) (h2 : ¬ 65536 < t.size) (h3 : validB s = true) (h4 : validB t = true) (h5 : ¬ 200 < (runes s).length) (h6 : ¬ 200 < (runes t).length) : edCode s t = 0 ∧ edVal s t = ((edits (runes s) (runes t) : Nat) : Int) := by
  have : edCode s t = 0 := by
    rw [edCode, if_neg (by omega), if_neg (by simp [h3]), if_neg (by simp [h4]), if_neg (by omega)]
  exact ⟨this, by rw [edVal, if_pos this]⟩
theorem edVal_ne {s t : ByteArray} (h : edCode s t ≠ 0) : edVal s t = 0 := by rw [edVal, if_neg h]
theorem decList_ok {s : ByteArray} (h1 : ¬ 65536 < s.size) (h3 : validB s = true) : decList s = runes s ∧ decCode s = 0 := by
  rw [decList, if_neg h1, decL, if_pos h3, decCode, if_neg h1, if_pos h3]
  exact ⟨rfl, rfl⟩
theorem decCode_bad {s : ByteArray} (h1 : ¬ 65536 < s.size) (h3 : validB s = false) : decCode s = 3 := by
  rw [decCode, if_neg h1, if_neg (by simp [h3])]
set_option maxHeartbeats 4000000 in
set_option maxRecDepth 100000 in
theorem specEdits_any (s t : ByteArray) (w : World) (hs : s.size ≤ 1048576) (ht : t.size ≤ 1048576) :
    Calls Tryd.prog 23 #[.string s, .string t] w fun e w' => e = .returned (.tuple #[.int .i64 (edVal s t), .int .i64 (edCode s t)]) ∧ Below w.heap.size w w' := by
  by_cases h1 : 65536 < s.size
  · have HC : Hid (edCode s t = 2) := by show _ = _; rw [edCode, if_pos (Or.inl h1)]
    have HV := hidd (edVal_ne (s := s) (t := t) (by rw [HC.out]; omega))
    have hz : (65536 : Int) < (s.size : Int) := by omega
    go_enter Tryd.func23, Tryd.ntmps23
    go_wp2
    go_ret2
    rw [HV.out, HC.out]
    exact ⟨rfl, Below.refl _ _⟩
  have hz1 : ¬ (65536 : Int) < (s.size : Int) := by omega
  by_cases h2 : 65536 < t.size
  · have HC : Hid (edCode s t = 2) := by show _ = _; rw [edCode, if_pos (Or.inr h2)]
    have HV := hidd (edVal_ne (s := s) (t := t) (by rw [HC.out]; omega))
    have hz : (65536 : Int) < (t.size : Int) := by omega
    go_enter Tryd.func23, Tryd.ntmps23
    go_wp2
    go_ret2
    rw [HV.out, HC.out]
    exact ⟨rfl, Below.refl _ _⟩
  have hz2 : ¬ (65536 : Int) < (t.size : Int) := by omega
  cases h3 : validB s with
  | false =>
    have HC : Hid (edCode s t = 3) := by show _ = _; rw [edCode, if_neg (by omega), if_pos h3]
    have HV := hidd (edVal_ne (s := s) (t := t) (by rw [HC.out]; omega))
    have HD := hidd (decCode_bad h1 h3)
    clear h3
    go_enter Tryd.func23, Tryd.ntmps23
    go_wp2_with fail
    refine (specDecode_any s _ hs).mono ?_
    rintro e w1 ⟨v, rfl, hown, hb1⟩
    clear hown
    rw [HD.out]
    go_wp2
    go_ret2
    rw [HV.out, HC.out]
    exact ⟨rfl, hb1⟩
  | true =>
  cases h4 : validB t with
  | false =>
    have HC : Hid (edCode s t = 3) := by show _ = _; rw [edCode, if_neg (by omega), if_neg (by simp [h3]), if_pos h4]
    have HV := hidd (edVal_ne (s := s) (t := t) (by rw [HC.out]; omega))
    have HD := hidd (decList_ok h1 h3).2
    have HD2 := hidd (decCode_bad h2 h4)
    clear h3 h4
    go_enter Tryd.func23, Tryd.ntmps23
    go_wp2_with fail
    refine (specDecode_any s _ hs).mono ?_
    rintro e w1 ⟨v, rfl, hown, hb1⟩
    clear hown
    rw [HD.out]
    go_wp2_with fail
    refine (specDecode_any t _ ht).mono ?_
    rintro e w2 ⟨v2, rfl, hown, hb2⟩
    clear hown
    rw [HD2.out]
    have HB := hidd (hb1.trans (hb2.mono hb1.size))
    clear hb1 hb2
    go_wp2
    go_ret2
    rw [HV.out, HC.out]
    exact ⟨rfl, HB.out⟩
  | true =>
  have HD := hidd (decList_ok h1 h3)
  have HD2 := hidd (decList_ok h2 h4)
  by_cases h5 : 200 < (runes s).length
  · have HC : Hid (edCode s t = 12) := by show _ = _; rw [edCode, if_neg (by omega), if_neg (by simp [h3]), if_neg (by simp [h4]), if_pos (Or.inl h5)]
    have HV := hidd (edVal_ne (s := s) (t := t) (by rw [HC.out]; omega))
    have hz : (200 : Int) < ((runes s).length : Int) := by omega
    clear h3 h4
    go_enter Tryd.func23, Tryd.ntmps23
    go_wp2_with fail
    refine (specDecode_any s _ hs).mono ?_
    rintro e w1 ⟨v, rfl, hown, hb1⟩
    rw [HD.out.1] at hown
    rw [HD.out.2]
    have HO1 := hidd hown
    have HB1 := hidd hb1
    clear hown hb1
    go_wp2_with fail
    refine (specDecode_any t _ ht).mono ?_
    rintro e w2 ⟨v2, rfl, hown, hb2⟩
    rw [HD2.out.1] at hown
    rw [HD2.out.2]
    obtain ⟨a1, c1, rfl, -⟩ := HoldI.own HO1.out
    obtain ⟨a2, c2, rfl, -⟩ := HoldI.own hown
    have HB := hidd (HB1.out.trans (hb2.mono HB1.out.size))
    clear hown hb2 HO1
    go_wp2
    go_ret2
    rw [HV.out, HC.out]
    exact ⟨rfl, HB.out⟩
  have hz5 : ¬ (200 : Int) < ((runes s).length : Int) := by omega
  by_cases h6 : 200 < (runes t).length
  · have HC : Hid (edCode s t = 12) := by show _ = _; rw [edCode, if_neg (by omega), if_neg (by simp [h3]), if_neg (by simp [h4]), if_pos (Or.inr h6)]
    have HV := hidd (edVal_ne (s := s) (t := t) (by rw [HC.out]; omega))
    have hz : (200 : Int) < ((runes t).length : Int) := by omega
    clear h3 h4
    go_enter Tryd.func23, Tryd.ntmps23
    go_wp2_with fail
    refine (specDecode_any s _ hs).mono ?_
    rintro e w1 ⟨v, rfl, hown, hb1⟩
    rw [HD.out.1] at hown
    rw [HD.out.2]
    have HO1 := hidd hown
    have HB1 := hidd hb1
    clear hown hb1
    go_wp2_with fail
    refine (specDecode_any t _ ht).mono ?_
    rintro e w2 ⟨v2, rfl, hown, hb2⟩
    rw [HD2.out.1] at hown
    rw [HD2.out.2]
    obtain ⟨a1, c1, rfl, -⟩ := HoldI.own HO1.out
    obtain ⟨a2, c2, rfl, -⟩ := HoldI.own hown
    have HB := hidd (HB1.out.trans (hb2.mono HB1.out.size))
    clear hown hb2 HO1
    go_wp2
    go_ret2
    rw [HV.out, HC.out]
    exact ⟨rfl, HB.out⟩
  have hz6 : ¬ (200 : Int) < ((runes t).length : Int) := by omega
  have HE := hidd (edCode_ok h1 h2 h3 h4 h5 h6)
  clear h3 h4
  go_enter Tryd.func23, Tryd.ntmps23
  go_wp2_with fail
  refine (specDecode_any s _ hs).mono ?_
  rintro e w1 ⟨v, rfl, hown, hb1⟩
  rw [HD.out.1] at hown
  rw [HD.out.2]
  have HO1 := hidd hown
  have HB1 := hidd hb1
  clear hown hb1
  go_wp2_with fail
  refine (specDecode_any t _ ht).mono ?_
  rintro e w2 ⟨v2, rfl, hown, hb2⟩
  rw [HD2.out.1] at hown
  rw [HD2.out.2]
  have HL := hidd (l05Edits_any (runes s) (runes t) v v2 w2 (by omega) (by omega) ((HoldI.own HO1.out).below hb2) (HoldI.own hown))
  obtain ⟨a1, c1, rfl, -⟩ := HoldI.own HO1.out
  obtain ⟨a2, c2, rfl, -⟩ := HoldI.own hown
  have HB := hidd (HB1.out.trans (hb2.mono HB1.out.size))
  clear hown hb2 HO1
  go_wp2_with fail
  refine HL.out.mono ?_
  rintro e w3 ⟨rfl, hb3⟩
  have HB3 := hidd (HB.out.trans (hb3.mono HB.out.size))
  clear hb3
  go_wp2
  go_ret2
  rw [HE.out.1, HE.out.2]
  exact ⟨rfl, HB3.out⟩
end Go.Proofs.YtifgcimmlonagaaDoor
