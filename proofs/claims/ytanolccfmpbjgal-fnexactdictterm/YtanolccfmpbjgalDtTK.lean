import Derived.Test.YtanolccfmpbjgalDtSK
import Derived.Test.YtanolccfmpbjgalDfHK
import Derived.Test.YtanolccfmpbjgalDictOKJ05
namespace Go.Proofs.Ytanolccfmpbjgal
open Go Go.RowKit
set_option linter.unusedVariables false
set_option maxRecDepth 100000

/-- What DictTerm tells. -/
def termO (d : Option (List Tx)) (n : Int) : Tx × Int := match d with
  | none => ([], 1)
  | some ts => if 0 ≤ n ∧ n < (ts.length : Int) then (ts.getD n.toNat [], 0) else ([], 8)
def TermC (fn : Nat) : Prop := ∀ (c : Int) (a : Option Addr) (cap : Nat) (S : List St) (n : Int) (w : World), S.length ≤ 1048576 → (∀ i, (arcsAt S i).length ≤ 1048576) → HoldS w a S →
  Calls Try.prog fn #[.agg #[.int .i64 c, .slice a S.length cap], .int .i64 n] w fun e w' => e = .returned (.tuple #[.string ⟨(termO (dictT c S) n).1.toArray⟩, .int .i64 (termO (dictT c S) n).2]) ∧ Below w.heap.size w w'
theorem termO_none (n : Int) : termO none n = ([], 1) := rfl
theorem termO_in {ts : List Tx} {n : Int} (h : 0 ≤ n ∧ n < (ts.length : Int)) : termO (some ts) n = (ts.getD n.toNat [], 0) := by
  unfold termO; simp [h]
theorem termO_out {ts : List Tx} {n : Int} (h : ¬ (0 ≤ n ∧ n < (ts.length : Int))) : termO (some ts) n = ([], 8) := by
  unfold termO; simp only [if_neg h]

set_option maxHeartbeats 4000000 in
theorem specTerm_any (hmake : ∀ (base bm bb : Nat) (aT : Option Addr) (cT : Nat) (ts : List Tx) (f : Nat), MakeC base bm bb aT cT ts (f + 1)) : TermC 16 := by
  intro c a cap S n w hn hA hS
  have HAll := hidd (fun W (hW : Below w.heap.size w W) => all_any hmake c a cap S W hn hA (hS.below hW))
  clear hmake hA hS
  have HBa : Hid (Below w.heap.size w (w.alloc (.cells #[.int .i64 c, .slice a S.length cap] 29))) := (Below.refl _ _).alloc (Nat.le_refl _) _
  go_enter Try.func16, Try.ntmps16
  go_wp2_with fail
  refine (HAll.out _ HBa.out).mono ?_
  rintro e w1 ⟨v, rfl, hb1, hown⟩
  have HB1 := hidd (HBa.out.trans (hb1.mono HBa.out.size))
  clear hb1
  dsimp only
  rcases okD_cases c S with ⟨hok, ts, hts⟩ | ⟨hok, hno⟩
  · rw [hok]
    have HD := hidd (dictT_some hts)
    obtain ⟨av, cv, rfl⟩ := own_form (hown ts hts)
    have HO := hidd (hown ts hts)
    have hfew : ts.length ≤ 4096 := hts.1.2.1
    clear hok hown hts
    by_cases h0 : n < 0
    · have HR : Hid (termO (dictT c S) n = ([], 8)) := by
        show _ = _
        rw [HD.out, termO_out (by omega)]
      go_wp2_with fail
      go_ret2
      exact ⟨by rw [HR.out]; rfl, HB1.out⟩
    · obtain ⟨m, rfl⟩ : ∃ m : Nat, n = (m : Int) := ⟨n.toNat, by omega⟩
      have h0z : ¬ (m : Int) < 0 := h0
      by_cases hlt : m < ts.length
      · have hltz : ¬ (m : Int) ≥ (ts.length : Int) := by omega
        have hlt2 : (m : Int) < (ts.length : Int) := by omega
        rcases own_cases HO.out with ⟨_, he⟩ | ⟨g, c', e1, _, hg⟩
        · omega
        simp only [Value.slice.injEq, true_and] at e1
        obtain ⟨rfl, rfl⟩ := e1
        have c1 : w1.cell? ⟨g, m, none⟩ = some (.string ⟨(ts.getD m []).toArray⟩) := (HO.out.cellAt m (by omega)).trans (by simp [tCells, txV, hlt])
        have HR : Hid (termO (dictT c S) (m : Int) = (ts.getD m [], 0)) := by
          show _ = _
          rw [HD.out, termO_in (by omega), Int.toNat_natCast]
        obtain ⟨x, hx⟩ : ∃ x, ts.getD m [] = x := ⟨_, rfl⟩
        rw [hx] at c1 HR
        clear hx
        go_wp2_with fail
        go_ret2
        exact ⟨by rw [HR.out]; rfl, HB1.out⟩
      · have hltz : (m : Int) ≥ (ts.length : Int) := by omega
        have HR : Hid (termO (dictT c S) (m : Int) = ([], 8)) := by
          show _ = _
          rw [HD.out, termO_out (by omega)]
        go_wp2_with fail
        go_ret2
        exact ⟨by rw [HR.out]; rfl, HB1.out⟩
  · rw [hok]
    have HR : Hid (termO (dictT c S) n = ([], 1)) := by
      show _ = _
      rw [dictT_none hno, termO_none]
    clear hok hown hno
    go_wp2_with fail
    go_ret2
    exact ⟨by rw [HR.out]; rfl, HB1.out⟩
set_option maxHeartbeats 4000000 in
theorem implTerm_any (hok : OkC 12) : TermC 17 := by
  intro c a cap S n w hn hA hS
  have HOk := hidd (fun W (hW : Below w.heap.size w W) => hok c a cap S W hn hA (hS.below hW))
  have HS := hidd hS
  clear hok hA hS
  have HBa : Hid (Below w.heap.size w (w.alloc (.cells #[.int .i64 c, .slice a S.length cap] 29))) := (Below.refl _ _).alloc (Nat.le_refl _) _
  have Hbx := hidd (heap_alloc_new w (.cells #[.int .i64 c, .slice a S.length cap] 29))
  go_enter Try.func17, Try.ntmps17
  go_wp2_with fail
  refine (HOk.out _ HBa.out).mono ?_
  rintro e w1 ⟨rfl, hb1⟩
  have HB1 := hidd (HBa.out.trans (hb1.mono HBa.out.size))
  have Hbx1 := hidd (blko Hbx.out hb1)
  clear hb1 Hbx HOk
  dsimp only
  rcases okD_cases c S with ⟨hok, ts, hts⟩ | ⟨hok, hno⟩
  · rw [hok]
    have HD := hidd (dictT_some hts)
    obtain ⟨ord, hat⟩ := hts.at
    have HAt := hidd hat
    have HGd := hidd hts.1
    have hcl : c = (ts.length : Int) := by
      obtain ⟨_, o2, _, _, hd⟩ := hts
      unfold dictOf at hd
      exact (Prod.mk.inj hd).1
    have hfew : ts.length ≤ 4096 := hat.few
    clear hok hts hat
    have b0 := blkc Hbx1.out 0
    have b1 := blkc Hbx1.out 1
    have hzw : w.heap.size < w1.heap.size := (Array.getElem?_eq_some_iff.1 Hbx1.out).1
    have Hcl := hidd hcl
    obtain ⟨B, hB⟩ : ∃ B : Bool, B = (decide (0 ≤ n) && decide (n ≤ c - 1)) := ⟨_, rfl⟩
    have HBB := hidd hB
    have hcb : 0 ≤ c ∧ c ≤ 4096 := by omega
    clear hcl hB
    go_upto_region 3 with fail
    go_cut [15] (fun cv wy => cv = .bool (!B) ∧ wy = w1)
    case first =>
      go_wp2_with (go_at_call 38; refine (within_any _ _ _ _).mono ?_; rintro e w' ⟨rfl, rfl⟩)
      go_meet
      case rel => exact ⟨by rw [HBB.out, Bool.not_and], rfl⟩
    case rest =>
      obtain ⟨rfl, hwc⟩ := hcut
      have hwc' := hwc.symm
      subst hwc'
      clear hwc
      cases hB : B with
      | false =>
        have HR : Hid (termO (dictT c S) n = ([], 8)) := by
          show _ = _
          rw [HD.out, termO_out]
          rintro ⟨q1, q2⟩
          have := HBB.out
          rw [hB] at this
          have h5 : n ≤ c - 1 := by have := Hcl.out; omega
          simp [q1, h5] at this
        clear hB
        go_wp2_with fail
        go_ret2
        exact ⟨by rw [HR.out]; rfl, HB1.out⟩
      | true =>
        have hin : 0 ≤ n ∧ n < (ts.length : Int) := by
          have h5 := HBB.out
          rw [hB] at h5
          have h6 := h5.symm
          rw [Bool.and_eq_true, decide_eq_true_eq, decide_eq_true_eq] at h6
          have := Hcl.out
          omega
        obtain ⟨m, rfl⟩ : ∃ m : Nat, n = (m : Int) := ⟨n.toNat, by omega⟩
        have hm : m < ts.length := by omega
        have HR : Hid (termO (dictT c S) (m : Int) = (ts.getD m [], 0)) := by
          show _ = _
          rw [HD.out, termO_in hin, Int.toNat_natCast]
        have hmem : ts.getD m [] ∈ ts := by rw [getD_at hm]; exact List.getElem_mem hm
        have hnd : ts.Nodup := HGd.out.1.imp fun {x y} hxy e => by rw [e, ltT_irr] at hxy; cases hxy
        have hrk : rk (ts.getD m []) ts = m := by
          rw [← rise_rk HGd.out.1 hmem]
          exact idxOf_of hnd (by rw [getD_at hm]; exact List.getElem?_eq_getElem hm)
        obtain ⟨τ, hτ⟩ : ∃ τ, ts.getD m [] = τ := ⟨_, rfl⟩
        rw [hτ] at HR hmem hrk
        have hτl := (HGd.out.2.2 τ hmem)
        clear hτ hB hnd hin
        have HBc := hidd ((Below.refl w1.heap.size w1).alloc (Nat.le_refl _) (.cells #[.slice a S.length cap, .int .i64 0, .slice none 0 0, .int .i64 0] 69))
        have HC0 : Hid (CurAt w1 (w1.alloc (.cells #[.slice a S.length cap, .int .i64 0, .slice none 0 0, .int .i64 0] 69)) w1.heap.size a cap S (ord.idxOf ts) 0 [] (.slice none 0 0)) := by
          refine ⟨HBc.out, HS.out.below HB1.out, Nat.le_refl _, ?_, World.ownsRow_nil _ _ _ _⟩
          rw [(dict_root HAt.out.bfs).2]
          exact heap_alloc_new w1 _
        have HSk := hidd (seek_any τ m HAt.out HGd.out.1 hmem hrk hτl.2 HC0.out)
        clear hmem hrk
        go_wp2_with fail
        refine HSk.out.mono ?_
        rintro e w2 ⟨gv2, i2, k2, rfl, hcu⟩
        have HB2 := hidd (HB1.out.trans (hcu.old.mono HB1.out.size))
        have x2 := blkc hcu.box 2
        rcases own_cases hcu.row with ⟨_, he⟩ | ⟨g, c', rfl, _, hg⟩
        · omega
        have xc := conv_str w2 g 0 c' τ (own_bytes hcu.row rfl)
        clear hcu HSk HC0 HBc b0 b1
        dsimp only
        go_wp2_with fail
        go_ret2
        exact ⟨by rw [HR.out]; rfl, HB2.out⟩
  · rw [hok]
    have HR : Hid (termO (dictT c S) n = ([], 1)) := by
      show _ = _
      rw [dictT_none hno, termO_none]
    clear hok hno
    go_wp2_with fail
    go_ret2
    exact ⟨by rw [HR.out]; rfl, HB1.out⟩
end Go.Proofs.Ytanolccfmpbjgal
