import Derived.Test.YtanolccfmpbjgalDfEK
namespace Go.Proofs.Ytanolccfmpbjgal
open Go Go.RowKit
set_option linter.unusedVariables false
set_option maxRecDepth 100000

set_option maxHeartbeats 4000000 in
theorem follow_any {w0 W : World} {B : Nat} {aS : Option Addr} {cS : Nat} {S : List St} {i k : Nat} {p : Tx} {gv : Value} {x : UInt8} {j m : Nat} (h : CurAt w0 W B aS cS S i k p gv) (hp : p.length ≤ 65536) (hk : k ≤ 4096) (hm : m ≤ 4096) :
    Calls Try.prog 66 #[.pointer (some ⟨B, 0, none⟩), .agg #[.int .i64 (x.toNat : Int), .int .i64 (j : Int), .int .i64 (m : Int)]] W fun e w' => ∃ gv', e = .returned (.tuple #[]) ∧ CurAt w0 w' B aS cS S j (k + m) (p ++ [x]) gv' ∧ ∀ b, b < W.heap.size → b ≠ B → gv.ownBlock ≠ some b → w'.heap[b]? = W.heap[b]? := by
  obtain ⟨i1, hi1, hy0, hy1, hy2⟩ := info_parts Try.infoByte
  have hBl := (Array.getElem?_eq_some_iff.1 h.box).1
  have HBa := hidd ((Below.refl W.heap.size W).alloc (Nat.le_refl _) (.cells #[.int .i64 (x.toNat : Int), .int .i64 (j : Int), .int .i64 (m : Int)] 66))
  have HQ := hidd (heap_alloc_new W (.cells #[.int .i64 (x.toNat : Int), .int .i64 (j : Int), .int .i64 (m : Int)] 66))
  have Hc := hidd h
  clear h
  go_enter Try.func66, Try.ntmps66
  go_upto_region 1 with fail
  obtain ⟨Q, hQ⟩ : ∃ Q, W.heap.size = Q := ⟨_, rfl⟩
  obtain ⟨wa, hwa⟩ : ∃ wa, W.alloc (.cells #[.int .i64 (x.toNat : Int), .int .i64 (j : Int), .int .i64 (m : Int)] 66) = wa := ⟨_, rfl⟩
  rw [hwa] at HBa HQ
  try rw [hwa]
  clear hwa
  have Hca := hidd (Hc.out.below HBa.out)
  rw [hQ] at HQ hBl
  try rw [hQ]
  have a1 := blkc HQ.out 1
  have x1 := blkc Hca.out.box 1
  have f1 := blkf Hca.out.box 1
  have Hcs := hidd (Hca.out.setSt j)
  have HQs := hidd ((heap_set_other wa B 1 (.int .i64 (j : Int)) Q (by omega)).trans HQ.out)
  go_upto_region 2 with fail
  obtain ⟨wb, hwb⟩ : ∃ wb, wa.setCell ⟨B, 1, none⟩ (.int .i64 (j : Int)) = wb := ⟨_, rfl⟩
  have HFr0 : Hid (∀ b, b < Q → b ≠ B → wb.heap[b]? = W.heap[b]?) := fun b hb hne => by
    rw [← hwb, heap_set_other wa B 1 _ b hne]
    exact HBa.out.block b (by omega)
  have hsz0 : Q < wb.heap.size := by
    rw [← hwb]
    have := (Array.getElem?_eq_some_iff.1 HQ.out).1
    simpa using this
  rw [hwb] at Hcs HQs
  try rw [hwb]
  clear hwb a1 x1 f1 Hca HBa HQ
  have c2 := blkc Hcs.out.box 2
  have a0 := blkc HQs.out 0
  have HO := hidd Hcs.out.row
  obtain ⟨ag, cg, rfl⟩ := own_form Hcs.out.row
  have hxl := UInt8.toNat_lt x
  have hwx : IntKind.u8.wrap (x.toNat : Int) = (x.toNat : Int) := u8_in_b hxl
  have hBb : B < wb.heap.size := by omega
  have HP := hidd (fun V w6 g6 cp6 => Hcs.out.push (V := V) (w6 := w6) (g6 := g6) (cp6 := cp6) (x := x))
  have HK : Hid (∀ V w6 : World, Below wb.heap.size wb V → V.grownBy w6 (Value.slice ag p.length cg).ownBlock → ∀ b, b < wb.heap.size → (Value.slice ag p.length cg).ownBlock ≠ some b → w6.heap[b]? = wb.heap[b]?) := fun V w6 hV hg b hb hne => by
    rw [hg.block b (Nat.lt_of_lt_of_le hb hV.size) (fun e => hne e.symm), hV.block b hb]
  go_cut [9] (fun v9 wy => ∃ gv', CurAt w0 wy B aS cS S j k (p ++ [x]) gv' ∧ wy.heap[Q]? = some (.cells #[.int .i64 (x.toNat : Int), .int .i64 (j : Int), .int .i64 (m : Int)] 66) ∧ ∀ b, b < Q → b ≠ B → (Value.slice ag p.length cg).ownBlock ≠ some b → wy.heap[b]? = W.heap[b]?)
  case first =>
    go_region_law (refine step_append_lies _ rfl (.tmp 13) (.tmp 17) 41 rfl (B + 1) 5 i1 (.int .u8 0) 1 1 Try.underlying41 hi1 hy0 hy1 hy2 rfl (by decide) (.slice ag p.length cg) p.length (Lib.byteCells p) (by simp [Act.eval]) (by first | exact HO.out.drew.alloc _ | exact HO.out.alloc _) ⟨wb.heap.size, 0, none⟩ 1 1 [.int .u8 (x.toNat : Int)] (by simp [Act.eval]) rfl (by intro j' u' hj'; match j', hj' with | 0, hj' => simp at hj'; subst hj'; simp [Addr.add]) (by intro u' hu'; simp at hu'; subst hu'; rfl) (by omega) (by unfold maxLen; omega) (by omega) (by first | omega | (simp; omega)) _ rfl ?_; intro g6 cp6 w6 hown6 hgrow6 hat6 hlt6; obtain ⟨t1, t2⟩ := HP.out _ w6 g6 cp6 (by first | exact (below_drewN (Below.refl _ _) 1).alloc (by simp) _ | exact (Below.refl _ _).alloc (by simp) _) hown6 hgrow6 hat6; have s2 := blkc t1 2; have sf := blkf t1 2; have HT2 := hidd t2; have HG6 := hidd hgrow6; clear t1 t2 hown6 hgrow6 hat6 hlt6)
    all_goals
      go_wp2_with fail
      go_meet
      refine ⟨_, HT2.out, ?_, fun b hb hne hg => ?_⟩
      · rw [heap_set_other w6 B 2 _ Q (by omega)]
        exact (HK.out _ w6 (by first | exact (below_drewN (Below.refl _ _) 1).alloc (by simp) _ | exact (Below.refl _ _).alloc (by simp) _) HG6.out Q hsz0 (fun e => by
          obtain ⟨_, cur, hc⟩ := own_blk HO.out e
          exact blk_ne hc HQs.out (by decide) rfl)).trans HQs.out
      · rw [heap_set_other w6 B 2 _ b hne]
        exact (HK.out _ w6 (by first | exact (below_drewN (Below.refl _ _) 1).alloc (by simp) _ | exact (Below.refl _ _).alloc (by simp) _) HG6.out b (by omega) hg).trans (HFr0.out b hb hne)
  case rest =>
    obtain ⟨gv', hcu, hq, hfr⟩ := hcut
    have Hcu := hidd hcu
    have Hq := hidd hq
    have Hfr := hidd hfr
    clear hcu hq hfr HO HP HFr0 Hcs HQs c2 a0 HK
    have a2 := blkc Hq.out 2
    have c3 := blkc Hcu.out.box 3
    have f3 := blkf Hcu.out.box 3
    have hsum : IntKind.i64.wrap ((k : Int) + (m : Int)) = ((k + m : Nat) : Int) := by
      have : (k : Int) + (m : Int) = ((k + m : Nat) : Int) := by omega
      rw [this]
      exact IntWalk.i64_in _ ⟨by omega, by omega⟩
    obtain ⟨km, hkm⟩ : ∃ km, k + m = km := ⟨_, rfl⟩
    rw [hkm] at hsum
    have Hkm := hidd hkm
    clear hkm
    have Hset := hidd (Hcu.out.setNum km)
    have hBc : B < wc.heap.size := (Array.getElem?_eq_some_iff.1 Hcu.out.box).1
    have hQc : Q < wc.heap.size := (Array.getElem?_eq_some_iff.1 Hq.out).1
    go_wp2_with fail
    go_region
    all_goals
      go_wp2_with fail
      go_end0
      refine ⟨gv', rfl, ?_, fun b hb hne hg => ?_⟩
      · rw [Hkm.out]
        first | exact Hset.out | exact Hset.out.below (below_drewN (Below.refl _ _) 1)
      · rw [hQ] at hb
        first
          | exact (heap_set_other wc B 3 _ b hne).trans (Hfr.out b hb hne hg)
end Go.Proofs.Ytanolccfmpbjgal

