import Derived.Test.YtanolccfmpbjgalDfHK
namespace Go.Proofs.Ytanolccfmpbjgal
open Go Go.RowKit
set_option linter.unusedVariables false
set_option maxRecDepth 100000

set_option maxHeartbeats 4000000 in
theorem implFind_any (hok : OkC 12) : FindC 15 := by
  intro c a cap S t w hn hA hS
  have HOk := hidd (fun W (hW : Below w.heap.size w W) => hok c a cap S W hn hA (hS.below hW))
  have HS := hidd hS
  clear hok hA hS
  have HBa : Hid (Below w.heap.size w (w.alloc (.cells #[.int .i64 c, .slice a S.length cap] 29))) := (Below.refl _ _).alloc (Nat.le_refl _) _
  have Hbx := hidd (heap_alloc_new w (.cells #[.int .i64 c, .slice a S.length cap] 29))
  have hsl : (⟨t.toArray⟩ : ByteArray).size = t.length := by rw [Lib.size_eq]
  go_enter Try.func15, Try.ntmps15
  by_cases hl : 65536 < t.length
  · have hlz : (t.length : Int) > 65536 := by omega
    have HF := hidd (findO_long (d := dictT c S) hl)
    go_wp2_with fail
    go_ret2
    exact ⟨by rw [HF.out]; rfl, HBa.out⟩
  have hlz : ¬ (t.length : Int) > 65536 := by omega
  go_wp2_with fail
  refine (HOk.out _ HBa.out).mono ?_
  rintro e w1 ⟨rfl, hb1⟩
  have HB1 := hidd (HBa.out.trans (hb1.mono HBa.out.size))
  have Hbx1 := hidd (blko Hbx.out hb1)
  clear hb1 Hbx HOk
  dsimp only
  rcases okD_cases c S with ⟨hok, ts, hts⟩ | ⟨hok, hno⟩
  · rw [hok]
    have HD := hidd (dictT_some hts)
    obtain ⟨ord, hat⟩ := hts.at
    have HAt := hidd hat
    have HR0 := hidd hts.1.1
    clear hok hts hat
    have b1 := blkc Hbx1.out 1
    have hzw : w.heap.size < w1.heap.size := (Array.getElem?_eq_some_iff.1 Hbx1.out).1
    have HBc := hidd ((Below.refl w1.heap.size w1).alloc (Nat.le_refl _) (.cells #[.slice a S.length cap, .int .i64 0, .slice none 0 0, .int .i64 0] 69))
    have HC0 : Hid (CurAt w1 (w1.alloc (.cells #[.slice a S.length cap, .int .i64 0, .slice none 0 0, .int .i64 0] 69)) w1.heap.size a cap S (ord.idxOf ts) 0 [] (.slice none 0 0)) := by
      refine ⟨HBc.out, HS.out.below HB1.out, Nat.le_refl _, ?_, World.ownsRow_nil _ _ _ _⟩
      rw [(dict_root HAt.out.bfs).2]
      exact heap_alloc_new w1 _
    have HSp := hidd (spell_any t (by omega) HAt.out HC0.out)
    go_upto_region 6 with fail
    obtain ⟨wq, hwq⟩ : ∃ wq, w1.alloc (.cells #[.slice a S.length cap, .int .i64 0, .slice none 0 0, .int .i64 0] 69) = wq := ⟨_, rfl⟩
    rw [hwq] at HSp
    try rw [hwq]
    clear hwq HC0 HBc b1
    go_cut [22] (fun cv wy => Below w.heap.size w wy ∧ ((t ∈ ts ∧ cv = .bool false ∧ wy.cell? ⟨w1.heap.size, 3, none⟩ = some (.int .i64 ((rk t ts : Nat) : Int))) ∨ (t ∉ ts ∧ cv = .bool true)))
    case first =>
      go_wp2_with fail
      refine HSp.out.mono ?_
      rintro e w2 ⟨b, rfl, hb2, hsp⟩
      have HB2 := hidd (HB1.out.trans (hb2.mono HB1.out.size))
      clear hb2 HSp
      dsimp only
      rcases hsp with ⟨rfl, hm, gv2, hcu⟩ | ⟨rfl, hno⟩
      · have HFi := hidd (final_any hcu (HAt.out.lt hm))
        rw [HAt.out.fin hm] at HFi
        have HC := hidd hcu
        have HIn : Hid (finT (subs t ts) = true ↔ t ∈ ts) := by
          show _ ↔ _
          rw [finT_mem, subs_mem, List.append_nil]
        clear hcu
        go_wp2_with fail
        refine HFi.out.mono ?_
        rintro e w3 ⟨rfl, m3, rfl⟩
        have HB3 := hidd (below_drewN HB2.out m3)
        have n3 := blkc (HC.out.below (below_drewN (Below.refl _ _) m3)).box 3
        have HN3 := hidd n3
        clear n3 HFi
        dsimp only
        cases hf : finT (subs t ts) with
        | true =>
          have HT := hidd (HIn.out.1 hf)
          clear hf
          go_wp2_with fail
          go_meet
          case rel => exact ⟨HB3.out, Or.inl ⟨HT.out, rfl, HN3.out⟩⟩
        | false =>
          have HT : Hid (t ∉ ts) := fun e => by have := HIn.out.2 e; rw [hf] at this; cases this
          clear hf
          go_wp2_with fail
          go_meet
          case rel => exact ⟨HB3.out, Or.inr ⟨HT.out, rfl⟩⟩
      · have HT : Hid (t ∉ ts) := fun e => by
          have : ([] : Tx) ∈ subs t ts := subs_mem.2 (by rw [List.append_nil]; exact e)
          rw [hno] at this
          simp at this
        clear hno
        go_wp2_with fail
        go_meet
        case rel => exact ⟨HB2.out, Or.inr ⟨HT.out, rfl⟩⟩
    case rest =>
      obtain ⟨hb3, hcs⟩ := hcut
      have HB3 := hidd hb3
      clear hb3
      rcases hcs with ⟨hin, rfl, hnum⟩ | ⟨hout, rfl⟩
      · have HR : Hid (findO (dictT c S) t = (((rk t ts : Nat) : Int), 0)) := by
          show _ = _
          rw [HD.out, findO_in hl hin, rise_rk HR0.out hin]
        clear hin
        go_wp2_with fail
        go_ret2
        exact ⟨by rw [HR.out]; rfl, HB3.out⟩
      · have HR : Hid (findO (dictT c S) t = (0, 8)) := by
          show _ = _
          rw [HD.out, findO_out hl hout]
        clear hout
        go_wp2_with fail
        go_ret2
        exact ⟨by rw [HR.out]; rfl, HB3.out⟩
  · rw [hok]
    have HR : Hid (findO (dictT c S) t = (0, 1)) := by
      show _ = _
      rw [dictT_none hno, findO_none hl]
    clear hok hno
    go_wp2_with fail
    go_ret2
    exact ⟨by rw [HR.out]; rfl, HB1.out⟩
end Go.Proofs.Ytanolccfmpbjgal
