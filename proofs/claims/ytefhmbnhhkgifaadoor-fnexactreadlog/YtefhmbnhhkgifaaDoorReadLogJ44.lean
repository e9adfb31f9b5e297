import Derived.Test.YtefhmbnhhkgifaaDoorReadLogJ43
namespace Go.Proofs.YtefhmbnhhkgifaaDoor
open Go Go.RowKit
set_option linter.unusedVariables false
set_option linter.unusedSimpArgs false
set_option maxRecDepth 100000

theorem own_emptyR (w : World) : (w.alloc (.cells #[] 36)).ownsRow w.heap.size 36 5 (.slice (some ⟨w.heap.size, 0, none⟩) 0 0) 0 [] := by
  have := World.ownsRow_lit (base := w.heap.size) (e := 36) (size := 5) w #[] 0 (Nat.le_refl _) (by unfold maxLen; omega) (by simp)
  simpa using this
set_option maxHeartbeats 8000000 in
theorem specLog_any {w0 : World} {b off c : Nat} {bs : List UInt8} (hn : bs.length ≤ 1048576) (hb : b < w0.heap.size) (hc : bs.length ≤ c) (hB : BytesAt w0 b off bs) :
    Calls Tryd.prog 4 #[.slice (some ⟨b, off, none⟩) bs.length c] w0 (LogP w0 bs) := by
  obtain ⟨i1, hi1, hy0, hy1, hy2⟩ := info_parts Tryd.infoRec
  have hnz : ¬ (bs.length : Int) > 1048576 := by omega
  have HBy := hidd hB
  have HBa := hidd ((Below.refl w0.heap.size w0).alloc (Nat.le_refl _) (.cells #[] 36))
  have HO := hidd (own_emptyR w0)
  clear hB
  go_enter Tryd.func4, Tryd.ntmps4
  go_upto_region 4 with fail
  obtain ⟨wa, hwa⟩ : ∃ wa, w0.alloc (.cells #[] 36) = wa := ⟨_, rfl⟩
  have hwz : wa.heap.size = w0.heap.size + 1 := by rw [← hwa]; simp
  rw [hwa] at HBa HO
  try rw [hwa]
  clear hwa
  have HL0 : Hid (LogA wa w0.heap.size wa.heap.size (.slice (some ⟨w0.heap.size, 0, none⟩) 0 0) [] [] (fun _ => 0) (fun _ => 0) (fun _ => .nilIface) (fun _ => [])) := ⟨HO.out, fun b hb => by simp only [Value.ownBlock, Option.some.injEq] at hb; omega, fun i k hi => absurd hi (by simp), fun i hi => absurd hi (by simp), fun i hi => absurd hi (by simp), fun i b hi => absurd hi (by simp), fun i j _ hj => absurd hj (by simp)⟩
  go_wp2_with fail
  go_loopw [5, 6] (fun vL sv wr => ∃ at_ L ys lo hh va xs, at_ ≤ bs.length ∧ sv = .int .i64 (at_ : Int) ∧ runK bs L.length = some (L, bs.drop at_) ∧ Below w0.heap.size w0 wr ∧ wa.heap.size ≤ wr.heap.size ∧ LogA wr w0.heap.size wr.heap.size vL L ys lo hh va xs) (fun _ sv _ => bs.length - (intOf sv).toNat)
  case atStart => exact ⟨0, [], [], _, _, _, _, Nat.zero_le _, rfl, rfl, HBa.out, Nat.le_refl _, HL0.out⟩
  case round =>
    obtain ⟨k, L, ys, lo, hh, va, xs, hk, rfl, hrun, hbel, hwr, hlog⟩ := hrel
    clear HL0 HO
    have hkl := runK_len _ hrun
    have HRun := hidd hrun
    have HLog := hidd hlog
    have HBel := hidd hbel
    have hrl : (bs.drop k).length = bs.length - k := List.length_drop
    obtain ⟨aL, cL, rfl⟩ := own_formR hlog.row
    have hLl : L.length ≤ 1048576 := by omega
    have HC := hidd (specNext_any (w0 := wr) (k := k) (q := L.length + 1) hn (by have := hbel.size; omega) hc (HBy.out.old hbel hb) hk (by omega))
    clear hrun hbel hlog hkl
    have hqz : (L.length : Int) + 1 = ((L.length + 1 : Nat) : Int) := by omega
    obtain ⟨q, hq⟩ : ∃ q, L.length + 1 = q := ⟨_, rfl⟩
    rw [hq] at HC hqz
    have Hq := hidd hq
    clear hq
    go_wp2_with fail
    refine HC.out.mono ?_
    rintro e w1 ⟨hb1, kd, sq, id, did, aV, cV, V, zs, lo2, en, ok, rfl, hlo2, hans, hen, hcase⟩
    have HAns := hidd hans
    have HB1 := hidd hb1
    have HCs := hidd hcase
    have hz1 := hb1.size
    clear hans hb1 hcase HC hqz
    have HL1 : Hid (LogA w1 w0.heap.size wr.heap.size (.slice aL L.length cL) L ys lo hh va xs) := HLog.out.below (Nat.le_refl _) HB1.out
    have HBx := hidd ((Below.refl w1.heap.size w1).alloc (Nat.le_refl _) (.cells #[.int .i64 kd, .int .i64 sq, .string ⟨id.toArray⟩, .string ⟨did.toArray⟩, .slice aV V.length cV] 36))
    have HXx := hidd (heap_alloc_new w1 (.cells #[.int .i64 kd, .int .i64 sq, .string ⟨id.toArray⟩, .string ⟨did.toArray⟩, .slice aV V.length cV] 36))
    dsimp only
    go_upto_region 6 with fail
    obtain ⟨w2, hw2⟩ : ∃ w2, w1.alloc (.cells #[.int .i64 kd, .int .i64 sq, .string ⟨id.toArray⟩, .string ⟨did.toArray⟩, .slice aV V.length cV] 36) = w2 := ⟨_, rfl⟩
    rw [hw2] at HBx HXx
    try rw [hw2]
    clear hw2
    have hz2 := HBx.out.size
    have hwb := HBel.out.size
    have HB2 := hidd (HBel.out.trans ((HB1.out.trans (HBx.out.mono HB1.out.size)).mono HBel.out.size))
    cases ok with
    | false =>
      have HNo : Hid (nextR (bs.drop k) (L.length + 1) = none) := by
        rcases HCs.out with ⟨h, _⟩ | ⟨_, h⟩
        · cases h
        · rw [Hq.out]; exact h
      have HF : Hid (LogP w0 bs (.returned (.tuple #[.slice aL L.length cL, .int .i64 (k : Int), .int .i64 0])) w2) :=
        ⟨HB2.out, L, bs.drop k, _, ys, lo, hh, va, xs, by rw [hrl, show bs.length - (bs.length - k) = k by omega], ⟨HRun.out, HNo.out⟩, ((HL1.out.below hz1 HBx.out).mono (Nat.le_refl _) (by omega))⟩
      clear HCs hrl
      go_wp2_with fail
      refine bodyPost_ret (v := .tuple #[.slice aL L.length cL, .int .i64 (k : Int), .int .i64 0]) (by simp [results, Tryd.results4, go_sem]) rfl HF.out
    | true =>
      have hnx : nextR (bs.drop k) (L.length + 1) = some ((kd, sq, id, (did, V)), bs.drop en) := by
        rcases HCs.out with ⟨_, h⟩ | ⟨h, _⟩
        · rw [Hq.out]; exact h
        · cases h
      have hlt := nextR_len hnx
      rw [List.length_drop, List.length_drop] at hlt
      have HRun' := hidd (runK_step HRun.out hnx)
      have x0 := blkc HXx.out 0
      have x1 := blkc HXx.out 1
      have x2 := blkc HXx.out 2
      have x3 := blkc HXx.out 3
      have x4 := blkc HXx.out 4
      clear hnx HCs hrl
      have HBy2 := hidd ((Below.refl w2.heap.size w2).alloc (Nat.le_refl _) (.cells #[.int .i64 kd, .int .i64 sq, .string ⟨id.toArray⟩, .string ⟨did.toArray⟩, .slice aV V.length cV] 36))
      have HB13 := hidd (HBx.out.trans (HBy2.out.mono HBx.out.size))
      have HNw := hidd (heap_alloc_new w2 (.cells #[.int .i64 kd, .int .i64 sq, .string ⟨id.toArray⟩, .string ⟨did.toArray⟩, .slice aV V.length cV] 36))
      have hz3 : (w2.alloc (.cells #[.int .i64 kd, .int .i64 sq, .string ⟨id.toArray⟩, .string ⟨did.toArray⟩, .slice aV V.length cV] 36)).heap.size = w2.heap.size + 1 := by simp
      have HL3 := hidd (HL1.out.below hz1 HB13.out)
      have HA3 : Hid (AnsV (w2.alloc (.cells #[.int .i64 kd, .int .i64 sq, .string ⟨id.toArray⟩, .string ⟨did.toArray⟩, .slice aV V.length cV] 36)) lo2 w1.heap.size (.slice aV V.length cV) V zs) := HAns.out.keep fun x _ h2 => HB13.out.block x h2
      obtain ⟨w3, hw3⟩ : ∃ w3, w2.alloc (.cells #[.int .i64 kd, .int .i64 sq, .string ⟨id.toArray⟩, .string ⟨did.toArray⟩, .slice aV V.length cV] 36) = w3 := ⟨_, rfl⟩
      have Hw3 := hidd hw3
      rw [hw3] at HB13 HNw hz3 HL3 HA3 HBy2
      clear hw3
      have HB3 := hidd (HB2.out.trans (HBy2.out.mono HB2.out.size))
      go_wp2_with (at_builtin; rw [Hw3.out]; refine wpList_append_lies _ rfl _ _ 23 rfl w0.heap.size 36 i1 (.agg #[.int .i64 0, .int .i64 0, .string ⟨#[]⟩, .string ⟨#[]⟩, .slice none 0 0]) 5 72 Tryd.underlying23 hi1 hy0 hy1 hy2 rfl (by decide) (.slice aL L.length cL) L.length ys rfl HL3.out.row ⟨w2.heap.size, 0, none⟩ 1 1 (cell5 (kd, sq, id, (did, V)) (.slice aV V.length cV)) rfl rfl (World.news_of_block HNw.out) (by intro u' hu'; simp [cell5] at hu'; rcases hu' with rfl | rfl | rfl | rfl | rfl <;> rfl) (by decide) (by unfold maxLen; omega) (by omega) (by omega) _ rfl ?_)
      intro g4 c4 w4 hown4 hgrow4 hat4 hlt4
      have hz4 := hgrow4.size
      have HS := hidd (HL3.out.snoc HA3.out (by omega) hlo2 (by omega) (by omega) hown4 hgrow4 (hat4.imp (fun h => h) (fun h => by omega)) hlt4 hz4)
      have HB4 : Hid (Below w0.heap.size w0 w4) := HB3.out.grown hgrow4 HB3.out.size (fun x hx => (HL3.out.row.lt x hx).1)
      clear hown4 hgrow4 hat4 HL3 HA3 HNw HB13 HB3 x0 x1 x2 x3 x4
      go_wp2_with fail
      go_roundw
      case rel => exact ⟨en, _, _, _, _, _, _, hen, rfl, HRun'.out, HB4.out, by omega, by simpa using HS.out⟩
      case measure => simp [intOf]; omega
end Go.Proofs.YtefhmbnhhkgifaaDoor
