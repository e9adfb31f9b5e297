import Derived.Test.YtbkedgpligcicaaDictJ26
import Derived.Test.YtbkedgpligcicaaDictJ13
import Derived.Test.YtbkedgpligcicaaDictJ25
import Derived.Test.YtbkedgpligcicaaDictJ24
import Derived.Test.YtbkedgpligcicaaProg
import Derived.Test.YtbkedgpligcicaaDictJ01
import Derived.WalkLawsBesides
import Derived.WalkSpells
import Derived.BigQuiet
import Derived.Deep.QuietTactic
import Derived.BigRegion
import Derived.Lib.AppendStr
import Derived.Lib.RuneBytes
import Derived.ArgAppend
import Derived.Lib.Strings
namespace Go.Proofs.Ytbkedgpligcicaa
open Go Go.RowKit Go.Shelf
set_option linter.unusedVariables false
set_option maxRecDepth 100000
attribute [local go_sem] Oper.semAt_some

/-- What is captured, and what it is asked. -/
theorem terms1_any {w0 : World} {aS : Option Addr} {cS : Nat} {S : List St} {ord : List (List Tx)} {cb h0 lo Bt k : Nat} {r : Loop} {L : List Tx} {p : Tx} {gv : Value} {W : World} (hT : TellC w0 aS cS S ord cb h0 lo r 65)
    (hL : L ∈ ord) (hr : RiseT L) (hs : ∀ s ∈ L, s.length < 65) (hp : p.length ≤ 65536) (hk : k + L.length ≤ 8192) (hm : L.length ≤ 4096) (hc : Cnt cb h0 r 0 W) (ho : W.ownsRow lo 5 1 gv p.length (Lib.byteCells p)) (hb : Below w0.heap.size w0 W) (hlo : lo ≤ W.heap.size)
    (hbx : W.heap[Bt]? = some (.cells #[.slice aS S.length cS, .int .i64 ((ord.idxOf L : Nat) : Int), gv, .int .i64 (k : Int)] 71)) :
    Calls Try.prog 78 #[.func (.yield (h0 + 1)) #[] #[], .pointer (some ⟨Bt, 0, none⟩)] W fun e W' => (∃ v, e = .returned v) ∧ Cnt cb h0 r L.length W' ∧ But (TX cb gv) W W' := by
  have HT := hidd (hT L p gv k 0 W hL hr hs (by omega) hk (by omega) hc ho hb hlo)
  rw [Nat.zero_add] at HT
  have x0 := blkc hbx 0
  have x1 := blkc hbx 1
  have x2 := blkc hbx 2
  have x3 := blkc hbx 3
  clear hT hc ho hb hs
  generalize ord.idxOf L = ix at *
  go_enter Try.func78, Try.ntmps78
  go_wp2_with fail
  refine HT.out.mono ?_
  rintro e W2 ⟨rfl, h1, h2, h3⟩
  have H1 := hidd h1
  have H3 := hidd h3
  clear h1 h2 h3
  dsimp only
  go_wp2_with fail
  go_end0
  exact ⟨⟨_, rfl⟩, H1.out, H3.out⟩
theorem tell_all {w0 : World} {aS : Option Addr} {cS : Nat} {S : List St} {ts : List Tx} {ord : List (List Tx)} {cb h0 lo : Nat} {r : Loop} (hd : DictAt ts ord S) (hy : YieldC Try.prog cb h0 r) (hold : HoldS w0 aS S) (hlo : w0.heap.size ≤ lo) (hcb : w0.heap.size ≤ cb) (hway : ∀ L ∈ ord, L ≠ []) : ∀ h, TellC w0 aS cS S ord cb h0 lo r h
  | 0 => fun L p gv k m W hL _ hs => by
    obtain ⟨s, hsm⟩ := List.exists_mem_of_ne_nil _ (hway L hL)
    exact absurd (hs s hsm) (Nat.not_lt_zero _)
  | h + 1 => tell_step hd hy hold hlo hcb (tell_all hd hy hold hlo hcb hway h)
theorem termsX_any (x0 x1 x2 x3 : Value) (w : World) :
    Calls Try.prog 47 #[.agg #[x0, x1, x2, x3]] w fun e w' => e = .returned (.func (.func 78) #[] #[.pointer (some ⟨w.heap.size, 0, none⟩)]) ∧ w' = w.alloc (.cells #[x0, x1, x2, x3] 71) := by
  go_enter Try.func47, Try.ntmps47
  go_wp2_with fail
  go_ret
  exact ⟨rfl, rfl⟩
theorem rgLeave {tmps : Array Value} {w W : World} {x y z : Int} (hB : Below w.heap.size w W) (h4 : tmps.getD 4 undef = .int .i64 x) (h5 : tmps.getD 5 undef = .int .i64 y) (h6 : tmps.getD 6 undef = .int .i64 z) :
    ∀ w', AllBut W w' → Below w.heap.size W w' → LeavesIn Fence.wide 4 Try.prog Try.f12 tmps (fun e w' => e = .returned (.tuple #[.int .i64 x, .int .i64 y, .int .i64 z]) ∧ Below w.heap.size w w') [] .returning w' := by
  intro w' ha hb
  refine ⟨.tuple #[.int .i64 x, .int .i64 y, .int .i64 z], ?_, rfl, hB.trans hb⟩
  have h4' : tmps[4]?.getD undef = .int .i64 x := by simpa using h4
  have h5' : tmps[5]?.getD undef = .int .i64 y := by simpa using h5
  have h6' : tmps[6]?.getD undef = .int .i64 z := by simpa using h6
  simp [results, Try.results12, go_sem, h4', h5', h6']
theorem way_all {ts : List Tx} {ord : List (List Tx)} (hg : GoodT ts) (hb : IsBfs nextT ts ord) (hne : ts ≠ []) : ∀ L ∈ ord, OnWay ts L :=
  hb.all (OnWay ts) ⟨hg.1, hne, Nat.le_refl _, fun t ht => (hg.2.2 t ht).2⟩ (fun x hx => hx.next)
set_option maxHeartbeats 8000000 in
theorem implRange_any (hok : OkC 15) : RangeC 12 := by
  intro c a cap S t w hn hA hS
  have HOk := hidd (fun W (hW : Below w.heap.size w W) => hok c a cap S W hn hA (hS.below hW))
  have HS := hidd hS
  clear hok hA hS
  have HBa : Hid (Below w.heap.size w (w.alloc (.cells #[.int .i64 c, .slice a S.length cap] 27))) := (Below.refl _ _).alloc (Nat.le_refl _) _
  have Hbx := hidd (heap_alloc_new w (.cells #[.int .i64 c, .slice a S.length cap] 27))
  have hsl : (⟨t.toArray⟩ : ByteArray).size = t.length := by rw [Lib.size_eq]
  refine (callsIn_wide (n := 4)).1 ?_
  refine callsIn_of_wp_marks Try.func12 rfl trivial ?_ rfl
  simp only [Try.ntmps12, List.size_toArray, List.length_cons, List.length_nil, Nat.reduceAdd, Nat.reduceSub, Array.replicate_succ, Array.replicate_zero, List.push_toArray, List.append_toArray, List.nil_append, List.cons_append]
  refine wpIn_wide.2 ?_
  by_cases hl : 65536 < t.length
  · have hlz : (t.length : Int) > 65536 := by omega
    have HF := hidd (rangeO_long (d := dictT c S) hl)
    go_wp2_with fail
    rw [HF.out]
    refine leaves_marks (B := w.heap.size) [] _ _ ⟨List.nodup_nil, by simp⟩ (AllBut.refl _) (Below.refl _ _) ?_
    exact rgLeave HBa.out rfl rfl rfl
  have hlz : ¬ (t.length : Int) > 65536 := by omega
  go_wp2_with fail
  refine (HOk.out _ HBa.out).mono ?_
  rintro e w1 ⟨rfl, hb1⟩
  have HB1 := hidd (HBa.out.trans (hb1.mono HBa.out.size))
  have Hbx1 := hidd (blko Hbx.out hb1)
  clear hb1 Hbx HOk
  dsimp only
  rcases okD_cases c S with ⟨hok, ts, hts⟩ | ⟨hok, hno⟩
  · rw [hok]
    have HD := hidd (dictT_some hts)
    obtain ⟨ord, hat⟩ := hts.at
    have HAt := hidd hat
    have HG := hidd hts.1
    have hcl : c = (ts.length : Int) := by
      obtain ⟨_, o, _, _, e⟩ := hts
      exact (Prod.mk.inj e).1
    clear hok hts hat
    have b0 := blkc Hbx1.out 0
    have b1 := blkc Hbx1.out 1
    have hzw : w.heap.size < w1.heap.size := (Array.getElem?_eq_some_iff.1 Hbx1.out).1
    have HBc := hidd ((Below.refl w1.heap.size w1).alloc (Nat.le_refl _) (.cells #[.slice a S.length cap, .int .i64 0, .slice none 0 0, .int .i64 0] 71))
    have HC0 : Hid (CurAt w1 (w1.alloc (.cells #[.slice a S.length cap, .int .i64 0, .slice none 0 0, .int .i64 0] 71)) w1.heap.size a cap S (ord.idxOf ts) 0 [] (.slice none 0 0)) := by
      refine ⟨HBc.out, HS.out.below HB1.out, Nat.le_refl _, ?_, World.ownsRow_nil _ _ _ _⟩
      rw [(dict_root HAt.out.bfs).2]
      exact heap_alloc_new w1 _
    have HSp := hidd (spell_any t (by omega) HAt.out HC0.out)
    go_upto_region 6 with fail
    obtain ⟨wq, hwq⟩ : ∃ wq, w1.alloc (.cells #[.slice a S.length cap, .int .i64 0, .slice none 0 0, .int .i64 0] 71) = wq := ⟨_, rfl⟩
    rw [hwq] at HSp HBc
    try rw [hwq]
    clear hwq HC0 b1
    replace b0 := (HBc.out.cell (p := ⟨w.heap.size, 0, none⟩) hzw).trans b0
    have HBq := hidd (HB1.out.trans (HBc.out.mono HB1.out.size))
    go_cut [25] from 18 to 33 (fun cv wy => Below w.heap.size w wy ∧ ((¬ (subs t ts).length = 0 ∧ cv = .bool false ∧ subs t ts ∈ ord ∧ ∃ gv, CurAt w1 wy w1.heap.size a cap S (ord.idxOf (subs t ts)) (rk t ts) t gv) ∨ ((subs t ts).length = 0 ∧ cv = .bool true)))
    case first =>
      by_cases hts : ts = []
      · have hc0 : c = 0 := by rw [hcl, hts]; rfl
        have HZ : Hid ((subs t ts).length = 0) := by
          show _ = _
          rw [hts, subs_nil]; rfl
        clear HSp hcl
        subst hc0
        go_wp2_with fail
        go_meet
        case rel => exact ⟨HBq.out, Or.inr ⟨HZ.out, rfl⟩⟩
      · have hcb : (c == 0) = false := by
          rw [hcl]
          cases ts with
          | nil => exact absurd rfl hts
          | cons x y => simp; omega
        have HW := hidd (way_all HG.out HAt.out.bfs hts)
        clear hcl
        go_wp2_with fail
        refine HSp.out.mono ?_
        rintro e w2 ⟨b, rfl, hb2, hsp⟩
        have HB2 := hidd (HB1.out.trans (hb2.mono HB1.out.size))
        clear hb2 HSp
        dsimp only
        rcases hsp with ⟨rfl, hm, gv2, hcu⟩ | ⟨rfl, hno⟩
        · have HCu := hidd hcu
          have HM := hidd hm
          clear hcu hm
          go_wp2_with fail
          go_meet
          case rel => exact ⟨HB2.out, Or.inl ⟨fun e => (HW.out _ HM.out).2.1 (List.length_eq_zero_iff.1 e), rfl, HM.out, gv2, HCu.out⟩⟩
        · have HN := hidd hno
          clear hno
          go_wp2_with fail
          go_meet
          case rel => exact ⟨HB2.out, Or.inr ⟨by rw [HN.out]; rfl, rfl⟩⟩
    case rest =>
      obtain ⟨hb3, hcs⟩ := hcut
      have HB3 := hidd hb3
      clear hb3 HSp b0 HBc HBq hcl
      rcases hcs with ⟨hin, rfl, hmem, gv, hcu⟩ | ⟨hout, rfl⟩
      · have hts : ts ≠ [] := fun e => hin (by rw [e, subs_nil]; rfl)
        have HW := hidd (way_all HG.out HAt.out.bfs hts)
        have HR : Hid (rangeO (dictT c S) t = (((rk t ts : Nat) : Int), (((subs t ts).length : Nat) : Int), 0)) := by
          show _ = _
          rw [HD.out, rangeO_in hl hin]
        have HOW := hidd (HW.out _ hmem)
        have hLl : (subs t ts).length ≤ 4096 := Nat.le_trans HOW.out.2.2.1 HAt.out.few
        have hrk := rk_le t ts
        have hrk2 : rk t ts ≤ 4096 := Nat.le_trans hrk HAt.out.few
        have HM := hidd hmem
        have HCu := hidd hcu
        clear hin hmem hcu hts hrk
        have Hbt : Hid (∀ b, gv.ownBlock = some b → w1.heap.size + 1 ≤ b ∧ b < wc.heap.size) := fun b hb => HCu.out.row.lt b hb
        have hBl : w1.heap.size < wc.heap.size := (Array.getElem?_eq_some_iff.1 HCu.out.box).1
        have HBk := hidd ((Below.refl wc.heap.size wc).alloc (Nat.le_refl _) (.cells #[.int .i64 0] 3))
        have HKb := hidd (heap_alloc_new wc (.cells #[.int .i64 0] 3))
        generalize hL : subs t ts = L at *
        generalize hkk : rk t ts = kk at *
        clear hkk
        obtain ⟨ix, hix⟩ : ∃ ix, ord.idxOf L = ix := ⟨_, rfl⟩
        rw [hix] at HCu
        go_upto_region 9 with fail
        obtain ⟨wk, hwk⟩ : ∃ wk, wc.alloc (.cells #[.int .i64 0] 3) = wk := ⟨_, rfl⟩
        rw [hwk] at HBk HKb
        try rw [hwk]
        have hszk : wk.heap.size = wc.heap.size + 1 := by rw [← hwk]; simp
        clear hwk
        have HCk := hidd (HCu.out.below HBk.out)
        have x0 := blkc HCk.out.box 0
        have x1 := blkc HCk.out.box 1
        have x2 := blkc HCk.out.box 2
        have x3 := blkc HCk.out.box 3
        go_wp2_with fail
        refine (termsX_any _ _ _ _ _).mono ?_
        rintro e wt ⟨rfl, hwt⟩
        have HBt := hidd ((Below.refl wk.heap.size wk).alloc (Nat.le_refl _) (.cells #[.slice a S.length cap, .int .i64 (ix : Int), gv, .int .i64 (kk : Int)] 71))
        have HKt := hidd (heap_alloc_new wk (.cells #[.slice a S.length cap, .int .i64 (ix : Int), gv, .int .i64 (kk : Int)] 71))
        have hszt : wt.heap.size = wk.heap.size + 1 := by rw [hwt]; simp
        rw [← hwt] at HBt HKt
        clear hwt x0 x1 x2 x3
        dsimp only
        go_wp2_with fail
        refine (wpIn_wide (n := 4)).1 ?_
        have HCt := hidd (HCk.out.below HBt.out)
        have HKb2 := hidd (blko HKb.out HBt.out)
        have HBw : Hid (Below w.heap.size w wt) := HB3.out.trans ((HBk.out.trans (HBt.out.mono HBk.out.size)).mono HB3.out.size)
        have hne8 : wc.heap.size ≠ wt.heap.size := by omega
        have HOt : Hid (wt.ownsRow (w1.heap.size + 1) 5 1 gv t.length (Lib.byteCells t)) := HCt.out.row
        have HB1t : Hid (Below w1.heap.size w1 wt) := HCt.out.old
        have HSo : Hid (HoldS w1 a S) := HCt.out.hold
        have HNum : Hid (wt.heap[w1.heap.size]? = some (.cells #[.slice a S.length cap, .int .i64 (ix : Int), gv, .int .i64 (kk : Int)] 71)) := HCt.out.box
        have hgt : ∀ b, gv.ownBlock = some b → b < wt.heap.size := fun b hb => (HOt.out.lt b hb).2
        have HGt := hidd hgt
        clear hgt HCt HCk HCu HKb HBk HBt HB3
        refine range_count (cb := wc.heap.size) (gf := 78) (N := L.length) (lb := #[.pointer (some ⟨wk.heap.size, 0, none⟩)]) (X := TX wc.heap.size gv) rfl (enters_of Try.func78 (by kernel_rfl) rfl) rfl HKb2.out ?hx ?it
          (fun x => { tmps := #[.agg #[.int .i64 c, .slice a S.length cap], .string ⟨t.toArray⟩, .pointer (some ⟨w.heap.size, 0, none⟩), undef, .int .i64 0, .int .i64 0, .int .i64 0, .pointer (some ⟨w1.heap.size, 0, none⟩), .pointer (some ⟨wc.heap.size, 0, none⟩), .string ⟨t.toArray⟩, .int .i64 (t.length : Int), .bool false, .agg #[.int .i64 c, .slice a S.length cap], .bool true, .bool false, .pointer (some ⟨w.heap.size, 1, none⟩), .slice a S.length cap, .agg #[.slice a S.length cap, .int .i64 0, .slice none 0 0, .int .i64 0], u18, u19, u20, u21, u22, u23, u24, .bool false, .agg #[.slice a S.length cap, .int .i64 (ix : Int), gv, .int .i64 (kk : Int)], .func (.func 78) #[] #[.pointer (some ⟨wk.heap.size, 0, none⟩)], x, u29, u30, u31, u32, u33], defers := [] }) ?asg ?bo ?dne
        case hx =>
          refine ⟨fun e => ?_, fun e => ?_⟩
          · rcases e with e | e
            · omega
            · have := HGt.out _ e; omega
          · rcases e with e | e
            · omega
            · have := HGt.out _ e; omega
        case it =>
          intro r W1 hb1 hy hc
          refine (callsIn_wide (n := 3)).2 ?_
          have hb2 : Below w1.heap.size w1 W1 := HB1t.out.trans (hb1.mono HB1t.out.size)
          exact terms1_any (k := kk) (tell_all HAt.out hy HSo.out (Nat.le_succ _) (by omega) (fun M hM => (HW.out M hM).2.1) 65) HM.out HOW.out.1 (fun s hs => Nat.lt_succ_of_le (HOW.out.2.2.2 s hs)) (by omega) (by omega) hLl hc (own_below HOt.out hb1) hb2 (by have := hb1.size; omega) (by rw [hix]; exact blko HKt.out hb1)
        case asg =>
          clear hszk hszt
          intro l m x W K hK
          gi_wp2
          exact hK
        case bo =>
          intro l m k x W hk hbx
          have k0 := blkc hbx 0
          have kf := blkf hbx 0
          have hz : IntKind.i64.wrap ((k : Int) + 1) = ((k + 1 : Nat) : Int) := by
            have : (k : Int) + 1 = ((k + 1 : Nat) : Int) := by omega
            rw [this]
            exact IntWalk.i64_in _ ⟨by omega, by omega⟩
          gi_wp2
        case dne =>
          intro W' hbx hbu hdf
          have k0 := blkc hbx 0
          have HNu : Hid (W'.heap[w1.heap.size]? = some (.cells #[.slice a S.length cap, .int .i64 (ix : Int), gv, .int .i64 (kk : Int)] 71)) := by
            refine (hbu.block _ (by omega) (fun e => ?_)).trans HNum.out
            rcases e with e | e
            · omega
            · have := (HOt.out.lt _ e).1; omega
          have n3 := blkc HNu.out 3
          have HBz : Hid (Below w.heap.size w W') := HBw.out.trans (hbu.below HBw.out.size (fun i hi e => by
            rcases e with e | e
            · have := HB1.out.size; omega
            · have := (HOt.out.lt _ e).1; omega))
          have Hdf := hidd hdf
          clear hbx hbu hdf hszk hszt hne8
          go_wp2_with fail
          go_quiet (fail)
          go_wp2_with fail
          rw [HR.out]
          have Hdq : Hid ((W'.drewN nq).heap[wt.heap.size]? = some (.deferred (some []))) := by show _ = _; rw [← Hdf.out]; simp
          refine leaves_marks (B := w.heap.size) [wt.heap.size] _ _ ⟨by simp, fun D hD => ?_⟩ (AllBut.refl _) (Below.refl _ _) ?_
          · have : D = wt.heap.size := by simpa using hD
            subst this
            exact ⟨HBw.out.size, Hdq.out⟩
          · exact rgLeave (below_drewN HBz.out nq) rfl rfl rfl
      · have HR : Hid (rangeO (dictT c S) t = (0, 0, 8)) := by
          show _ = _
          rw [HD.out, rangeO_out hl hout]
        clear hout
        go_wp2_with fail
        rw [HR.out]
        refine leaves_marks (B := w.heap.size) [] _ _ ⟨List.nodup_nil, by simp⟩ (AllBut.refl _) (Below.refl _ _) ?_
        exact rgLeave HB3.out rfl rfl rfl
  · rw [hok]
    have HR : Hid (rangeO (dictT c S) t = (0, 0, 1)) := by
      show _ = _
      rw [dictT_none hno, rangeO_none hl]
    clear hok hno
    go_wp2_with fail
    rw [HR.out]
    refine leaves_marks (B := w.heap.size) [] _ _ ⟨List.nodup_nil, by simp⟩ (AllBut.refl _) (Below.refl _ _) ?_
    exact rgLeave HB1.out rfl rfl rfl
end Go.Proofs.Ytbkedgpligcicaa

namespace Go.Proofs.Ytbkedgpligcicaa
open Go Go.RowKit
set_option linter.unusedVariables false

/-! What FnDict asks, in plain words. -/
theorem rk_zero {s p : Tx} {L : List Tx} (h : ltT s p = false) (hL : ∀ x ∈ L, ltT s x = true) : rk p L = 0 := by
  unfold rk
  rw [List.countP_eq_zero]
  intro x hx hlt
  rw [ltT_trans (hL x hx) hlt] at h
  cases h
/-- The terms that begin with p are a stretch. -/
theorem stretch (p : Tx) : ∀ {L : List Tx}, RiseT L → ∀ k, k < L.length → (begs p (L.getD k []) = true ↔ rk p L ≤ k ∧ k < rk p L + L.countP (begs p))
  | [], _, k, hk => by simp at hk
  | s :: L, hr, k, hk => by
    have hr' := List.pairwise_cons.1 hr
    have ih := stretch p hr'.2
    by_cases h : ltT s p = true
    · have e : rk p (s :: L) = rk p L + 1 := by unfold rk; rw [List.countP_cons_of_pos (by simpa using h)]
      have hb : begs p s = false := by
        cases e2 : begs p s with
        | false => rfl
        | true => rw [begs_ge e2] at h; cases h
      have e3 : (s :: L).countP (begs p) = L.countP (begs p) := List.countP_cons_of_neg (by simp [hb])
      rw [e, e3]
      cases k with
      | zero => simp [hb]
      | succ k =>
        have := ih k (by simpa using hk)
        simp only [List.getD_cons_succ]
        rw [this]
        omega
    · have h' : ltT s p = false := by simpa using h
      have e0 : rk p L = 0 := rk_zero h' hr'.1
      have e : rk p (s :: L) = 0 := by
        unfold rk at *
        rw [List.countP_cons_of_neg (by simpa using h')]
        exact e0
      rw [e]
      cases hb : begs p s with
      | true =>
        have e3 : (s :: L).countP (begs p) = L.countP (begs p) + 1 := List.countP_cons_of_pos hb
        rw [e3]
        cases k with
        | zero => simp [hb]
        | succ k =>
          have := ih k (by simpa using hk)
          simp only [List.getD_cons_succ]
          rw [this, e0]
          omega
      | false =>
        have hn : ∀ x ∈ L, begs p x = false := fun x hx => by
          cases e2 : begs p x with
          | false => rfl
          | true => rw [begs_mid h' e2 (Or.inr (hr'.1 x hx))] at hb; cases hb
        have e3 : (s :: L).countP (begs p) = 0 := by
          rw [List.countP_eq_zero]
          intro x hx
          rcases List.mem_cons.1 hx with rfl | hx
          · simp [hb]
          · simp [hn x hx]
        rw [e3]
        have : begs p ((s :: L).getD k []) = false := by
          cases k with
          | zero => simpa using hb
          | succ k =>
            have hk' : k < L.length := by simpa using hk
            rw [List.getD_cons_succ, List.getD_eq_getElem?_getD, List.getElem?_eq_getElem hk', Option.getD_some]
            exact hn _ (List.getElem_mem hk')
        rw [this]
        simp
theorem RiseT.nodupL {ts : List Tx} (h : RiseT ts) : ts.Nodup := List.Pairwise.imp (fun {a b} hab e => by subst e; rw [ltT_irr] at hab; cases hab) h
theorem getD_memL {ts : List Tx} {i : Nat} (hi : i < ts.length) : ts.getD i [] ∈ ts := by
  rw [List.getD_eq_getElem?_getD, List.getElem?_eq_getElem hi, Option.getD_some]
  exact List.getElem_mem hi
theorem dict_find {c : Int} {S : List St} {ts : List Tx} (h : IsDict (c, S) ts) {i : Nat} (hi : i < ts.length) : findO (dictT c S) (ts.getD i []) = ((i : Int), 0) := by
  have hm := getD_memL hi
  have hl := (h.1.2.2 _ hm).2
  rw [dictT_some h, findO_in (by omega) hm, idxOf_of (RiseT.nodupL h.1.1) (i := i) (by rw [List.getD_eq_getElem?_getD, List.getElem?_eq_getElem hi, Option.getD_some])]
theorem dict_term {c : Int} {S : List St} {ts : List Tx} (h : IsDict (c, S) ts) {i : Nat} (hi : i < ts.length) : termO (dictT c S) (i : Int) = (ts.getD i [], 0) := by
  rw [dictT_some h, termO_in (by omega)]
  simp
theorem dict_other {c : Int} {S : List St} {ts : List Tx} (h : IsDict (c, S) ts) (h33 : ∀ t ∈ ts, (33 : UInt8) ∉ t) {t : Tx} (ht : t.length ≤ 64) : findO (dictT c S) (t ++ [33]) = (0, 8) := by
  rw [dictT_some h, findO_out (by simp; omega) (fun hm => h33 _ hm (by simp))]
theorem dict_range {c : Int} {S : List St} {ts : List Tx} (h : IsDict (c, S) ts) {i : Nat} (hi : i < ts.length) (cut : Nat) :
    ∃ lo n : Nat, rangeO (dictT c S) ((ts.getD i []).take cut) = ((lo : Int), (n : Int), 0) ∧ lo + n ≤ 8192 ∧ ∀ k, k < ts.length → (begs ((ts.getD i []).take cut) (ts.getD k []) = true ↔ lo ≤ k ∧ k < lo + n) := by
  have hm := getD_memL hi
  have hl := (h.1.2.2 _ hm).2
  have hlt : ((ts.getD i []).take cut).length ≤ 64 := by rw [List.length_take]; omega
  have hb : begs ((ts.getD i []).take cut) (ts.getD i []) = true := by
    unfold begs
    rw [List.isPrefixOf_iff_prefix]
    exact List.take_prefix _ _
  have hs := stretch ((ts.getD i []).take cut) h.1.1
  have h1 := (hs i hi).1 hb
  have hc := subs_count ((ts.getD i []).take cut) ts
  have h2 := rk_le ((ts.getD i []).take cut) ts
  have h3 := subs_len ((ts.getD i []).take cut) ts
  have h4 := h.1.2.1
  refine ⟨rk ((ts.getD i []).take cut) ts, (subs ((ts.getD i []).take cut) ts).length, ?_, by omega, fun k hk => by rw [hc]; exact hs k hk⟩
  rw [dictT_some h, rangeO_in (by omega) (by omega)]
/-- As many as there are. -/
theorem nodup_sub {X : Type} [DecidableEq X] : ∀ {a b : List X}, a.Nodup → (∀ x ∈ a, x ∈ b) → a.length ≤ b.length
  | [], _, _, _ => Nat.zero_le _
  | x :: a, b, hn, hs => by
    have hn' := List.nodup_cons.1 hn
    have hx := hs x (by simp)
    have := nodup_sub (a := a) (b := b.erase x) hn'.2 (fun y hy => (List.mem_erase_of_ne (fun e => by subst e; exact hn'.1 hy)).2 (hs y (by simp [hy])))
    rw [List.length_erase_of_mem hx] at this
    have hp := List.length_pos_of_mem hx
    simp only [List.length_cons]
    omega
def headN : Tx → Nat
  | [] => 256
  | c :: _ => c.toNat
theorem labels_le (L : List Tx) : (labelsT L).length ≤ L.length := by
  have := nodup_sub (a := labelsT L) (b := L.map headN) (List.Pairwise.imp (fun {a b} h => Nat.ne_of_lt h) (labelsT_lt L)) (fun n hn => by
    have h1 := (labelsT_mem.1 hn).2
    obtain ⟨t, ht⟩ := List.exists_mem_of_ne_nil _ h1
    obtain ⟨c, hc, hm⟩ := subT_mem.1 ht
    exact List.mem_map.2 ⟨c :: t, hm, hc⟩)
  simpa using this
def headsOf (ts : List Tx) : List Tx := [] :: ts.flatMap fun t => (List.range 65).map fun n => t.take n
theorem headsOf_len (ts : List Tx) : (headsOf ts).length = 1 + ts.length * 65 := by
  unfold headsOf
  rw [List.length_cons]
  have : ∀ l : List Tx, (l.flatMap fun t => (List.range 65).map fun n => t.take n).length = l.length * 65 := by
    intro l
    induction l with
    | nil => rfl
    | cons a l ih => rw [List.flatMap_cons, List.length_append, ih]; simp; omega
  rw [this]
  omega
theorem headsOf_mem {ts : List Tx} (h : ∀ t ∈ ts, t.length ≤ 64) {p : Tx} {q : Tx} (hm : p ++ q ∈ ts) : p ∈ headsOf ts := by
  have hl := h _ hm
  rw [List.length_append] at hl
  refine List.mem_cons_of_mem _ (List.mem_flatMap.2 ⟨p ++ q, hm, List.mem_map.2 ⟨p.length, by simp; omega, by simp⟩⟩)
theorem bfs_small {ts : List Tx} {ord : List (List Tx)} (hg : GoodT ts) (hb : IsBfs nextT ts ord) : ord.length ≤ 1 + ts.length * 65 ∧ ∀ L ∈ ord, L.length ≤ ts.length := by
  have hall := hb.all (fun L => ∃ p ∈ headsOf ts, L = subs p ts) ⟨[], by simp [headsOf], rfl⟩ (by
    rintro _ ⟨p, hp, rfl⟩ y hy
    obtain ⟨n, hn, rfl⟩ := List.mem_map.1 hy
    have hn' := labelsT_mem.1 hn
    obtain ⟨t, ht⟩ := List.exists_mem_of_ne_nil _ hn'.2
    obtain ⟨c, hc, hm⟩ := subT_mem.1 ht
    refine ⟨p ++ [c], headsOf_mem (fun t ht => (hg.2.2 t ht).2) (q := t) (by rw [List.append_assoc]; exact subs_mem.1 hm), ?_⟩
    rw [subs_snoc, hc])
  refine ⟨?_, fun L hL => ?_⟩
  · have := nodup_sub (a := ord) (b := (headsOf ts).map fun p => subs p ts) hb.nodup (fun L hL => by
      obtain ⟨p, hp, rfl⟩ := hall L hL
      exact List.mem_map.2 ⟨p, hp, rfl⟩)
    rw [List.length_map, headsOf_len] at this
    exact this
  · obtain ⟨p, _, rfl⟩ := hall L hL
    exact subs_len p ts
theorem flat_len {X : Type} (f : X → List UInt8) (m : Nat) : ∀ (l : List X), (∀ x ∈ l, (f x).length ≤ m) → (l.flatMap f).length ≤ l.length * m
  | [], _ => by simp
  | x :: l, h => by
    have h1 := h x (by simp)
    have h2 := flat_len f m l (fun y hy => h y (by simp [hy]))
    rw [List.flatMap_cons, List.length_append, List.length_cons, Nat.add_mul]
    omega
/-- The bytes of a dictionary of few terms are few. -/
theorem dict_bytes {c : Int} {S : List St} {ts : List Tx} (h : IsDict (c, S) ts) (hn : ts.length ≤ 61) : (bytesD S).length ≤ 1048576 := by
  obtain ⟨hg, ord, hb, ho, hd⟩ := h
  obtain ⟨h1, h2⟩ := bfs_small hg hb
  have hS : S = ord.map (stOf ord) := congrArg Prod.snd hd
  have hord : ord.length ≤ 3966 := by omega
  have hst : ∀ s ∈ S, (stB s).length ≤ 3 + 61 * 4 := fun s hs => by
    rw [hS] at hs
    obtain ⟨L, hL, rfl⟩ := List.mem_map.1 hs
    have hl := Nat.le_trans (labels_le L) (h2 L hL)
    have hlen : (stOf ord L).2.length ≤ 61 := by simp only [stOf, List.length_map]; omega
    unfold stB
    rw [List.length_append]
    have e1 : (putL (2 * (stOf ord L).2.length + (if (stOf ord L).1 then 1 else 0))).length ≤ 3 := putL_length 2 _ (by split <;> omega)
    have e2 := flat_len arB 4 (stOf ord L).2 (fun a ha => by
      simp only [stOf, List.mem_map] at ha
      obtain ⟨n, _, rfl⟩ := ha
      unfold arB
      have : (putL (((ord.idxOf (subT n L) : Nat) : Int)).toNat).length ≤ 3 := putL_length 2 _ (by
        have := List.idxOf_le_length (a := subT n L) (l := ord)
        simp only [Int.toNat_natCast]
        omega)
      simp only [List.length_cons]
      omega)
    have e3 : (stOf ord L).2.length * 4 ≤ 61 * 4 := Nat.mul_le_mul_right _ hlen
    omega
  have hSl : S.length = ord.length := by rw [hS, List.length_map]
  have e1 : (putL S.length).length ≤ 3 := putL_length 2 _ (by omega)
  have e2 := flat_len stB (3 + 61 * 4) S hst
  have e3 : S.length * (3 + 61 * 4) ≤ 3966 * (3 + 61 * 4) := Nat.mul_le_mul_right _ (by omega)
  unfold bytesD dB four
  rw [List.length_append, List.length_append]
  simp only [List.length_cons, List.length_nil]
  omega
/-- The bytes come back. -/
theorem dict_back {c : Int} {S : List St} {ts : List Tx} (h : IsDict (c, S) ts) (hn : ts.length ≤ 61) : readO (bytesO S (dictT c S)).1 = ((c, S), 0) ∧ (bytesO S (dictT c S)).2 = 0 ∧ okD c S = true ∧ c = (ts.length : Int) := by
  have e : bytesO S (dictT c S) = (bytesD S, 0) := by rw [dictT_some h]; rfl
  rw [e]
  refine ⟨readO_some (by have := dict_bytes h hn; dsimp only; omega) (readD_some h rfl), rfl, ?_, ?_⟩
  · exact @decide_eq_true _ (Classical.propDecidable _) ⟨ts, h⟩
  · obtain ⟨_, ord, _, _, hd⟩ := h
    exact congrArg Prod.fst hd
end Go.Proofs.Ytbkedgpligcicaa

namespace Go.Proofs.Ytbkedgpligcicaa
open Go Go.RowKit
set_option linter.unusedVariables false

/-- There is an order. -/
theorem bfs_is {ts : List Tx} (hg : GoodT ts) : ∃ ord, IsBfs nextT ts ord := by
  refine ⟨_, 1 + ts.length * 65, rfl, ?_⟩
  have hall := bfs_all nextT (fun L => ∃ p ∈ headsOf ts, L = subs p ts) (by
    rintro _ ⟨p, hp, rfl⟩ y hy
    obtain ⟨n, hn, rfl⟩ := List.mem_map.1 hy
    have hn' := labelsT_mem.1 hn
    obtain ⟨t, ht⟩ := List.exists_mem_of_ne_nil _ hn'.2
    obtain ⟨c, hc, hm⟩ := subT_mem.1 ht
    refine ⟨p ++ [c], headsOf_mem (fun t ht => (hg.2.2 t ht).2) (q := t) (by rw [List.append_assoc]; exact subs_mem.1 hm), ?_⟩
    rw [subs_snoc, hc]) (1 + ts.length * 65) 0 [ts] (by
    intro x hx
    rw [List.mem_singleton.1 hx]
    exact ⟨[], by simp [headsOf], rfl⟩)
  have := nodup_sub (b := (headsOf ts).map fun p => subs p ts) (bfs_nodup nextT (1 + ts.length * 65) 0 [ts] (by simp)) (fun L hL => by
    obtain ⟨p, hp, rfl⟩ := hall L hL
    exact List.mem_map.2 ⟨p, hp, rfl⟩)
  rw [List.length_map, headsOf_len] at this
  exact this
theorem codeT_is (ts : List Tx) : ∃ c, CodeT ts c := by
  unfold CodeT
  rcases Nat.lt_or_ge 4096 ts.length with h | h
  · exact ⟨2, Or.inl ⟨h, rfl⟩⟩
  by_cases h1 : ∃ j, j < ts.length ∧ ¬ okT (ts.getD j [])
  · exact ⟨1, Or.inr (Or.inl ⟨h, h1, rfl⟩)⟩
  have h1' : ∀ j, j < ts.length → okT (ts.getD j []) := fun j hj => Classical.byContradiction fun hn => h1 ⟨j, hj, hn⟩
  by_cases h2 : ∃ j, 0 < j ∧ j < ts.length ∧ ltT (ts.getD (j - 1) []) (ts.getD j []) = false
  · exact ⟨17, Or.inr (Or.inr (Or.inl ⟨h, h1', h2, rfl⟩))⟩
  · refine ⟨0, Or.inr (Or.inr (Or.inr ⟨h, h1', fun j h0 hj => ?_, rfl⟩))⟩
    cases e : ltT (ts.getD (j - 1) []) (ts.getD j []) with
    | true => rfl
    | false => exact absurd ⟨j, h0, hj, e⟩ h2
/-- What a dictionary of few terms comes to. -/
theorem bld_cases {ts : List Tx} (hn : ts.length ≤ 61) (h0 : (bldO ts).2 = 0) : IsDict ((bldO ts).1.1, (bldO ts).1.2) ts := by
  obtain ⟨c, hc⟩ := codeT_is ts
  by_cases hc0 : c = 0
  · subst hc0
    obtain ⟨ord, ho⟩ := bfs_is hc.good
    have hs := (bfs_small hc.good ho).1
    have hr : BldR ts (dictOf ts ord) 0 := Or.inr ⟨hc, ord, ho, Or.inr ⟨by omega, rfl, rfl⟩⟩
    rw [bldO_is hr]
    exact ⟨hc.good, ord, ho, by omega, rfl⟩
  · have hr : BldR ts (0, []) c := Or.inl ⟨hc, hc0, rfl⟩
    rw [bldO_is hr] at h0
    exact absurd h0 hc0
end Go.Proofs.Ytbkedgpligcicaa

namespace Go.Proofs.Ytbkedgpligcicaa.Drw
open Go Go.RowKit
set_option linter.unusedVariables false

/-- The source of drawn choices, at its block. -/
def SrcAt (w : World) (b : Nat) (cv : Value) (at' sd : Int) : Prop := w.heap[b]? = some (.cells #[cv, .int .i64 at', .int .i64 sd] 107 (0, 0))
def Code (w : World) (b : Nat) (ao : Option Addr) (n : Nat) : Prop := ∀ j, j < n → ∃ blk off z, ao = some ⟨blk, off, none⟩ ∧ blk ≠ b ∧ 0 ≤ z ∧ z ≤ 255 ∧ w.cell? ⟨blk, off + j, none⟩ = some (.int .u8 z)
theorem SrcAt.cell {w : World} {b : Nat} {cv : Value} {a sd : Int} (h : SrcAt w b cv a sd) : w.cell? ⟨b, 0, none⟩ = some cv ∧ w.cell? ⟨b, 1, none⟩ = some (.int .i64 a) ∧ w.cell? ⟨b, 2, none⟩ = some (.int .i64 sd) := by
  unfold SrcAt at h
  simp [World.cell?, h]
theorem SrcAt.free {w : World} {b : Nat} {cv : Value} {a sd : Int} (h : SrcAt w b cv a sd) (j : Nat) : w.frozen? ⟨b, j, none⟩ = false := frozen_of_row w b j _ _ h
theorem SrcAt.lt {w : World} {b : Nat} {cv : Value} {a sd : Int} (h : SrcAt w b cv a sd) : b < w.heap.size := (Array.getElem?_eq_some_iff.1 h).1
theorem SrcAt.set1 {w : World} {b : Nat} {cv : Value} {a sd : Int} (h : SrcAt w b cv a sd) (a' : Int) : SrcAt (w.setCell ⟨b, 1, none⟩ (.int .i64 a')) b cv a' sd := by
  have := heap_setCell_same w b 1 _ _ (.int .i64 a') h
  simpa [SrcAt] using this
theorem SrcAt.set2 {w : World} {b : Nat} {cv : Value} {a sd : Int} (h : SrcAt w b cv a sd) (s' : Int) : SrcAt (w.setCell ⟨b, 2, none⟩ (.int .i64 s')) b cv a s' := by
  have := heap_setCell_same w b 2 _ _ (.int .i64 s') h
  simpa [SrcAt] using this
theorem grown_set (w : World) (b j : Nat) (u : Value) : w.grownBy (w.setCell ⟨b, j, none⟩ u) (some b) :=
  ⟨rfl, rfl, rfl, by simp, fun k _ hk => heap_setCell_other w ⟨b, j, none⟩ k u (fun e => hk (by simp [e]))⟩
theorem grown_drewN (w : World) (n : Nat) (row : Option Nat) : w.grownBy (w.drewN n) row := ⟨rfl, rfl, rfl, Nat.le_refl _, fun _ _ _ => rfl⟩
theorem Code.kept {w w' : World} {b : Nat} {ao : Option Addr} {n : Nat} (h : Code w b ao n) (hg : w.grownBy w' (some b)) : Code w' b ao n := by
  intro j hj
  obtain ⟨blk, off, z, h1, h2, h3, h4, h5⟩ := h j hj
  exact ⟨blk, off, z, h1, h2, h3, h4, hg.cell h5 (by simpa using h2)⟩

/-- A number from 0 to m was drawn, by at most k bytes. -/
def Drawn (w : World) (b : Nat) (cv : Value) (a k m : Int) (e : Ending) (w' : World) : Prop :=
  ∃ x a' sd' : Int, e = .returned (.int .i64 x) ∧ 0 ≤ x ∧ x ≤ m ∧ a ≤ a' ∧ a' ≤ a + k ∧ 0 ≤ sd' ∧ sd' < 2147483648 ∧ SrcAt w' b cv a' sd' ∧ w.grownBy w' (some b)

set_option maxHeartbeats 2000000 in
set_option maxRecDepth 100000 in
theorem byte_code (b : Nat) (ao : Option Addr) (n cap : Nat) (a sd : Int) (w : World) (hn : n ≤ 1048576) (ha0 : 0 ≤ a) (ha1 : a < n) (hs0 : 0 ≤ sd) (hs1 : sd < 2147483648)
    (hs : SrcAt w b (.slice ao n cap) a sd) (hc : Code w b ao n) :
    Calls Try.prog 65 #[.pointer (some ⟨b, 0, none⟩)] w fun e w' => Drawn w b (.slice ao n cap) a 1 255 e w' := by
  obtain ⟨blk, off, z, rfl, hne, hz0, hz1, hzc⟩ := hc a.toNat (by omega)
  obtain ⟨A, rfl⟩ := Int.eq_ofNat_of_zero_le ha0
  rw [Int.toNat_natCast] at hzc
  obtain ⟨c0, c1, c2⟩ := hs.cell
  have f1 := hs.free 1
  have f2 := hs.free 2
  have HS := hidd hs
  have hle : (A : Int) + 1 ≤ (n : Int) := by omega
  have hidx : (A : Int) + 1 - 1 < (n : Int) := by omega
  have hA : A < n := by omega
  clear hc hs
  go_enter Try.func65, Try.ntmps65
  go_wp2
  go_quiet (fail)
  go_wp2
  have HS2 : Hid (SrcAt ((w.setCell ⟨b, 1, none⟩ (.int .i64 ((A : Int) + 1))).drewN nq) b (.slice (some ⟨blk, off, none⟩) n cap) ((A : Int) + 1) sd) := HS.out.set1 _
  have HG2 : Hid (w.grownBy ((w.setCell ⟨b, 1, none⟩ (.int .i64 ((A : Int) + 1))).drewN nq) (some b)) := grown_trans (grown_set w b 1 _) (grown_drewN _ _ _)
  generalize (w.setCell ⟨b, 1, none⟩ (.int .i64 ((A : Int) + 1))).drewN nq = w2 at *
  have hzc2 : w2.cell? ⟨blk, off + A, none⟩ = some (.int .u8 z) := HG2.out.cell hzc (by simpa using hne)
  have Hzc := hidd hzc
  clear hzc c0 c1 c2 f1 f2
  obtain ⟨d0, d1, d2⟩ := HS2.out.cell
  have e1 := HS2.out.free 1
  have e2 := HS2.out.free 2
  go_region
  have hm0 : 0 ≤ (sd * 31 + z + 7) % 2147483648 := Int.emod_nonneg _ (by omega)
  have hm1 : (sd * 31 + z + 7) % 2147483648 < 2147483648 := Int.emod_lt_of_pos _ (by omega)
  generalize (sd * 31 + z + 7) % 2147483648 = sd' at *
  have HS3 : Hid (SrcAt (w2.setCell ⟨b, 2, none⟩ (.int .i64 sd')).drew b (.slice (some ⟨blk, off, none⟩) n cap) ((A : Int) + 1) sd') := HS2.out.set2 _
  have HG3 : Hid (w.grownBy (w2.setCell ⟨b, 2, none⟩ (.int .i64 sd')).drew (some b)) := grown_trans HG2.out (grown_trans (grown_set w2 b 2 _) (grown_drewN _ 1 _))
  generalize (w2.setCell ⟨b, 2, none⟩ (.int .i64 sd')).drew = w3 at *
  have hzc3 : w3.cell? ⟨blk, off + A, none⟩ = some (.int .u8 z) := HG3.out.cell Hzc.out (by simpa using hne)
  clear d0 d1 d2 e1 e2 hzc2 HS2 HG2 HS
  obtain ⟨d0, d1, d2⟩ := HS3.out.cell
  go_wp2
  go_quiet (fail)
  go_wp2
  go_ret
  unfold Drawn
  exact ⟨z, (A : Int) + 1, sd', rfl, hz0, hz1, by omega, by omega, hm0, hm1, HS3.out, grown_trans HG3.out (grown_drewN _ _ _)⟩

set_option maxHeartbeats 2000000 in
set_option maxRecDepth 100000 in
theorem byte_far (b : Nat) (ao : Option Addr) (n cap : Nat) (a sd : Int) (w : World) (hn : n ≤ 1048576) (ha0 : 0 ≤ a) (ha1 : ¬ a < n) (ha2 : a ≤ 1099511627776) (hs0 : 0 ≤ sd) (hs1 : sd < 2147483648)
    (hs : SrcAt w b (.slice ao n cap) a sd) :
    Calls Try.prog 65 #[.pointer (some ⟨b, 0, none⟩)] w fun e w' => Drawn w b (.slice ao n cap) a 1 255 e w' := by
  obtain ⟨c0, c1, c2⟩ := hs.cell
  have f1 := hs.free 1
  have HS := hidd hs
  have hle : ¬ a + 1 ≤ (n : Int) := by omega
  have hled : decide (a + 1 ≤ (n : Int)) = false := by simp; omega
  clear hs
  go_enter Try.func65, Try.ntmps65
  go_wp2
  go_quiet (fail)
  go_wp2
  have HS2 : Hid (SrcAt ((w.setCell ⟨b, 1, none⟩ (.int .i64 (a + 1))).drewN nq) b (.slice ao n cap) (a + 1) sd) := HS.out.set1 _
  have HG2 : Hid (w.grownBy ((w.setCell ⟨b, 1, none⟩ (.int .i64 (a + 1))).drewN nq) (some b)) := grown_trans (grown_set w b 1 _) (grown_drewN _ _ _)
  generalize (w.setCell ⟨b, 1, none⟩ (.int .i64 (a + 1))).drewN nq = w2 at *
  clear c0 c1 c2 f1
  obtain ⟨d0, d1, d2⟩ := HS2.out.cell
  have e2 := HS2.out.free 2
  by_cases hfar : (4000 : Int) + 4 * (n : Int) < a + 1
  · go_quiet (fail)
    go_wp2
    go_ret
    unfold Drawn
    exact ⟨0, a + 1, sd, rfl, by omega, by omega, by omega, by omega, hs0, hs1, HS2.out, grown_trans HG2.out (grown_drewN _ _ _)⟩
  · have hfd : decide ((4000 : Int) + 4 * (n : Int) < a + 1) = false := by simp; omega
    go_quiet (fail)
    go_wp2
    have hm0 : 0 ≤ (sd * 1103515245 + 12345) % 2147483648 := Int.emod_nonneg _ (by omega)
    have hm1 : (sd * 1103515245 + 12345) % 2147483648 < 2147483648 := Int.emod_lt_of_pos _ (by omega)
    go_ret
    unfold Drawn
    exact ⟨_, a + 1, _, rfl, by omega, by omega, by omega, by omega, hm0, hm1, SrcAt.set2 (w := w2.drewN nq) HS2.out _, grown_trans HG2.out (grown_trans (grown_drewN _ _ _) (grown_set (w2.drewN nq) b 2 _))⟩

theorem byte_any (b : Nat) (ao : Option Addr) (n cap : Nat) (a sd : Int) (w : World) (hn : n ≤ 1048576) (ha0 : 0 ≤ a) (ha2 : a ≤ 1099511627776) (hs0 : 0 ≤ sd) (hs1 : sd < 2147483648)
    (hs : SrcAt w b (.slice ao n cap) a sd) (hc : Code w b ao n) :
    Calls Try.prog 65 #[.pointer (some ⟨b, 0, none⟩)] w fun e w' => Drawn w b (.slice ao n cap) a 1 255 e w' := by
  by_cases h : a < n
  · exact byte_code b ao n cap a sd w hn ha0 h hs0 hs1 hs hc
  · exact byte_far b ao n cap a sd w hn ha0 h ha2 hs0 hs1 hs

set_option maxHeartbeats 2000000 in
theorem next_any (b : Nat) (ao : Option Addr) (n cap : Nat) (a sd m : Int) (w : World) (hn : n ≤ 1048576) (hm : 1 ≤ m) (hm2 : m ≤ 16777216) (ha0 : 0 ≤ a) (ha2 : a ≤ 549755813888) (hs0 : 0 ≤ sd) (hs1 : sd < 2147483648)
    (hs : SrcAt w b (.slice ao n cap) a sd) (hc : Code w b ao n) :
    Calls Try.prog 33 #[.pointer (some ⟨b, 0, none⟩), .int .i64 m] w fun e w' => Drawn w b (.slice ao n cap) a 3 (m - 1) e w' := by
  have HS := hidd hs
  have HC := hidd hc
  clear hs hc
  by_cases h1 : m ≤ 1
  · go_enter Try.func33, Try.ntmps33
    go_wp2
    go_ret
    unfold Drawn
    exact ⟨0, a, sd, rfl, by omega, by omega, by omega, by omega, hs0, hs1, HS.out, grown_refl _ _⟩
  · by_cases h2 : m ≤ 256
    · go_enter Try.func33, Try.ntmps33
      go_wp2_with fail
      refine (byte_any b ao n cap a sd _ hn ha0 (by omega) hs0 hs1 HS.out HC.out).mono ?_
      rintro e w1 ⟨x, a1, sd1, rfl, hx0, hx1, ha3, ha4, hsd0, hsd1, hs1', hg1⟩
      have hr0 := Int.emod_nonneg x (by omega : m ≠ 0)
      have hr1 := Int.emod_lt_of_pos x (by omega : 0 < m)
      have HR := hidd (And.intro hs1' hg1)
      clear hs1' hg1
      go_wp2
      go_ret
      unfold Drawn
      exact ⟨_, a1, sd1, rfl, by omega, by omega, by omega, by omega, hsd0, hsd1, HR.out.1, HR.out.2⟩
    · go_enter Try.func33, Try.ntmps33
      go_wp2_with fail
      refine (byte_any b ao n cap a sd _ hn ha0 (by omega) hs0 hs1 HS.out HC.out).mono ?_
      rintro e w1 ⟨x, a1, sd1, rfl, hx0, hx1, ha3, ha4, hsd0, hsd1, hs1', hg1⟩
      have HR := hidd (And.intro hs1' hg1)
      have HC1 := hidd (HC.out.kept hg1)
      clear hs1' hg1 HC HS
      go_wp2_with fail
      refine (byte_any b ao n cap a1 sd1 _ hn (by omega) (by omega) hsd0 hsd1 HR.out.1 HC1.out).mono ?_
      rintro e w2 ⟨y, a2, sd2, rfl, hy0, hy1, ha5, ha6, hsd2, hsd3, hs2', hg2⟩
      have HR2 := hidd (And.intro hs2' (grown_trans HR.out.2 hg2))
      have HC2 := hidd (HC1.out.kept hg2)
      clear hs2' hg2 HC1 HR
      go_wp2_with fail
      refine (byte_any b ao n cap a2 sd2 _ hn (by omega) (by omega) hsd2 hsd3 HR2.out.1 HC2.out).mono ?_
      rintro e w3 ⟨z, a3, sd3, rfl, hz0, hz1, ha7, ha8, hsd4, hsd5, hs3', hg3⟩
      have HR3 := hidd (And.intro hs3' (grown_trans HR2.out.2 hg3))
      clear hs3' hg3 HC2 HR2
      have hr0 := Int.emod_nonneg (x * 65536 + y * 256 + z) (by omega : m ≠ 0)
      have hr1 := Int.emod_lt_of_pos (x * 65536 + y * 256 + z) (by omega : 0 < m)
      go_wp2
      go_ret
      unfold Drawn
      exact ⟨_, a3, sd3, rfl, by omega, by omega, by omega, by omega, hsd4, hsd5, HR3.out.1, HR3.out.2⟩

def strB (m : Nat) : Value → Bool
  | .string s => decide (s.size ≤ m)
  | _ => false
theorem strB_ok {m : Nat} {v : Value} (h : strB m v = true) : ∃ t, v = .string t ∧ t.size ≤ m := by
  cases v with
  | string s => exact ⟨s, rfl, by simpa [strB] using h⟩
  | _ => cases h
theorem table_str {w w1 : World} {C : Array Value} {t : TypeId} {b : Nat} (hg : (w.alloc (.cells C t)).grownBy w1 (some b)) (hb : b < w.heap.size) (m : Nat) (hC : C.all (strB m) = true) (j : Nat) (hj : j < C.size) :
    ∃ t, w1.cell? ⟨w.heap.size, j, none⟩ = some (.string t) ∧ t.size ≤ m := by
  have h1 : (w.alloc (.cells C t)).cell? ⟨w.heap.size, j, none⟩ = some C[j] := by
    rw [World.cell?_alloc_at (hn := rfl)]
    exact Array.getElem?_eq_getElem hj
  have h2 := hg.cell h1 (by simp; omega)
  rw [Array.all_eq_true] at hC
  obtain ⟨s, hs, hm⟩ := strB_ok (hC j hj)
  rw [hs] at h2
  exact ⟨s, h2, hm⟩
theorem SrcAt.alloc {w : World} {b : Nat} {cv : Value} {a sd : Int} (h : SrcAt w b cv a sd) (o : Obj) : SrcAt (w.alloc o) b cv a sd := by
  unfold SrcAt at *
  rw [Below.heap_alloc w o b (Array.getElem?_eq_some_iff.1 h).1]
  exact h
theorem Code.alloc {w : World} {b : Nat} {ao : Option Addr} {n : Nat} (h : Code w b ao n) (o : Obj) : Code (w.alloc o) b ao n := h.kept (World.grownBy_alloc w o (some b))
theorem SrcAt.kept {w w' : World} {b : Nat} {cv : Value} {a sd : Int} (h : SrcAt w b cv a sd) {row : Option Nat} (hg : w.grownBy w' row) (hne : row ≠ some b) : SrcAt w' b cv a sd := by
  unfold SrcAt at *
  rw [hg.block b (Array.getElem?_eq_some_iff.1 h).1 (fun e => hne e.symm)]
  exact h
/-- The bytes l lie at the head of block g. -/
def BytesAtC (w : World) (g : Nat) (l : List UInt8) : Prop := ∀ j (hj : j < l.length), w.cell? ⟨g, j, none⟩ = some (.int .u8 (l[j].toNat : Int))
theorem BytesAtC.text {w : World} {g : Nat} {l : List UInt8} (h : BytesAtC w g l) (k cap : Nat) (hk : l.length = k) :
    (convert 22 9 (.slice (some ⟨g, 0, none⟩) k cap)).run Try.prog w = .ok (.string ⟨l.toArray⟩) w := by
  subst hk
  exact run_convert_bytes_back w 22 9 5 ⟨g, 0, none⟩ cap l Try.underlying22 Try.underlying5 Try.underlying9 fun j hj => by rw [add_head]; exact h j hj
theorem bytes_atC (l : List UInt8) (j : Nat) (hj : j < l.length) : (Lib.byteCells l)[j]? = some (.int .u8 (l[j].toNat : Int)) := by
  simp [Lib.byteCells, hj]
theorem Try.info5 : (Try.prog.info? 5).map (fun i => (i.zero, i.size, i.bytes)) = some (some (.int .u8 0), 1, 1) := by kernel_rfl
theorem size_mk (l : List UInt8) : (⟨l.toArray⟩ : ByteArray).size = l.length := by rw [Lib.size_eq]
set_option maxHeartbeats 1000000 in
theorem repeat_any (t : ByteArray) (N : Nat) (w : World) (ht : t.size ≤ 16) (hN : N ≤ 100000) :
    Calls Try.prog 35 #[.string t, .int .i64 (N : Int)] w fun e w' => ∃ r : ByteArray, e = .returned (.string r) ∧ r.size ≤ t.size * N ∧ Below w.heap.size w w' := by
  obtain ⟨i0, hi, hz0, hz1, hz2⟩ := info_parts Try.info5
  go_enter Try.func35, Try.ntmps35
  go_wp2
  go_loopw [5, 6] (fun v i wr => ∃ (k : Nat) (L : List UInt8), k ≤ N ∧ i = .int .i64 (k : Int) ∧ L.length ≤ t.size * k ∧ wr.ownsRow w.heap.size 5 1 v L.length (Lib.byteCells L) ∧ Below w.heap.size w wr ∧ v ≠ .slice none 0 0) (fun _ i _ => N - (intOf i).toNat)
  case atStart => exact ⟨0, [], Nat.zero_le _, rfl, by simp, own_empty w _, (Below.refl _ _).alloc (Nat.le_refl _) _, by simp⟩
  case round =>
    obtain ⟨k, L, hk, rfl, hL, hown, hbel, hnn⟩ := hrel
    have hL2 : L.length ≤ 16 * k := Nat.le_trans hL (Nat.mul_le_mul_right k ht)
    have HL := hidd hL
    clear hL
    have HO := hidd hown
    have HB := hidd hbel
    have hzr := hbel.size
    by_cases hlt : k < N
    · clear hown hbel
      go_wp2_with (at_builtin; refine Lib.wpList_append_own_string _ rfl _ _ 22 9 rfl w.heap.size 5 i0 Try.underlying22 Try.underlying9 hi hz0 hz1 hz2 _ _ _ rfl HO.out t rfl ?c1 ?c2 hzr ?_)
      case c1 => unfold maxLen; omega
      case c2 => omega
      intro v' w2 hown' hgrow hne
      have R : Hid (w2.ownsRow w.heap.size 5 1 v' (L ++ t.data.toList).length (Lib.byteCells (L ++ t.data.toList)) ∧ Below w.heap.size w w2) := by
        refine ⟨?_, HB.out.grown hgrow hzr (own_block HO.out)⟩
        rw [List.length_append, ← Lib.size_eq, Lib.byteCells_append]
        exact hown'
      have hne' : Hid (v' ≠ .slice none 0 0) := hne
      clear hown' hgrow hne
      go_wp2
      go_roundw
      case rel => exact ⟨k + 1, L ++ t.data.toList, by omega, by go_num, by rw [List.length_append, ← Lib.size_eq, Nat.mul_succ]; exact Nat.add_le_add_right HL.out _, R.out.1, R.out.2, hne'.out⟩
      case measure => simp [intOf]; omega
    · rcases own_cases hown with ⟨rfl, h0⟩ | ⟨g, cap, rfl, hbg, hgl⟩
      · exact absurd rfl hnn
      · have hbs : BytesAtC wr g L := fun j hj => by rw [hown.cellAt j (by omega)]; exact bytes_atC L j hj
        have hcv := hbs.text L.length cap rfl
        clear hbs hown hbel
        go_wp2
        go_ret
        exact ⟨⟨L.toArray⟩, rfl, by rw [size_mk]; exact Nat.le_trans HL.out (Nat.mul_le_mul_left _ hk), HB.out⟩
set_option maxHeartbeats 1000000 in
theorem source_any (ao : Option Addr) (n cap : Nat) (w : World) (hn : n ≤ 1048576) :
    Calls Try.prog 31 #[.slice ao n cap] w fun e w' => e = .returned (.pointer (some ⟨w.heap.size, 0, none⟩)) ∧ SrcAt w' w.heap.size (.slice ao n cap) 0 ((n : Int) % 1000) ∧ w.grownBy w' none := by
  go_enter Try.func31, Try.ntmps31
  go_wp2
  go_ret
  exact ⟨rfl, heap_alloc_new w _, World.grownBy_alloc w _ none⟩
def CodeIn (w : World) (ao : Option Addr) (n : Nat) : Prop := ∀ j, j < n → ∃ blk off z, ao = some ⟨blk, off, none⟩ ∧ blk < w.heap.size ∧ 0 ≤ z ∧ z ≤ 255 ∧ w.cell? ⟨blk, off + j, none⟩ = some (.int .u8 z)
theorem CodeIn.code {w w' : World} {ao : Option Addr} {n : Nat} (h : CodeIn w ao n) (hg : w.grownBy w' none) : Code w' w.heap.size ao n := fun j hj => by
  obtain ⟨blk, off, z, h1, h2, h3, h4, h5⟩ := h j hj
  exact ⟨blk, off, z, h1, by omega, h3, h4, hg.cell h5 (by simp)⟩
theorem CodeIn.below {w w' : World} {ao : Option Addr} {n : Nat} (h : CodeIn w ao n) (hb : Below w.heap.size w w') : CodeIn w' ao n := fun j hj => by
  obtain ⟨blk, off, z, h1, h2, h3, h4, h5⟩ := h j hj
  exact ⟨blk, off, z, h1, Nat.lt_of_lt_of_le h2 hb.size, h3, h4, by rw [hb.cell (p := ⟨blk, off + j, none⟩) h2]; exact h5⟩
theorem below_src {w w1 w2 : World} (h : w.grownBy w1 none) (k : w1.grownBy w2 (some w.heap.size)) : Below w.heap.size w w2 :=
  ⟨k.os.trans h.os, k.tape.trans h.tape, k.output.trans h.output, Nat.le_trans h.size k.size, fun i hi => by rw [k.block i (Nat.lt_of_lt_of_le hi h.size) (by simp; omega), h.block i hi (by simp)]⟩
/-- What is written into a newer block is none of the old ones'. -/
theorem grown_new {w w1 w2 : World} {b : Nat} {row : Option Nat} (h : w.grownBy w1 (some b)) (k : w1.grownBy w2 row) (hr : ∀ g, row = some g → w.heap.size ≤ g) : w.grownBy w2 (some b) :=
  ⟨k.os.trans h.os, k.tape.trans h.tape, k.output.trans h.output, Nat.le_trans h.size k.size, fun i hi hb => by
    rw [k.block i (Nat.lt_of_lt_of_le hi h.size) (fun e => by have := hr i e.symm; omega), h.block i hi hb]⟩
end Go.Proofs.Ytbkedgpligcicaa.Drw

namespace Go.Proofs.Ytbkedgpligcicaa
open Go Go.RowKit
set_option linter.unusedVariables false

/-- The digits of a number, behind what is there. -/
def mkD : Nat → Nat → List UInt8 → List UInt8
  | 0, _, out => out
  | f + 1, k, out => if k = 0 then out else mkD f (k / 10) ((48 + UInt8.ofNat (k % 10)) :: out)
def mkText (k : Int) : ByteArray := if k ≤ 0 then ⟨#[109, 48]⟩ else ⟨(109 :: mkD k.toNat k.toNat []).toArray⟩
theorem mkD_len : ∀ f k out, (mkD f k out).length ≤ out.length + f
  | 0, _, out => by simp [mkD]
  | f + 1, k, out => by
    rw [mkD]
    split
    · omega
    · have := mkD_len f (k / 10) ((48 + UInt8.ofNat (k % 10)) :: out); rw [List.length_cons] at this; omega
theorem mkD_zero (f : Nat) (out : List UInt8) : mkD f 0 out = out := by cases f <;> simp [mkD]

theorem ba_cons (b : UInt8) (l : List UInt8) : (⟨#[b]⟩ : ByteArray) ++ ⟨l.toArray⟩ = ⟨(b :: l).toArray⟩ := by
  apply ByteArray.ext
  simp
theorem digit_nat (n : Nat) : ((48 + UInt8.ofNat (n % 10)).toNat : Int) = 48 + (n : Int) % 10 := by
  have h : n % 10 < 10 := Nat.mod_lt _ (by omega)
  rw [UInt8.toNat_add, UInt8.toNat_ofNat']
  have e : (48 : UInt8).toNat = 48 := rfl
  rw [e]
  omega

set_option maxHeartbeats 1000000 in
theorem markText_any (k : Int) (w : World) (h0 : 1 ≤ k) (h1 : k ≤ 4398046511104) :
    Calls Try.prog 55 #[.int .i64 k] w fun e w' => e = .returned (.string (mkText k)) ∧ Below w.heap.size w w' := by
  have HT : Hid (mkText k = ⟨(109 :: mkD k.toNat k.toNat []).toArray⟩) := by show _ = _; rw [mkText, if_neg (by omega)]
  obtain ⟨K, rfl⟩ := Int.eq_ofNat_of_zero_le (by omega : 0 ≤ k)
  rw [Int.toNat_natCast] at HT
  obtain ⟨A, hA⟩ : ∃ A, A = mkD K K [] := ⟨_, rfl⟩
  rw [← hA] at HT
  have HS : Hid (mkD K K [] = A) := hA.symm
  clear hA
  go_enter Try.func55, Try.ntmps55
  go_wp2
  go_loopw [0, 3] (fun kv ov wr => ∃ (n f : Nat) (out : List UInt8), n ≤ K ∧ n ≤ f ∧ out.length + f ≤ K ∧ kv = .int .i64 (n : Int) ∧ ov = .string ⟨out.toArray⟩ ∧ mkD f n out = A ∧ Below w.heap.size w wr) (fun kv _ _ => (intOf kv).toNat)
  case atStart => exact ⟨K, K, [], Nat.le_refl _, Nat.le_refl _, by simp, rfl, rfl, HS.out, Below.refl _ _⟩
  case round =>
    obtain ⟨n, f, out, hn, hnf, hof, rfl, rfl, hd, hbel⟩ := hrel
    by_cases hp : 0 < n
    · obtain ⟨g, rfl⟩ : ∃ g, f = g + 1 := ⟨f - 1, by omega⟩
      have Hd : Hid (mkD g (n / 10) ((48 + UInt8.ofNat (n % 10)) :: out) = A) := by show _ = _; rw [mkD, if_neg (by omega)] at hd; exact hd
      clear hd
      have hcv : ∀ (wx : World), (convert 22 9 (.slice (some ⟨wr.heap.size, 0, none⟩) 1 1)).run Try.prog (wr.alloc (.cells #[.int .u8 (48 + (n : Int) % 10)] 5)) = .ok (.string ⟨#[48 + UInt8.ofNat (n % 10)]⟩) (wr.alloc (.cells #[.int .u8 (48 + (n : Int) % 10)] 5)) := fun wx => by
        refine run_convert_bytes_back _ 22 9 5 ⟨wr.heap.size, 0, none⟩ 1 [48 + UInt8.ofNat (n % 10)] Try.underlying22 Try.underlying5 Try.underlying9 fun j hj => ?_
        obtain rfl : j = 0 := by simpa using hj
        rw [add_head, World.cell?_alloc_at (hn := rfl)]
        have hd := digit_nat n
        simp only [List.getElem_cons_zero]
        rw [hd]
        simp
      have hcv1 := hcv wr
      clear hcv
      go_wp2
      go_roundw
      case rel => exact ⟨n / 10, g, (48 + UInt8.ofNat (n % 10)) :: out, by omega, by omega, by rw [List.length_cons]; omega, by go_num, by rw [ba_cons], Hd.out, hbel.alloc hbel.size _⟩
      case measure => simp [intOf]; omega
    · have HN : Hid (n = 0) := by show n = 0; omega
      have HA : Hid (A = out) := by show _ = _; rw [← hd, HN.out, mkD_zero]
      clear hd
      go_wp2
      go_ret
      rw [HT.out, HA.out, ← ba_cons]
      exact ⟨rfl, hbel⟩
end Go.Proofs.Ytbkedgpligcicaa
