import Derived.Test.YtgoklapafidpkaaGreatDoorDocOKJ08
import Derived.Test.YtgoklapafidpkaaGreatDoorDocOKJ03
namespace Go.Proofs.YtgoklapafidpkaaGreatDoor
open Go Go.RowKit
set_option linter.unusedVariables false
set_option maxRecDepth 100000

theorem own9_lt {w : World} {base e sz g n cap : Nat} {xs : List Value} (h : w.ownsRow base e sz (.slice (some ⟨g, 0, none⟩) n cap) n xs) : g < w.heap.size := by
  rcases h.2 with ⟨h', _⟩ | ⟨g', cap', cur, h', _, hg, _⟩
  · simp at h'
  · cases h'
    exact (Array.getElem?_eq_some_iff.1 hg).1
theorem own9_below {w w' : World} {base e sz g cap n : Nat} {xs : List Value} (h : w.ownsRow base e sz (.slice (some ⟨g, 0, none⟩) n cap) n xs) (hb : Below w.heap.size w w') : w'.ownsRow base e sz (.slice (some ⟨g, 0, none⟩) n cap) n xs := by
  have hl := own9_lt h
  refine ⟨h.1, ?_⟩
  rcases h.2 with ⟨h', _⟩ | ⟨g', cap', cur, h1, h2, h3, h4⟩
  · simp at h'
  · cases h1
    exact Or.inr ⟨g, cap, cur, rfl, h2, (hb.block g hl).trans h3, h4⟩
/-- One field, as nine cells tell it, what it holds behind B. -/
def FdC (w : World) (B : Nat) (c : Nat → Option Value) (f : Fd) : Prop :=
  c 0 = some (.string (bs f.name)) ∧ c 1 = some (.int .i64 f.kind) ∧ c 2 = some (.bool f.bf) ∧ c 3 = some (.bool f.bsm) ∧ c 4 = some (.bool f.bp) ∧
  (∃ gS cS, c 5 = some (.slice (some ⟨gS, 0, none⟩) f.stops.length cS) ∧ B < gS ∧ HoldS w (some ⟨gS, 0, none⟩) f.stops) ∧
  (∃ gY cY, c 6 = some (.slice (some ⟨gY, 0, none⟩) f.syns.length cY) ∧ B < gY ∧ HoldY w (some ⟨gY, 0, none⟩) f.syns) ∧
  c 7 = some (.int .i64 f.lo) ∧ c 8 = some (.int .i64 f.hi)
theorem FdC.keep {w w' : World} {B : Nat} {c : Nat → Option Value} {f : Fd} (h : FdC w B c f) (hk : ∀ b, B < b → b < w.heap.size → w'.heap[b]? = w.heap[b]?) : FdC w' B c f := by
  obtain ⟨h0, h1, h2, h3, h4, ⟨gS, cS, h5, h5b, hS⟩, ⟨gY, cY, h6, h6b, hY⟩, h7, h8⟩ := h
  exact ⟨h0, h1, h2, h3, h4, ⟨gS, cS, h5, h5b, hS.keep fun hl => hk gS h5b hl⟩, ⟨gY, cY, h6, h6b, hY.keep fun hl => hk gY h6b hl⟩, h7, h8⟩
def CellsF (w : World) (B : Nat) (zs : List Value) (l : List Fd) (k : Nat) : Prop := zs.length = k * 9 ∧ ∀ j, j < k → FdC w B (fun i => zs[j * 9 + i]?) (l.getD j fd0)
theorem CellsF.keep {w w' : World} {B : Nat} {zs : List Value} {l : List Fd} {k : Nat} (h : CellsF w B zs l k) (hk : ∀ b, B < b → b < w.heap.size → w'.heap[b]? = w.heap[b]?) : CellsF w' B zs l k := ⟨h.1, fun j hj => (h.2 j hj).keep hk⟩
theorem FdC.congr {w : World} {B : Nat} {c c' : Nat → Option Value} {f : Fd} (h : FdC w B c f) (hc : ∀ i, i < 9 → c' i = c i) : FdC w B c' f := by
  obtain ⟨h0, h1, h2, h3, h4, ⟨gS, cS, h5, h5b, hS⟩, ⟨gY, cY, h6, h6b, hY⟩, h7, h8⟩ := h
  exact ⟨(hc 0 (by omega)).trans h0, (hc 1 (by omega)).trans h1, (hc 2 (by omega)).trans h2, (hc 3 (by omega)).trans h3, (hc 4 (by omega)).trans h4, ⟨gS, cS, (hc 5 (by omega)).trans h5, h5b, hS⟩, ⟨gY, cY, (hc 6 (by omega)).trans h6, h6b, hY⟩, (hc 7 (by omega)).trans h7, (hc 8 (by omega)).trans h8⟩
theorem CellsF.snoc {w : World} {B : Nat} {zs ys : List Value} {l : List Fd} {k : Nat} (h : CellsF w B zs l k) (hy : ys.length = 9) (hv : FdC w B (fun i => ys[i]?) (l.getD k fd0)) : CellsF w B (zs ++ ys) l (k + 1) := by
  have hl := h.1
  refine ⟨by rw [List.length_append, h.1, hy]; omega, fun j hj => ?_⟩
  by_cases e : j = k
  · subst e
    refine hv.congr fun i hi => ?_
    show (zs ++ ys)[j * 9 + i]? = ys[i]?
    rw [List.getElem?_append_right (by omega), hl, Nat.add_sub_cancel_left]
  · refine (h.2 j (by omega)).congr fun i hi => ?_
    show (zs ++ ys)[j * 9 + i]? = zs[j * 9 + i]?
    rw [List.getElem?_append_left (by omega)]
theorem holdF_of {w : World} {base g : Nat} {l : List Fd} {zs : List Value} (h : w.ownsRow base 79 9 (.slice (some ⟨g, 0, none⟩) l.length l.length) l.length zs) (hc : CellsF w g zs l l.length) : HoldF w (some ⟨g, 0, none⟩) l := by
  refine Or.inr ⟨g, 0, rfl, own9_lt h, fun j hj => ?_⟩
  have e : ∀ i, i < 9 → w.cell? ⟨g, 0 + j * 9 + i, none⟩ = zs[j * 9 + i]? := fun i hi => by
    rw [Nat.zero_add]
    exact h.cellAt (j * 9 + i) (by have := h.1; have := hc.1; omega)
  obtain ⟨h0, h1, h2, h3, h4, ⟨gS, cS, h5, _, hS⟩, ⟨gY, cY, h6, _, hY⟩, h7, h8⟩ := hc.2 j hj
  exact ⟨(e 0 (by omega)).trans h0, (e 1 (by omega)).trans h1, (e 2 (by omega)).trans h2, (e 3 (by omega)).trans h3, (e 4 (by omega)).trans h4, ⟨_, cS, (e 5 (by omega)).trans h5, hS⟩, ⟨_, cY, (e 6 (by omega)).trans h6, hY⟩, (e 7 (by omega)).trans h7, (e 8 (by omega)).trans h8⟩
/-- A row of fields of its own at g, what they hold behind it. -/
def FRow (w : World) (g : Nat) (l : List Fd) : Prop := ∃ base zs, w.ownsRow base 79 9 (.slice (some ⟨g, 0, none⟩) l.length l.length) l.length zs ∧ CellsF w g zs l l.length
theorem FRow.hold {w : World} {g : Nat} {l : List Fd} (h : FRow w g l) : HoldF w (some ⟨g, 0, none⟩) l := by
  obtain ⟨base, zs, h1, h2⟩ := h
  exact holdF_of h1 h2
theorem FRow.keep {w w' : World} {g : Nat} {l : List Fd} (h : FRow w g l) (hk : ∀ b, g ≤ b → b < w.heap.size → w'.heap[b]? = w.heap[b]?) : FRow w' g l := by
  obtain ⟨base, zs, h1, h2⟩ := h
  have hl := own9_lt h1
  refine ⟨base, zs, ⟨h1.1, ?_⟩, h2.keep fun b hb hb2 => hk b (by omega) hb2⟩
  rcases h1.2 with ⟨h', _⟩ | ⟨g', cap', cur, e1, e2, e3, e4⟩
  · simp at h'
  · cases e1
    exact Or.inr ⟨g, l.length, cur, rfl, e2, (hk g (Nat.le_refl _) hl).trans e3, e4⟩
set_option maxHeartbeats 8000000 in
theorem toFieldDefs_any (a : Option Addr) (cap : Nat) (l : List Fd) (w : World) (hn : l.length ≤ 1048576) (hA : ∀ i, FdSz (l.getD i fd0)) (hS : HoldF w a l) :
    Calls Tryz.prog 32 #[.slice a l.length cap] w fun e w' => e = .returned (.slice (some ⟨w.heap.size, 0, none⟩) l.length l.length) ∧ FRow w' w.heap.size l ∧ w.heap.size < w'.heap.size ∧ Below w.heap.size w w' := by
  obtain ⟨i0, hi, hz0, hz1, hz2⟩ := info_parts Tryz.infoFd
  have HS := hidd hS
  have HA := hidd hA
  clear hS hA
  go_enter Tryz.func32, Tryz.ntmps32
  go_wp2_with (at_make; refine wpList_make_full _ rfl _ _ 31 rfl w.heap.size 79 i0 (.agg #[.string ⟨#[]⟩, .int .i64 0, .bool false, .bool false, .bool false, .slice none 0 0, .slice none 0 0, .int .i64 0, .int .i64 0]) 9 Tryz.underlying31 hi hz0 hz1 _ _ _ _ l.length rfl rfl (by omega) (by omega) ?b2 ?b3 (Nat.le_refl _) ?_)
  case b2 => (first | omega | (rw [hz2]; omega))
  case b3 => unfold maxLen; omega
  intro w0 hown0 hgrow0
  generalize (madeCells #[.string ⟨#[]⟩, .int .i64 0, .bool false, .bool false, .bool false, .slice none 0 0, .slice none 0 0, .int .i64 0, .int .i64 0] (l.length * 9)).toList = xs at hown0
  have hxl : xs.length = l.length * 9 := by have := hown0.1; omega
  have HO0 := hidd hown0
  have HB0 : Hid (Below w.heap.size w w0) := (Below.refl _ _).grown hgrow0 (Nat.le_refl _) (fun k h => by cases h)
  clear hown0 hgrow0
  go_wp2
  go_loopw [4] (fun i wr => ∃ (k : Nat) (zs : List Value), k ≤ l.length ∧ i = .int .i64 k ∧ wr.ownsRow w.heap.size 79 9 (.slice (some ⟨w.heap.size, 0, none⟩) l.length l.length) l.length (zs ++ xs.drop (k * 9)) ∧ CellsF wr w.heap.size zs l k ∧ Below w.heap.size w wr) (fun i _ => l.length - (intOf i).toNat)
  case atStart => exact ⟨0, [], Nat.zero_le _, rfl, HO0.out, ⟨rfl, fun j hj => absurd hj (by omega)⟩, HB0.out⟩
  case round =>
    obtain ⟨k, zs, hk, rfl, hown, hcs, hbel⟩ := hrel
    have HO := hidd hown
    have HB := hidd hbel
    have HC := hidd hcs
    have hrl : w.heap.size < wr.heap.size := own9_lt hown
    clear hcs
    by_cases hlt : k < l.length
    · obtain ⟨b, off, rfl, hbl, hc⟩ := (HS.out.below hbel).resolve_left (fun h => by rw [h] at hlt; simp at hlt)
      obtain ⟨x0, x1, x2, x3, x4, ⟨aS, cS, x5, hSt⟩, ⟨aY, cY, x6, hYt⟩, x7, x8⟩ := hc k hlt
      have hal := HA.out k
      clear hown hbel hc
      obtain ⟨f, hf⟩ : ∃ f, l.getD k fd0 = f := ⟨_, rfl⟩
      rw [hf] at x0 x1 x2 x3 x4 x5 x6 x7 x8 hSt hYt hal
      have Hf := hidd hf
      clear hf
      have HV := hidd (toFieldDef_any f aS aY cS cY wr hal.2.1 hal.2.2.1 hSt hYt)
      clear hSt hYt hal
      go_wp2_with fail
      refine HV.out.mono ?_
      rintro e w2 ⟨gS, gY, rfl, hgS, hgY, hrS, hrY, hb2⟩
      have hown2 := own9_below HO.out hb2
      have HB2 := hidd (HB.out.trans (hb2.mono HB.out.size))
      have HC2 := hidd (CellsF.snoc (ys := [.string (bs f.name), .int .i64 f.kind, .bool f.bf, .bool f.bsm, .bool f.bp, .slice (some ⟨gS, 0, none⟩) f.stops.length f.stops.length, .slice (some ⟨gY, 0, none⟩) f.syns.length f.syns.length, .int .i64 f.lo, .int .i64 f.hi]) (HC.out.keep fun x _ hx => hb2.block x hx) rfl (by rw [Hf.out]; exact ⟨rfl, rfl, rfl, rfl, rfl, ⟨gS, _, rfl, by omega, hrS⟩, ⟨gY, _, rfl, by omega, hrY⟩, rfl, rfl⟩))
      clear x0 x1 x2 x3 x4 x5 x6 x7 x8
      have f0 := hown2.frozenAt (k * 9)
      have f1 := hown2.frozenAt (k * 9 + 1)
      have f2 := hown2.frozenAt (k * 9 + 2)
      have f3 := hown2.frozenAt (k * 9 + 3)
      have f4 := hown2.frozenAt (k * 9 + 4)
      have f5 := hown2.frozenAt (k * 9 + 5)
      have f6 := hown2.frozenAt (k * 9 + 6)
      have f7 := hown2.frozenAt (k * 9 + 7)
      have f8 := hown2.frozenAt (k * 9 + 8)
      have hzl := HC.out.1
      have hlen : (zs ++ xs.drop (k * 9)).length = l.length * 9 := by rw [List.length_append, hzl, List.length_drop]; omega
      have hex : ∀ j, j < l.length * 9 → ∃ u, w2.cell? ⟨w.heap.size, j, none⟩ = some u := fun j hj => by
        rw [hown2.cellAt j hj]
        exact ⟨_, List.getElem?_eq_getElem (by omega)⟩
      obtain ⟨u0, q0⟩ := hex (k * 9) (by omega)
      obtain ⟨u1, q1⟩ := hex (k * 9 + 1) (by omega)
      obtain ⟨u2, q2⟩ := hex (k * 9 + 2) (by omega)
      obtain ⟨u3, q3⟩ := hex (k * 9 + 3) (by omega)
      obtain ⟨u4, q4⟩ := hex (k * 9 + 4) (by omega)
      obtain ⟨u5, q5⟩ := hex (k * 9 + 5) (by omega)
      obtain ⟨u6, q6⟩ := hex (k * 9 + 6) (by omega)
      obtain ⟨u7, q7⟩ := hex (k * 9 + 7) (by omega)
      obtain ⟨u8, q8⟩ := hex (k * 9 + 8) (by omega)
      have HO2 := hidd hown2
      have HSet := hidd (setNine zs xs k l.length (.string (bs f.name)) (.int .i64 f.kind) (.bool f.bf) (.bool f.bsm) (.bool f.bp) (.slice (some ⟨gS, 0, none⟩) f.stops.length f.stops.length) (.slice (some ⟨gY, 0, none⟩) f.syns.length f.syns.length) (.int .i64 f.lo) (.int .i64 f.hi) hzl hxl hlt)
      clear hown2 hb2 hex hlen HO HB HC HV hrS hrY
      dsimp only
      go_wp2
      go_roundw
      case rel =>
        have s0 := HO2.out.stored (k * 9) (.string (bs f.name))
        have s1 := s0.1.stored (k * 9 + 1) (.int .i64 f.kind)
        have s2 := s1.1.stored (k * 9 + 2) (.bool f.bf)
        have s3 := s2.1.stored (k * 9 + 3) (.bool f.bsm)
        have s4 := s3.1.stored (k * 9 + 4) (.bool f.bp)
        have s5 := s4.1.stored (k * 9 + 5) (.slice (some ⟨gS, 0, none⟩) f.stops.length f.stops.length)
        have s6 := s5.1.stored (k * 9 + 6) (.slice (some ⟨gY, 0, none⟩) f.syns.length f.syns.length)
        have s7 := s6.1.stored (k * 9 + 7) (.int .i64 f.lo)
        have s8 := s7.1.stored (k * 9 + 8) (.int .i64 f.hi)
        have st := s8.1
        rw [HSet.out] at st
        refine ⟨k + 1, _, by omega, by go_num, st, HC2.out.keep (fun x hx _ => ?_), ?_⟩
        · iterate 9 rw [heap_set_oth _ _ _ _ _ (by omega)]
        · iterate 9 refine Below.setCell ?_ (by dsimp only; omega) _
          exact HB2.out
      case measure => simp [intOf]; omega
    · obtain rfl : k = l.length := by omega
      have HF := HO.out
      rw [List.drop_of_length_le (by omega), List.append_nil] at HF
      have HD : Hid (FRow wr w.heap.size l) := ⟨_, _, HF, HC.out⟩
      clear HF hown hbel
      go_wp2
      go_ret
      exact ⟨rfl, HD.out, hrl, HB.out⟩
set_option maxHeartbeats 4000000 in
theorem toSchema_any (a : Option Addr) (cap : Nat) (l : List Fd) (w : World) (hn : l.length ≤ 1048576) (hA : ∀ i, FdSz (l.getD i fd0)) (hS : HoldF w a l) :
    Calls Tryz.prog 9 #[.agg #[.slice a l.length cap]] w fun e w' => ∃ g, e = .returned (.agg #[.slice (some ⟨g, 0, none⟩) l.length l.length]) ∧ w.heap.size ≤ g ∧ FRow w' g l ∧ Below w.heap.size w w' := by
  have HS := hidd hS
  have HT := hidd (fun W (h : HoldF W a l) => toFieldDefs_any a cap l W hn hA h)
  clear hS hA
  go_enter Tryz.func9, Tryz.ntmps9
  go_wp2_with fail
  have hk := alloc3 w (.cells #[.slice a l.length cap] 24) (.cells #[.slice none 0 0] 33) (.cells #[.slice none 0 0] 33)
  have HB3 : Hid (Below w.heap.size w (((w.alloc (.cells #[.slice a l.length cap] 24)).alloc (.cells #[.slice none 0 0] 33)).alloc (.cells #[.slice none 0 0] 33))) := (((Below.refl _ _).alloc (Nat.le_refl _) _).alloc (by simp) _).alloc (by simp; omega) _
  have hsz3 : w.heap.size + 1 + 1 < (((w.alloc (.cells #[.slice a l.length cap] 24)).alloc (.cells #[.slice none 0 0] 33)).alloc (.cells #[.slice none 0 0] 33)).heap.size := by simp
  simp only [] at hk
  generalize ((w.alloc (.cells #[.slice a l.length cap] 24)).alloc (.cells #[.slice none 0 0] 33)).alloc (.cells #[.slice none 0 0] 33) = W3 at *
  have HK := hidd hk
  clear hk
  refine (HT.out W3 (HS.out.below HB3.out)).mono ?_
  rintro e w4 ⟨rfl, hf4, hl4, hb4⟩
  have HF4 := hidd hf4
  have HB4 : Hid (Below w.heap.size w w4) := HB3.out.trans (hb4.mono (by omega))
  have k1 := blk_old HK.out.2.1 hb4
  have k2 := blk_old HK.out.2.2 hb4
  have c0 := blk_cell k2 0
  have y0 := blk_fz k2 0
  have d0 := blk_cell k1 0
  have x0 := blk_fz k1 0
  simp only [List.getElem?_toArray, List.getElem?_cons_zero] at c0 d0
  generalize W3.heap.size = G at *
  clear hf4 hb4 HK HB3 HS HT k1 k2
  dsimp only
  go_wp2_with fail
  refine bodyPost_ret (v := .agg #[.slice (some ⟨G, 0, none⟩) l.length l.length]) (by simp [results, Tryz.results9, go_sem, *]) rfl ?_
  refine ⟨G, rfl, by omega, ?_, ?_⟩
  · refine HF4.out.keep fun b hb _ => ?_
    iterate 2 rw [heap_set_oth _ _ _ _ _ (by omega)]
  · iterate 2 refine Below.setCell ?_ (by dsimp only; omega) _
    exact HB4.out
set_option maxHeartbeats 4000000 in
theorem eqFieldDef_any (f : Fd) (g1 g2 h1 h2 k1 k2 l1 l2 : Nat) (w : World) (hnS : f.stops.length ≤ 1048576) (hnY : f.syns.length ≤ 1048576) (hS1 : HoldS w (some ⟨g1, 0, none⟩) f.stops) (hY1 : HoldY w (some ⟨g2, 0, none⟩) f.syns) (hS2 : HoldS w (some ⟨h1, 0, none⟩) f.stops) (hY2 : HoldY w (some ⟨h2, 0, none⟩) f.syns) :
    Calls Tryz.prog 76 #[.agg #[.string (bs f.name), .int .i64 f.kind, .bool f.bf, .bool f.bsm, .bool f.bp, .slice (some ⟨g1, 0, none⟩) f.stops.length k1, .slice (some ⟨g2, 0, none⟩) f.syns.length k2, .int .i64 f.lo, .int .i64 f.hi], .agg #[.string (bs f.name), .int .i64 f.kind, .bool f.bf, .bool f.bsm, .bool f.bp, .slice (some ⟨h1, 0, none⟩) f.stops.length l1, .slice (some ⟨h2, 0, none⟩) f.syns.length l2, .int .i64 f.lo, .int .i64 f.hi]] w fun e w' => e = .returned (.bool true) ∧ Below w.heap.size w w' := by
  have HE := hidd (fun W (hW : Below w.heap.size w W) => eqAz_any f.bf f.bsm f.bp g1 g2 h1 h2 k1 k2 l1 l2 f.stops f.syns f.lo f.hi W hnS hnY (hS1.below hW) (hY1.below hW) (hS2.below hW) (hY2.below hW))
  have HBa : Hid (Below w.heap.size w ((w.alloc (.cells #[.string (bs f.name), .int .i64 f.kind, .bool f.bf, .bool f.bsm, .bool f.bp, .slice (some ⟨g1, 0, none⟩) f.stops.length k1, .slice (some ⟨g2, 0, none⟩) f.syns.length k2, .int .i64 f.lo, .int .i64 f.hi] 79)).alloc (.cells #[.string (bs f.name), .int .i64 f.kind, .bool f.bf, .bool f.bsm, .bool f.bp, .slice (some ⟨h1, 0, none⟩) f.stops.length l1, .slice (some ⟨h2, 0, none⟩) f.syns.length l2, .int .i64 f.lo, .int .i64 f.hi] 79))) := ((Below.refl _ _).alloc (Nat.le_refl _) _).alloc (by simp) _
  clear hS1 hY1 hS2 hY2
  go_enter Tryz.func76, Tryz.ntmps76
  go_wp2_with fail
  refine (HE.out _ HBa.out).mono ?_
  rintro e w3 ⟨rfl, hb3⟩
  have HB3 := hidd (HBa.out.trans (hb3.mono HBa.out.size))
  clear hb3 HE
  dsimp only
  go_wp2_with fail
  go_ret
  exact ⟨rfl, HB3.out⟩
theorem FRow.at_ {w : World} {g : Nat} {l : List Fd} (h : FRow w g l) {j : Nat} (hj : j < l.length) : ∃ gS cS gY cY, w.cell? ⟨g, j * 9, none⟩ = some (.string (bs (l.getD j fd0).name)) ∧ w.cell? ⟨g, j * 9 + 1, none⟩ = some (.int .i64 (l.getD j fd0).kind) ∧ w.cell? ⟨g, j * 9 + 2, none⟩ = some (.bool (l.getD j fd0).bf) ∧ w.cell? ⟨g, j * 9 + 3, none⟩ = some (.bool (l.getD j fd0).bsm) ∧ w.cell? ⟨g, j * 9 + 4, none⟩ = some (.bool (l.getD j fd0).bp) ∧ w.cell? ⟨g, j * 9 + 5, none⟩ = some (.slice (some ⟨gS, 0, none⟩) (l.getD j fd0).stops.length cS) ∧ w.cell? ⟨g, j * 9 + 6, none⟩ = some (.slice (some ⟨gY, 0, none⟩) (l.getD j fd0).syns.length cY) ∧ w.cell? ⟨g, j * 9 + 7, none⟩ = some (.int .i64 (l.getD j fd0).lo) ∧ w.cell? ⟨g, j * 9 + 8, none⟩ = some (.int .i64 (l.getD j fd0).hi) ∧ HoldS w (some ⟨gS, 0, none⟩) (l.getD j fd0).stops ∧ HoldY w (some ⟨gY, 0, none⟩) (l.getD j fd0).syns := by
  obtain ⟨base, zs, h1, h2⟩ := h
  have e : ∀ i, i < 9 → w.cell? ⟨g, j * 9 + i, none⟩ = zs[j * 9 + i]? := fun i hi => h1.cellAt (j * 9 + i) (by have := h1.1; have := h2.1; omega)
  obtain ⟨q0, q1, q2, q3, q4, ⟨gS, cS, q5, _, hS⟩, ⟨gY, cY, q6, _, hY⟩, q7, q8⟩ := h2.2 j hj
  exact ⟨gS, cS, gY, cY, (e 0 (by omega)).trans q0, (e 1 (by omega)).trans q1, (e 2 (by omega)).trans q2, (e 3 (by omega)).trans q3, (e 4 (by omega)).trans q4, (e 5 (by omega)).trans q5, (e 6 (by omega)).trans q6, (e 7 (by omega)).trans q7, (e 8 (by omega)).trans q8, hS, hY⟩
theorem FRow.below {w w' : World} {g : Nat} {l : List Fd} (h : FRow w g l) (hb : Below w.heap.size w w') : FRow w' g l := h.keep fun b _ hb2 => hb.block b hb2
set_option maxHeartbeats 8000000 in
theorem eqFieldDefs_any (g1 g2 c1 c2 : Nat) (l : List Fd) (w : World) (hn : l.length ≤ 1048576) (hA : ∀ i, FdSz (l.getD i fd0)) (h1 : FRow w g1 l) (h2 : FRow w g2 l) :
    Calls Tryz.prog 36 #[.slice (some ⟨g1, 0, none⟩) l.length c1, .slice (some ⟨g2, 0, none⟩) l.length c2] w fun e w' => e = .returned (.bool true) ∧ Below w.heap.size w w' := by
  have H1 := hidd h1
  have H2 := hidd h2
  have HA := hidd hA
  clear h1 h2 hA
  go_enter Tryz.func36, Tryz.ntmps36
  go_wp2_with fail
  go_loopw [5] (fun iv wr => ∃ k : Nat, k ≤ l.length ∧ iv = .int .i64 (k : Int) ∧ Below w.heap.size w wr) (fun iv _ => l.length - (intOf iv).toNat)
  case atStart => exact ⟨0, Nat.zero_le _, rfl, Below.refl _ _⟩
  case round =>
    obtain ⟨k, hk, rfl, hbel⟩ := hrel
    have HB := hidd hbel
    clear hbel
    by_cases hlt : k < l.length
    · have hkz : (k : Int) < (l.length : Int) := by omega
      obtain ⟨gS, cS, gY, cY, x0, x1, x2, x3, x4, x5, x6, x7, x8, hS1, hY1⟩ := (H1.out.below HB.out).at_ hlt
      obtain ⟨pS, dS, pY, dY, y0, y1, y2, y3, y4, y5, y6, y7, y8, hS2, hY2⟩ := (H2.out.below HB.out).at_ hlt
      have hal := HA.out k
      generalize l.getD k fd0 = f at *
      have hbd := below_drewN (Below.refl wr.heap.size wr) 1
      have HC := hidd (eqFieldDef_any f gS gY pS pY cS cY dS dY wr.drew hal.2.1 hal.2.2.1 (hS1.below hbd) (hY1.below hbd) (hS2.below hbd) (hY2.below hbd))
      clear hS1 hY1 hS2 hY2 hal hbd
      go_wp2_with fail
      go_region_with (go_at_call 76; refine HC.out.mono ?_; rintro e' w3 ⟨rfl, hb3⟩)
      all_goals
        go_wp2_with fail
        go_roundw
        · exact ⟨k + 1, by omega, by go_num, HB.out.trans ((below_drewN (Below.refl _ _) 1).trans hb3 |>.mono HB.out.size)⟩
        · simp [intOf]; omega
    · have hkz : ¬ (k : Int) < (l.length : Int) := by omega
      go_wp2_with fail
      go_ret
      exact ⟨rfl, HB.out⟩
set_option maxHeartbeats 2000000 in
theorem eqSchema_any (g1 g2 c1 c2 : Nat) (l : List Fd) (w : World) (hn : l.length ≤ 1048576) (hA : ∀ i, FdSz (l.getD i fd0)) (h1 : FRow w g1 l) (h2 : FRow w g2 l) :
    Calls Tryz.prog 12 #[.agg #[.slice (some ⟨g1, 0, none⟩) l.length c1], .agg #[.slice (some ⟨g2, 0, none⟩) l.length c2]] w fun e w' => e = .returned (.bool true) ∧ Below w.heap.size w w' := by
  have HBa : Hid (Below w.heap.size w ((w.alloc (.cells #[.slice (some ⟨g1, 0, none⟩) l.length c1] 33)).alloc (.cells #[.slice (some ⟨g2, 0, none⟩) l.length c2] 33))) := ((Below.refl _ _).alloc (Nat.le_refl _) _).alloc (by simp) _
  have HE := hidd (eqFieldDefs_any g1 g2 c1 c2 l _ hn hA (h1.below HBa.out) (h2.below HBa.out))
  clear h1 h2 hA
  go_enter Tryz.func12, Tryz.ntmps12
  go_wp2_with fail
  refine HE.out.mono ?_
  rintro e w3 ⟨rfl, hb3⟩
  have HB3 := hidd (HBa.out.trans (hb3.mono HBa.out.size))
  clear hb3 HE
  dsimp only
  go_wp2_with fail
  go_ret
  exact ⟨rfl, HB3.out⟩
end Go.Proofs.YtgoklapafidpkaaGreatDoor

namespace Go.Proofs.YtgoklapafidpkaaGreatDoor
open Go Go.RowKit
set_option linter.unusedVariables false
set_option maxRecDepth 100000

def szN (left : Int) (n : Nat) : Int := if left - (n : Int) < 0 then -1 else left - (n : Int)
theorem szN_le (left : Int) (n : Nat) (h0 : 0 ≤ left) : -1 ≤ szN left n ∧ szN left n ≤ left := by
  unfold szN; split <;> omega
def szG {X : Type} (g : Int → X → Int) : Int → List X → Int
  | left, [] => left
  | left, x :: t => if g left x < 0 then -1 else szG g (g left x) t
theorem szG_step {X : Type} (g : Int → X → Int) (l : List X) (d : X) (k : Nat) (left : Int) (h : k < l.length) : szG g left (l.drop k) = if g left (l.getD k d) < 0 then -1 else szG g (g left (l.getD k d)) (l.drop (k + 1)) := by
  rw [List.drop_eq_getElem_cons h, szG]; simp [h]
theorem szG_ge {X : Type} (g : Int → X → Int) : ∀ (l : List X) (left : Int), 0 ≤ left → -1 ≤ szG g left l
  | [], left, h => by simp only [szG]; omega
  | x :: t, left, h => by
    simp only [szG]
    split
    · omega
    · exact szG_ge g t _ (by omega)
theorem szG_le {X : Type} (g : Int → X → Int) (hg : ∀ a x, 0 ≤ a → g a x ≤ a) : ∀ (l : List X) (left : Int), 0 ≤ left → szG g left l ≤ left
  | [], left, h => by simp only [szG]; omega
  | x :: t, left, h => by
    simp only [szG]
    split
    · omega
    · have h1 := hg left x h
      have h2 := szG_le g hg t (g left x) (by omega)
      omega
theorem szG_mem {X : Type} (g : Int → X → Int) (hg : ∀ a x, 0 ≤ a → g a x ≤ a) : ∀ (l : List X) (left : Int), 0 ≤ left → 0 ≤ szG g left l → ∀ x ∈ l, ∃ a, 0 ≤ a ∧ a ≤ left ∧ 0 ≤ g a x
  | [], left, h, h0, x, hx => by simp at hx
  | y :: t, left, h, h0, x, hx => by
    simp only [szG] at h0
    split at h0
    · omega
    · rename_i hn
      rcases List.mem_cons.1 hx with rfl | hx
      · exact ⟨left, h, by omega, by omega⟩
      · obtain ⟨a, h1, h2, h3⟩ := szG_mem g hg t _ (by omega) h0 x hx
        have := hg left y h
        exact ⟨a, h1, by omega, h3⟩
theorem szG_sum {X : Type} (g : Int → X → Int) (f : X → Nat) (hg : ∀ a x, 0 ≤ a → 0 ≤ g a x → g a x ≤ a ∧ (f x : Int) ≤ a - g a x) : ∀ (l : List X) (left : Int), 0 ≤ left → 0 ≤ szG g left l → szG g left l ≤ left ∧ (((l.map f).sum : Nat) : Int) ≤ left - szG g left l
  | [], left, h, h0 => by simp only [szG]; simp
  | y :: t, left, h, h0 => by
    simp only [szG] at h0 ⊢
    split at h0
    · omega
    · rename_i hn
      rw [if_neg hn]
      obtain ⟨a1, a2⟩ := hg left y h (by omega)
      obtain ⟨b1, b2⟩ := szG_sum g f hg t (g left y) (by omega) h0
      simp only [List.map_cons, List.sum_cons]
      push_cast
      omega
def szTx (left : Int) (l : List (List UInt8)) : Int := if left - (l.length : Int) < 0 then -1 else szG (fun a t => szN a t.length) (left - (l.length : Int)) l
def szVl (left : Int) (v : Vl) : Int := if szN left v.1.length < 0 then -1 else if szTx (szN left v.1.length) v.2.1 < 0 then -1 else szN (szTx (szN left v.1.length) v.2.1) v.2.2.length
def szVs (left : Int) (V : List Vl) : Int := if left - (V.length : Int) < 0 then -1 else szG szVl (left - (V.length : Int)) V
def szDcL (left : Int) (d : Dc) : Int := if szN left d.1.length < 0 then -1 else szVs (szN left d.1.length) d.2
theorem szTx_le (left : Int) (l : List (List UInt8)) (h : 0 ≤ left) : -1 ≤ szTx left l ∧ szTx left l ≤ left := by
  unfold szTx
  split
  · omega
  · have h1 := szG_ge (fun a (t : List UInt8) => szN a t.length) l (left - (l.length : Int)) (by omega)
    have h2 := szG_le (fun a (t : List UInt8) => szN a t.length) (fun a t ha => (szN_le a t.length ha).2) l (left - (l.length : Int)) (by omega)
    omega
theorem szVl_le (left : Int) (v : Vl) (h : 0 ≤ left) : -1 ≤ szVl left v ∧ szVl left v ≤ left := by
  unfold szVl
  have h1 := szN_le left v.1.length h
  split
  · omega
  · have h2 := szTx_le (szN left v.1.length) v.2.1 (by omega)
    split
    · omega
    · have h3 := szN_le (szTx (szN left v.1.length) v.2.1) v.2.2.length (by omega)
      omega
theorem szVs_le (left : Int) (V : List Vl) (h : 0 ≤ left) : -1 ≤ szVs left V ∧ szVs left V ≤ left := by
  unfold szVs
  split
  · omega
  · have h1 := szG_ge szVl V (left - (V.length : Int)) (by omega)
    have h2 := szG_le szVl (fun a v ha => (szVl_le a v ha).2) V (left - (V.length : Int)) (by omega)
    omega
theorem szN_ok {left : Int} {n : Nat} (h : 0 ≤ szN left n) : szN left n = left - (n : Int) ∧ (n : Int) ≤ left := by
  unfold szN at h ⊢
  split at h
  · omega
  · rename_i hn; rw [if_neg hn]; omega
theorem szVl_ok {a : Int} {v : Vl} (h0 : 0 ≤ a) (h : 0 ≤ szVl a v) : 0 ≤ szN a v.1.length ∧ 0 ≤ szTx (szN a v.1.length) v.2.1 ∧ szVl a v = szN (szTx (szN a v.1.length) v.2.1) v.2.2.length := by
  unfold szVl at h ⊢
  split at h
  · omega
  · rename_i h1
    rw [if_neg h1]
    split at h
    · omega
    · rename_i h2
      rw [if_neg h2]
      exact ⟨by omega, by omega, rfl⟩
theorem szTx_ok {a : Int} {l : List (List UInt8)} (h : 0 ≤ szTx a l) : (l.length : Int) ≤ a ∧ szTx a l = szG (fun a t => szN a t.length) (a - (l.length : Int)) l := by
  unfold szTx at h ⊢
  split at h
  · omega
  · rename_i h1; rw [if_neg h1]; exact ⟨by omega, rfl⟩
theorem szVl_lens {a : Int} {v : Vl} (h0 : 0 ≤ a) (h1 : a ≤ 1048576) (h : 0 ≤ szVl a v) : v.1.length ≤ 1048576 ∧ v.2.1.length ≤ 1048576 ∧ v.2.2.length ≤ 1048576 := by
  obtain ⟨a1, a2, a3⟩ := szVl_ok h0 h
  have b1 := szN_ok a1
  have b2 := szTx_ok a2
  have b3 := szTx_le (szN a v.1.length) v.2.1 a1
  have b4 := szN_ok (left := szTx (szN a v.1.length) v.2.1) (n := v.2.2.length) (by rw [← a3]; exact h)
  omega
theorem szTx_sum {a : Int} {l : List (List UInt8)} (h0 : 0 ≤ a) (h : 0 ≤ szTx a l) : (txSum l : Int) ≤ a - szTx a l := by
  obtain ⟨h1, h2⟩ := szTx_ok h
  rw [h2] at h ⊢
  have := (szG_sum (fun a (t : List UInt8) => szN a t.length) List.length (fun x t hx hx2 => by have := szN_ok hx2; omega) l _ (by omega) h).2
  unfold txSum
  omega
theorem szVl_sum {a : Int} {v : Vl} (h0 : 0 ≤ a) (h : 0 ≤ szVl a v) : szVl a v ≤ a ∧ (txSum v.2.1 : Int) ≤ a - szVl a v := by
  obtain ⟨a1, a2, a3⟩ := szVl_ok h0 h
  have b1 := szN_ok a1
  have b2 := szTx_sum a1 a2
  have b4 := szN_ok (left := szTx (szN a v.1.length) v.2.1) (n := v.2.2.length) (by rw [← a3]; exact h)
  omega
theorem szDcL_ok {left : Int} {d : Dc} (hl0 : 0 ≤ left) (hl1 : left ≤ 1048576) (h : 0 ≤ szDcL left d) : d.1.length ≤ 1048576 ∧ d.2.length ≤ 1048576 ∧ (∀ i, (d.2.getD i vl0).1.length ≤ 1048576 ∧ (d.2.getD i vl0).2.1.length ≤ 1048576 ∧ (d.2.getD i vl0).2.2.length ≤ 1048576) ∧ bodyV d.2 ≤ 1048576 := by
  unfold szDcL at h
  split at h
  · omega
  · rename_i h1
    have b1 := szN_ok (left := left) (n := d.1.length) (by omega)
    unfold szVs at h
    split at h
    · omega
    · rename_i h2
      refine ⟨by omega, by omega, fun i => ?_, ?_⟩
      · by_cases hi : i < d.2.length
        · obtain ⟨a, q1, q2, q3⟩ := szG_mem szVl (fun a v ha => (szVl_le a v ha).2) d.2 _ (by omega) h _ (getD_in (d := vl0) hi)
          exact szVl_lens q1 (by omega) q3
        · simp [hi, vl0]
      · have := (szG_sum szVl (fun v => txSum v.2.1) (fun a v ha hv => szVl_sum ha hv) d.2 _ (by omega) h).2
        unfold bodyV
        omega
end Go.Proofs.YtgoklapafidpkaaGreatDoor
