import Derived.Test.YtboocdiilbcdcaaFzR
import Derived.Test.YtboocdiilbcdcaaLeIa
import Derived.Test.YtboocdiilbcdcaaBtA
import Derived.WalkMore
namespace Go.Proofs.Ytboocdiilbcdcaa
open Go Go.RowKit Go.Shelf
set_option linter.unusedVariables false
set_option maxRecDepth 100000
set_option linter.unusedSimpArgs false

/-! The numbers of a slice, gathered one by one. -/
def atZ (zs : List Int) (i : Nat) : Int := zs.getD i 0
attribute [local go_sem] Oper.semAt_some
set_option maxHeartbeats 4000000 in
theorem valsN_any (n : Nat) (hn : 1 ≤ n) (l Bs cap : Nat) (ad : Option Addr) (zs : List Int) (hN : zs.length ≤ 1048576) (J : Nat → World → Prop)
    (hJ : ∀ c W, J c W → W.cell? ⟨Bs, 0, none⟩ = some (.slice ad zs.length cap) ∧ ∀ i, i < zs.length → ∃ g off, ad = some ⟨g, off, none⟩ ∧ W.cell? ⟨g, off + i, none⟩ = some (.int .i64 (atZ zs i)))
    (hY : ∀ c W, c < zs.length → J c W → YieldAt Fence.wide (n - 1) Try.prog l #[.int .i64 (atZ zs c)] W fun e W' => e = .returned (.bool true) ∧ J (c + 1) W')
    (W : World) (h0 : J 0 W) :
    CallsIn Fence.wide n Try.prog 56 #[.func (.yield l) #[] #[], .pointer (some ⟨Bs, 0, none⟩)] W fun e W' => (∃ v, e = .returned v) ∧ J zs.length W' := by
  refine callsIn_of_wp Try.func56 rfl trivial ?_ rfl
  simp only [Try.ntmps56, List.size_toArray, List.length_cons, List.length_nil, Nat.reduceAdd, Nat.reduceSub, Array.replicate_succ, Array.replicate_zero, List.push_toArray, List.append_toArray, List.nil_append, List.cons_append]
  have k0 := (hJ 0 W h0).1
  gi_wp2
  gi_loopw [7] (fun i wr => ∃ c : Nat, i = .int .i64 (c : Int) ∧ c ≤ zs.length ∧ J c wr) (fun i _ => zs.length - (intOf i).toNat)
  case atStart => exact ⟨0, by go_num, Nat.zero_le _, h0⟩
  case round =>
    obtain ⟨c, rfl, hc, hJc⟩ := hrel
    have HJ := hidd hJc
    have HJJ := hidd hJ
    have HYY := hidd hY
    clear hJc k0 h0 hJ hY
    by_cases hcl : c < zs.length
    · have hxl : (c : Int) < (zs.length : Int) := by omega
      obtain ⟨g, off, rfl, x0⟩ := (HJJ.out _ _ HJ.out).2 c hcl
      obtain ⟨fn, tmps, assign, body, hy, hR⟩ := HYY.out c wr hcl HJ.out
      gi_wp2
      refine hR.mono ?_
      rintro e W3 ⟨rfl, hJ3⟩
      gi_wp2
      go_roundw
      · exact ⟨c + 1, by go_num, by omega, hJ3⟩
      · simp [intOf]; omega
    · have hxl : ¬ (c : Int) < (zs.length : Int) := by omega
      obtain rfl : c = zs.length := by omega
      gi_wp2
      go_end0
      exact ⟨⟨_, rfl⟩, HJ.out⟩
theorem valsF_any (s : Option Addr) (n cap : Nat) (w : World) : Calls Try.prog 35 #[.slice s n cap] w fun e w' => e = .returned (.func (.func 56) #[] #[.pointer (some ⟨w.heap.size, 0, none⟩)]) ∧ w' = w.alloc (.cells #[.slice s n cap] 23) := by
  go_enter Try.func35, Try.ntmps35
  go_wp2
  go_ret
  exact ⟨rfl, rfl⟩
theorem own_slQ {W : World} {base e n : Nat} {v : Value} {xs : List Value} (h : W.ownsRow base e 1 v n xs) : ∃ ad cap, v = .slice ad n cap := by
  rcases h.2 with ⟨h1, h2⟩ | ⟨g, cap, _, h1, _⟩
  · exact ⟨none, 0, by rw [h1, h2]⟩
  · exact ⟨_, cap, h1⟩
/-- What AppendSeq has after k rounds. -/
structure ApI (w : World) (zs : List Int) (k : Nat) (W : World) : Prop where
  below : Below w.heap.size w W
  sz : w.heap.size + 2 < W.heap.size
  row : ∃ v, W.heap[w.heap.size]? = some (.cells #[v] 23) ∧ W.ownsRow (w.heap.size + 3) 3 1 v k (zI (zs.take k))
set_option maxHeartbeats 4000000 in
theorem appendSeq_any (Bs cap : Nat) (ad : Option Addr) (zs : List Int) (w : World) (hN : zs.length ≤ 1048576) (hb : w.cell? ⟨Bs, 0, none⟩ = some (.slice ad zs.length cap)) (hz : ∀ i, i < zs.length → ∃ g off, ad = some ⟨g, off, none⟩ ∧ w.cell? ⟨g, off + i, none⟩ = some (.int .i64 (atZ zs i))) :
    Calls Try.prog 60 #[.slice none 0 0, .func (.func 56) #[] #[.pointer (some ⟨Bs, 0, none⟩)]] w fun e w' => ∃ v, e = .returned v ∧ w'.ownsRow w.heap.size 3 1 v zs.length (zI zs) ∧ Below w.heap.size w w' := by
  obtain ⟨i0, hi, hz0, hz1, hz2⟩ := info_parts Try.infoIntL
  have HB := hidd hb
  have HZ := hidd hz
  have hsz1 : (w.alloc (.cells #[.slice none 0 0] 23)).heap.size = w.heap.size + 1 := by simp
  have hb1 : Below w.heap.size w (w.alloc (.cells #[.slice none 0 0] 23)) := (Below.refl _ _).alloc (Nat.le_refl _) _
  have hn1 : (w.alloc (.cells #[.slice none 0 0] 23)).heap[w.heap.size]? = some (.cells #[.slice none 0 0] 23) := heap_alloc_new _ _
  clear hb hz
  refine (callsIn_wide (n := 4)).1 ?_
  refine callsIn_of_wp_marks Try.func60 rfl trivial ?_ rfl
  simp only [Try.ntmps60, List.size_toArray, List.length_cons, List.length_nil, Nat.reduceAdd, Nat.reduceSub, Array.replicate_succ, Array.replicate_zero, List.push_toArray, List.append_toArray, List.nil_append, List.cons_append]
  refine wpIn_wide.2 ?_
  go_wp2_with fail
  refine (wpIn_wide (n := 4)).1 ?_
  apply range_inv (gf := 56) (lb := #[.pointer (some ⟨Bs, 0, none⟩)]) (I := ApI w zs) (live := fun c => c < zs.length) (args := fun c => #[.int .i64 (atZ zs c)]) (next := fun c => c + 1) (x0 := 0) (xN := zs.length)
  case hassign =>
    intro l m x Wx K hK
    gi_wp2
    exact hK
  case hg => rfl
  case eg => exact enters_of Try.func56 (by kernel_rfl) rfl
  case hps => intro x; rfl
  case hput =>
    intro x Wx o hI
    obtain ⟨v, h1, h2⟩ := hI.row
    rw [hsz1]
    refine ⟨⟨hI.below.os, hI.below.tape, hI.below.output, by simpa using hI.below.size, fun b hb => (World.putObj_heap_other (by omega)).trans (hI.below.block b hb)⟩, by simpa using hI.sz, v, (World.putObj_heap_other (by omega)).trans h1, own_congr h2 (fun b hk => World.putObj_heap_other (by have := (own_blk h2 hk).1; omega))⟩
  case h0 =>
    intro Wx hbx hszx
    exact ⟨hb1.trans (hbx.mono hb1.size), by omega, _, blko hn1 hbx, World.ownsRow_nil _ _ _ _⟩
  case hit =>
    intro r Wx hbx hy hI hrec
    refine (valsN_any 3 (by omega) _ Bs cap ad zs hN (fun c Wy => ApI w zs c Wy ∧ RecAt (w.alloc (.cells #[.slice none 0 0] 23)).heap.size r Wy) ?_ ?_ Wx ⟨hI, hrec⟩).mono ?_
    · rintro c Wy ⟨h1, h2⟩
      refine ⟨(h1.below.cell (p := ⟨Bs, 0, none⟩) (cell_lt HB.out)).trans HB.out, fun i hi => ?_⟩
      obtain ⟨g, off, e1, e2⟩ := HZ.out i hi
      exact ⟨g, off, e1, (h1.below.cell (p := ⟨g, off + i, none⟩) (cell_lt e2)).trans e2⟩
    · rintro c Wy hc ⟨h1, h2⟩
      exact hy 2 c Wy hc h1 h2
    · rintro e Wy ⟨h1, h2, h3⟩
      exact ⟨h1, h2, h3⟩
  case hbody =>
    rintro m c Wx hc hI hszx hrec hdf
    obtain ⟨v, h1, h2⟩ := hI.row
    have k1 : Wx.cell? ⟨w.heap.size, 0, none⟩ = some v := blkc h1 0
    have HI := hidd hI
    have HR := hidd h2
    have hsx := hI.sz
    have h1b := h1
    have Htk : Hid (zs.take (c + 1) = zs.take c ++ [atZ zs c]) := by
      show _ = _
      unfold atZ
      rw [List.take_succ_eq_append_getElem hc, List.getD_eq_getElem?_getD, List.getElem?_eq_getElem hc]; rfl
    have HH1 := hidd h1
    generalize atZ zs c = x at *
    clear hI h1 h2 h1b hrec hdf
    gi_wp2_with (gi_at_builtin; refine wpListIn_append_own _ rfl _ _ 23 rfl (w.heap.size + 3) 3 i0 (.int .i64 0) 1 8 Try.underlying23 hi hz0 hz1 hz2 rfl (by decide) v c (zI (zs.take c)) rfl (HR.out.alloc _) ⟨Wx.heap.size, 0, none⟩ 1 1 [.int .i64 x] rfl rfl (cell_one_new _ _ _) (by simp [Value.oneCell']) (by unfold maxLen; omega) (by omega) (by simp; omega) ?_)
    intro v' W3 hown3 hgrow3 hnil3
    have hsz3 : Wx.heap.size + 1 ≤ W3.heap.size := by have := hgrow3.size; simpa using this
    have hk3 : ∀ b : Nat, b < w.heap.size + 3 → W3.heap[b]? = Wx.heap[b]? := fun b hb => by
      rw [hgrow3.block b (by simp; omega) (fun e => by have := (own_blk HR.out e.symm).1; omega), Below.heap_alloc _ _ _ (by omega)]
    have hbx3 := (hk3 w.heap.size (by omega)).trans HH1.out
    have k3 : W3.cell? ⟨w.heap.size, 0, none⟩ = some v := blkc hbx3 0
    have f3 := blkf hbx3 0
    obtain ⟨ad3, cp3, rfl⟩ := own_slQ hown3
    have HFin : Hid (ApI w zs (c + 1) (W3.setCell ⟨w.heap.size, 0, none⟩ (.slice ad3 (c + 1) cp3)) ∧ (W3.setCell ⟨w.heap.size, 0, none⟩ (.slice ad3 (c + 1) cp3)).heap[w.heap.size + 1]? = Wx.heap[w.heap.size + 1]? ∧ (W3.setCell ⟨w.heap.size, 0, none⟩ (.slice ad3 (c + 1) cp3)).heap[w.heap.size + 1 + 1]? = Wx.heap[w.heap.size + 1 + 1]?) := by
      refine ⟨⟨?_, ?_, .slice ad3 (c + 1) cp3, ?_, ?_⟩, ?_, ?_⟩
      · refine ⟨hgrow3.os.trans HI.out.below.os, hgrow3.tape.trans HI.out.below.tape, hgrow3.output.trans HI.out.below.output, by have := HI.out.below.size; simp [World.setCell]; omega, fun b hb => ?_⟩
        rw [heap_set_other _ _ _ _ _ (by omega), hk3 b (by omega)]
        exact HI.out.below.block b hb
      · simp [World.setCell]; omega
      · have := blk_setk hbx3 0 (.slice ad3 (c + 1) cp3)
        simpa using this
      · rw [Htk.out]
        refine own_congr ?_ (fun b hk => heap_set_other _ _ _ _ _ (by have := (own_blk hown3 hk).1; omega))
        have e : zI (zs.take c ++ [x]) = zI (zs.take c) ++ [.int .i64 x] := by simp [zI]
        rw [e]
        exact hown3
      · rw [heap_set_other _ _ _ _ _ (by omega), hk3 _ (by omega)]
      · rw [heap_set_other _ _ _ _ _ (by omega), hk3 _ (by omega)]
    clear hown3 hgrow3 hnil3 hk3 hbx3 HI HR HH1 k1
    gi_wp2
    exact ⟨HFin.out.1, HFin.out.2.1, HFin.out.2.2.trans (Array.getElem?_eq_getElem _)⟩
  case hdone =>
    intro Wx hI hdf
    obtain ⟨v, h1, h2⟩ := hI.row
    have k1 : Wx.cell? ⟨w.heap.size, 0, none⟩ = some v := blkc h1 0
    have hsx := hI.sz
    have HZ2 : Hid (∀ w', AllBut Wx w' → Below w.heap.size Wx w' → w'.ownsRow w.heap.size 3 1 v zs.length (zI zs) ∧ Below w.heap.size w w') := by
      intro w' hab hbw
      have h3 : Wx.ownsRow w.heap.size 3 1 v zs.length (zI zs) := by
        have := own_mono h2 (show w.heap.size ≤ w.heap.size + 3 by omega)
        rw [List.take_length] at this
        exact this
      refine ⟨own_congr h3 fun b e => ?_, hI.below.trans hbw⟩
      obtain ⟨_, cur, hc⟩ := own_blk h3 e
      exact hab.block b (by rw [hc]; intro e; cases e)
    have Hdf := hidd hdf
    obtain ⟨ad9, cp9, rfl⟩ := own_slQ h2
    clear h1 h2 hI hdf
    go_wp2_with fail
    rw [hsz1]
    refine leaves_marks (B := w.heap.size) [w.heap.size + 1] _ _ ⟨by simp, fun D hD => ?_⟩ (AllBut.refl _) (Below.refl _ _) (fun w' hab hbw => ⟨.slice ad9 zs.length cp9, (by simp [results, Try.results60, go_sem]), ⟨_, rfl, HZ2.out w' hab hbw⟩⟩)
    have : D = w.heap.size + 1 := by simpa using hD
    subst this
    refine ⟨by omega, ?_⟩
    have := Hdf.out
    rw [hsz1] at this
    exact this
end Go.Proofs.Ytboocdiilbcdcaa
