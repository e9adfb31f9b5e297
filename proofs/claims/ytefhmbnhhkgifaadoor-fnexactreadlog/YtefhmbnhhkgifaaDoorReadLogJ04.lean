import Derived.Test.YtefhmbnhhkgifaaDoorReadLogJ03
import Derived.Deep.RegionHeld3
namespace Go.Proofs.YtefhmbnhhkgifaaDoor
open Go Go.RowKit
set_option linter.unusedVariables false
set_option maxRecDepth 100000

/-- What the reader panics with, as it lies in a world. -/
def ErrC (w : World) (u : TypeId) (pv : Value) : Prop := w.cell? ⟨0, 0, none⟩ = some (.iface u pv) ∧ 0 < w.heap.size
theorem ErrC.at {w W : World} {u : TypeId} {pv : Value} (h : ErrC w u pv) (ho : Below w.heap.size w W) : W.cell? ⟨0, 0, none⟩ = some (.iface u pv) := (ho.cell (p := ⟨0, 0, none⟩) h.2).trans h.1
/-- A way out by the reader's panic. -/
def Cut (u : TypeId) (pv : Value) (w0 W : World) (B : Nat) (e : Ending) (w' : World) : Prop := e = .panicked [{ v := .iface u pv, recovered := false }] ∧ Below w0.heap.size w0 w' ∧ RdFr B W w'
set_option maxHeartbeats 1000000 in
theorem upTo_none {w0 W : World} {u : TypeId} {pv : Value} {B most : Nat} {bs : List UInt8} (hE : ErrC w0 u pv) (hn : bs.length ≤ 1048576) (hm : most ≤ 2000000000000) (h : RdrAt w0 W B bs false) (hr : rdN most bs = none) :
    Calls Tryd.prog 59 #[.pointer (some ⟨B, 0, none⟩), .int .i64 (most : Int)] W fun e w' => Cut u pv w0 W B e w' := by
  have HN := hidd (number_any hn (Nat.le_trans hm (by decide)) h)
  rw [numR_no hr] at HN
  have HE := hidd hE
  clear h hE hr
  go_enter Tryd.func59, Tryd.ntmps59
  go_wp2_with fail
  refine HN.out.mono ?_
  rintro e w2 ⟨rfl, h2, h3⟩
  clear HN
  obtain ⟨v, hb, _⟩ := h2.box
  have x1 := blkc hb 1
  have x0 := HE.out.at h2.old
  have HC : Hid (Below w0.heap.size w0 w2 ∧ RdFr B W w2) := ⟨h2.old, h3⟩
  clear h2 h3 hb
  go_wp2_with fail
  exact ⟨rfl, rfl, HC.out⟩
set_option maxHeartbeats 1000000 in
theorem upTo_some {w0 W : World} {B most v : Nat} {bs r : List UInt8} (hn : bs.length ≤ 1048576) (hm : most ≤ 2000000000000) (h : RdrAt w0 W B bs false) (hr : rdN most bs = some (v, r)) :
    Calls Tryd.prog 59 #[.pointer (some ⟨B, 0, none⟩), .int .i64 (most : Int)] W fun e w' => e = .returned (.int .i64 (v : Int)) ∧ RdrAt w0 w' B r false ∧ RdFr B W w' := by
  have HN := hidd (number_any hn (Nat.le_trans hm (by decide)) h)
  rw [numR_rd hr false] at HN
  clear h hr
  go_enter Tryd.func59, Tryd.ntmps59
  go_wp2_with fail
  refine HN.out.mono ?_
  rintro e w2 ⟨rfl, h2, h3⟩
  clear HN
  obtain ⟨v, hb, _⟩ := h2.box
  have x1 := blkc hb 1
  have HC := hidd (And.intro h2 h3)
  clear h2 h3 hb
  go_wp2_with fail
  go_ret
  exact ⟨rfl, HC.out⟩
/-- Bytes taken off the front. -/
def TakeP (w0 W : World) (B : Nat) (bs : List UInt8) (n : Nat) (e : Ending) (w' : World) : Prop := ∃ a c, e = .returned (.slice a n c) ∧ (n = 0 ∨ ∃ b off, a = some ⟨b, off, none⟩ ∧ BytesAt w' b off (bs.take n)) ∧ RdrAt w0 w' B (bs.drop n) false ∧ RdFr B W w'
set_option maxHeartbeats 1000000 in
theorem take_some {w0 W : World} {B n : Nat} {bs : List UInt8} (hn : bs.length ≤ 1048576) (h : RdrAt w0 W B bs false) (hle : n ≤ bs.length) :
    Calls Tryd.prog 22 #[.pointer (some ⟨B, 0, none⟩), .int .i64 (n : Int)] W (TakeP w0 W B bs n) := by
  obtain ⟨v, hb, hv⟩ := h.box
  have x0 := blkc hb 0
  have f0 := blkf hb 0
  rcases hv with ⟨rfl, a, c, rfl⟩ | ⟨b, off, c, rfl, hc, hlt, hB⟩
  · obtain rfl : n = 0 := by simpa using hle
    have HP : Hid (∀ a c, RdrAt w0 (W.setCell ⟨B, 0, none⟩ (.slice a 0 c)) B [] false ∧ RdFr B W (W.setCell ⟨B, 0, none⟩ (.slice a 0 c))) := fun a c => ⟨⟨h.old.setCell (p := ⟨B, 0, none⟩) h.new _, h.new, .slice a 0 c, (blk_setk hb 0 _).trans (by simp), Or.inl ⟨rfl, a, c, rfl⟩⟩, RdFr.set B 0 _ W⟩
    have hnz : ¬ ((0 : Nat) : Int) > (([] : List UInt8).length : Int) := by simp
    clear h hb
    go_enter Tryd.func22, Tryd.ntmps22
    go_wp2_with fail
    all_goals
      go_ret
      exact ⟨_, _, rfl, Or.inl rfl, HP.out _ _⟩
  · have hnz : ¬ (n : Int) > (bs.length : Int) := by omega
    have hnz2 : (n : Int) ≤ (bs.length : Int) := by omega
    have HP := hidd (h.cut hb hc hlt hB n (bs.length - n) (by omega))
    have HT : Hid (BytesAt w0 b off (bs.take n)) := fun t ht => by
      rw [List.length_take] at ht
      have := hB t (by omega)
      rw [this]
      simp [List.getD_eq_getElem?_getD, show t < n by omega]
    have HO := hidd h.old
    have hnew := h.new
    clear h hb hB
    go_enter Tryd.func22, Tryd.ntmps22
    go_wp2_with fail
    all_goals
      go_ret
      refine ⟨_, _, rfl, ?_, HP.out _ _ (by first | exact Or.inr ⟨rfl, rfl⟩ | (left; omega))⟩
      exact Or.inr ⟨b, off, rfl, HT.out.old (HO.out.setCell (p := ⟨B, 0, none⟩) hnew _) hlt⟩
set_option maxHeartbeats 1000000 in
theorem take_none {w0 W : World} {B n : Nat} {bs : List UInt8} (hn : bs.length ≤ 1048576) (hn2 : n ≤ 1048576) (h : RdrAt w0 W B bs false) (hle : ¬ n ≤ bs.length) :
    Calls Tryd.prog 22 #[.pointer (some ⟨B, 0, none⟩), .int .i64 (n : Int)] W fun e w' => e = .returned (.slice none 0 0) ∧ RdrAt w0 w' B [] true ∧ RdFr B W w' := by
  obtain ⟨v, hb, hv⟩ := h.box
  obtain ⟨a, c, rfl⟩ : ∃ a c, v = .slice a bs.length c := by
    rcases hv with ⟨rfl, a, c, e⟩ | ⟨b, off, c, e, _⟩
    · exact ⟨a, c, e⟩
    · exact ⟨_, c, e⟩
  have x0 := blkc hb 0
  have hnz : (n : Int) > (bs.length : Int) := by omega
  have HH := hidd h
  clear h hb hv
  go_enter Tryd.func22, Tryd.ntmps22
  go_wp2_with fail
  refine (stop_any HH.out).mono ?_
  rintro e w2 ⟨rfl, h2, h3⟩
  have HP := hidd (And.intro h2 h3)
  clear h2 h3
  go_wp2_with fail
  go_ret
  exact ⟨rfl, HP.out⟩
theorem rdT_some {bs t r : List UInt8} (h : rdT bs = some (t, r)) : ∃ n q, rdN 65536 bs = some (n, q) ∧ n ≤ q.length ∧ t = q.take n ∧ r = q.drop n := by
  unfold rdT at h
  cases hg : rdN 65536 bs with
  | none => rw [hg] at h; simp at h
  | some p =>
    obtain ⟨n, q⟩ := p
    rw [hg] at h
    simp only at h
    split at h
    · rename_i hle
      simp only [Option.some.injEq, Prod.mk.injEq] at h
      exact ⟨n, q, rfl, hle, h.1.symm, h.2.symm⟩
    · simp at h
theorem rdT_none {bs : List UInt8} (h : rdT bs = none) : rdN 65536 bs = none ∨ ∃ n q, rdN 65536 bs = some (n, q) ∧ ¬ n ≤ q.length := by
  unfold rdT at h
  cases hg : rdN 65536 bs with
  | none => exact Or.inl rfl
  | some p =>
    obtain ⟨n, q⟩ := p
    rw [hg] at h
    simp only at h
    split at h
    · simp at h
    · rename_i hle
      exact Or.inr ⟨n, q, rfl, hle⟩
end Go.Proofs.YtefhmbnhhkgifaaDoor

namespace Go.Proofs.YtefhmbnhhkgifaaDoor
open Go Go.RowKit
set_option linter.unusedVariables false
set_option linter.unusedSimpArgs false
set_option maxRecDepth 100000

theorem conv_take {W : World} {a : Option Addr} {n c : Nat} {l : List UInt8} (hl : l.length = n) (h : n = 0 ∨ ∃ b off, a = some ⟨b, off, none⟩ ∧ BytesAt W b off l) : (convert 22 9 (.slice a n c)).run Tryd.prog W = .ok (.string ⟨l.toArray⟩) W := by
  subst hl
  rcases h with h | ⟨b, off, rfl, hB⟩
  · have e : l = [] := List.length_eq_zero_iff.1 h
    subst e
    cases a with
    | none => exact run_convert_bytes_nil W 22 5 Tryd.underlying22 Tryd.underlying5 0 c 9 Tryd.underlying9
    | some ad => exact run_convert_bytes_back W 22 9 5 ad c [] Tryd.underlying22 Tryd.underlying5 Tryd.underlying9 fun j hj => absurd hj (by simp)
  · refine run_convert_bytes_back W 22 9 5 ⟨b, off, none⟩ c l Tryd.underlying22 Tryd.underlying5 Tryd.underlying9 fun j hj => ?_
    have := hB j hj
    rw [Go.WideShapes.add_plain, this]
    simp [List.getD_eq_getElem?_getD, hj]
theorem RdrAt.drew {w0 W : World} {B : Nat} {bs : List UInt8} {sh : Bool} (h : RdrAt w0 W B bs sh) : RdrAt w0 W.drew B bs sh := h.below (below_drewN (Below.refl _ _) 1)
theorem RdFr.drew {B : Nat} {W W' : World} (h : RdFr B W.drew W') : RdFr B W W' := h
set_option maxHeartbeats 2000000 in
theorem text_some {w0 W : World} {B : Nat} {bs t r : List UInt8} (hn : bs.length ≤ 1048576) (h : RdrAt w0 W B bs false) (hr : rdT bs = some (t, r)) :
    Calls Tryd.prog 58 #[.pointer (some ⟨B, 0, none⟩)] W fun e w' => e = .returned (.string ⟨t.toArray⟩) ∧ RdrAt w0 w' B r false ∧ RdFr B W w' := by
  obtain ⟨n, q, hq, hle, rfl, rfl⟩ := rdT_some hr
  have hql := rdN_len hq
  have HU := hidd (upTo_some hn (by omega) h.drew hq)
  have HT := hidd (fun W' (h' : RdrAt w0 W' B q false) => take_some (by omega) h' hle)
  have htl : (q.take n).length = n := by rw [List.length_take]; omega
  clear h hr hq
  go_enter Tryd.func58, Tryd.ntmps58
  go_wp2_with fail
  go_region_with (first
    | (go_at_call 59; refine HU.out.mono ?_; rintro e' w2 ⟨rfl, h2, hf2⟩)
    | (go_at_call 22; refine (HT.out _ h2).mono ?_; rintro e'' w3 ⟨a3, c3, rfl, hb3, h3, hf3⟩; have hcv := conv_take (c := c3) htl hb3; obtain ⟨v3, hx3, _⟩ := h3.box; have x3 := blkc hx3 1))
  all_goals
    have HF : Hid (RdrAt w0 w3 B (q.drop n) false ∧ RdFr B W w3) := ⟨h3, hf2.trans hf3⟩
    clear h2 h3 hf2 hf3
    go_wp2_with fail
    go_ret
    exact ⟨rfl, HF.out⟩
set_option maxHeartbeats 2000000 in
theorem text_none {w0 W : World} {u : TypeId} {pv : Value} {B : Nat} {bs : List UInt8} (hE : ErrC w0 u pv) (hn : bs.length ≤ 1048576) (h : RdrAt w0 W B bs false) (hr : rdT bs = none) :
    Calls Tryd.prog 58 #[.pointer (some ⟨B, 0, none⟩)] W fun e w' => Cut u pv w0 W B e w' := by
  rcases rdT_none hr with hq | ⟨n, q, hq, hle⟩
  · have HU := hidd (upTo_none hE hn (by omega) h.drew hq)
    have x0 := hE.at h.old
    clear h hr hq hE
    go_enter Tryd.func58, Tryd.ntmps58
    go_wp2_with fail
    refine wp_region_held_drew (S := (fun w' => w'.cell? ⟨0, 0, none⟩ = some (.iface u pv))) (by kernel_rfl) ?_ (fun hHeld => ?_)
    · exact x0
    refine wpAnyH_take (i := 0) (v := ?_) rfl (by kernel_rfl) (by kernel_rfl) (by kernel_rfl) (fun _ _ _ h => h) (Or.inl ⟨by kernel_rfl, ?_⟩) (by assumption) ?_
    rotate_left
    · (intro w hSw; (try dsimp only at hSw); go_simp <;> with_reducible rfl)
    (simp only [Act.put, List.getElem_toArray, List.getElem_cons_succ, List.getElem_cons_zero, List.setIfInBounds_toArray, List.set_cons_zero, List.set_cons_succ])
    refine wpAnyH_take (i := 1) (v := ?_) rfl (by kernel_rfl) (by kernel_rfl) (by kernel_rfl) (fun _ _ _ h => h) (Or.inl ⟨by kernel_rfl, ?_⟩) (by assumption) ?_
    rotate_left
    · (intro w hSw; (try dsimp only at hSw); go_simp <;> with_reducible rfl)
    (simp only [Act.put, List.getElem_toArray, List.getElem_cons_succ, List.getElem_cons_zero, List.setIfInBounds_toArray, List.set_cons_zero, List.set_cons_succ])
    refine wpAnyH_take (i := 2) (v := ?_) rfl (by kernel_rfl) (by kernel_rfl) (by kernel_rfl) (fun _ _ _ h => h) (Or.inl ⟨by kernel_rfl, ?_⟩) (by assumption) ?_
    rotate_left
    · (intro w hSw; (try dsimp only at hSw); go_simp <;> with_reducible rfl)
    (simp only [Act.put, List.getElem_toArray, List.getElem_cons_succ, List.getElem_cons_zero, List.setIfInBounds_toArray, List.set_cons_zero, List.set_cons_succ])
    refine wpAnyH_take (i := 3) (v := ?_) rfl (by kernel_rfl) (by kernel_rfl) (by kernel_rfl) (fun _ _ _ h => h) (Or.inl ⟨by kernel_rfl, ?_⟩) (by assumption) ?_
    rotate_left
    · (intro w hSw; (try dsimp only at hSw); go_simp <;> with_reducible rfl)
    (simp only [Act.put, List.getElem_toArray, List.getElem_cons_succ, List.getElem_cons_zero, List.setIfInBounds_toArray, List.set_cons_zero, List.set_cons_succ])
    refine wpAnyH_ready (rs := [4]) (by kernel_rfl) (by simp) ?_
    refine AllReadyH.cons rfl (fun K hK => ?_) AllReadyH.nil
    go_simp
    refine HU.out.mono ?_
    rintro e' w2 ⟨rfl, h2, hf2⟩
    exact ⟨rfl, rfl, h2, hf2⟩
  · have hql := rdN_len hq
    have HU := hidd (upTo_some hn (by omega) h.drew hq)
    have HT := hidd (fun W' (h' : RdrAt w0 W' B q false) => take_none (by omega) (by omega) h' hle)
    have HE := hidd hE
    clear h hr hq hE
    go_enter Tryd.func58, Tryd.ntmps58
    go_wp2_with fail
    go_region_with (first
      | (go_at_call 59; refine HU.out.mono ?_; rintro e' w2 ⟨rfl, h2, hf2⟩)
      | (go_at_call 22; refine (HT.out _ h2).mono ?_; rintro e'' w3 ⟨rfl, h3, hf3⟩; have hcv := conv_take (W := w3) (a := none) (n := 0) (c := 0) (l := []) rfl (Or.inl rfl); obtain ⟨v3, hx3, _⟩ := h3.box; have x3 := blkc hx3 1; have x0 := HE.out.at h3.old))
    all_goals
      have HF : Hid (Below w0.heap.size w0 w3 ∧ RdFr B W w3) := ⟨h3.old, hf2.trans hf3⟩
      clear h2 h3 hf2 hf3
      go_wp2_with fail
      exact ⟨rfl, rfl, HF.out⟩
set_option maxHeartbeats 400000 in
theorem signed_any (v : Nat) (w : World) (hv : v ≤ 2000000000000) : Calls Tryd.prog 60 #[.int .i64 (v : Int)] w fun e w' => e = .returned (.int .i64 (sgn v)) ∧ w' = w := by
  by_cases h : v % 2 = 1
  · have HS : Hid (sgn v = -(((v : Int) + 1) / 2)) := by show _ = _; rw [sgn, if_pos h]; push_cast; rfl
    have hz : ((v : Int) % 2 == 1) = true := by simp; omega
    have hm : (v : Int).tmod 2 = 1 := by rw [Int.tmod_eq_emod_of_nonneg (by omega)]; omega
    have hd : (-((v : Int) + 1)).tdiv 2 = -((((v : Int) + 1)) / 2) := by rw [Int.neg_tdiv, Int.tdiv_eq_ediv_of_nonneg (by omega)]
    go_enter Tryd.func60, Tryd.ntmps60
    go_wp2_with fail
    go_ret
    rw [HS.out]
    exact ⟨rfl, rfl⟩
  · have HS : Hid (sgn v = (v : Int) / 2) := by show _ = _; rw [sgn, if_neg h]; push_cast; rfl
    have hv0 : v % 2 = 0 := by omega
    have hz : ((v : Int) % 2 == 1) = false := by simp; omega
    have hm : (v : Int).tmod 2 = 0 := by rw [Int.tmod_eq_emod_of_nonneg (by omega)]; omega
    clear h
    go_enter Tryd.func60, Tryd.ntmps60
    go_wp2_with fail
    go_ret
    rw [HS.out]
    exact ⟨rfl, rfl⟩
set_option maxHeartbeats 400000 in
theorem unsigned_any (w : World) : Calls Tryd.prog 61 #[.int .i64 1000000000000] w fun e w' => e = .returned (.int .i64 2000000000000) ∧ w' = w := by
  go_enter Tryd.func61, Tryd.ntmps61
  go_wp2_with fail
  go_ret
  exact ⟨rfl, rfl⟩
end Go.Proofs.YtefhmbnhhkgifaaDoor
