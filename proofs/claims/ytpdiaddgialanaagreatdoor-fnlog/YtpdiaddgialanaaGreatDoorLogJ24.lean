import Derived.Test.YtpdiaddgialanaaGreatDoorLogJ17
import Derived.Deep.RegionHeld3
import Derived.Test.YtpdiaddgialanaaGreatDoorLogJ05
import Derived.Deep.RegionLaw
import Derived.Deep.AppendLies
import Derived.Deep.DeepCutAuto
namespace Go.Proofs.YtpdiaddgialanaaGreatDoor
open Go Go.RowKit
set_option linter.unusedVariables false
set_option maxRecDepth 100000

/-- What the reader panics with, as it lies in a world. -/
def ErrC (w : World) (u : TypeId) (pv : Value) : Prop := w.cell? ⟨3, 0, none⟩ = some (.iface u pv) ∧ 3 < w.heap.size
theorem ErrC.at {w W : World} {u : TypeId} {pv : Value} (h : ErrC w u pv) (ho : Below w.heap.size w W) : W.cell? ⟨3, 0, none⟩ = some (.iface u pv) := (ho.cell (p := ⟨3, 0, none⟩) h.2).trans h.1
/-- A way out by the reader's panic. -/
def Cut (u : TypeId) (pv : Value) (w0 W : World) (B : Nat) (e : Ending) (w' : World) : Prop := e = .panicked [{ v := .iface u pv, recovered := false }] ∧ Below w0.heap.size w0 w' ∧ RdFr B W w'
set_option maxHeartbeats 1000000 in
theorem upTo_none {w0 W : World} {u : TypeId} {pv : Value} {B most : Nat} {bs : List UInt8} (hE : ErrC w0 u pv) (hn : bs.length ≤ 1048576) (hm : most ≤ 2000000000000) (h : RdrAt w0 W B bs false) (hr : rdN most bs = none) :
    Calls Tryz.prog 90 #[.pointer (some ⟨B, 0, none⟩), .int .i64 (most : Int)] W fun e w' => Cut u pv w0 W B e w' := by
  have HN := hidd (number_any hn (Nat.le_trans hm (by decide)) h)
  rw [numR_no hr] at HN
  have HE := hidd hE
  clear h hE hr
  go_enter Tryz.func90, Tryz.ntmps90
  go_wp2_with fail
  refine HN.out.mono ?_
  rintro e w2 ⟨rfl, h2, h3⟩
  clear HN
  obtain ⟨v, hb, _⟩ := h2.box
  have x1 := blkc hb 1
  have x0 := HE.out.at h2.old
  have HC : Hid (Below w0.heap.size w0 w2 ∧ RdFr B W w2) := ⟨h2.old, h3⟩
  clear h2 h3 hb
  go_wp2_with fail
  exact ⟨rfl, rfl, HC.out⟩
set_option maxHeartbeats 1000000 in
theorem upTo_some {w0 W : World} {B most v : Nat} {bs r : List UInt8} (hn : bs.length ≤ 1048576) (hm : most ≤ 2000000000000) (h : RdrAt w0 W B bs false) (hr : rdN most bs = some (v, r)) :
    Calls Tryz.prog 90 #[.pointer (some ⟨B, 0, none⟩), .int .i64 (most : Int)] W fun e w' => e = .returned (.int .i64 (v : Int)) ∧ RdrAt w0 w' B r false ∧ RdFr B W w' := by
  have HN := hidd (number_any hn (Nat.le_trans hm (by decide)) h)
  rw [numR_rd hr false] at HN
  clear h hr
  go_enter Tryz.func90, Tryz.ntmps90
  go_wp2_with fail
  refine HN.out.mono ?_
  rintro e w2 ⟨rfl, h2, h3⟩
  clear HN
  obtain ⟨v, hb, _⟩ := h2.box
  have x1 := blkc hb 1
  have HC := hidd (And.intro h2 h3)
  clear h2 h3 hb
  go_wp2_with fail
  go_ret
  exact ⟨rfl, HC.out⟩
/-- Bytes taken off the front. -/
def TakeP (w0 W : World) (B : Nat) (bs : List UInt8) (n : Nat) (e : Ending) (w' : World) : Prop := ∃ a c, e = .returned (.slice a n c) ∧ (n = 0 ∨ ∃ b off, a = some ⟨b, off, none⟩ ∧ BytesAt w' b off (bs.take n)) ∧ RdrAt w0 w' B (bs.drop n) false ∧ RdFr B W w'
set_option maxHeartbeats 1000000 in
theorem take_some {w0 W : World} {B n : Nat} {bs : List UInt8} (hn : bs.length ≤ 1048576) (h : RdrAt w0 W B bs false) (hle : n ≤ bs.length) :
    Calls Tryz.prog 50 #[.pointer (some ⟨B, 0, none⟩), .int .i64 (n : Int)] W (TakeP w0 W B bs n) := by
  obtain ⟨v, hb, hv⟩ := h.box
  have x0 := blkc hb 0
  have f0 := blkf hb 0
  rcases hv with ⟨rfl, a, c, rfl⟩ | ⟨b, off, c, rfl, hc, hlt, hB⟩
  · obtain rfl : n = 0 := by simpa using hle
    have HP : Hid (∀ a c, RdrAt w0 (W.setCell ⟨B, 0, none⟩ (.slice a 0 c)) B [] false ∧ RdFr B W (W.setCell ⟨B, 0, none⟩ (.slice a 0 c))) := fun a c => ⟨⟨h.old.setCell (p := ⟨B, 0, none⟩) h.new _, h.new, .slice a 0 c, (blk_setk hb 0 _).trans (by simp), Or.inl ⟨rfl, a, c, rfl⟩⟩, RdFr.set B 0 _ W⟩
    have hnz : ¬ ((0 : Nat) : Int) > (([] : List UInt8).length : Int) := by simp
    clear h hb
    go_enter Tryz.func50, Tryz.ntmps50
    go_wp2_with fail
    all_goals
      go_ret
      exact ⟨_, _, rfl, Or.inl rfl, HP.out _ _⟩
  · have hnz : ¬ (n : Int) > (bs.length : Int) := by omega
    have hnz2 : (n : Int) ≤ (bs.length : Int) := by omega
    have HP := hidd (h.cut hb hc hlt hB n (bs.length - n) (by omega))
    have HT : Hid (BytesAt w0 b off (bs.take n)) := fun t ht => by
      rw [List.length_take] at ht
      have := hB t (by omega)
      rw [this]
      simp [List.getD_eq_getElem?_getD, show t < n by omega]
    have HO := hidd h.old
    have hnew := h.new
    clear h hb hB
    go_enter Tryz.func50, Tryz.ntmps50
    go_wp2_with fail
    all_goals
      go_ret
      refine ⟨_, _, rfl, ?_, HP.out _ _ (by first | exact Or.inr ⟨rfl, rfl⟩ | (left; omega))⟩
      exact Or.inr ⟨b, off, rfl, HT.out.old (HO.out.setCell (p := ⟨B, 0, none⟩) hnew _) hlt⟩
set_option maxHeartbeats 1000000 in
theorem take_none {w0 W : World} {B n : Nat} {bs : List UInt8} (hn : bs.length ≤ 1048576) (hn2 : n ≤ 1048576) (h : RdrAt w0 W B bs false) (hle : ¬ n ≤ bs.length) :
    Calls Tryz.prog 50 #[.pointer (some ⟨B, 0, none⟩), .int .i64 (n : Int)] W fun e w' => e = .returned (.slice none 0 0) ∧ RdrAt w0 w' B [] true ∧ RdFr B W w' := by
  obtain ⟨v, hb, hv⟩ := h.box
  obtain ⟨a, c, rfl⟩ : ∃ a c, v = .slice a bs.length c := by
    rcases hv with ⟨rfl, a, c, e⟩ | ⟨b, off, c, e, _⟩
    · exact ⟨a, c, e⟩
    · exact ⟨_, c, e⟩
  have x0 := blkc hb 0
  have hnz : (n : Int) > (bs.length : Int) := by omega
  have HH := hidd h
  clear h hb hv
  go_enter Tryz.func50, Tryz.ntmps50
  go_wp2_with fail
  refine (stop_any HH.out).mono ?_
  rintro e w2 ⟨rfl, h2, h3⟩
  have HP := hidd (And.intro h2 h3)
  clear h2 h3
  go_wp2_with fail
  go_ret
  exact ⟨rfl, HP.out⟩
theorem rdT_some {bs t r : List UInt8} (h : rdT bs = some (t, r)) : ∃ n q, rdN 65536 bs = some (n, q) ∧ n ≤ q.length ∧ t = q.take n ∧ r = q.drop n := by
  unfold rdT at h
  cases hg : rdN 65536 bs with
  | none => rw [hg] at h; simp at h
  | some p =>
    obtain ⟨n, q⟩ := p
    rw [hg] at h
    simp only at h
    split at h
    · rename_i hle
      simp only [Option.some.injEq, Prod.mk.injEq] at h
      exact ⟨n, q, rfl, hle, h.1.symm, h.2.symm⟩
    · simp at h
theorem rdT_none {bs : List UInt8} (h : rdT bs = none) : rdN 65536 bs = none ∨ ∃ n q, rdN 65536 bs = some (n, q) ∧ ¬ n ≤ q.length := by
  unfold rdT at h
  cases hg : rdN 65536 bs with
  | none => exact Or.inl rfl
  | some p =>
    obtain ⟨n, q⟩ := p
    rw [hg] at h
    simp only at h
    split at h
    · simp at h
    · rename_i hle
      exact Or.inr ⟨n, q, rfl, hle⟩
end Go.Proofs.YtpdiaddgialanaaGreatDoor

namespace Go.Proofs.YtpdiaddgialanaaGreatDoor
open Go Go.RowKit
set_option linter.unusedVariables false
set_option linter.unusedSimpArgs false
set_option maxRecDepth 100000

theorem conv_take {W : World} {a : Option Addr} {n c : Nat} {l : List UInt8} (hl : l.length = n) (h : n = 0 ∨ ∃ b off, a = some ⟨b, off, none⟩ ∧ BytesAt W b off l) : (convert 22 9 (.slice a n c)).run Tryz.prog W = .ok (.string ⟨l.toArray⟩) W := by
  subst hl
  rcases h with h | ⟨b, off, rfl, hB⟩
  · have e : l = [] := List.length_eq_zero_iff.1 h
    subst e
    cases a with
    | none => exact run_convert_bytes_nil W 22 5 Tryz.underlying22 Tryz.underlying5 0 c 9 Tryz.underlying9
    | some ad => exact run_convert_bytes_back W 22 9 5 ad c [] Tryz.underlying22 Tryz.underlying5 Tryz.underlying9 fun j hj => absurd hj (by simp)
  · refine run_convert_bytes_back W 22 9 5 ⟨b, off, none⟩ c l Tryz.underlying22 Tryz.underlying5 Tryz.underlying9 fun j hj => ?_
    have := hB j hj
    rw [Go.WideShapes.add_plain, this]
    simp [List.getD_eq_getElem?_getD, hj]
theorem RdrAt.drew {w0 W : World} {B : Nat} {bs : List UInt8} {sh : Bool} (h : RdrAt w0 W B bs sh) : RdrAt w0 W.drew B bs sh := h.below (below_drewN (Below.refl _ _) 1)
theorem RdFr.drew {B : Nat} {W W' : World} (h : RdFr B W.drew W') : RdFr B W W' := h
set_option maxHeartbeats 2000000 in
theorem text_some {w0 W : World} {B : Nat} {bs t r : List UInt8} (hn : bs.length ≤ 1048576) (h : RdrAt w0 W B bs false) (hr : rdT bs = some (t, r)) :
    Calls Tryz.prog 89 #[.pointer (some ⟨B, 0, none⟩)] W fun e w' => e = .returned (.string ⟨t.toArray⟩) ∧ RdrAt w0 w' B r false ∧ RdFr B W w' := by
  obtain ⟨n, q, hq, hle, rfl, rfl⟩ := rdT_some hr
  have hql := rdN_len hq
  have HU := hidd (upTo_some hn (by omega) h.drew hq)
  have HT := hidd (fun W' (h' : RdrAt w0 W' B q false) => take_some (by omega) h' hle)
  have htl : (q.take n).length = n := by rw [List.length_take]; omega
  clear h hr hq
  go_enter Tryz.func89, Tryz.ntmps89
  go_wp2_with fail
  go_region_with (first
    | (go_at_call 90; refine HU.out.mono ?_; rintro e' w2 ⟨rfl, h2, hf2⟩)
    | (go_at_call 50; refine (HT.out _ h2).mono ?_; rintro e'' w3 ⟨a3, c3, rfl, hb3, h3, hf3⟩; have hcv := conv_take (c := c3) htl hb3; obtain ⟨v3, hx3, _⟩ := h3.box; have x3 := blkc hx3 1))
  all_goals
    have HF : Hid (RdrAt w0 w3 B (q.drop n) false ∧ RdFr B W w3) := ⟨h3, hf2.trans hf3⟩
    clear h2 h3 hf2 hf3
    go_wp2_with fail
    go_ret
    exact ⟨rfl, HF.out⟩
set_option maxHeartbeats 2000000 in
theorem text_none {w0 W : World} {u : TypeId} {pv : Value} {B : Nat} {bs : List UInt8} (hE : ErrC w0 u pv) (hn : bs.length ≤ 1048576) (h : RdrAt w0 W B bs false) (hr : rdT bs = none) :
    Calls Tryz.prog 89 #[.pointer (some ⟨B, 0, none⟩)] W fun e w' => Cut u pv w0 W B e w' := by
  rcases rdT_none hr with hq | ⟨n, q, hq, hle⟩
  · have HU := hidd (upTo_none hE hn (by omega) h.drew hq)
    have x0 := hE.at h.old
    clear h hr hq hE
    go_enter Tryz.func89, Tryz.ntmps89
    go_wp2_with fail
    refine wp_region_held_drew (S := (fun w' => w'.cell? ⟨3, 0, none⟩ = some (.iface u pv))) (by kernel_rfl) ?_ (fun hHeld => ?_)
    · exact x0
    refine wpAnyH_take (i := 0) (v := ?_) rfl (by kernel_rfl) (by kernel_rfl) (by kernel_rfl) (fun _ _ _ h => h) (Or.inl ⟨by kernel_rfl, ?_⟩) (by assumption) ?_
    rotate_left
    · (intro w hSw; (try dsimp only at hSw); go_simp <;> with_reducible rfl)
    (simp only [Act.put, List.getElem_toArray, List.getElem_cons_succ, List.getElem_cons_zero, List.setIfInBounds_toArray, List.set_cons_zero, List.set_cons_succ])
    refine wpAnyH_take (i := 1) (v := ?_) rfl (by kernel_rfl) (by kernel_rfl) (by kernel_rfl) (fun _ _ _ h => h) (Or.inl ⟨by kernel_rfl, ?_⟩) (by assumption) ?_
    rotate_left
    · (intro w hSw; (try dsimp only at hSw); go_simp <;> with_reducible rfl)
    (simp only [Act.put, List.getElem_toArray, List.getElem_cons_succ, List.getElem_cons_zero, List.setIfInBounds_toArray, List.set_cons_zero, List.set_cons_succ])
    refine wpAnyH_take (i := 2) (v := ?_) rfl (by kernel_rfl) (by kernel_rfl) (by kernel_rfl) (fun _ _ _ h => h) (Or.inl ⟨by kernel_rfl, ?_⟩) (by assumption) ?_
    rotate_left
    · (intro w hSw; (try dsimp only at hSw); go_simp <;> with_reducible rfl)
    (simp only [Act.put, List.getElem_toArray, List.getElem_cons_succ, List.getElem_cons_zero, List.setIfInBounds_toArray, List.set_cons_zero, List.set_cons_succ])
    refine wpAnyH_take (i := 3) (v := ?_) rfl (by kernel_rfl) (by kernel_rfl) (by kernel_rfl) (fun _ _ _ h => h) (Or.inl ⟨by kernel_rfl, ?_⟩) (by assumption) ?_
    rotate_left
    · (intro w hSw; (try dsimp only at hSw); go_simp <;> with_reducible rfl)
    (simp only [Act.put, List.getElem_toArray, List.getElem_cons_succ, List.getElem_cons_zero, List.setIfInBounds_toArray, List.set_cons_zero, List.set_cons_succ])
    refine wpAnyH_ready (rs := [4]) (by kernel_rfl) (by simp) ?_
    refine AllReadyH.cons rfl (fun K hK => ?_) AllReadyH.nil
    go_simp
    refine HU.out.mono ?_
    rintro e' w2 ⟨rfl, h2, hf2⟩
    exact ⟨rfl, rfl, h2, hf2⟩
  · have hql := rdN_len hq
    have HU := hidd (upTo_some hn (by omega) h.drew hq)
    have HT := hidd (fun W' (h' : RdrAt w0 W' B q false) => take_none (by omega) (by omega) h' hle)
    have HE := hidd hE
    clear h hr hq hE
    go_enter Tryz.func89, Tryz.ntmps89
    go_wp2_with fail
    go_region_with (first
      | (go_at_call 90; refine HU.out.mono ?_; rintro e' w2 ⟨rfl, h2, hf2⟩)
      | (go_at_call 50; refine (HT.out _ h2).mono ?_; rintro e'' w3 ⟨rfl, h3, hf3⟩; have hcv := conv_take (W := w3) (a := none) (n := 0) (c := 0) (l := []) rfl (Or.inl rfl); obtain ⟨v3, hx3, _⟩ := h3.box; have x3 := blkc hx3 1; have x0 := HE.out.at h3.old))
    all_goals
      have HF : Hid (Below w0.heap.size w0 w3 ∧ RdFr B W w3) := ⟨h3.old, hf2.trans hf3⟩
      clear h2 h3 hf2 hf3
      go_wp2_with fail
      exact ⟨rfl, rfl, HF.out⟩
set_option maxHeartbeats 400000 in
theorem signed_any (v : Nat) (w : World) (hv : v ≤ 2000000000000) : Calls Tryz.prog 91 #[.int .i64 (v : Int)] w fun e w' => e = .returned (.int .i64 (sgn v)) ∧ w' = w := by
  by_cases h : v % 2 = 1
  · have HS : Hid (sgn v = -(((v : Int) + 1) / 2)) := by show _ = _; rw [sgn, if_pos h]; push_cast; rfl
    have hz : ((v : Int) % 2 == 1) = true := by simp; omega
    have hm : (v : Int).tmod 2 = 1 := by rw [Int.tmod_eq_emod_of_nonneg (by omega)]; omega
    have hd : (-((v : Int) + 1)).tdiv 2 = -((((v : Int) + 1)) / 2) := by rw [Int.neg_tdiv, Int.tdiv_eq_ediv_of_nonneg (by omega)]
    go_enter Tryz.func91, Tryz.ntmps91
    go_wp2_with fail
    go_ret
    rw [HS.out]
    exact ⟨rfl, rfl⟩
  · have HS : Hid (sgn v = (v : Int) / 2) := by show _ = _; rw [sgn, if_neg h]; push_cast; rfl
    have hv0 : v % 2 = 0 := by omega
    have hz : ((v : Int) % 2 == 1) = false := by simp; omega
    have hm : (v : Int).tmod 2 = 0 := by rw [Int.tmod_eq_emod_of_nonneg (by omega)]; omega
    clear h
    go_enter Tryz.func91, Tryz.ntmps91
    go_wp2_with fail
    go_ret
    rw [HS.out]
    exact ⟨rfl, rfl⟩
set_option maxHeartbeats 400000 in
theorem unsigned_any (w : World) : Calls Tryz.prog 92 #[.int .i64 1000000000000] w fun e w' => e = .returned (.int .i64 2000000000000) ∧ w' = w := by
  go_enter Tryz.func92, Tryz.ntmps92
  go_wp2_with fail
  go_ret
  exact ⟨rfl, rfl⟩
end Go.Proofs.YtpdiaddgialanaaGreatDoor

namespace Go.Proofs.YtpdiaddgialanaaGreatDoor
open Go Go.RowKit
set_option linter.unusedVariables false
set_option linter.unusedSimpArgs false
set_option maxRecDepth 100000

/-- Bytes taken off the front of a reader. -/
def TakeG (ty : TypeId) (w0 W : World) (B : Nat) (bs : List UInt8) (sh : Bool) (n : Nat) (e : Ending) (w' : World) : Prop := ∃ a c, e = .returned (.slice a n c) ∧ (n = 0 ∨ ∃ b off, a = some ⟨b, off, none⟩ ∧ n ≤ c ∧ b < w0.heap.size ∧ BytesAt w0 b off (bs.take n)) ∧ RdrG ty w0 w' B (bs.drop n) sh ∧ RdFr B W w'
set_option maxHeartbeats 1000000 in
theorem takeG_some {ty : TypeId} {w0 W : World} {B n : Nat} {bs : List UInt8} {sh : Bool} (hn : bs.length ≤ 1048576) (h : RdrG ty w0 W B bs sh) (hle : n ≤ bs.length) :
    Calls Tryz.prog 50 #[.pointer (some ⟨B, 0, none⟩), .int .i64 (n : Int)] W (TakeG ty w0 W B bs sh n) := by
  obtain ⟨v, hb, hv⟩ := h.box
  have x0 := blkc hb 0
  have f0 := blkf hb 0
  rcases hv with ⟨rfl, a, c, rfl⟩ | ⟨b, off, c, rfl, hc, hlt, hB⟩
  · obtain rfl : n = 0 := by simpa using hle
    have HP : Hid (∀ a c, RdrG ty w0 (W.setCell ⟨B, 0, none⟩ (.slice a 0 c)) B [] sh ∧ RdFr B W (W.setCell ⟨B, 0, none⟩ (.slice a 0 c))) := fun a c => ⟨⟨h.old.setCell (p := ⟨B, 0, none⟩) h.new _, h.new, .slice a 0 c, (blk_setk hb 0 _).trans (by simp), Or.inl ⟨rfl, a, c, rfl⟩⟩, RdFr.set B 0 _ W⟩
    have hnz : ¬ ((0 : Nat) : Int) > (([] : List UInt8).length : Int) := by simp
    clear h hb
    go_enter Tryz.func50, Tryz.ntmps50
    go_wp2_with fail
    all_goals
      go_ret
      exact ⟨_, _, rfl, Or.inl rfl, HP.out _ _⟩
  · have hnz : ¬ (n : Int) > (bs.length : Int) := by omega
    have hnz2 : (n : Int) ≤ (bs.length : Int) := by omega
    have HP := hidd (h.cut hb hc hlt hB n (bs.length - n) (by omega))
    have HT : Hid (BytesAt w0 b off (bs.take n)) := fun t ht => by
      rw [List.length_take] at ht
      have := hB t (by omega)
      rw [this]
      simp [List.getD_eq_getElem?_getD, show t < n by omega]
    have HO := hidd h.old
    have hnew := h.new
    clear h hb hB
    go_enter Tryz.func50, Tryz.ntmps50
    go_wp2_with fail
    all_goals
      go_ret
      refine ⟨_, _, rfl, ?_, HP.out _ _ (by first | exact Or.inr ⟨rfl, rfl⟩ | (left; omega))⟩
      exact Or.inr ⟨b, off, rfl, by omega, hlt, HT.out⟩
set_option maxHeartbeats 1000000 in
theorem takeG_none {ty : TypeId} {w0 W : World} {B n : Nat} {bs : List UInt8} {sh : Bool} (hn : bs.length ≤ 1048576) (hn2 : n ≤ 1048576) (h : RdrG ty w0 W B bs sh) (hle : ¬ n ≤ bs.length) :
    Calls Tryz.prog 50 #[.pointer (some ⟨B, 0, none⟩), .int .i64 (n : Int)] W fun e w' => e = .returned (.slice none 0 0) ∧ RdrG ty w0 w' B [] true ∧ RdFr B W w' := by
  obtain ⟨v, hb, hv⟩ := h.box
  obtain ⟨a, c, rfl⟩ : ∃ a c, v = .slice a bs.length c := by
    rcases hv with ⟨rfl, a, c, e⟩ | ⟨b, off, c, e, _⟩
    · exact ⟨a, c, e⟩
    · exact ⟨_, c, e⟩
  have x0 := blkc hb 0
  have hnz : (n : Int) > (bs.length : Int) := by omega
  have HH := hidd h
  clear h hb hv
  go_enter Tryz.func50, Tryz.ntmps50
  go_wp2_with fail
  refine (stop_any HH.out).mono ?_
  rintro e w2 ⟨rfl, h2, h3⟩
  have HP := hidd (And.intro h2 h3)
  clear h2 h3
  go_wp2_with fail
  go_ret
  exact ⟨rfl, HP.out⟩
theorem RdrG.drew {ty : TypeId} {w0 W : World} {B : Nat} {bs : List UInt8} {sh : Bool} (h : RdrG ty w0 W B bs sh) : RdrG ty w0 W.drew B bs sh := h.below (below_drewN (Below.refl _ _) 1)
set_option maxHeartbeats 1000000 in
theorem next_none {ty : TypeId} {w0 W : World} {B : Nat} {sh : Bool} (h : RdrG ty w0 W B [] sh) :
    Calls Tryz.prog 66 #[.pointer (some ⟨B, 0, none⟩)] W fun e w' => e = .returned (.int .i64 0) ∧ RdrG ty w0 w' B [] true ∧ RdFr B W w' := by
  obtain ⟨v, hb, hv⟩ := h.box
  obtain ⟨a, c, rfl⟩ : ∃ a c, v = .slice a 0 c := by
    rcases hv with ⟨_, a, c, e⟩ | ⟨b, off, c, e, _⟩
    · exact ⟨a, c, e⟩
    · exact ⟨_, c, e⟩
  have x0 := blkc hb 0
  have HH := hidd h
  clear h hb hv
  go_enter Tryz.func66, Tryz.ntmps66
  go_wp2_with fail
  refine (stop_any HH.out).mono ?_
  rintro e w2 ⟨rfl, h2, h3⟩
  have HP := hidd (And.intro h2 h3)
  clear h2 h3
  go_wp2_with fail
  go_ret
  exact ⟨rfl, HP.out⟩
set_option maxHeartbeats 1000000 in
theorem next_some {ty : TypeId} {w0 W : World} {B : Nat} {x : UInt8} {q : List UInt8} {sh : Bool} (hn : q.length ≤ 1048576) (h : RdrG ty w0 W B (x :: q) sh) :
    Calls Tryz.prog 66 #[.pointer (some ⟨B, 0, none⟩)] W fun e w' => e = .returned (.int .i64 (x.toNat : Int)) ∧ RdrG ty w0 w' B q sh ∧ RdFr B W w' := by
  obtain ⟨v, hb, hv⟩ := h.box
  obtain ⟨b, off, c, rfl, hc, hlt, hB⟩ := hv.resolve_left (fun h => by simp at h)
  have HP := hidd (h.cut hb hc hlt hB 1 q.length (by simp; omega))
  have hx8 := UInt8.toNat_lt x
  have x0 := blkc hb 0
  have f0 := blkf hb 0
  have y0 : W.cell? ⟨b, off, none⟩ = some (.int .u8 (x.toNat : Int)) := by have := hB.old h.old hlt 0 (by simp); simpa using this
  have hL : (x :: q).length = q.length + 1 := rfl
  rw [hL] at hc x0
  have hnz : ¬ ((q.length + 1 : Nat) : Int) = 0 := by omega
  clear h hb hB hv hL
  obtain ⟨n, hqn⟩ : ∃ n, q.length = n := ⟨_, rfl⟩
  rw [hqn] at hn hc x0 HP hnz
  clear hqn
  go_enter Tryz.func66, Tryz.ntmps66
  go_wp2_with fail
  all_goals
    go_ret
    exact ⟨rfl, HP.out _ _ (by first | exact Or.inr ⟨rfl, rfl⟩ | (left; omega))⟩
end Go.Proofs.YtpdiaddgialanaaGreatDoor

namespace Go.Proofs.YtpdiaddgialanaaGreatDoor
open Go Go.RowKit
set_option linter.unusedVariables false
set_option maxRecDepth 100000

/-- Where value i of a row of values keeps a list. -/
def LiesV (xs : List Value) (i b : Nat) : Prop := ∃ v, (xs[i * 3 + 1]? = some v ∨ xs[i * 3 + 2]? = some v) ∧ v.ownBlock = some b
/-- One value by its three cells, its lists of their own from lo on. -/
def ValO (w : World) (lo : Nat) (xs : List Value) (j : Nat) (v : Vl) : Prop := ∃ vt vn, xs[j * 3]? = some (mkS v.1) ∧ xs[j * 3 + 1]? = some vt ∧ xs[j * 3 + 2]? = some vn ∧
  w.ownsRow lo 9 1 vt v.2.1.length (v.2.1.map mkS) ∧ w.ownsRow lo 3 1 vn v.2.2.length (v.2.2.map mkI)
/-- The values of an answer: all that they keep lies from lo on, ahead of hi, and no two lists in one place. -/
structure AnsV (w : World) (lo hi : Nat) (va : Value) (V : List Vl) (xs : List Value) : Prop where
  row : w.ownsRow lo 88 3 va V.length xs
  top : ∀ b, va.ownBlock = some b → b < hi
  val : ∀ j, j < V.length → ValO w lo xs j (V.getD j vl0)
  lie : ∀ j b, j < V.length → LiesV xs j b → lo ≤ b ∧ b < hi
  dis : ∀ i j b, i < j → j < V.length → LiesV xs i b → ¬ LiesV xs j b
theorem own_keep {w w' : World} {base e sz n : Nat} {v : Value} {xs : List Value} (h : w.ownsRow base e sz v n xs) (hk : ∀ b, v.ownBlock = some b → w'.heap[b]? = w.heap[b]?) : w'.ownsRow base e sz v n xs := own_congr h hk
theorem AnsV.keep {w w' : World} {lo hi : Nat} {va : Value} {V : List Vl} {xs : List Value} (h : AnsV w lo hi va V xs) (hk : ∀ b, lo ≤ b → b < hi → w'.heap[b]? = w.heap[b]?) : AnsV w' lo hi va V xs := by
  refine ⟨own_keep h.row fun b hb => hk b (h.row.lt b hb).1 (h.top b hb), h.top, fun j hj => ?_, h.lie, h.dis⟩
  obtain ⟨vt, vn, h0, h1, h2, h3, h4⟩ := h.val j hj
  refine ⟨vt, vn, h0, h1, h2, own_keep h3 fun b hb => ?_, own_keep h4 fun b hb => ?_⟩
  · have := h.lie j b hj ⟨vt, Or.inl h1, hb⟩; exact hk b this.1 this.2
  · have := h.lie j b hj ⟨vn, Or.inr h2, hb⟩; exact hk b this.1 this.2
theorem AnsV.mono {w : World} {lo hi hi' : Nat} {va : Value} {V : List Vl} {xs : List Value} (h : AnsV w lo hi va V xs) (hh : hi ≤ hi') : AnsV w lo hi' va V xs :=
  ⟨h.row, fun b hb => by have := h.top b hb; omega, h.val, fun j b hj hl => by have := h.lie j b hj hl; omega, h.dis⟩
theorem AnsV.nil (w : World) (lo hi : Nat) : AnsV w lo hi (.slice none 0 0) [] [] :=
  ⟨World.ownsRow_nil _ _ _ _, fun b hb => by simp [Value.ownBlock] at hb, fun j hj => absurd hj (by simp), fun j b hj _ => absurd hj (by simp), fun i j b _ hj _ => absurd hj (by simp)⟩
theorem own_tyne {w : World} {base base' e e' sz sz' n n' : Nat} {v v' : Value} {xs xs' : List Value} (h : w.ownsRow base e sz v n xs) (h' : w.ownsRow base' e' sz' v' n' xs') (hne : e ≠ e') : v.ownBlock = none ∨ v.ownBlock ≠ v'.ownBlock := by
  rcases h.2 with ⟨rfl, _⟩ | ⟨g, cap, cur, rfl, _, hg, _⟩
  · exact Or.inl rfl
  · refine Or.inr fun e0 => ?_
    rcases h'.2 with ⟨rfl, _⟩ | ⟨g', cap', cur', rfl, _, hg', _⟩
    · simp [Value.ownBlock] at e0
    · simp only [Value.ownBlock, Option.some.injEq] at e0
      subst e0
      rw [hg] at hg'
      simp only [Option.some.injEq, Obj.cells.injEq] at hg'
      exact hne hg'.2.1
theorem own_monoR {w : World} {base base' e n size : Nat} {v : Value} {xs : List Value} (h : w.ownsRow base e size v n xs) (hb : base' ≤ base) : w.ownsRow base' e size v n xs := by
  refine ⟨h.1, ?_⟩
  rcases h.2 with h' | ⟨g, cap, cur, h1, h2, h3⟩
  · exact Or.inl h'
  · exact Or.inr ⟨g, cap, cur, h1, by omega, h3⟩
/-- A value put behind the others. -/
theorem AnsV.snoc {w w' : World} {lo hi lo2 hi' : Nat} {va va' vt vn : Value} {V : List Vl} {v : Vl} {xs : List Value} (h : AnsV w lo hi va V xs)
    (hl : lo ≤ lo2) (hh : hi ≤ lo2) (hr : w'.ownsRow lo 88 3 va' (V.length + 1) (xs ++ [mkS v.1, vt, vn])) (ht : ∀ b, va'.ownBlock = some b → b < hi')
    (h1 : w'.ownsRow lo2 9 1 vt v.2.1.length (v.2.1.map mkS)) (h2 : w'.ownsRow lo2 3 1 vn v.2.2.length (v.2.2.map mkI)) (hb : ∀ b, vt.ownBlock = some b ∨ vn.ownBlock = some b → b < hi') (hhi : hi ≤ hi')
    (hk : ∀ b j, j < V.length → LiesV xs j b → w'.heap[b]? = w.heap[b]?) : AnsV w' lo hi' va' (V ++ [v]) (xs ++ [mkS v.1, vt, vn]) := by
  have hxl := h.row.1
  have old : ∀ i j, i < V.length → j < 3 → (xs ++ [mkS v.1, vt, vn])[i * 3 + j]? = xs[i * 3 + j]? := fun i j hi hj => List.getElem?_append_left (by omega)
  have new : ∀ j, j < 3 → (xs ++ [mkS v.1, vt, vn])[V.length * 3 + j]? = [mkS v.1, vt, vn][j]? := fun j hj => by rw [List.getElem?_append_right (by omega), hxl, Nat.add_sub_cancel_left]
  have oldL : ∀ i b, i < V.length → LiesV (xs ++ [mkS v.1, vt, vn]) i b → LiesV xs i b := fun i b hi ⟨u, hu, hub⟩ => ⟨u, by rw [old i 1 hi (by omega), old i 2 hi (by omega)] at hu; exact hu, hub⟩
  have newL : ∀ b, LiesV (xs ++ [mkS v.1, vt, vn]) V.length b → lo2 ≤ b ∧ b < hi' := fun b ⟨u, hu, hub⟩ => by
    rw [new 1 (by omega), new 2 (by omega)] at hu
    simp only [List.getElem?_cons_succ, List.getElem?_cons_zero, Option.some.injEq] at hu
    rcases hu with rfl | rfl
    · exact ⟨(h1.lt b hub).1, hb b (Or.inl hub)⟩
    · exact ⟨(h2.lt b hub).1, hb b (Or.inr hub)⟩
  refine ⟨by rw [List.length_append]; exact hr, ht, fun j hj => ?_, fun j b hj hlie => ?_, fun i j b hij hj hi1 hj1 => ?_⟩
  · rw [List.length_append] at hj
    by_cases e : j = V.length
    · subst e
      have g : (V ++ [v]).getD V.length vl0 = v := by simp
      rw [g]
      have n0 := new 0 (by omega)
      exact ⟨vt, vn, n0, new 1 (by omega), new 2 (by omega), own_monoR h1 hl, own_monoR h2 hl⟩
    · have hj' : j < V.length := by simp at hj; omega
      have g : (V ++ [v]).getD j vl0 = V.getD j vl0 := by simp [List.getD_eq_getElem?_getD, List.getElem?_append_left hj']
      rw [g]
      obtain ⟨ut, un, q0, q1, q2, q3, q4⟩ := h.val j hj'
      have o0 := old j 0 hj' (by omega)
      exact ⟨ut, un, o0.trans q0, (old j 1 hj' (by omega)).trans q1, (old j 2 hj' (by omega)).trans q2, own_keep q3 fun b hb' => hk b j hj' ⟨ut, Or.inl q1, hb'⟩, own_keep q4 fun b hb' => hk b j hj' ⟨un, Or.inr q2, hb'⟩⟩
  · rw [List.length_append] at hj
    by_cases e : j = V.length
    · subst e
      have := newL b hlie; omega
    · have hj' : j < V.length := by simp at hj; omega
      have := h.lie j b hj' (oldL j b hj' hlie); omega
  · rw [List.length_append] at hj
    by_cases e : j = V.length
    · subst e
      have a := newL b hj1
      have c := h.lie i b (by omega) (oldL i b (by omega) hi1)
      omega
    · have hj' : j < V.length := by simp at hj; omega
      exact h.dis i j b hij hj' (oldL i b (by omega) hi1) (oldL j b hj' hj1)
end Go.Proofs.YtpdiaddgialanaaGreatDoor
