import Derived.Test.YtbkedgpligcicaaDictJ13
import Derived.Test.YtbkedgpligcicaaDictJ05
import Derived.Test.YtbkedgpligcicaaDictJ04
import Derived.Test.YtbkedgpligcicaaDictJ12
import Derived.Laws.OwnMore
namespace Go.Proofs.Ytbkedgpligcicaa
open Go Go.RowKit
set_option linter.unusedVariables false

set_option maxHeartbeats 2000000 in
set_option maxRecDepth 100000 in
theorem doubled_any (n : Nat) (odd : Bool) (w : World) (hn : n ≤ 1099511627776) (R : Nat) (hR : 2 * n + (if odd then 1 else 0) = R) :
    Calls Try.prog 49 #[.int .i64 (n : Int), .bool odd] w fun e w' => e = .returned (.int .i64 (R : Int)) ∧ w' = w := by
  cases odd with
  | true =>
    have h1 : 2 * (n : Int) + 1 = (R : Int) := by simp at hR; omega
    have HR := hidd hR
    clear hR
    go_enter Try.func49, Try.ntmps49
    go_wp2_with fail
    go_ret
    exact ⟨by go_num, rfl⟩
  | false =>
    have h1 : 2 * (n : Int) = (R : Int) := by simp at hR; omega
    have HR := hidd hR
    clear hR
    go_enter Try.func49, Try.ntmps49
    go_wp2_with fail
    go_ret
    exact ⟨by go_num, rfl⟩

theorem run_makeMapRoom (n : Nat) (hn : n ≤ 1099511627776) (w : World) : (Instr.makeMap 114 (some (.int .i64 (n : Int)))).run Try.prog w = .ok (.map (some w.heap.size)) (w.alloc (.map #[] 0)) := by
  have hw : IntKind.i64.wrap (n : Int) = (n : Int) := by rw [IntKind.wrap_i64]; omega
  simp [Instr.makeMap, run_underlying Try.underlying114, asInt, asIntOf]
theorem box_three (w : World) (o1 o2 o3 : Obj) : (((w.alloc o1).alloc o2).alloc o3).heap[w.heap.size]? = some o1 ∧ (((w.alloc o1).alloc o2).alloc o3).heap[w.heap.size + 1]? = some o2 ∧ (((w.alloc o1).alloc o2).alloc o3).heap[w.heap.size + 1 + 1]? = some o3 := by
  have h2 := box_two w o1 o2
  refine ⟨?_, ?_, ?_⟩
  · rw [Below.heap_alloc _ _ _ (by simp; omega)]; exact h2.1
  · rw [Below.heap_alloc _ _ _ (by simp)]; exact h2.2
  · have := heap_alloc_new ((w.alloc o1).alloc o2) o3
    simpa using this
theorem reg_new {base : Nat} {w : World} {rb mb g n : Nat} {mc : Array Value} (hr : w.heap[rb]? = some (.cells #[.map (some mb), .slice (some ⟨g, 0, none⟩) 0 n] 117)) (hm : w.heap[mb]? = some (.map #[] 0)) (hg : w.heap[g]? = some (.cells mc 120))
    (hs : mc.size = n * 3) (hn : n ≤ 1099511627776) (ha : rb ≠ mb ∧ g ≠ mb ∧ g ≠ rb) (hb : base ≤ rb ∧ base ≤ mb ∧ base ≤ g) : RegAt base w rb mb g n [] :=
  ⟨hr, ⟨rfl, Or.inr ⟨g, n, mc, rfl, hb.2.2, hg, Nat.zero_le _, by unfold maxLen; omega, hs, by simp [lCells]⟩⟩, ⟨#[], 0, hm, rfl⟩, ha, ⟨hb.1, hb.2.1⟩, by simp, by simp⟩
set_option maxHeartbeats 4000000 in
set_option maxRecDepth 100000 in
theorem newRegister_any (n : Nat) (w : World) (hn : n ≤ 1099511627776) :
    Calls Try.prog 38 #[.int .i64 (n : Int)] w fun e w' => ∃ rb mb g cap, e = .returned (.pointer (some ⟨rb, 0, none⟩)) ∧ RegAt w.heap.size w' rb mb g cap [] ∧ Below w.heap.size w w' := by
  obtain ⟨i0, hi, hz0, hz1, hz2⟩ := info_parts Try.infoLink
  have hms : ∀ W : World, (Instr.makeSlice 115 (.int .i64 0) (.int .i64 (n : Int))).run Try.prog W = .ok (.slice (some ⟨W.heap.size, 0, none⟩) 0 n) (W.alloc (.cells (madeCells (Value.agg #[.int .i64 0, .int .i64 0, .int .i64 0]).cells (n * 3)) 120)) := fun W => by
    have := run_make (P := Try.prog) W 115 120 i0 _ Try.underlying115 hi hz0 .i64 .i64 0 (n : Int) (by omega) (by omega) (by rw [hz2]; omega) (by omega)
    rw [hz1] at this
    simpa using this
  have hmc : (madeCells (Value.agg #[.int .i64 0, .int .i64 0, .int .i64 0]).cells (n * 3)).size = n * 3 := size_madeCells _ _
  generalize madeCells (Value.agg #[.int .i64 0, .int .i64 0, .int .i64 0]).cells (n * 3) = mc at *
  have Hmc := hidd hmc
  clear hmc hi hz0 hz1 hz2
  have hmk := run_makeMapRoom n hn
  go_enter Try.func38, Try.ntmps38
  go_wp2_with fail
  go_region_law (fail)
  · go_wp2_with fail
    go_ret
    have h3 := box_three w (.map #[] 0) (.cells mc 120) (.cells #[.map (some w.heap.size), .slice (some ⟨w.heap.size + 1, 0, none⟩) 0 n] 117)
    refine ⟨w.heap.size + 1 + 1, w.heap.size, w.heap.size + 1, n, rfl, reg_new h3.2.2 h3.1 h3.2.1 Hmc.out hn ⟨by omega, by omega, by omega⟩ ⟨by omega, by omega, by omega⟩, ?_⟩
    exact below_drewN ((((Below.refl _ _).alloc (Nat.le_refl _) _).alloc (by simp) _).alloc (by simp; omega) _) 1
  · go_wp2_with fail
    go_ret
    have h3 := box_three w (.cells mc 120) (.map #[] 0) (.cells #[.map (some (w.heap.size + 1)), .slice (some ⟨w.heap.size, 0, none⟩) 0 n] 117)
    refine ⟨w.heap.size + 1 + 1, w.heap.size + 1, w.heap.size, n, rfl, reg_new h3.2.2 h3.2.1 h3.1 Hmc.out hn ⟨by omega, by omega, by omega⟩ ⟨by omega, by omega, by omega⟩, ?_⟩
    exact below_drewN ((((Below.refl _ _).alloc (Nat.le_refl _) _).alloc (by simp) _).alloc (by simp; omega) _) 1
end Go.Proofs.Ytbkedgpligcicaa

namespace Go.Proofs.Ytbkedgpligcicaa
open Go Go.RowKit Go.Shelf
set_option linter.unusedVariables false
attribute [local go_sem] Oper.semAt_some

/-- What endingsOf has to do. -/
def EndC : Prop := ∀ (a : Option Addr) (cap : Nat) (S : List St) (w : World), S.length ≤ 1048576 → (∀ i, (arcsAt S i).length ≤ 1048576) → HoldS w a S →
  Calls Try.prog 41 #[.slice a S.length cap] w fun e w' => ∃ v b, e = .returned (.tuple #[v, .bool b]) ∧ Below w.heap.size w w' ∧
    (b = true → ∃ be E, v = .slice (some ⟨be, 0, none⟩) S.length S.length ∧ w.heap.size ≤ be ∧ w'.heap[be]? = some (.cells (nCellsE E).toArray 3) ∧ EndOK S E) ∧ ∀ c ts, IsDict (c, S) ts → b = true

theorem okD_yes {c : Int} {S : List St} (h : ∃ ts, IsDict (c, S) ts) : okD c S = true := @decide_eq_true _ (Classical.propDecidable _) h
theorem okD_not {c : Int} {S : List St} (h : ¬ ∃ ts, IsDict (c, S) ts) : okD c S = false := @decide_eq_false _ (Classical.propDecidable _) h
/-- The Aheads of one state are right. -/
def AhAt (S : List St) (E : List Nat) (i : Nat) : Prop := ∀ k a, (arcsAt S i)[k]? = some a → a.2.2 = ((ahN (finAt S i) E (arcsAt S i) k : Nat) : Int)
theorem ne_of_lt_len {l : List Ar} {x : Nat} (h : x < l.length) : ¬ l = [] := fun e => by rw [e] at h; simp at h
theorem okLeave0 {tmps : Array Value} {w W : World} {b : Bool} (hB : Below w.heap.size w W) (hK : W.heap[w.heap.size + 1]? = some (.cells #[.bool b] 4)) (ht : tmps.getD 2 undef = .pointer (some ⟨w.heap.size + 1, 0, none⟩) := by rfl) :
    ∀ w', AllBut W w' → Below w.heap.size W w' → LeavesIn Fence.wide 4 Try.prog Try.f15 tmps (fun e w' => e = .returned (.bool b) ∧ Below w.heap.size w w') [] .returning w' := by
  intro w' ha hb
  have k3 : w'.heap[w.heap.size + 1]? = some (.cells #[.bool b] 4) := (ha.block _ (by rw [hK]; simp)).trans hK
  have k4 : w'.cell? ⟨w.heap.size + 1, 0, none⟩ = some (.bool b) := blkc k3 0
  have ht' : tmps[2]?.getD undef = .pointer (some ⟨w.heap.size + 1, 0, none⟩) := by simpa using ht
  refine ⟨.bool b, ?_, rfl, ?_⟩
  · simp [results, Try.results15, go_sem, ht', k4]
  · exact hB.trans hb
theorem okLeave {tmps : Array Value} {w W : World} {b b0 : Bool} (hB : Below w.heap.size w W) (hK : W.heap[w.heap.size + 1]? = some (.cells #[.bool b0] 4)) (ht : tmps.getD 2 undef = .pointer (some ⟨w.heap.size + 1, 0, none⟩) := by rfl) :
    ∀ w', AllBut (W.setCell ⟨w.heap.size + 1, 0, none⟩ (.bool b)) w' → Below w.heap.size (W.setCell ⟨w.heap.size + 1, 0, none⟩ (.bool b)) w' → LeavesIn Fence.wide 4 Try.prog Try.f15 tmps (fun e w' => e = .returned (.bool b) ∧ Below w.heap.size w w') [] .returning w' :=
  okLeave0 (hB.setCell (p := ⟨w.heap.size + 1, 0, none⟩) (by dsimp only; omega) _) (heap_setCell_same _ _ 0 _ _ (.bool b) hK) ht
theorem below_setSame {B b : Nat} {w3 W : World} {v : Value} {t : TypeId} (h : Below B w3 W) (hc : W.heap[b]? = some (.cells #[v] t)) : Below B w3 (W.setCell ⟨b, 0, none⟩ v) :=
  ⟨h.os, h.tape, h.output, by simpa using h.size, fun k hk => by
    by_cases hkb : k = b
    · subst hkb
      have := heap_setCell_same W k 0 _ _ v hc
      rw [← h.block k hk, hc, this]
      rfl
    · rw [heap_setCell_other W ⟨b, 0, none⟩ k v hkb]
      exact h.block k hk⟩
def IOk (w3 : World) (S : List St) (E : List Nat) (k : Nat) (pre : List (Fin (arcsAt S k).length)) (W : World) : Prop := Below w3.heap.size w3 W ∧ ∀ x ∈ pre, ∀ p, (arcsAt S k)[x.val]? = some p → p.2.2 = ((ahN (finAt S k) E (arcsAt S k) x.val : Nat) : Int)
def IxOk (w3 : World) (S : List St) (E : List Nat) (k : Nat) (cd : Code) (pre : List (Fin (arcsAt S k).length)) (W : World) : Prop := (cd = .ret ∧ ¬ AhAt S E k) ∧ Below w3.heap.size w3 W
theorem keepD_set {w : World} {b : Nat} {cs : Array Value} {t : TypeId} (h : w.heap[b]? = some (.cells cs t)) (j : Nat) (v : Value) : KeepD w (w.setCell ⟨b, j, none⟩ v) := by
  intro D hD
  rw [heap_setCell_other w ⟨b, j, none⟩ D v (by rintro rfl; rw [h] at hD; cases hD)]
  exact hD
set_option maxHeartbeats 4000000 in
set_option maxRecDepth 100000 in
theorem dictOK_any (hEnd : EndC) : OkC 15 := by
  intro c a cap S w hn hA hS
  obtain ⟨R, hR⟩ : ∃ R, okD c S = R := ⟨_, rfl⟩
  rw [hR]
  have HR := hidd hR
  clear hR
  have HS := hidd hS
  have HA := hidd hA
  have HEnd := hidd hEnd
  clear hS hA hEnd
  have HBa : Hid (Below w.heap.size w ((w.alloc (.cells #[.int .i64 c, .slice a S.length cap] 27)).alloc (.cells #[.bool false] 4))) := ((Below.refl _ _).alloc (Nat.le_refl _) _).alloc (by simp) _
  have Hbx := hidd (box_two w (.cells #[.int .i64 c, .slice a S.length cap] 27) (.cells #[.bool false] 4))
  refine (callsIn_wide (n := 4)).1 ?_
  refine callsIn_of_wp_marks Try.func15 rfl trivial ?_ rfl
  simp only [Try.ntmps15, List.size_toArray, List.length_cons, List.length_nil, Nat.reduceAdd, Nat.reduceSub, Array.replicate_succ, Array.replicate_zero, List.push_toArray, List.append_toArray, List.nil_append, List.cons_append]
  refine wpIn_wide.2 ?_
  go_wp2_with fail
  obtain ⟨wa, hwa⟩ : ∃ wa, (w.alloc (.cells #[.int .i64 c, .slice a S.length cap] 27)).alloc (.cells #[.bool false] 4) = wa := ⟨_, rfl⟩
  rw [hwa] at HBa Hbx
  try rw [hwa]
  clear hwa
  refine (HEnd.out a cap S wa hn HA.out (HS.out.below HBa.out)).mono ?_
  rintro e w1 ⟨v, b, rfl, hb1, hyes, hno⟩
  have HB1 := hidd (HBa.out.trans (hb1.mono HBa.out.size))
  have K0 := hidd (blko Hbx.out.1 hb1)
  have K1 := hidd (blko Hbx.out.2 hb1)
  have hwz : w.heap.size + 2 ≤ wa.heap.size := (Array.getElem?_eq_some_iff.1 Hbx.out.2).1
  have hwz1 := hb1.size
  clear Hbx HBa hb1
  have c0 : w1.cell? ⟨w.heap.size, 0, none⟩ = some (.int .i64 c) := blkc K0.out 0
  have c1 : w1.cell? ⟨w.heap.size, 1, none⟩ = some (.slice a S.length cap) := blkc K0.out 1
  have r0 : w1.cell? ⟨w.heap.size + 1, 0, none⟩ = some (.bool false) := blkc K1.out 0
  have f0 : w1.frozen? ⟨w.heap.size + 1, 0, none⟩ = false := frozen_of_row w1 _ 0 _ _ K1.out
  have Hno := hidd hno
  clear hno
  cases b with
  | false =>
    obtain rfl : R = false := by
      rw [← HR.out]
      refine okD_not ?_
      rintro ⟨ts, hts⟩
      have := Hno.out c ts hts
      cases this
    clear hyes
    go_wp2_with fail
    go_quiet (fail)
    go_wp2_with fail
    refine leaves_marks (B := w.heap.size) [] _ _ ⟨List.nodup_nil, by simp⟩ (AllBut.refl _) (Below.refl _ _) ?_
    exact okLeave (below_drewN HB1.out nq) (by rw [← K1.out]; simp)
  | true =>
    obtain ⟨be, E, rfl, hbe, hrow, hok⟩ := hyes rfl
    have HRow := hidd hrow
    have HOk := hidd hok
    have e0 : w1.cell? ⟨be, 0, none⟩ = some (.int .i64 ((valE E 0 : Nat) : Int)) := by rw [blkc hrow 0]; have := hok.len; have := hok.range; simp [nCellsE, valE, show 0 < E.length by omega]
    have hS0 : (0 : Int) < (S.length : Int) := by have := hok.range; omega
    have HIff := hidd (okD_iff (c := c) hok)
    clear hyes hrow hok
    by_cases hc : c = ((valE E 0 : Nat) : Int)
    · have hcb : (c != ((valE E 0 : Nat) : Int)) = false := by simp [hc]
      have HC := hidd hc
      clear hc
      generalize valE E 0 = V at *
      go_wp2_with fail
      go_quiet (fail)
      go_wp2_with fail
      have HB2 := hidd (below_drewN HB1.out nq)
      have K02 : Hid ((w1.drewN nq).heap[w.heap.size]? = some (.cells #[.int .i64 c, .slice a S.length cap] 27)) := by show _ = _; rw [← K0.out]; simp
      have K12 : Hid ((w1.drewN nq).heap[w.heap.size + 1]? = some (.cells #[.bool false] 4)) := by show _ = _; rw [← K1.out]; simp
      have HRow2 : Hid ((w1.drewN nq).heap[be]? = some (.cells (nCellsE E).toArray 3)) := by show _ = _; rw [← HRow.out]; simp
      have hwz2 : wa.heap.size ≤ (w1.drewN nq).heap.size := by simpa using hwz1
      clear HB1 K0 K1 HRow e0 c0 c1 r0 f0 Hno HEnd hwz1
      generalize w1.drewN nq = w2 at *
      refine wp_loop (fun a' w' => ∃ (k : Nat) (u6 u7 u8 u29 u30 u31 u32 u33 u34 u35 u36 u37 u38 u39 u40 u41 u42 u43 u44 u45 : Value) (Ds : List Nat), a' = { tmps := #[.agg #[.int .i64 c, .slice a S.length cap], .pointer (some ⟨w.heap.size, 0, none⟩), .pointer (some ⟨w.heap.size + 1, 0, none⟩), .slice (some ⟨be, 0, none⟩) S.length S.length, .bool true, undef, u6, u7, u8, .tuple #[.slice (some ⟨be, 0, none⟩) S.length S.length, .bool true], .pointer (some ⟨w.heap.size, 1, none⟩), .slice a S.length cap, .tuple #[.slice (some ⟨be, 0, none⟩) S.length S.length, .bool true], .slice (some ⟨be, 0, none⟩) S.length S.length, .bool true, .bool true, .bool false, .bool false, .pointer (some ⟨w.heap.size, 0, none⟩), .int .i64 c, .slice (some ⟨be, 0, none⟩) S.length S.length, .pointer (some ⟨be, 0, none⟩), .int .i64 (V : Int), .bool false, .bool false, .pointer (some ⟨w.heap.size, 1, none⟩), .slice a S.length cap, .int .i64 (S.length : Int), .int .i64 (k : Int), u29, u30, u31, u32, u33, u34, u35, u36, u37, u38, u39, u40, u41, u42, u43, u44, u45], defers := Ds.map mark } ∧ k ≤ S.length ∧ Below w.heap.size w w' ∧ w'.heap[w.heap.size + 1]? = some (.cells #[.bool false] 4) ∧ w'.heap[be]? = some (.cells (nCellsE E).toArray 3) ∧ Marks w' w.heap.size Ds ∧ ∀ i, i < k → AhAt S E i) (fun a' _ => S.length - (intOf (a'.tmps.getD 28 undef)).toNat) ⟨0, undef, undef, undef, undef, undef, undef, undef, undef, undef, undef, undef, undef, undef, undef, undef, undef, undef, undef, undef, undef, [], rfl, Nat.zero_le _, HB2.out, K12.out, HRow2.out, ⟨List.nodup_nil, by simp⟩, fun i hi => absurd hi (by omega)⟩ ?_
      rintro _ wr ⟨k, u6, u7, u8, u29, u30, u31, u32, u33, u34, u35, u36, u37, u38, u39, u40, u41, u42, u43, u44, u45, Ds, rfl, hk, hb3, hk3, hr3, hm3, ha3⟩
      have HB3 := hidd hb3
      have K3 := hidd hk3
      have HRow3 := hidd hr3
      have HM3 := hidd hm3
      have HA3 := hidd ha3
      clear hb3 hk3 hr3 hm3 ha3 HB2 K12 HRow2 K02
      by_cases hlt : k < S.length
      · have hltz : (k : Int) < (S.length : Int) := by omega
        obtain ⟨bS, oS, hae, hbS, hst⟩ := HS.out.resolve_left (fun h => by rw [h] at hlt; simp at hlt)
        obtain ⟨s0, ai, ci, s1, hai⟩ := hst k hlt
        replace s0 := (HB3.out.cell (p := ⟨bS, oS + k * 2, none⟩) hbS).trans s0
        replace s1 := (HB3.out.cell (p := ⟨bS, oS + k * 2 + 1, none⟩) hbS).trans s1
        clear hst
        have hae2 := hae
        subst hae
        have hfk : (S.getD k st0).1 = finAt S k := rfl
        have hak : (S.getD k st0).2 = arcsAt S k := rfl
        rw [hfk] at s0
        rw [hak] at s1 hai
        have HAi := hidd hai
        have hz3 := HB3.out.size
        have hzr : w.heap.size + 1 < wr.heap.size := (Array.getElem?_eq_some_iff.1 K3.out).1
        have hzb : be < wr.heap.size := (Array.getElem?_eq_some_iff.1 HRow3.out).1
        clear hai
        go_wp2_with fail
        refine (callsIn_wide.1 (aheads_any Fence.wide 3 trivial rfl _ _ _ _ _ _ _ _)).mono ?_
        rintro e w3 ⟨rfl, hw3⟩
        have hB3 := box_three wr (.cells #[.bool (finAt S k), .slice ai (arcsAt S k).length ci] 82) (.cells #[.bool (finAt S k), .slice ai (arcsAt S k).length ci] 82) (.cells #[.slice (some ⟨be, 0, none⟩) S.length S.length] 66)
        rw [← hw3] at hB3
        have hbel : Below wr.heap.size wr w3 := by rw [hw3]; exact (((Below.refl _ _).alloc (Nat.le_refl _) _).alloc (by simp) _).alloc (by simp; omega) _
        have hsz3 : w3.heap.size = wr.heap.size + 3 := by rw [hw3]; simp
        have HB4 := hidd (HB3.out.trans (hbel.mono hz3))
        have HX := hidd hB3
        have HRow4 := hidd (blko HRow3.out hbel)
        have K4 := hidd (blko K3.out hbel)
        have HM4 : Hid (Marks w3 w.heap.size Ds) := HM3.out.keep (fun D hD => blko hD hbel)
        have HAi4 := hidd (HAi.out.below HB4.out)
        clear hw3 hB3 hbel s0 s1 HM3 HRow3 K3 HB3
        simp only [World.size_alloc] at *
        have Hsz3 := hidd hsz3
        clear hsz3
        go_wp2_with fail
        refine (wpIn_wide (n := 4)).1 ?_
        refine wpIn_rangeFunc_ownF rfl (by omega) (gf := 84) (lb := #[.pointer (some ⟨wr.heap.size + 1, 0, none⟩), .pointer (some ⟨wr.heap.size + 1 + 1, 0, none⟩)]) rfl trivial (enters_of Try.func84 (by kernel_rfl) rfl)
          (ahead_stops Fence.wide _ trivial rfl (by omega) (wr.heap.size + 1) (wr.heap.size + 1 + 1) be S.length (finAt S k) ai (arcsAt S k) ci E (HA.out k) (fun p hp => by have := (HOk.out.arcs k hlt).2 p hp; rw [HOk.out.len]; exact this.2.2) (by rw [HOk.out.len]; exact hn) (fun x _ => Nat.le_trans (HOk.out.bound hlt x) (by omega)) w3 HX.out.2.1 (by rw [HOk.out.len]; exact HX.out.2.2) HRow4.out ?ne HAi4.out) KpA.trans
          (fun W l o o' hlo ho hc _ => KpA.of fun i q h1 h2 => (World.putObj_heap_other (by rintro rfl; rw [ho] at h1; cases h1; rw [hc] at h2; cases h2)).trans h1) (Below.refl _ _) (fun _ => rfl)
          (IOk w3 S E k) (IxOk w3 S E k)
          (OwnFrom.and (ownFrom_below (Nat.le_refl _) (Nat.le_refl _)) (ownFrom_pure _ _))
          (fun cd => OwnFrom.and (ownFrom_pure _ _) (ownFrom_below (Nat.le_refl _) (Nat.le_refl _)))
          ⟨Below.refl _ _, by simp⟩
          (fun x => { tmps := #[.agg #[.int .i64 c, .slice (some ⟨bS, oS, none⟩) S.length cap], .pointer (some ⟨w.heap.size, 0, none⟩), .pointer (some ⟨w.heap.size + 1, 0, none⟩), .slice (some ⟨be, 0, none⟩) S.length S.length, .bool true, undef, .pointer (some ⟨wr.heap.size, 0, none⟩), .int .i64 (x.val : Int), .int .i64 ((ahN (finAt S k) E (arcsAt S k) x.val : Nat) : Int), .tuple #[.slice (some ⟨be, 0, none⟩) S.length S.length, .bool true], .pointer (some ⟨w.heap.size, 1, none⟩), .slice (some ⟨bS, oS, none⟩) S.length cap, .tuple #[.slice (some ⟨be, 0, none⟩) S.length S.length, .bool true], .slice (some ⟨be, 0, none⟩) S.length S.length, .bool true, .bool true, .bool false, .bool false, .pointer (some ⟨w.heap.size, 0, none⟩), .int .i64 c, .slice (some ⟨be, 0, none⟩) S.length S.length, .pointer (some ⟨be, 0, none⟩), .int .i64 (V : Int), .bool false, .bool false, .pointer (some ⟨w.heap.size, 1, none⟩), .slice (some ⟨bS, oS, none⟩) S.length cap, .int .i64 (S.length : Int), .int .i64 (k : Int), .bool true, .pointer (some ⟨bS, oS + k * 2, none⟩), .agg #[.bool (finAt S k), .slice ai (arcsAt S k).length ci], .agg #[.bool (finAt S k), .slice ai (arcsAt S k).length ci], .slice (some ⟨be, 0, none⟩) S.length S.length, .func (.func 84) #[] #[.pointer (some ⟨wr.heap.size + 1, 0, none⟩), .pointer (some ⟨wr.heap.size + 1 + 1, 0, none⟩)], .int .i64 (x.val : Int), .int .i64 ((ahN (finAt S k) E (arcsAt S k) x.val : Nat) : Int), u37, u38, u39, u40, u41, u42, u43, u44, u45], defers := [] }) ?assign ?body ?done ?stop
        case ne =>
          intro hnn off
          obtain ⟨b', off', h1, h2, _⟩ := HAi.out.resolve_left hnn
          rw [h1]
          have := Hsz3.out
          refine ⟨fun e => by cases e; omega, fun e => by cases e; omega, fun e => by cases e; omega⟩
        case assign =>
          intro l x W K hK
          unfold ahOf
          gi_wp2
          exact hK
        case body =>
          rintro l pre x W ⟨hbW, hpre⟩ hlt2
          have HbW := hidd hbW
          have Hpre := hidd hpre
          have q1 : W.cell? ⟨wr.heap.size, 1, none⟩ = some (.slice ai (arcsAt S k).length ci) := blkc (blko HX.out.1 hbW) 1
          have kW := blko K4.out hbW
          have r0 : W.cell? ⟨w.heap.size + 1, 0, none⟩ = some (.bool false) := blkc kW 0
          have f0 : W.frozen? ⟨w.heap.size + 1, 0, none⟩ = false := frozen_of_row W _ 0 _ _ kW
          have HkW := hidd kW
          have hxl := x.isLt
          have hxz : (x.val : Int) < ((arcsAt S k).length : Int) := by omega
          obtain ⟨b', off', rfl, hb', hcell⟩ := (HAi4.out.below hbW).resolve_left (ne_of_lt_len hxl)
          obtain ⟨_, _, x2⟩ := hcell x.val hxl
          have Hp : Hid ((arcsAt S k)[x.val]? = some ((arcsAt S k).getD x.val ar0)) := by show _ = _; simp [hxl]
          clear hcell hbW hpre kW
          generalize hpv : (arcsAt S k).getD x.val ar0 = p at *
          clear hpv
          obtain ⟨p0, p1, p2⟩ := p
          dsimp only at x2
          generalize hav : ahN (finAt S k) E (arcsAt S k) x.val = av at *
          have HAv := hidd hav
          clear hav
          generalize hxv : x.val = xv at *
          by_cases he : p2 = (av : Int)
          · have heb : (p2 != (av : Int)) = false := by simp [he]
            have He := hidd he
            clear he
            gi_wp2
            refine ⟨KeepsOthers.refl _, KpA.refl _ _ _, HbW.out, ?_⟩
            intro y hy p hp
            rcases List.mem_append.1 hy with hy | hy
            · exact Hpre.out y hy p hp
            · have e1 : y = x := by simpa using hy
              subst e1
              rw [hxv] at hp ⊢
              rw [Hp.out] at hp
              cases hp
              rw [HAv.out]
              exact He.out
          · have heb : (p2 != (av : Int)) = true := by simp [he]
            have He := hidd he
            clear he
            gi_wp2
            refine ⟨KeepsOthers.setCell _ _ _, ⟨rfl, ?_⟩, below_setSame HbW.out HkW.out⟩
            intro hA
            have := hA xv _ Hp.out
            rw [HAv.out] at this
            exact He.out this
        case done =>
          rintro D ys W hD hys ⟨hbW, hys2⟩ hK
          have HbW := hidd hbW
          have Hys := hidd hys
          have Hys2 := hidd hys2
          have HD := hidd hD
          have HKD := hidd hK
          clear hbW hys hys2 hD hK
          go_wp2_with fail
          refine ⟨⟨k + 1, _, _, _, _, _, _, _, _, _, _, _, _, _, _, _, _, _, _, _, _, D :: Ds, rfl, by omega, HB4.out.trans (HbW.out.mono HB4.out.size), blko K4.out HbW.out, blko HRow4.out HbW.out, ?_, ?_⟩, ?_⟩
          · refine Marks.push (HM4.out.keep fun D' h => blko h HbW.out) (Nat.le_trans HB4.out.size HD.out) HKD.out ?_
            intro hm
            have := HM4.out.lt hm
            have := HD.out
            omega
          · intro i hi
            by_cases hik : i = k
            · subst hik
              intro x p hp
              have hxl := (List.getElem?_eq_some_iff.1 hp).1
              have hm : x ∈ List.range (arcsAt S i).length := by simpa using hxl
              rw [← Hys.out, List.mem_map] at hm
              obtain ⟨y, hy, rfl⟩ := hm
              exact Hys2.out y hy p hp
            · exact HA3.out i (by omega)
          · simp [intOf]; omega
        case stop =>
          rintro D cd pre W hD _ ⟨⟨rfl, hbad⟩, hbW⟩ hK
          obtain rfl : R = false := by
            rw [← HR.out]
            refine okD_not fun h => ?_
            exact hbad ((HIff.out.1 h).2 k hlt)
          have HbW := hidd hbW
          have HD := hidd hD
          have HKD := hidd hK
          clear hbW hD hK
          refine wpIn_wide.2 ?_
          go_wp2_with fail
          refine leaves_marks (B := w.heap.size) (D :: Ds) _ _ (Marks.push (HM4.out.keep fun D' h => blko h HbW.out) (Nat.le_trans HB4.out.size HD.out) HKD.out ?_) (AllBut.refl _) (Below.refl _ _) (okLeave0 (HB4.out.trans (HbW.out.mono HB4.out.size)) (blko K4.out HbW.out))
          intro hm
          have := HM4.out.lt hm
          have := HD.out
          omega
      · have hltz : ¬ (k : Int) < (S.length : Int) := by omega
        have r0 : wr.cell? ⟨w.heap.size + 1, 0, none⟩ = some (.bool false) := blkc K3.out 0
        have f0 : wr.frozen? ⟨w.heap.size + 1, 0, none⟩ = false := frozen_of_row wr _ 0 _ _ K3.out
        obtain rfl : R = true := by
          rw [← HR.out]
          exact okD_yes (HIff.out.2 ⟨HC.out, fun i hi => HA3.out i (by omega)⟩)
        go_wp2_with fail
        exact leaves_marks (B := w.heap.size) Ds _ _ (HM3.out.keep (keepD_set K3.out 0 _)) (AllBut.refl _) (Below.refl _ _) (okLeave HB3.out K3.out)
    · have hcb : (c != ((valE E 0 : Nat) : Int)) = true := by simp [hc]
      obtain rfl : R = false := by
        rw [← HR.out]
        refine okD_not fun h => ?_
        exact hc (HIff.out.1 h).1
      clear HIff
      generalize valE E 0 = V at *
      go_wp2_with fail
      go_quiet (fail)
      go_wp2_with fail
      refine leaves_marks (B := w.heap.size) [] _ _ ⟨List.nodup_nil, by simp⟩ (AllBut.refl _) (Below.refl _ _) ?_
      exact okLeave (below_drewN HB1.out nq) (by rw [← K1.out]; simp)
end Go.Proofs.Ytbkedgpligcicaa

namespace Go.Proofs.Ytbkedgpligcicaa
open Go Go.RowKit
set_option linter.unusedVariables false
set_option maxRecDepth 100000

set_option maxHeartbeats 4000000 in
theorem specDictOK_any (hmake : ∀ (base bm bb : Nat) (aT : Option Addr) (cT : Nat) (ts : List Tx) (f : Nat), MakeC base bm bb aT cT ts (f + 1)) : OkC 16 := by
  intro c a cap S w hn hA hS
  have HAll := hidd (fun W (hW : Below w.heap.size w W) => all_any hmake c a cap S W hn hA (hS.below hW))
  clear hmake hA hS
  have HBa : Hid (Below w.heap.size w (w.alloc (.cells #[.int .i64 c, .slice a S.length cap] 27))) := (Below.refl _ _).alloc (Nat.le_refl _) _
  go_enter Try.func16, Try.ntmps16
  go_wp2_with fail
  first
    | refine (HAll.out _ (Below.refl _ _)).mono ?_
    | refine (HAll.out _ HBa.out).mono ?_
  rintro e w1 ⟨v, rfl, hb1, _⟩
  have HB1 := hidd hb1
  clear hb1
  dsimp only
  go_wp2_with fail
  go_ret
  first
    | exact ⟨rfl, HB1.out⟩
    | exact ⟨rfl, HBa.out.trans (HB1.out.mono HBa.out.size)⟩
end Go.Proofs.Ytbkedgpligcicaa

namespace Go.Proofs.Ytbkedgpligcicaa
open Go Go.RowKit Go.Shelf
set_option linter.unusedVariables false
attribute [local go_sem] Oper.semAt_some

def sumLen (S : List St) (k : Nat) : Nat := ((S.take k).map fun s => s.2.length).sum
theorem sumLen_step (S : List St) {k : Nat} (h : k < S.length) : sumLen S (k + 1) = sumLen S k + (arcsAt S k).length := by
  rw [sumLen, sumLen, List.take_add_one, List.getElem?_eq_getElem h, List.map_append, List.sum_append]
  simp [arcsAt, h]
theorem sumLen_le (S : List St) {m : Nat} (h : ∀ i, i < S.length → (arcsAt S i).length ≤ m) : ∀ k, k ≤ S.length → sumLen S k ≤ k * m
  | 0, _ => by simp [sumLen]
  | k + 1, hk => by
    rw [sumLen_step S (by omega)]
    have h1 := sumLen_le S h k (by omega)
    have h2 := h k (by omega)
    rw [Nat.succ_mul]
    omega
theorem sumLen_mono (S : List St) : ∀ (d k : Nat), k + d ≤ S.length → sumLen S k ≤ sumLen S (k + d)
  | 0, k, _ => Nat.le_refl _
  | d + 1, k, h => by
    have h1 := sumLen_mono S d k (by omega)
    have h2 := sumLen_step S (k := k + d) (by omega)
    rw [← Nat.add_assoc, h2]
    omega
/-- What rises from 0 to 255 has at most 256 arcs. -/
theorem rise_len : ∀ (l : List Ar) (lo : Int), (l.Pairwise fun a b => a.1 < b.1) → (∀ a ∈ l, lo ≤ a.1 ∧ a.1 ≤ 255) → lo ≤ 256 → (l.length : Int) ≤ 256 - lo
  | [], lo, _, _, h => by simp; omega
  | a :: t, lo, h1, h2, h3 => by
    have h4 := h2 a (by simp)
    rw [List.pairwise_cons] at h1
    have := rise_len t (a.1 + 1) h1.2 (fun b hb => ⟨by have := h1.1 b hb; omega, (h2 b (by simp [hb])).2⟩) (by omega)
    rw [List.length_cons]
    omega
theorem ArcsOK.len {S : List St} {i : Nat} (h : ArcsOK S i) : (arcsAt S i).length ≤ 256 := by
  have := rise_len (arcsAt S i) 0 h.1 (fun a ha => ⟨(h.2 a ha).1, (h.2 a ha).2.1⟩) (by omega)
  omega
/-- Whether no two states are alike. -/
noncomputable def diffB (S : List St) : Bool := @decide (DiffP S S.length) (Classical.propDecidable _)
theorem diffB_yes {S : List St} (h : DiffP S S.length) : diffB S = true := @decide_eq_true _ (Classical.propDecidable _) h
theorem diffB_not {S : List St} (h : ¬ DiffP S S.length) : diffB S = false := @decide_eq_false _ (Classical.propDecidable _) h
theorem diffB_iff {S : List St} : diffB S = true ↔ DiffP S S.length := @decide_eq_true_iff _ (Classical.propDecidable _)
def bCells (Z : List Bool) : List Value := Z.map Value.bool

/-- How things stand between two rounds: b6 the box of the register, b6 + 1 the row of what was seen. -/
structure IAd (w : World) (base b6 rb mb T M : Nat) (S : List St) (k : Nat) (Ds : List Nat) (wk : World) : Prop where
  le : k ≤ S.length
  lt : rb < b6 ∧ mb < b6
  bel : Below w.heap.size w wk
  box : wk.heap[b6]? = some (.cells #[.pointer (some ⟨rb, 0, none⟩)] 63)
  reg : ∃ g cap L Z, RegAt base wk rb mb g cap L ∧ wk.heap[b6 + 1]? = some (.cells (bCells Z).toArray 4) ∧ Z.length = M ∧ g ≠ b6 ∧ g ≠ b6 + 1 ∧ SeenOK S L k Z ∧ AllIn S L k ∧ L.length ≤ sumLen S k
  diff : DiffP S k
  marks : Marks wk w.heap.size Ds
/-- How things stand within a round, behind some of the arcs. -/
structure IIn (w w5 : World) (base rb mb g cb : Nat) (L arcs : List Ar) (pre : List Nat) (W : World) : Prop where
  bel : Below w.heap.size w W
  size : w5.heap.size ≤ W.heap.size
  fr : ∀ b, b < w5.heap.size → b ≠ rb → b ≠ mb → b ≠ g → b ≠ cb → W.heap[b]? = w5.heap[b]?
  ch : ∃ L' g' cap' n, RegAt base W rb mb g' cap' L' ∧ L <+: L' ∧ L'.length ≤ L.length + pre.length ∧ ChainIs L' (pre.reverse.map fun x => lkOf (arcs.getD x ar0)) n ∧ W.heap[cb]? = some (.cells #[.int .i64 (n : Int)] 3) ∧ (g' = g ∨ w5.heap.size ≤ g')
theorem RegAt.row_cells {base : Nat} {w : World} {rb mb g cap : Nat} {L : List Ar} (h : RegAt base w rb mb g cap L) : ∃ cur, w.heap[g]? = some (.cells cur 120) := by
  rcases h.row.2 with ⟨h', _⟩ | ⟨g', c', cur, h1, h2, h3, h4⟩
  · simp at h'
  · simp only [Value.slice.injEq, Option.some.injEq, Addr.mk.injEq, and_true, true_and] at h1
    obtain ⟨rfl, _⟩ := h1
    exact ⟨cur, h3⟩
theorem IIn.own {w w5 : World} {base rb mb g cb : Nat} {L arcs : List Ar} (hw : w.heap.size ≤ w5.heap.size) (hrb : rb < w5.heap.size) (hmb : mb < w5.heap.size) (hcb : cb < w5.heap.size) : OwnFrom w5.heap.size (IIn w w5 base rb mb g cb L arcs) := by
  intro pre W W' row h hg hr
  have hold : ∀ b, b < w5.heap.size → W'.heap[b]? = W.heap[b]? := fun b hb => hg.block b (Nat.lt_of_lt_of_le hb h.size) (fun e => by have := (hr b e.symm).1; omega)
  refine ⟨⟨hg.os.trans h.bel.os, hg.tape.trans h.bel.tape, hg.output.trans h.bel.output, Nat.le_trans h.bel.size hg.size, fun b hb => (hold b (by omega)).trans (h.bel.block b hb)⟩, Nat.le_trans h.size hg.size, fun b hb h1 h2 h3 h4 => (hold b hb).trans (h.fr b hb h1 h2 h3 h4), ?_⟩
  obtain ⟨L', g', cap', n, h1, h2, h3, h4, h5, h6⟩ := h.ch
  refine ⟨L', g', cap', n, h1.keep hg.size (hold _ hrb) (hold _ hmb) ?_, h2, h3, h4, (hold _ hcb).trans h5, h6⟩
  refine hg.block g' h1.glt.2 ?_
  intro e
  obtain ⟨_, o, ho, hc⟩ := hr g' e.symm
  obtain ⟨cur, hcur⟩ := h1.row_cells
  rw [hcur] at ho
  cases ho
  cases hc
theorem IIn.next {w w5 W W2 : World} {base rb mb g cb Bs g' n n2 g2 cap2 x : Nat} {L arcs L' L2 : List Ar} {pre : List Nat} {p : Ar} (h : IIn w w5 base rb mb g cb L arcs pre W) (hp' : L <+: L') (hl' : L'.length ≤ L.length + pre.length)
    (hc' : ChainIs L' (pre.reverse.map fun x => lkOf (arcs.getD x ar0)) n) (hgg : g' = g ∨ w5.heap.size ≤ g') (hcb : W.heap[cb]? = some (.cells #[.int .i64 (n : Int)] 3)) (hcells : ∃ cur, W.heap[g']? = some (.cells cur 120))
    (hch : Chained base W W2 rb mb g' L' (p.1, p.2.1, (n : Int)) n2 L2 g2 cap2) (hpx : arcs.getD x ar0 = p) (hw : w.heap.size ≤ base) (h1 : rb < w5.heap.size ∧ mb < w5.heap.size ∧ cb < w5.heap.size ∧ Bs < w5.heap.size) (h2 : cb ≠ rb ∧ cb ≠ mb ∧ cb ≠ g') (h3 : Bs ≠ rb ∧ Bs ≠ mb ∧ Bs ≠ g' ∧ Bs ≠ cb) (h4 : base ≤ g' ∧ w.heap.size ≤ cb) :
    KeepsFrom w5.heap.size W (W2.setCell ⟨cb, 0, none⟩ (.int .i64 ((n2 + 1 : Nat) : Int))) ∧ KpB w.heap.size Bs W (W2.setCell ⟨cb, 0, none⟩ (.int .i64 ((n2 + 1 : Nat) : Int))) ∧ IIn w w5 base rb mb g cb L arcs (pre ++ [x]) (W2.setCell ⟨cb, 0, none⟩ (.int .i64 ((n2 + 1 : Nat) : Int))) := by
  have hsz := h.size
  have hs2 := hch.fr.size
  have hfrom := hch.reg.from_
  have hg2 : g2 ≠ cb := by
    rcases hch.new with e | e
    · omega
    · have := (Array.getElem?_eq_some_iff.1 hcb).1; omega
  have hstep : ∀ b, b < W.heap.size → b ≠ rb → b ≠ mb → b ≠ g' → b ≠ cb → (W2.setCell ⟨cb, 0, none⟩ (.int .i64 ((n2 + 1 : Nat) : Int))).heap[b]? = W.heap[b]? := fun b hb e1 e2 e3 e4 =>
    (heap_setCell_other W2 ⟨cb, 0, none⟩ b _ e4).trans (hch.fr.block b hb e1 e2 e3)
  have hcb2 : W2.heap[cb]? = some (.cells #[.int .i64 (n : Int)] 3) := (hch.fr.block cb (by omega) h2.1 h2.2.1 h2.2.2).trans hcb
  have hBel : Below w.heap.size W (W2.setCell ⟨cb, 0, none⟩ (.int .i64 ((n2 + 1 : Nat) : Int))) :=
    ⟨hch.fr.os, hch.fr.tape, hch.fr.output, by simpa using hs2, fun b hb => hstep b (by have := h.bel.size; omega) (by omega) (by omega) (by omega) (by omega)⟩
  refine ⟨⟨by simpa using hs2, fun k o hk ho hc => ?_⟩, ⟨hstep Bs (by omega) h3.1 h3.2.1 h3.2.2.1 h3.2.2.2, hBel⟩, h.bel.trans hBel, by simp; omega, ?_, ?_⟩
  · refine (hstep k (Array.getElem?_eq_some_iff.1 ho).1 (by omega) (by omega) ?_ (by omega)).trans ho
    rintro rfl
    obtain ⟨cur, hcur⟩ := hcells
    rw [hcur] at ho
    cases ho
    cases hc
  · intro b hb e1 e2 e3 e4
    refine (hstep b (by omega) e1 e2 ?_ e4).trans (h.fr b hb e1 e2 e3 e4)
    rcases hgg with rfl | e
    · exact e3
    · omega
  · refine ⟨L2, g2, cap2, n2 + 1, hch.reg.keep (by simp) (heap_setCell_other W2 ⟨cb, 0, none⟩ rb _ (fun e => h2.1 e.symm)) (heap_setCell_other W2 ⟨cb, 0, none⟩ mb _ (fun e => h2.2.1 e.symm)) (heap_setCell_other W2 ⟨cb, 0, none⟩ g2 _ hg2), hp'.trans hch.pre, ?_, ?_, ?_, ?_⟩
    · have := hch.few
      rw [List.length_append]
      simp
      omega
    · rw [List.reverse_append]
      show ChainIs L2 (lkOf (arcs.getD x ar0) :: (pre.reverse.map fun x => lkOf (arcs.getD x ar0))) (n2 + 1)
      exact ⟨n2, n, rfl, hc'.mono hch.pre, by rw [hpx]; exact hch.at_⟩
    · exact heap_setCell_same _ _ 0 _ _ _ hcb2
    · rcases hch.new with e | e
      · rw [e]; exact hgg
      · exact Or.inr (by omega)
def AxAd (w5 : World) (arcs : List Ar) (act : Nat → Nat → Act) (x : Nat) (a' : Act) (W : World) : Prop := ∃ q, a' = act x q ∧ w5.heap.size ≤ q ∧ W.heap[q]? = some (.cells #[.int .i64 (arcs.getD x ar0).1, .int .i64 (arcs.getD x ar0).2.1, .int .i64 (arcs.getD x ar0).2.2] 85)
theorem AxAd.own {w5 : World} {arcs : List Ar} {act : Nat → Nat → Act} (x : Nat) (a' : Act) : OwnFrom w5.heap.size (fun (_ : Unit) W => AxAd w5 arcs act x a' W) := by
  rintro _ W W' row ⟨q, h1, h2, h3⟩ hg hr
  refine ⟨q, h1, h2, (hg.block q (Array.getElem?_eq_some_iff.1 h3).1 ?_).trans h3⟩
  intro e
  obtain ⟨_, o, ho, hc⟩ := hr q e.symm
  rw [h3] at ho
  cases ho
  cases hc
theorem belowK_put {n l : Nat} {W : World} {o : Obj} (h : n ≤ l) : Below n W (W.putObj l o) :=
  ⟨rfl, rfl, rfl, by simp [World.putObj], fun k hk => World.putObj_heap_other (by omega)⟩
theorem range_arcs (l : List Ar) : ((List.range l.length).map fun x => lkOf (l.getD x ar0)) = l.map lkOf := by
  apply List.ext_getElem
  · simp
  · intro i h1 h2
    simp at h1
    simp [h1]
theorem run_makeBools (M : Nat) (hM : M ≤ 1099511627776) (W : World) : (Instr.makeSlice 158 (.int .i64 (M : Int)) (.int .i64 (M : Int))).run Try.prog W = .ok (.slice (some ⟨W.heap.size, 0, none⟩) M M) (W.alloc (.cells (bCells (List.replicate M false)).toArray 4)) := by
  obtain ⟨i0, hi, hz0, hz1, hz2⟩ := info_parts (show (Try.prog.info? 4).map (fun i => (i.zero, i.size, i.bytes)) = some (some (.bool false), 1, 1) by kernel_rfl)
  have := run_make (P := Try.prog) W 158 4 i0 _ Try.underlying158 hi hz0 .i64 .i64 (M : Int) (M : Int) (by omega) (by omega) (by rw [hz2]; omega) (by omega)
  rw [hz1] at this
  simp only [Int.toNat_natCast, Nat.mul_one] at this
  rw [this]
  have e : madeCells (Value.bool false).cells M = (bCells (List.replicate M false)).toArray := by
    apply Array.ext'
    rw [show (Value.bool false).cells = #[Value.bool false] from rfl, toList_madeCells_one]
    simp [bCells]
  rw [e]
set_option maxHeartbeats 4000000 in
set_option maxRecDepth 100000 in
theorem allDiffer_any (a : Option Addr) (cap : Nat) (S : List St) (w : World) (hn : S.length ≤ 16384) (hA : ∀ i, i < S.length → ArcsOK S i) (hS : HoldS w a S) :
    Calls Try.prog 71 #[.slice a S.length cap] w fun e w' => e = .returned (.bool (diffB S)) ∧ Below w.heap.size w w' := by
  obtain ⟨R, hR⟩ : ∃ R, diffB S = R := ⟨_, rfl⟩
  rw [hR]
  have HR := hidd hR
  have HS := hidd hS
  have HA := hidd hA
  have hT := sumLen_le S (fun i hi => (hA i hi).len) S.length (Nat.le_refl _)
  have hT2 : sumLen S S.length ≤ 4194304 := by omega
  have Hm := hidd (sumLen_mono S)
  clear hR hS hA hT
  refine (callsIn_wide (n := 4)).1 ?_
  refine callsIn_of_wp_marks Try.func71 rfl trivial ?_ rfl
  simp only [Try.ntmps71, List.size_toArray, List.length_cons, List.length_nil, Nat.reduceAdd, Nat.reduceSub, Array.replicate_succ, Array.replicate_zero, List.push_toArray, List.append_toArray, List.nil_append, List.cons_append]
  refine wpIn_wide.2 ?_
  go_wp2_with fail
  go_loopw [3, 16] (fun tv kv wr => ∃ k : Nat, k ≤ S.length ∧ kv = .int .i64 (k : Int) ∧ tv = .int .i64 ((sumLen S k : Nat) : Int) ∧ Below w.heap.size w wr) (fun _ kv _ => S.length - (intOf kv).toNat)
  case atStart => exact ⟨0, Nat.zero_le _, rfl, rfl, Below.refl _ _⟩
  case round =>
    obtain ⟨k, hk, rfl, rfl, hbel⟩ := hrel
    have HB := hidd hbel
    clear hbel
    by_cases hlt : k < S.length
    · have hltz : (k : Int) < (S.length : Int) := by omega
      have Hst := hidd (sumLen_step S hlt)
      have hb1 := Hm.out (S.length - (k + 1)) (k + 1) (by omega)
      rw [show k + 1 + (S.length - (k + 1)) = S.length by omega] at hb1
      obtain ⟨bS, oS, rfl, hbS, hst⟩ := (HS.out.below HB.out).resolve_left (fun h => by rw [h] at hlt; simp at hlt)
      obtain ⟨s0, ai, ci, s1, hai⟩ := hst k hlt
      clear hst hai
      have hak : (S.getD k st0).2 = arcsAt S k := rfl
      rw [hak] at s1
      clear hak
      generalize (S.getD k st0).1 = fk at *
      generalize hNk : (arcsAt S k).length = Nk at *
      generalize hT1 : sumLen S (k + 1) = T1 at *
      have HT1 := hidd hT1
      clear hT1 hNk
      generalize sumLen S k = T0 at *
      have hTz : (T0 : Int) + (Nk : Int) = (T1 : Int) := by have := Hst.out; omega
      go_wp2_with fail
      go_roundw
      case rel => exact ⟨k + 1, by omega, by go_num, by rw [HT1.out], HB.out.alloc HB.out.size _⟩
      case measure => simp [intOf]; omega
    · have hltz : ¬ (k : Int) < (S.length : Int) := by omega
      obtain rfl : k = S.length := by omega
      generalize hTT : sumLen S S.length = T at *
      have HTT := hidd hTT
      clear hTT hlt hk
      go_wp2_with fail
      refine (newRegister_any T wr (by omega)).mono ?_
      rintro e w1 ⟨rb, mb, g, cap1, rfl, hreg, hb1⟩
      have HReg := hidd hreg
      have HB1 := hidd (HB.out.trans (hb1.mono HB.out.size))
      have hzz := HB.out.size
      have hz1' := hb1.size
      clear hreg hb1 HB
      go_wp2_with fail
      obtain ⟨T2, hT2'⟩ : ∃ T2, 2 * T + (if true = true then 1 else 0) = T2 := ⟨_, rfl⟩
      refine (doubled_any T true _ (by omega) T2 hT2').mono ?_
      rintro e w2 ⟨rfl, hw2⟩
      obtain ⟨M, hM⟩ : ∃ M, T2 + 1 = M := ⟨_, rfl⟩
      have hMz : (T2 : Int) + 1 = (M : Int) := by omega
      have HM : Hid (2 * T + 2 = M) := by show _ = _; simp at hT2'; omega
      have hMb : M ≤ 8388610 := by have := HM.out; omega
      have hmk := run_makeBools M (by omega)
      obtain rfl := hw2.symm
      have hbx := box_two w1 (.cells #[.pointer (some ⟨rb, 0, none⟩)] 63) (.cells (bCells (List.replicate M false)).toArray 4)
      have hbel2 : Below w1.heap.size w1 ((w1.alloc (.cells #[.pointer (some ⟨rb, 0, none⟩)] 63)).alloc (.cells (bCells (List.replicate M false)).toArray 4)) := ((Below.refl _ _).alloc (Nat.le_refl _) _).alloc (by simp) _
      have Hbx := hidd hbx
      have Hbel2 := hidd hbel2
      clear hbx hbel2 hM hT2' hw2
      go_wp2_with fail
      clear hMz hmk
      obtain ⟨w3, hw3⟩ : ∃ w3, ((w1.alloc (.cells #[.pointer (some ⟨rb, 0, none⟩)] 63)).alloc (.cells (bCells (List.replicate M false)).toArray 4)) = w3 := ⟨_, rfl⟩
      rw [hw3] at Hbx Hbel2
      try rw [hw3]
      clear hw3
      refine wp_loop (fun a' w' => ∃ (k : Nat) (u9 u10 u12 u13 u35 u36 u37 u38 u39 u40 u41 u42 u43 u44 u45 u46 u47 u48 u49 u50 u51 u52 u53 u54 u55 u56 u57 u58 u59 u60 u61 u62 : Value) (Ds : List Nat), a' = { tmps := #[.slice a S.length cap, undef, .bool false, .int .i64 (T : Int), undef, u5, .pointer (some ⟨w1.heap.size, 0, none⟩), .slice (some ⟨w1.heap.size + 1, 0, none⟩) M M, undef, u9, u10, undef, u12, u13, .slice a S.length cap, .int .i64 (S.length : Int), .int .i64 (S.length : Int), .bool false, u18, u19, u20, u21, u22, u23, u24, u25, .int .i64 (T : Int), .pointer (some ⟨rb, 0, none⟩), .int .i64 (T : Int), .int .i64 (T2 : Int), .int .i64 (M : Int), .slice (some ⟨w1.heap.size + 1, 0, none⟩) M M, .slice a S.length cap, .int .i64 (S.length : Int), .int .i64 (k : Int), u35, u36, u37, u38, u39, u40, u41, u42, u43, u44, u45, u46, u47, u48, u49, u50, u51, u52, u53, u54, u55, u56, u57, u58, u59, u60, u61, u62], defers := Ds.map mark } ∧ IAd w wr.heap.size w1.heap.size rb mb T M S k Ds w') (fun a' _ => S.length - (intOf (a'.tmps.getD 34 undef)).toNat) ⟨0, undef, undef, undef, undef, undef, undef, undef, undef, undef, undef, undef, undef, undef, undef, undef, undef, undef, undef, undef, undef, undef, undef, undef, undef, undef, undef, undef, undef, undef, undef, undef, undef, [], rfl, ?start⟩ ?_
      case start =>
        have h1 := HReg.out.rlt
        have h2 := HReg.out.mlt
        have h3 := HReg.out.glt
        exact ⟨Nat.zero_le _, ⟨h1, h2⟩, HB1.out.trans (Hbel2.out.mono HB1.out.size), Hbx.out.1, ⟨g, cap1, [], List.replicate M false, HReg.out.below Hbel2.out, Hbx.out.2, by simp, by omega, by omega, seen_new S M, fun i hi => absurd hi (by omega), by simp⟩, fun i j hi => absurd hi (by omega), ⟨List.nodup_nil, by simp⟩⟩
      rintro _ wk ⟨k, u9, u10, u12, u13, u35, u36, u37, u38, u39, u40, u41, u42, u43, u44, u45, u46, u47, u48, u49, u50, u51, u52, u53, u54, u55, u56, u57, u58, u59, u60, u61, u62, Ds, rfl, hI⟩
      have HI := hidd hI
      have hk := hI.le
      clear hI
      by_cases hlt : k < S.length
      · have hltz : (k : Int) < (S.length : Int) := by omega
        obtain ⟨bS, oS, hae, hbS, hst⟩ := HS.out.resolve_left (fun h => by rw [h] at hlt; simp at hlt)
        obtain ⟨s0, ai, ci, s1, hai⟩ := hst k hlt
        replace s0 := (HI.out.bel.cell (p := ⟨bS, oS + k * 2, none⟩) hbS).trans s0
        replace s1 := (HI.out.bel.cell (p := ⟨bS, oS + k * 2 + 1, none⟩) hbS).trans s1
        clear hst
        subst hae
        have hfk : (S.getD k st0).1 = finAt S k := rfl
        have hak : (S.getD k st0).2 = arcsAt S k := rfl
        rw [hfk] at s0
        rw [hak] at s1 hai
        have HAi := hidd hai
        have HAk := hidd (HA.out k hlt)
        have hzk := HI.out.bel.size
        have hbk : w1.heap.size < wk.heap.size := (Array.getElem?_eq_some_iff.1 HI.out.box).1
        clear hai hfk hak Hbx Hbel2
        go_wp2_with fail
        refine (callsIn_wide.1 (back_any Fence.wide 3 trivial rfl _ _ _ _)).mono ?_
        rintro e w5 ⟨rfl, hw5⟩
        have hB5 := box_three wk (.cells #[.bool (finAt S k), .slice ai (arcsAt S k).length ci] 82) (.cells #[.int .i64 0] 3) (.cells #[.slice ai (arcsAt S k).length ci] 80)
        rw [← hw5] at hB5
        have hbel : Below wk.heap.size wk w5 := by rw [hw5]; exact (((Below.refl _ _).alloc (Nat.le_refl _) _).alloc (by simp) _).alloc (by simp; omega) _
        have hsz5 : w5.heap.size = wk.heap.size + 3 := by rw [hw5]; simp
        have HX := hidd hB5
        have Hbel5 := hidd hbel
        have Hsz5 := hidd hsz5
        clear hw5 hB5 hbel s0 s1 hsz5
        simp only [World.size_alloc] at *
        obtain ⟨g1, cap1', L, Z, hreg, hzrow, hzl, hg6, hg7, hseen, hall, hLl⟩ := HI.out.reg
        have HReg5 := hidd (hreg.below Hbel5.out)
        have Hzrow := hidd (blko hzrow Hbel5.out)
        have HZ := hidd (And.intro hzl (And.intro hseen (And.intro hall hLl)))
        have hgl1 := hreg.glt
        have hlt6 := HI.out.lt
        have hzbk : w1.heap.size + 1 < wk.heap.size := (Array.getElem?_eq_some_iff.1 hzrow).1
        clear hreg hzrow hzl hseen hall hLl
        go_wp2_with fail
        refine (wpIn_wide (n := 4)).1 ?_
        have hIn0 : IIn w w5 wr.heap.size rb mb g1 (wk.heap.size + 1) L (arcsAt S k) [] w5 := by
          refine ⟨HI.out.bel.trans (Hbel5.out.mono hzk), Nat.le_refl _, fun _ _ _ _ _ _ => rfl, L, g1, cap1', 0, HReg5.out, List.prefix_refl _, by simp, rfl, ?_, Or.inl rfl⟩
          have := HX.out.2.1
          simpa using this
        refine wpIn_rangeFunc_ownH rfl (by omega) (gf := 106) (lb := #[.pointer (some ⟨wk.heap.size + 1 + 1, 0, none⟩)]) rfl trivial (enters_of Try.func106 (by kernel_rfl) rfl)
          (back_stops Fence.wide _ trivial rfl (by omega) (wk.heap.size + 1 + 1) w.heap.size ai (arcsAt S k) ci (by have := HAk.out.len; omega) w5 (by have := Hsz5.out; omega) (by have := Hsz5.out; omega) (blkc HX.out.2.2 0) (fun W' h => HAi.out.below ((HI.out.bel.trans (Hbel5.out.mono hzk)).trans h))) KpB.trans
          (fun W l o o' hlo ho hc _ => ⟨World.putObj_heap_other (by have := Hsz5.out; omega), belowK_put (by have := Hsz5.out; omega)⟩) (Below.refl _ _) (fun _ => rfl)
          (IIn w w5 wr.heap.size rb mb g1 (wk.heap.size + 1) L (arcsAt S k)) (fun _ _ _ => False)
          (IIn.own (by have := Hsz5.out; omega) (by have := Hsz5.out; omega) (by have := Hsz5.out; omega) (by have := Hsz5.out; omega))
          (fun _ _ _ _ _ h _ _ => h) hIn0
          (AxAd w5 (arcsAt S k) (fun x q => { tmps := #[.slice (some ⟨bS, oS, none⟩) S.length cap, undef, .bool false, .int .i64 (T : Int), undef, u5, .pointer (some ⟨w1.heap.size, 0, none⟩), .slice (some ⟨w1.heap.size + 1, 0, none⟩) M M, undef, .pointer (some ⟨wk.heap.size, 0, none⟩), .pointer (some ⟨wk.heap.size + 1, 0, none⟩), undef, .pointer (some ⟨q, 0, none⟩), u13, .slice (some ⟨bS, oS, none⟩) S.length cap, .int .i64 (S.length : Int), .int .i64 (S.length : Int), .bool false, u18, u19, u20, u21, u22, u23, u24, u25, .int .i64 (T : Int), .pointer (some ⟨rb, 0, none⟩), .int .i64 (T : Int), .int .i64 (T2 : Int), .int .i64 (M : Int), .slice (some ⟨w1.heap.size + 1, 0, none⟩) M M, .slice (some ⟨bS, oS, none⟩) S.length cap, .int .i64 (S.length : Int), .int .i64 (k : Int), .bool true, .pointer (some ⟨bS, oS + k * 2, none⟩), .agg #[.bool (finAt S k), .slice ai (arcsAt S k).length ci], .pointer (some ⟨wk.heap.size, 1, none⟩), .slice ai (arcsAt S k).length ci, .func (.func 106) #[] #[.pointer (some ⟨wk.heap.size + 1 + 1, 0, none⟩)], .int .i64 (x : Int), .agg #[.int .i64 ((arcsAt S k).getD x ar0).1, .int .i64 ((arcsAt S k).getD x ar0).2.1, .int .i64 ((arcsAt S k).getD x ar0).2.2], u43, u44, u45, u46, u47, u48, u49, u50, u51, u52, u53, u54, u55, u56, u57, u58, u59, u60, u61, u62], defers := [] })) (fun x a' => AxAd.own x a') ?assign ?body ?done ?stop
        case assign =>
          intro l pre x W K hI hK
          have HIW := hidd hI
          clear hI
          unfold arcOf
          have HK' := hidd hK
          clear hK
          gi_wp2
          refine HK'.out _ _ (KeepsFrom.of_grownBy (World.grownBy_alloc W _ none) (fun j e => by cases e)) ⟨Below.heap_alloc _ _ _ ?_, (Below.refl _ _).alloc ?_ _⟩ (OwnFrom.alloc (IIn.own ?_ ?_ ?_ ?_) _ HIW.out) ⟨W.heap.size, rfl, HIW.out.size, heap_alloc_new W _⟩
          all_goals have hh1 := Hsz5.out
          all_goals have hh2 := HIW.out.size
          all_goals omega
        case body =>
          rintro l pre x a' W hl1 hl2 hIW ⟨q, rfl, hq, hqb⟩ hlt2
          have hsz5 := Hsz5.out
          have hszW := hIW.size
          have HIW := hidd hIW
          obtain ⟨L', g', cap', n, hr', hp', hl', hc', hcb, hgg⟩ := hIW.ch
          have hb6 : W.heap[w1.heap.size]? = some (.cells #[.pointer (some ⟨rb, 0, none⟩)] 63) := (hIW.fr w1.heap.size (by omega) (by omega) (by omega) (by omega) (by omega)).trans (blko HI.out.box Hbel5.out)
          have hgl' := hr'.glt
          have hgq : g' ≠ q := by
            rintro rfl
            obtain ⟨cur, hcur⟩ := hr'.row_cells
            rw [hcur] at hqb
            cases hqb
          have hgc : g' ≠ wk.heap.size + 1 := by
            rcases hgg with rfl | h
            · omega
            · omega
          have hcl := ChainIs.le hc'
          have hn62 : n ≤ 1099511627776 := by have := HZ.out.2.2.2; have := HAk.out.len; have := sumLen_le S (fun i hi => (HA.out i hi).len) k (by omega); omega
          have hL62 : L'.length ≤ 1099511627776 := by have := HZ.out.2.2.2; have := HAk.out.len; have := sumLen_le S (fun i hi => (HA.out i hi).len) k (by omega); omega
          have y0 : W.cell? ⟨w1.heap.size, 0, none⟩ = some (.pointer (some ⟨rb, 0, none⟩)) := blkc hb6 0
          have y1 : W.cell? ⟨q, 0, none⟩ = some (.int .i64 ((arcsAt S k).getD x ar0).1) := blkc hqb 0
          have y2 : W.cell? ⟨q, 1, none⟩ = some (.int .i64 ((arcsAt S k).getD x ar0).2.1) := blkc hqb 1
          have y3 : W.cell? ⟨wk.heap.size + 1, 0, none⟩ = some (.int .i64 (n : Int)) := blkc hcb 0
          have hin : In64 (((arcsAt S k).getD x ar0).1, ((arcsAt S k).getD x ar0).2.1, (n : Int)) := by
            by_cases hx : x < (arcsAt S k).length
            · have := HAk.out.2 ((arcsAt S k).getD x ar0) (by rw [List.getD_eq_getElem?_getD, List.getElem?_eq_getElem hx]; exact List.getElem_mem _)
              refine ⟨⟨by dsimp only; omega, by dsimp only; omega⟩, ⟨by dsimp only; omega, by dsimp only; omega⟩, by dsimp only; omega, by dsimp only; omega⟩
            · have e : (arcsAt S k).getD x ar0 = ar0 := by simp [hx]
              rw [e]
              refine ⟨⟨by simp [ar0], by simp [ar0]⟩, ⟨by simp [ar0], by simp [ar0]⟩, by dsimp only; omega, by dsimp only; omega⟩
          have HRc := hr'.row_cells
          have HCh := hidd (chain_any wr.heap.size W rb mb g' cap' L' _ _ _ hL62 hr' hin)
          have HC := hidd (And.intro hp' (And.intro hl' hc'))
          have Hcb := hidd hcb
          clear hr' hp' hl' hc' hcb hb6 hin hIW
          generalize hpx : (arcsAt S k).getD x ar0 = p at *
          have Hpx := hidd hpx
          have Hcl := hidd HRc
          clear hpx HRc
          gi_wp2_with (refine ⟨trivial, ?_⟩; gi_at_call 68; refine (CallsIn.inRound l (callsIn_wide.2 HCh.out)).mono ?_; rintro e W2 ⟨n2, L2, g2, cap2, rfl, hchd⟩; have HChd := hidd hchd; have hcb2 : W2.heap[wk.heap.size + 1]? = some (.cells #[.int .i64 (n : Int)] 3) := (hchd.fr.block _ (Array.getElem?_eq_some_iff.1 Hcb.out).1 (by omega) (by omega) (by omega)).trans Hcb.out; have z0 : W2.cell? ⟨wk.heap.size + 1, 0, none⟩ = some (.int .i64 (n : Int)) := blkc hcb2 0; have z1 : W2.frozen? ⟨wk.heap.size + 1, 0, none⟩ = false := frozen_of_row W2 _ 0 _ _ hcb2; have Hcb2 := hidd hcb2; clear hchd hcb2)
          exact IIn.next HIW.out HC.out.1 HC.out.2.1 HC.out.2.2 hgg Hcb.out Hcl.out HChd.out Hpx.out hzz ⟨by omega, by omega, by omega, by omega⟩ ⟨by omega, by omega, by omega⟩ ⟨by omega, by omega, by omega, by omega⟩ ⟨by omega, by omega⟩
        case done =>
          rintro D ys W hD rfl hIW hK
          have hsz5 := Hsz5.out
          have hszW := hIW.size
          have HIW := hidd hIW
          have HD := hidd hD
          have HKD := hidd hK
          obtain ⟨L', g', cap', n, hr', hp', hl', hc', hcb, hgg⟩ := hIW.ch
          rw [List.reverse_reverse, range_arcs] at hc'
          simp only [List.length_reverse, List.length_range] at hl'
          have hgl' := hr'.glt
          have hsb : W.heap[wk.heap.size]? = some (.cells #[.bool (finAt S k), .slice ai (arcsAt S k).length ci] 82) := (hIW.fr _ (by omega) (by omega) (by omega) (by omega) (by omega)).trans HX.out.1
          have hzb : W.heap[w1.heap.size + 1]? = some (.cells (bCells Z).toArray 4) := (hIW.fr _ (by omega) (by omega) (by omega) (by omega) (by omega)).trans Hzrow.out
          have hbox : W.heap[w1.heap.size]? = some (.cells #[.pointer (some ⟨rb, 0, none⟩)] 63) := (hIW.fr w1.heap.size (by omega) (by omega) (by omega) (by omega) (by omega)).trans (blko HI.out.box Hbel5.out)
          obtain ⟨hZl, hseen, hall, hLl⟩ := HZ.out
          have hcl := ChainIs.le hc'
          have hst := sumLen_step S hlt
          have hmo := Hm.out (S.length - (k + 1)) (k + 1) (by omega)
          rw [show k + 1 + (S.length - (k + 1)) = S.length by omega, HTT.out] at hmo
          have hMM := HM.out
          have hfz : frz n (finAt S k) < M := by
            unfold frz
            split <;> omega
          have hseen' := hseen.mono hall hp' hr'.nodup
          have hmarks : Marks W w.heap.size (D :: Ds) := by
            have hm5 : ∀ D' ∈ Ds, D' < wk.heap.size := fun D' h => HI.out.marks.lt h
            refine Marks.push ⟨HI.out.marks.nodup, fun D' h => ⟨(HI.out.marks.at_ D' h).1, ?_⟩⟩ (by omega) hK (fun h => by have := hm5 D h; omega)
            have h1 := (HI.out.marks.at_ D' h).2
            have h2 := hm5 D' h
            have h5 := blko h1 Hbel5.out
            obtain ⟨es, clk, hmp, _⟩ := HReg5.out.map
            obtain ⟨cur, hcur⟩ := HReg5.out.row_cells
            refine (HIW.out.fr D' (by omega) ?_ ?_ ?_ (by omega)).trans h5
            · rintro rfl; rw [HReg5.out.reg] at h5; cases h5
            · rintro rfl; rw [hmp] at h5; cases h5
            · rintro rfl; rw [hcur] at h5; cases h5
          have HMk := hidd hmarks
          have y3 : W.cell? ⟨wk.heap.size + 1, 0, none⟩ = some (.int .i64 (n : Int)) := blkc hcb 0
          have y4 : W.cell? ⟨wk.heap.size, 0, none⟩ = some (.bool (finAt S k)) := blkc hsb 0
          have y5 : W.cell? ⟨w1.heap.size + 1, frz n (finAt S k), none⟩ = some (.bool (Z.getD (frz n (finAt S k)) false)) := by
            rw [blkc hzb]
            simp [bCells, show frz n (finAt S k) < Z.length by omega]
          have y6 : W.frozen? ⟨w1.heap.size + 1, frz n (finAt S k), none⟩ = false := frozen_of_row W _ _ _ _ hzb
          have HF := hidd (And.intro hr' (And.intro hp' (And.intro hl' (And.intro hc' (And.intro hzb (And.intro hbox hseen'))))))
          have hdb : 2 * n + (if finAt S k = true then 1 else 0) = frz n (finAt S k) := rfl
          have Hdb := hidd hdb
          have hfz' : frz n (finAt S k) ≤ 8388610 := by omega
          have hn8 : n ≤ 8388610 := by omega
          clear hr' hp' hl' hc' hcb hsb hzb hbox hseen hseen' hall hLl hmarks hIW hD hK hdb hst hmo hMM
          go_wp2_with fail
          refine (doubled_any n (finAt S k) W (by omega) (frz n (finAt S k)) Hdb.out).mono ?_
          rintro e W2 ⟨rfl, hW2⟩
          obtain rfl := hW2.symm
          clear hW2
          generalize hfe : frz n (finAt S k) = fz at *
          have Hfe := hidd hfe
          clear hfe
          have hfzz : (fz : Int) < (M : Int) := by omega
          by_cases hzt : Z.getD fz false = true
          · rw [hzt] at y5
            obtain rfl : R = false := by
              rw [← HR.out]
              refine diffB_not fun hdf => ?_
              obtain ⟨i, h1, h2, h3⟩ := SeenOK.hit HF.out.2.2.2.2.2.2 HF.out.2.2.2.1 (by rw [Hfe.out]; exact hzt)
              have := hdf i k (by omega) hlt h2 h3
              omega
            have Hzt := hidd hzt
            clear hzt
            go_wp2_with fail
            exact leaves_marks (B := w.heap.size) (D :: Ds) _ _ HMk.out (AllBut.refl _) (Below.refl _ _) (fun w' _ hb => ⟨_, results_tmp rfl _ _ _, rfl, HIW.out.bel.trans hb⟩)
          · have hzf : Z.getD fz false = false := by cases h : Z.getD fz false with | true => exact absurd h hzt | false => rfl
            rw [hzf] at y5
            have Hzt := hidd hzt
            have Hzf := hidd hzf
            clear hzt hzf
            go_wp2_with fail
            refine ⟨⟨k + 1, _, _, _, _, _, _, _, _, _, _, _, _, _, _, _, _, _, _, _, _, _, _, _, _, _, _, _, _, _, _, _, _, D :: Ds, rfl, ?_⟩, ?_⟩
            · obtain ⟨hr', hp', hl', hc', hzb, hbox, hseen'⟩ := HF.out
              obtain ⟨hZl, hseen, hall, hLl⟩ := HZ.out
              have hfl : frz n (finAt S k) < Z.length := by rw [Hfe.out]; omega
              have hg7' : g' ≠ w1.heap.size + 1 := by rcases hgg with rfl | h <;> omega
              have hg6' : g' ≠ w1.heap.size := by rcases hgg with rfl | h <;> omega
              refine ⟨by omega, hlt6, HIW.out.bel.setCell (p := ⟨w1.heap.size + 1, fz, none⟩) (by dsimp only; omega) _, (heap_setCell_other W ⟨w1.heap.size + 1, fz, none⟩ w1.heap.size _ (by show w1.heap.size ≠ w1.heap.size + 1; omega)).trans hbox, ⟨g', cap', L', Z.set fz true, hr'.keep (by simp) (heap_setCell_other W ⟨w1.heap.size + 1, fz, none⟩ rb _ (by show rb ≠ w1.heap.size + 1; omega)) (heap_setCell_other W ⟨w1.heap.size + 1, fz, none⟩ mb _ (by show mb ≠ w1.heap.size + 1; omega)) (heap_setCell_other W ⟨w1.heap.size + 1, fz, none⟩ g' _ hg7'), ?_, by simp [hZl], hg6', hg7', ?_, hall.snoc hp' hc', ?_⟩, ?_, HMk.out.keep (keepD_set hzb fz _)⟩
              · rw [heap_setCell_same W _ fz _ _ (.bool true) hzb]
                simp [bCells, List.map_set]
              · have := hseen'.set hr'.nodup hc' hfl
                rw [Hfe.out] at this
                exact this
              · rw [sumLen_step S hlt]
                omega
              · refine HI.out.diff.snoc (hseen'.miss hr'.nodup (fun i hi => by obtain ⟨m, hm⟩ := hall i hi; exact ⟨m, hm.mono hp'⟩) hc' (by rw [Hfe.out]; exact Hzt.out))
            · simp [intOf]; omega
        case stop =>
          rintro D cd pre W _ _ h _
          exact h.elim
      · have hltz : ¬ (k : Int) < (S.length : Int) := by omega
        obtain rfl : R = true := by
          rw [← HR.out]
          refine diffB_yes ?_
          have := HI.out.diff
          obtain rfl : k = S.length := by omega
          exact this
        go_wp2_with fail
        exact leaves_marks (B := w.heap.size) Ds _ _ HI.out.marks (AllBut.refl _) (Below.refl _ _) (fun w' _ hb => ⟨_, results_tmp rfl _ _ _, rfl, HI.out.bel.trans hb⟩)
end Go.Proofs.Ytbkedgpligcicaa
