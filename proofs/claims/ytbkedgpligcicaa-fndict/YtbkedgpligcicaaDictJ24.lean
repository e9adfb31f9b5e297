import Derived.Test.YtbkedgpligcicaaDictJ23
import Derived.Test.YtbkedgpligcicaaDictJ22
import Derived.Test.YtbkedgpligcicaaDictJ19
import Derived.Test.YtbkedgpligcicaaDictJ10
import Derived.Test.YtbkedgpligcicaaDictJ03
import Derived.Test.YtbkedgpligcicaaDictJ17
namespace Go.Proofs.Ytbkedgpligcicaa
open Go Go.RowKit Go.Shelf
set_option linter.unusedVariables false
attribute [local go_sem] Oper.semAt_some

/-- States of which the first k have their Aheads. -/
structure DoAt (w W : World) (xs : List Value) (S : List St) (E : List Nat) (k : Nat) : Prop where
  but : ButX (fun b => ∃ j, j < S.length ∧ LiesX xs j b) w W
  arcs : ∀ j, j < S.length → ∀ aj n cj, xs[j * 2 + 1]? = some (.slice aj n cj) → HoldA W aj (if j < k then (ahdS E (S.getD j st0)).2 else (S.getD j st0).2)
  typ : ∀ j b, j < S.length → LiesX xs j b → ∃ cur, W.heap[b]? = some (.cells cur 85)
theorem DoAt.start {w : World} {lo hi : Nat} {v : Value} {S : List St} {xs : List Value} (E : List Nat) (h : StsAt w lo hi v S xs) : DoAt w w xs S E 0 := by
  refine ⟨ButX.refl _ _, fun j hj aj n cj e => ?_, fun j b hj hb => ?_⟩
  · obtain ⟨_, a', c', q2, q3, _⟩ := h.sts j hj
    rw [q2] at e
    simp only [Option.some.injEq, Value.slice.injEq] at e
    rw [if_neg (by omega), ← e.1]
    exact q3
  · obtain ⟨_, a', c', q2, _, q4⟩ := h.sts j hj
    obtain ⟨off, n, c, e⟩ := hb
    rw [q2] at e
    simp only [Option.some.injEq, Value.slice.injEq] at e
    exact (q4 b off e.1).2.2
theorem DoAt.below {w W W' : World} {xs : List Value} {S : List St} {E : List Nat} {k : Nat} (h : DoAt w W xs S E k) (hb : Below W.heap.size W W') : DoAt w W' xs S E k :=
  ⟨h.but.trans (ButX.of_below (X := fun _ => False) hb) (fun _ _ q => q) (fun _ _ q => q.elim), fun j hj aj n cj e => (h.arcs j hj aj n cj e).below hb, fun j b hj hl => by
    obtain ⟨cur, hc⟩ := h.typ j b hj hl
    exact ⟨cur, blko hc hb⟩⟩
/-- Within one state. -/
def IDo (w3 : World) (xs : List Value) (k : Nat) (ai : Option Addr) (f : Bool) (E : List Nat) (l : List Ar) (pre : List (Fin l.length)) (W : World) : Prop :=
  ButX (fun b => LiesX xs k b) w3 W ∧ HoldA W ai (updA f E l (pre.map Fin.val)) ∧ ∀ b, LiesX xs k b → ∃ cur, W.heap[b]? = some (.cells cur 85)
theorem IDo.store {w3 W : World} {xs : List Value} {k b off : Nat} {f : Bool} {E : List Nat} {l : List Ar} {pre : List (Fin l.length)} (x : Fin l.length) (h : IDo w3 xs k (some ⟨b, off, none⟩) f E l pre W) (hb : LiesX xs k b) :
    KeepsOthers W (W.setCell ⟨b, off + x.val * 3 + 2, none⟩ (.int .i64 ((ahN f E l x.val : Nat) : Int))) ∧ KpA (some ⟨b, off, none⟩) l W (W.setCell ⟨b, off + x.val * 3 + 2, none⟩ (.int .i64 ((ahN f E l x.val : Nat) : Int))) ∧ IDo w3 xs k (some ⟨b, off, none⟩) f E l (pre ++ [x]) (W.setCell ⟨b, off + x.val * 3 + 2, none⟩ (.int .i64 ((ahN f E l x.val : Nat) : Int))) := by
  obtain ⟨h1, h2, h3⟩ := h
  obtain ⟨cur, hc⟩ := h3 b hb
  have hx := x.isLt
  have ho : ∀ b', b' ≠ b → (W.setCell ⟨b, off + x.val * 3 + 2, none⟩ (.int .i64 ((ahN f E l x.val : Nat) : Int))).heap[b']? = W.heap[b']? := fun b' hb' => heap_set_other W b _ _ b' hb'
  have hs := blk_setk hc (off + x.val * 3 + 2) (.int .i64 ((ahN f E l x.val : Nat) : Int))
  refine ⟨KeepsOthers.setCell _ _ _, ⟨fun k' o hne hk' _ => ?_, fun hT => ?_⟩, ⟨h1.os, h1.tape, h1.output, by simpa using h1.size, fun b' hb' hn => ?_⟩, ?_, fun b' hb' => ?_⟩
  · rw [ho k' (fun e => hne off (by rw [e]))]; exact hk'
  · rcases hT with hT | ⟨b2, o2, e, hT⟩
    · exact Or.inl hT
    · cases e
      refine Or.inr ⟨b, off, rfl, fun j hj => ?_⟩
      obtain ⟨t1, t2, v, t3⟩ := hT j hj
      have cell : ∀ m, m ≠ off + x.val * 3 + 2 → (W.setCell ⟨b, off + x.val * 3 + 2, none⟩ (.int .i64 ((ahN f E l x.val : Nat) : Int))).cell? ⟨b, m, none⟩ = W.cell? ⟨b, m, none⟩ := fun m hm => by
        rw [blkc hs m, blkc hc m, Array.getElem?_setIfInBounds_ne (by omega)]
      rw [cell _ (by omega), cell _ (by omega)]
      refine ⟨t1, t2, ?_⟩
      by_cases hjx : j = x.val
      · subst hjx
        have hlt : off + x.val * 3 + 2 < cur.size := by
          rw [blkc hc] at t3
          exact (Array.getElem?_eq_some_iff.1 t3).1
        exact ⟨_, by rw [blkc hs, Array.getElem?_setIfInBounds_self_of_lt hlt]⟩
      · exact ⟨v, by rw [cell _ (by omega)]; exact t3⟩
  · rw [ho b' (fun e => hn (e ▸ hb))]; exact h1.block b' hb' hn
  · rw [List.map_append]
    exact h2.ahead hx hc
  · by_cases e : b' = b
    · subst e; exact ⟨_, hs⟩
    · obtain ⟨cur2, hc2⟩ := h3 b' hb'
      exact ⟨cur2, (ho b' e).trans hc2⟩
theorem DoAt.step {w w3 W : World} {xs : List Value} {S : List St} {E : List Nat} {k : Nat} {ai : Option Addr} {ci n : Nat} {ys : List (Fin (arcsAt S k).length)} (h : DoAt w w3 xs S E k) (hk : k < S.length) (hx : xs[k * 2 + 1]? = some (.slice ai n ci)) (hd : DisX xs S.length)
    (hi : IDo w3 xs k ai (finAt S k) E (arcsAt S k) ys W) (hy : ys.map Fin.val = List.range (arcsAt S k).length) : DoAt w W xs S E (k + 1) := by
  obtain ⟨hb, hA, hT⟩ := hi
  have hne : ∀ j b, j < S.length → j ≠ k → LiesX xs j b → ¬ LiesX xs k b := fun j b hj hjk h1 h2 => by
    rcases Nat.lt_or_ge j k with q | q
    · exact hd j k b q hk h1 h2
    · exact hd k j b (by omega) hj h2 h1
  refine ⟨h.but.trans hb (fun _ _ q => q) (fun i _ q => ⟨k, hk, q⟩), fun j hj aj n' cj e => ?_, fun j b hj hl => ?_⟩
  · by_cases hjk : j = k
    · subst hjk
      rw [hx] at e
      simp only [Option.some.injEq, Value.slice.injEq] at e
      rw [if_pos (by omega), ← e.1]
      rw [hy, updA_all _ _ _ _ (fun i hi => by simpa using hi)] at hA
      exact hA
    · have h1 := h.arcs j hj aj n' cj e
      have : (if j < k + 1 then (ahdS E (S.getD j st0)).2 else (S.getD j st0).2) = (if j < k then (ahdS E (S.getD j st0)).2 else (S.getD j st0).2) := by
        by_cases q : j < k
        · rw [if_pos q, if_pos (by omega)]
        · rw [if_neg q, if_neg (by omega)]
      rw [this]
      exact h1.keep hb.size fun b off e' hbl => hb.block b hbl (hne j b hj hjk ⟨off, n', cj, by rw [e, e']⟩)
  · by_cases hjk : j = k
    · subst hjk; exact hT b hl
    · obtain ⟨cur, hc⟩ := h.typ j b hj hl
      exact ⟨cur, (hb.block b (Array.getElem?_eq_some_iff.1 hc).1 (hne j b hj hjk hl)).trans hc⟩
theorem DoAt.done {w W : World} {lo hi : Nat} {v : Value} {xs : List Value} {S : List St} {E : List Nat} (h : DoAt w W xs S E S.length) (hs : StsAt w lo hi v S xs) : StsAt W lo hi v (S.map (ahdS E)) xs := by
  have hl : (S.map (ahdS E)).length = S.length := by simp
  refine ⟨Nat.le_trans hs.le h.but.size, ?_, hs.own, fun j hj => ?_⟩
  · rw [hl]
    refine own_congr hs.row fun b hb => h.but.block b (hs.row.lt b hb).2 ?_
    rintro ⟨j, hj, hlx⟩
    obtain ⟨_, cur, hc⟩ := own_blk hs.row hb
    obtain ⟨_, aj, cj, q2, _, q4⟩ := hs.sts j hj
    obtain ⟨off, n, c, e⟩ := hlx
    rw [q2] at e
    simp only [Option.some.injEq, Value.slice.injEq] at e
    obtain ⟨_, _, cur2, hc2⟩ := q4 b off e.1
    exact blk_ne hc hc2 (by decide) rfl
  · rw [hl] at hj
    obtain ⟨q1, aj, cj, q2, q3, q4⟩ := hs.sts j hj
    have e0 : (S.map (ahdS E)).getD j st0 = ahdS E (S.getD j st0) := getD_ahd E S hj
    have e1 : (ahdS E (S.getD j st0)).2.length = (S.getD j st0).2.length := ahdA_len _ _ _
    rw [e0]
    refine ⟨q1, aj, cj, by rw [e1]; exact q2, ?_, fun b off e => ?_⟩
    · have := h.arcs j hj aj _ cj q2
      rw [if_pos hj] at this
      exact this
    · obtain ⟨r1, r2, _⟩ := q4 b off e
      exact ⟨r1, r2, h.typ j b hj ⟨off, _, cj, by rw [q2, e]⟩⟩
theorem DoAt.row {w W : World} {lo hi k : Nat} {v : Value} {xs : List Value} {S : List St} {E : List Nat} (h : DoAt w W xs S E k) (hs : StsAt w lo hi v S xs) : W.ownsRow lo 82 2 v S.length xs := by
  refine own_congr hs.row fun b hb => h.but.block b (hs.row.lt b hb).2 ?_
  rintro ⟨j, hj, hlx⟩
  obtain ⟨_, cur, hc⟩ := own_blk hs.row hb
  obtain ⟨_, aj, cj, q2, _, q4⟩ := hs.sts j hj
  obtain ⟨off, n, c, e⟩ := hlx
  rw [q2] at e
  simp only [Option.some.injEq, Value.slice.injEq] at e
  obtain ⟨_, _, cur2, hc2⟩ := q4 b off e.1
  exact blk_ne hc hc2 (by decide) rfl
theorem rowCells {W : World} {lo n c : Nat} {a : Option Addr} {xs : List Value} {t : TypeId} (h : W.ownsRow lo t 2 (.slice a n c) n xs) {j : Nat} (hj : j < n) : ∃ g, a = some ⟨g, 0, none⟩ ∧ W.cell? ⟨g, j * 2, none⟩ = xs[j * 2]? ∧ W.cell? ⟨g, j * 2 + 1, none⟩ = xs[j * 2 + 1]? := by
  rcases h.2 with ⟨_, e⟩ | ⟨g, cap, cur, e, _⟩
  · omega
  · simp only [Value.slice.injEq] at e
    obtain ⟨rfl, _, rfl⟩ := e
    exact ⟨g, rfl, h.cellAt (j * 2) (by omega), h.cellAt (j * 2 + 1) (by omega)⟩
set_option maxHeartbeats 4000000 in
set_option maxRecDepth 100000 in
theorem dictOf_any (a : Option Addr) (c : Nat) (S : List St) (E : List Nat) (be lo hi : Nat) (xs : List Value) (w : World) (hs : StsAt w lo hi (.slice a S.length c) S xs) (hd : DisX xs S.length) (hrow : w.heap[be]? = some (.cells (nCellsE E).toArray 3)) (hok : EndOK S E) (hAr : ∀ i, (arcsAt S i).length ≤ 1048576) (hbe : ∀ j, j < S.length → ¬ LiesX xs j be) :
    Calls Try.prog 42 #[.slice a S.length c, .slice (some ⟨be, 0, none⟩) S.length S.length] w fun e w' => e = .returned (.agg #[.int .i64 ((valE E 0 : Nat) : Int), .slice a S.length c]) ∧ StsAt w' lo hi (.slice a S.length c) (S.map (ahdS E)) xs ∧ ButX (fun b => ∃ j, j < S.length ∧ LiesX xs j b) w w' := by
  have HBa := hidd ((Below.refl w.heap.size w).alloc (Nat.le_refl _) (.cells #[.int .i64 0, .slice none 0 0] 27))
  have HX0 := hidd (heap_alloc_new w (.cells #[.int .i64 0, .slice none 0 0] 27))
  have HD0 := hidd ((DoAt.start E hs).below HBa.out)
  have HS := hidd hs
  have HDi := hidd hd
  have HOk := hidd hok
  have HBe := hidd hbe
  have HRow0 := hidd (blko hrow HBa.out)
  clear hs hd hok hbe hrow
  refine (callsIn_wide (n := 4)).1 ?_
  refine callsIn_of_wp_marks Try.func42 rfl trivial ?_ rfl
  simp only [Try.ntmps42, List.size_toArray, List.length_cons, List.length_nil, Nat.reduceAdd, Nat.reduceSub, Array.replicate_succ, Array.replicate_zero, List.push_toArray, List.append_toArray, List.nil_append, List.cons_append]
  refine wpIn_wide.2 ?_
  go_upto_region 1 with fail
  obtain ⟨w1, hw1⟩ : ∃ w1, w.alloc (.cells #[.int .i64 0, .slice none 0 0] 27) = w1 := ⟨_, rfl⟩
  rw [hw1] at HBa HX0 HD0 HRow0
  try rw [hw1]
  clear hw1
  go_wp2_with fail
  refine wp_loop (fun a' w' => ∃ (k : Nat) (u6 u7 u8 u12 u13 u14 u15 u16 u17 u18 u19 u20 u21 u22 u23 u24 u25 u26 : Value) (Ds : List Nat), a' = { tmps := #[.slice a S.length c, .slice (some ⟨be, 0, none⟩) S.length S.length, undef, undef, .pointer (some ⟨w.heap.size, 0, none⟩), undef, u6, u7, u8, .slice a S.length c, .int .i64 (S.length : Int), .int .i64 (k : Int), u12, u13, u14, u15, u16, u17, u18, u19, u20, u21, u22, u23, u24, u25, u26, undef, undef, undef, undef, undef], defers := Ds.map mark } ∧ k ≤ S.length ∧ DoAt w w' xs S E k ∧ w'.heap[w.heap.size]? = some (.cells #[.int .i64 0, .slice none 0 0] 27) ∧ w'.heap[be]? = some (.cells (nCellsE E).toArray 3) ∧ Marks w' w.heap.size Ds) (fun a' _ => S.length - (intOf (a'.tmps.getD 11 undef)).toNat) ⟨0, undef, undef, undef, undef, undef, undef, undef, undef, undef, undef, undef, undef, undef, undef, undef, undef, undef, undef, [], rfl, Nat.zero_le _, HD0.out, HX0.out, HRow0.out, ⟨List.nodup_nil, by simp⟩⟩ ?_
  rintro _ wr ⟨k, u6, u7, u8, u12, u13, u14, u15, u16, u17, u18, u19, u20, u21, u22, u23, u24, u25, u26, Ds, rfl, hk, hdo, hres, hrw, hmk⟩
  have HDo := hidd hdo
  have HRes := hidd hres
  have HRow := hidd hrw
  have HMk := hidd hmk
  clear hdo hres hrw hmk HD0 HX0 HRow0 HBa
  have HrS := hidd (HDo.out.row HS.out)
  have hzr : w.heap.size < wr.heap.size := (Array.getElem?_eq_some_iff.1 HRes.out).1
  have hzb : be < wr.heap.size := (Array.getElem?_eq_some_iff.1 HRow.out).1
  have hElen := HOk.out.len
  have hrng := HOk.out.range
  by_cases hlt : k < S.length
  · have hltz : (k : Int) < (S.length : Int) := by omega
    obtain ⟨g, rfl, hg0, hg1⟩ := rowCells HrS.out hlt
    obtain ⟨q1, ai, ci, q2, q3, q4⟩ := HS.out.sts k hlt
    rw [q1] at hg0
    rw [q2] at hg1
    have hfk : (S.getD k st0).1 = finAt S k := rfl
    have hak : (S.getD k st0).2 = arcsAt S k := rfl
    rw [hfk] at hg0
    rw [hak] at hg1 q2
    have HAi : Hid (HoldA wr ai (arcsAt S k)) := by
      have := HDo.out.arcs k hlt ai _ ci q2
      rw [if_neg (by omega)] at this
      exact this
    have Hq2 := hidd q2
    have HLt : Hid (∀ b, LiesX xs k b → b < w.heap.size ∧ b ≠ be) := fun b hb => ⟨by have := (hb.range HS.out hlt).2; have := HS.out.le; omega, fun e => HBe.out k hlt (e ▸ hb)⟩
    have HAl := hidd (HOk.out.arcs k hlt)
    clear q1 q2 q3 q4
    go_wp2_with fail
    refine (callsIn_wide.1 (aheads_any Fence.wide 3 trivial rfl _ _ _ _ _ _ _ _)).mono ?_
    rintro e w3 ⟨rfl, hw3⟩
    have hB3 := box_three wr (.cells #[.bool (finAt S k), .slice ai (arcsAt S k).length ci] 82) (.cells #[.bool (finAt S k), .slice ai (arcsAt S k).length ci] 82) (.cells #[.slice (some ⟨be, 0, none⟩) S.length S.length] 66)
    rw [← hw3] at hB3
    have hbel : Below wr.heap.size wr w3 := by rw [hw3]; exact (((Below.refl _ _).alloc (Nat.le_refl _) _).alloc (by simp) _).alloc (by simp; omega) _
    have hsz3 : w3.heap.size = wr.heap.size + 3 := by rw [hw3]; simp
    have HX := hidd hB3
    have HRow4 := hidd (blko HRow.out hbel)
    have HRes4 := hidd (blko HRes.out hbel)
    have HDo4 := hidd (HDo.out.below hbel)
    have HM4 : Hid (Marks w3 w.heap.size Ds) := HMk.out.keep (fun D hD => blko hD hbel)
    have HAi4 := hidd (HAi.out.below hbel)
    clear hw3 hB3 hbel hg0 hg1 HMk HRow HRes HDo HAi HrS
    simp only [World.size_alloc] at *
    have Hsz3 := hidd hsz3
    clear hsz3
    go_wp2_with fail
    refine (wpIn_wide (n := 4)).1 ?_
    have HLx : Hid (∀ b off, ai = some ⟨b, off, none⟩ → LiesX xs k b) := fun b off e => ⟨off, _, ci, by rw [Hq2.out, e]⟩
    have HT3 : Hid (∀ b, LiesX xs k b → ∃ cur, w3.heap[b]? = some (.cells cur 85)) := fun b hb => HDo4.out.typ k b hlt hb
    refine wpIn_rangeFunc_ownF rfl (by omega) (gf := 84) (lb := #[.pointer (some ⟨wr.heap.size + 1, 0, none⟩), .pointer (some ⟨wr.heap.size + 1 + 1, 0, none⟩)]) rfl trivial (enters_of Try.func84 (by kernel_rfl) rfl)
      (ahead_stops Fence.wide _ trivial rfl (by omega) (wr.heap.size + 1) (wr.heap.size + 1 + 1) be S.length (finAt S k) ai (arcsAt S k) ci E (hAr k) (fun p hp => by have := HAl.out.2 p hp; rw [hElen]; exact this.2.2) (by omega) (fun x _ => Nat.le_trans (HOk.out.bound hlt x) (by omega)) w3 HX.out.2.1 (by rw [hElen]; exact HX.out.2.2) HRow4.out ?ne HAi4.out) KpA.trans
      (fun W l o o' hlo ho hc _ => KpA.of fun i q h1 h2 => (World.putObj_heap_other (by rintro rfl; rw [ho] at h1; cases h1; rw [hc] at h2; cases h2)).trans h1) (Below.refl _ _) (fun _ => rfl)
      (IDo w3 xs k ai (finAt S k) E (arcsAt S k)) (fun _ _ _ => False) ?own (fun _ _ _ _ _ h _ _ => h) ⟨ButX.refl _ _, by rw [List.map_nil, updA_nil]; exact HAi4.out, HT3.out⟩
      (fun x => { tmps := #[.slice (some ⟨g, 0, none⟩) S.length c, .slice (some ⟨be, 0, none⟩) S.length S.length, undef, undef, .pointer (some ⟨w.heap.size, 0, none⟩), undef, .pointer (some ⟨wr.heap.size, 0, none⟩), .int .i64 (x.val : Int), .int .i64 ((ahN (finAt S k) E (arcsAt S k) x.val : Nat) : Int), .slice (some ⟨g, 0, none⟩) S.length c, .int .i64 (S.length : Int), .int .i64 (k : Int), .bool true, .pointer (some ⟨g, k * 2, none⟩), .agg #[.bool (finAt S k), .slice ai (arcsAt S k).length ci], .agg #[.bool (finAt S k), .slice ai (arcsAt S k).length ci], .slice (some ⟨be, 0, none⟩) S.length S.length, .func (.func 84) #[] #[.pointer (some ⟨wr.heap.size + 1, 0, none⟩), .pointer (some ⟨wr.heap.size + 1 + 1, 0, none⟩)], .int .i64 (x.val : Int), .int .i64 ((ahN (finAt S k) E (arcsAt S k) x.val : Nat) : Int), u20, u21, u22, u23, u24, u25, u26, undef, undef, undef, undef, undef], defers := [] }) ?assign ?body ?done ?stop
    case ne =>
      intro hnn off
      refine ⟨fun e => ?_, fun e => ?_, fun e => ?_⟩
      · have := (HLt.out _ (HLx.out _ _ e)).1; omega
      · have := (HLt.out _ (HLx.out _ _ e)).1; omega
      · exact (HLt.out _ (HLx.out _ _ e)).2 rfl
    case own =>
      rintro pre W W' row ⟨h1, h2, h3⟩ hg hr
      have hb : ∀ b, b < w3.heap.size → W'.heap[b]? = W.heap[b]? := fun b hb => hg.block b (Nat.lt_of_lt_of_le hb h1.size) (fun e => by have := (hr b e.symm).1; omega)
      refine ⟨⟨hg.os.trans h1.os, hg.tape.trans h1.tape, hg.output.trans h1.output, Nat.le_trans h1.size hg.size, fun b hbl hn => (hb b hbl).trans (h1.block b hbl hn)⟩, h2.keep hg.size fun b off e _ => hb b ?_, fun b hbx => ?_⟩
      · have := (HLt.out _ (HLx.out _ _ e)).1
        have := Hsz3.out
        omega
      · obtain ⟨cur, hc⟩ := h3 b hbx
        have := (HLt.out _ hbx).1
        have := Hsz3.out
        exact ⟨cur, (hb b (by omega)).trans hc⟩
    case assign =>
      intro l x W K hK
      unfold ahOf
      gi_wp2
      exact hK
    case body =>
      rintro l pre x W ⟨hbW, hAW, hTW⟩ hlt2
      have hxl := x.isLt
      have hbx : W.heap[wr.heap.size]? = some (.cells #[.bool (finAt S k), .slice ai (arcsAt S k).length ci] 82) := (hbW.block _ (by have := Hsz3.out; omega) (fun e => by have := (HLt.out _ e).1; omega)).trans HX.out.1
      have q1 : W.cell? ⟨wr.heap.size, 1, none⟩ = some (.slice ai (arcsAt S k).length ci) := blkc hbx 1
      have hxz : (x.val : Int) < ((arcsAt S k).length : Int) := by omega
      obtain ⟨b', off', rfl, hb', hcell⟩ := hAW.resolve_left (fun h => by have := congrArg List.length h; rw [updA_len, List.length_nil] at this; omega)
      obtain ⟨cur, hcur⟩ := hTW b' (HLx.out _ _ rfl)
      have x2 := (hcell x.val (by rw [updA_len]; exact hxl)).2.2
      have f2 : W.frozen? ⟨b', off' + x.val * 3 + 2, none⟩ = false := frozen_of_row W b' _ cur _ hcur
      have HSto := hidd (IDo.store x ⟨hbW, hAW, hTW⟩ (HLx.out _ _ rfl))
      have HbW := hidd hbW
      have HAW := hidd hAW
      have HTW := hidd hTW
      have Hcur := hidd hcur
      have Hcell := hidd hcell
      clear hbW hAW hTW hcur hcell hbx
      generalize hpv : ((updA (finAt S k) E (arcsAt S k) (pre.map Fin.val)).getD x.val ar0).2.2 = pv at *
      clear hpv
      generalize hav : ahN (finAt S k) E (arcsAt S k) x.val = av at *
      have HAv := hidd hav
      clear hav
      have Hx := hidd hxl
      generalize hxv : x.val = xv at *
      gi_wp2
      exact HSto.out
    case done =>
      rintro D ys W hD hys hI hK
      have HI := hidd hI
      have Hys := hidd hys
      have HD := hidd hD
      have HKD := hidd hK
      clear hI hys hD hK
      have HDo5 := hidd (HDo4.out.step hlt Hq2.out HDi.out HI.out Hys.out)
      have HB5 : Hid (ButX (fun b => LiesX xs k b) w3 W) := HI.out.1
      have hz3 := Hsz3.out
      go_wp2_with fail
      refine ⟨⟨k + 1, _, _, _, _, _, _, _, _, _, _, _, _, _, _, _, _, _, _, D :: Ds, rfl, by omega, HDo5.out, (HB5.out.block _ (by omega) (fun e => by have := (HLt.out _ e).1; omega)).trans HRes4.out, (HB5.out.block _ (by omega) (fun e => (HLt.out _ e).2 rfl)).trans HRow4.out, ?_⟩, ?_⟩
      · refine Marks.push (HM4.out.keep fun D' h => ?_) (by have := HD.out; omega) HKD.out ?_
        · refine (HB5.out.block _ (Array.getElem?_eq_some_iff.1 h).1 (fun e => ?_)).trans h
          obtain ⟨cur, hc⟩ := HT3.out _ e
          rw [h] at hc; cases hc
        · intro hm
          have := HM4.out.lt hm
          have := HD.out
          omega
      · simp [intOf]; omega
    case stop =>
      rintro D cd pre W hD _ hF hK
      exact hF.elim
  · have hltz : ¬ (k : Int) < (S.length : Int) := by omega
    have hke : k = S.length := by omega
    rw [hke] at HDo
    have HSt := hidd (HDo.out.done HS.out)
    have e0 : wr.cell? ⟨be, 0, none⟩ = some (.int .i64 ((valE E 0 : Nat) : Int)) := by rw [blkc HRow.out 0]; simp [nCellsE, valE, show 0 < E.length by omega]
    have hS0 : (0 : Int) < (S.length : Int) := by omega
    have x0 := blkc HRes.out 0
    have x1 := blkc HRes.out 1
    have f0 := blkf HRes.out 0
    have f1 := blkf HRes.out 1
    generalize hV : valE E 0 = V at *
    have HV := hidd hV
    clear hV
    have HXs := hidd (blk_set2 (x := .int .i64 (V : Int)) (y := .slice a S.length c) HRes.out)
    have Hbut : Hid (ButX (fun b => ∃ j, j < S.length ∧ LiesX xs j b) w ((wr.setCell ⟨w.heap.size, 0, none⟩ (.int .i64 (V : Int))).setCell ⟨w.heap.size, 1, none⟩ (.slice a S.length c))) := by
      refine ⟨HDo.out.but.os, HDo.out.but.tape, HDo.out.but.output, by have := HDo.out.but.size; simpa using this, fun b hb hn => ?_⟩
      rw [heap_set_other _ w.heap.size 1 _ b (by omega), heap_set_other wr w.heap.size 0 _ b (by omega)]
      exact HDo.out.but.block b hb hn
    have HSt2 : Hid (StsAt ((wr.setCell ⟨w.heap.size, 0, none⟩ (.int .i64 (V : Int))).setCell ⟨w.heap.size, 1, none⟩ (.slice a S.length c)) lo hi (.slice a S.length c) (S.map (ahdS E)) xs) := HSt.out.keep (by simp) fun b h1 h2 => by
      have := HS.out.le
      rw [heap_set_other _ w.heap.size 1 _ b (by omega), heap_set_other wr w.heap.size 0 _ b (by omega)]
    clear HSt HDo
    go_wp2_with fail
    refine leaves_marks (B := w.heap.size) Ds _ _ (HMk.out.keep fun D h => ?_) (AllBut.refl _) (Below.refl _ _) ?_
    · rw [heap_set_other _ w.heap.size 1 _ D (fun e => by rw [e, HRes.out] at h; cases h), heap_set_other wr w.heap.size 0 _ D (fun e => by rw [e, HRes.out] at h; cases h)]
      exact h
    · intro w' ha hb
      have k3 : w'.heap[w.heap.size]? = some (.cells #[.int .i64 (V : Int), .slice a S.length c] 27) := (ha.block _ (by rw [HXs.out]; simp)).trans HXs.out
      have k4 := blkc k3 0
      have k5 := blkc k3 1
      refine ⟨.agg #[.int .i64 (V : Int), .slice a S.length c], by simp [results, Try.results42, go_sem, k4, k5], by rw [HV.out], ?_, ?_⟩
      · refine HSt2.out.keep (by rw [ha.size]; exact Nat.le_refl _) fun b h1 h2 => hb.block b ?_
        have := HS.out.le
        omega
      · refine ⟨hb.os.trans Hbut.out.os, hb.tape.trans Hbut.out.tape, hb.output.trans Hbut.out.output, Nat.le_trans Hbut.out.size (by rw [ha.size]; exact Nat.le_refl _), fun b hb' hn => (hb.block b hb').trans (Hbut.out.block b hb' hn)⟩
end Go.Proofs.Ytbkedgpligcicaa

namespace Go.Proofs.Ytbkedgpligcicaa
open Go Go.RowKit
set_option linter.unusedVariables false
set_option maxRecDepth 100000

/-! What BuildDict tells. -/
def BldR (ts : List Tx) (d : Int × List St) (c : Int) : Prop :=
  (CodeT ts c ∧ c ≠ 0 ∧ d = (0, [])) ∨ (CodeT ts 0 ∧ ∃ ord, IsBfs nextT ts ord ∧ ((16384 < ord.length ∧ d = (0, []) ∧ c = 11) ∨ (ord.length ≤ 16384 ∧ d = dictOf ts ord ∧ c = 0)))
theorem BldR.fn {ts : List Tx} {d d' : Int × List St} {c c' : Int} (h : BldR ts d c) (h' : BldR ts d' c') : (d, c) = (d', c') := by
  rcases h with ⟨h1, h2, h3⟩ | ⟨h1, ord, h2, h3⟩
  · rcases h' with ⟨k1, k2, k3⟩ | ⟨k1, ord', k2, k3⟩
    · rw [h3, k3, h1.fn k1]
    · exact absurd (h1.fn k1) h2
  · rcases h' with ⟨k1, k2, k3⟩ | ⟨k1, ord', k2, k3⟩
    · exact absurd (k1.fn h1) k2
    · have e := h2.uniq k2
      subst e
      rcases h3 with ⟨q1, q2, q3⟩ | ⟨q1, q2, q3⟩
      · rcases k3 with ⟨p1, p2, p3⟩ | ⟨p1, p2, p3⟩
        · rw [q2, q3, p2, p3]
        · omega
      · rcases k3 with ⟨p1, p2, p3⟩ | ⟨p1, p2, p3⟩
        · omega
        · rw [q2, q3, p2, p3]
open Classical in
noncomputable def bldO (ts : List Tx) : (Int × List St) × Int := if h : ∃ q : (Int × List St) × Int, BldR ts q.1 q.2 then h.choose else ((0, []), 0)
theorem bldO_is {ts : List Tx} {d : Int × List St} {c : Int} (h : BldR ts d c) : bldO ts = (d, c) := by
  have hx : ∃ q : (Int × List St) × Int, BldR ts q.1 q.2 := ⟨(d, c), h⟩
  unfold bldO
  rw [dif_pos hx]
  exact hx.choose_spec.fn h
theorem bldO_small (ts : List Tx) : (bldO ts).1.2.length ≤ 16384 ∧ ∀ i, (arcsAt (bldO ts).1.2 i).length ≤ 256 := by
  have hnil : ([] : List St).length ≤ 16384 ∧ ∀ i, (arcsAt ([] : List St) i).length ≤ 256 := ⟨by simp, fun i => by simp [arcsAt, st0]⟩
  by_cases h : ∃ q : (Int × List St) × Int, BldR ts q.1 q.2
  · obtain ⟨⟨d, c⟩, hq⟩ := h
    rw [bldO_is hq]
    rcases hq with ⟨_, _, h3⟩ | ⟨h1, ord, h2, h3⟩
    · rw [h3]; exact hnil
    · rcases h3 with ⟨_, q2, _⟩ | ⟨q1, q2, _⟩
      · rw [q2]; exact hnil
      · have hd : IsDict (d.1, d.2) ts := ⟨h1.good, ord, h2, q1, q2⟩
        refine ⟨hd.n2, fun i => ?_⟩
        by_cases hi : i < d.2.length
        · exact (hd.small i hi).1
        · have : arcsAt d.2 i = [] := by
            unfold arcsAt
            rw [List.getD_eq_getElem?_getD, List.getElem?_eq_none (by omega)]; rfl
          show (arcsAt d.2 i).length ≤ 256
          rw [this]; simp
  · unfold bldO
    rw [dif_neg h]
    exact hnil
theorem dropT_zero (ts : List Tx) : dropT 0 ts = ts := by
  unfold dropT
  have : (List.drop 0 : Tx → Tx) = id := by funext t; rfl
  rw [this, List.map_id]
theorem stF_arcs {L : List Ar} {o : List Nat} (h : ∀ x ∈ o, IsF L x) (i : Nat) : (arcsAt (o.map (stF L o)) i).length ≤ 1048576 := by
  by_cases hi : i < o.length
  · have e : arcsAt (o.map (stF L o)) i = (stF L o o[i]).2 := by simp [arcsAt, hi]
    rw [e, stF_eq, List.length_map]
    have := (h o[i] (List.getElem_mem hi)).lks256
    omega
  · have : arcsAt (o.map (stF L o)) i = [] := by
      unfold arcsAt
      rw [List.getD_eq_getElem?_getD, List.getElem?_eq_none (by simp; omega)]; rfl
    rw [this]; simp
/-- What the program's builder does: its answer owns its memory. -/
def BuildI : Prop := ∀ (a : Option Addr) (cap : Nat) (ts : List Tx) (w : World), ts.length ≤ 1048576 → ts.length ≤ cap → cap ≤ 9223372036854775807 → TmAt w a ts →
  Calls Try.prog 9 #[.slice a ts.length cap] w fun e w' => ∃ a c lo hi xs, e = .returned (.tuple #[.agg #[.int .i64 (bldO ts).1.1, .slice a (bldO ts).1.2.length c], .int .i64 (bldO ts).2]) ∧ w.heap.size ≤ lo ∧ StsAt w' lo hi (.slice a (bldO ts).1.2.length c) (bldO ts).1.2 xs ∧ DisX xs (bldO ts).1.2.length ∧ Below w.heap.size w w'
set_option maxHeartbeats 8000000 in
theorem implBuild_any : BuildI := by
  intro a cap ts w hlen hcap hcm htm
  have HT := hidd htm
  clear htm
  have HBa : Hid (Below w.heap.size w (w.alloc (.cells #[.int .i64 0, .slice none 0 0] 27))) := (Below.refl _ _).alloc (Nat.le_refl _) _
  have HX0 := hidd (heap_alloc_new w (.cells #[.int .i64 0, .slice none 0 0] 27))
  go_enter Try.func9, Try.ntmps9
  go_upto_region 1 with fail
  obtain ⟨wa, hwa⟩ : ∃ wa, w.alloc (.cells #[.int .i64 0, .slice none 0 0] 27) = wa := ⟨_, rfl⟩
  rw [hwa] at HBa HX0
  try rw [hwa]
  clear hwa
  have HTa : Hid (TmAt wa a ts) := HT.out.keep HBa.out.size fun g off ha hn => by
    obtain ⟨g', off', ha', hg', _⟩ := HT.out.resolve_left hn
    rw [ha] at ha'; cases ha'
    exact HBa.out.block _ hg'
  have HCo := hidd (termsCode_any a cap ts wa hlen HTa.out)
  go_wp2_with fail
  refine HCo.out.mono ?_
  rintro e w1 ⟨c, rfl, hcode, q, hq⟩
  have HB1 : Hid (Below w.heap.size w w1) := by show Below _ _ _; rw [hq]; exact below_drewN HBa.out q
  have HX1 : Hid (w1.heap[w.heap.size]? = some (.cells #[.int .i64 0, .slice none 0 0] 27)) := by show _ = _; rw [hq, ← HX0.out]; simp
  have HT1 : Hid (TmAt w1 a ts) := HTa.out.keep (by rw [hq]; simp) fun g off ha hn => by rw [hq]; simp
  have HCd := hidd hcode
  clear hq HCo hcode HX0 HBa HTa
  dsimp only
  by_cases hc0 : c = 0
  · subst hc0
    have HG := hidd HCd.out.good
    have hl4 : ts.length ≤ 4096 := HG.out.2.1
    have HNR := hidd (newRegister_any ts.length w1 (by omega))
    go_wp2_with fail
    refine HNR.out.mono ?_
    rintro e w2 ⟨rb, mb, g, cr, rfl, hreg, hb2⟩
    have HReg := hidd hreg
    have HB2 := hidd hb2
    have HT2 : Hid (TmAt w2 a ts) := HT1.out.keep hb2.size fun g off ha hn => by
      obtain ⟨g', off', ha', hg', _⟩ := HT1.out.resolve_left hn
      rw [ha] at ha'; cases ha'
      exact hb2.block _ hg'
    have hfrom := hreg.from_
    have hgl := hreg.glt
    have HFz := hidd (freeze_all w1.heap.size rb mb 64 w2 g cr [] a cap ts 0 hreg HT2.out (fun gT off ha hn => by
      obtain ⟨g', off', ha', hg', _⟩ := HT1.out.resolve_left hn
      rw [ha] at ha'; cases ha'
      omega) hcap hcm hl4 (by rw [dropT_zero]; exact HG.out.1) (fun t ht => ⟨Nat.zero_le _, by have := (HG.out.2.2 t ht).2; omega⟩) (by omega) (by simp; omega))
    rw [dropT_zero] at HFz
    clear hreg hb2 HNR
    dsimp only
    go_wp2_with fail
    refine HFz.out.mono ?_
    rintro e w3 ⟨s, L, g3, c3, rfl, hfz⟩
    have HB3 : Hid (Below w1.heap.size w1 w3) := ⟨hfz.fr.os.trans HB2.out.os, hfz.fr.tape.trans HB2.out.tape, hfz.fr.output.trans HB2.out.output, Nat.le_trans HB2.out.size hfz.fr.size, fun b hb => by
      have := HB2.out.size
      rw [hfz.fr.block b (by omega) (by omega) (by omega) (by omega)]
      exact HB2.out.block b hb⟩
    have hLl : L.length ≤ 262144 := by have := hfz.few; simp at this; omega
    have HIs : Hid (IsF L s) := ⟨65, ts, HG.out.1, hfz.den⟩
    have HSt := hidd (states_any w1.heap.size w3 rb mb g3 c3 L s hfz.reg HIs.out (by omega))
    have HDen := hidd hfz.den
    have HNd := hidd hfz.reg.nodup
    clear hfz HFz HReg HT2
    dsimp only
    go_wp2_with fail
    refine HSt.out.mono ?_
    rintro e w4 ⟨hb4, o, aS, cS, hi, xs, rfl, hbf, hst, hdi, hol⟩
    obtain ⟨ord, hord, holn, hbuilt⟩ := built_plain HG.out HNd.out HDen.out hbf
    have HSt4 := hidd hst
    have HDi := hidd hdi
    have HB4 := hidd (HB1.out.trans ((HB3.out.trans (hb4.mono HB3.out.size)).mono HB1.out.size))
    have HX4 := hidd (blko (blko HX1.out HB3.out) hb4)
    have HOr := hidd hord
    have HBu := hidd hbuilt
    have hlo3 : w.heap.size < w3.heap.size := by have := (Array.getElem?_eq_some_iff.1 HX1.out).1; have := HB3.out.size; omega
    have HAll : Hid (∀ x ∈ o, IsF L x) := hbf.all (IsF L) HIs.out (fun x hx y hy => hx.next y hy)
    clear hb4 hbf hst hdi HSt hord hbuilt HB3 HX1
    dsimp only
    by_cases hbig : 16384 < o.length
    · have hbz : (16384 : Int) < (o.length : Int) := by omega
      have HO : Hid (bldO ts = ((0, []), 11)) := bldO_is (Or.inr ⟨HCd.out, ord, HOr.out, Or.inl ⟨by omega, rfl, rfl⟩⟩)
      have x0 := blkc HX4.out 0
      have x1 := blkc HX4.out 1
      have f0 := blkf HX4.out 0
      have f1 := blkf HX4.out 1
      have HR := hidd (box_ret (x' := .int .i64 0) (y' := .slice none 0 0) HB4.out HX4.out)
      have z0 := blkc HR.out.2 0
      have z1 := blkc HR.out.2 1
      go_wp2_with fail
      refine bodyPost_ret (v := .tuple #[.agg #[.int .i64 0, .slice none 0 0], .int .i64 11]) (by simp [results, Try.results9, go_sem, z0, z1]) rfl ?_
      refine ⟨none, 0, w.heap.size, _, [], by rw [HO.out]; rfl, Nat.le_refl _, by rw [HO.out]; exact StsAt.nil _ _, by rw [HO.out]; exact fun i j b _ hj => by simp at hj, HR.out.1⟩
    · have hbz : ¬ (16384 : Int) < (o.length : Int) := by omega
      obtain ⟨hmust, hval⟩ := HBu.out (by omega)
      have HVal := hidd hval
      have HAr := hidd (fun i => stF_arcs (L := L) (o := o) HAll.out i)
      obtain ⟨a', c', e', hH⟩ := HSt4.out.hold
      rw [List.length_map] at e'
      simp only [Value.slice.injEq, true_and] at e'
      obtain ⟨rfl, rfl⟩ := e'
      have HE := hidd (endingsM_any aS cS (o.map (stF L o)) w4 (by simp; omega) HAr.out hH)
      rw [List.length_map] at HE
      clear hH hval
      go_wp2_with fail
      refine HE.out.mono ?_
      rintro e w5 ⟨v, ok, rfl, hb5, hyes, hmus⟩
      have hok1 := hmus hmust
      subst hok1
      obtain ⟨be, E, rfl, hbe, hrow, hok⟩ := hyes rfl
      have HB5 := hidd (HB4.out.trans (hb5.mono HB4.out.size))
      have HX5 := hidd (blko HX4.out hb5)
      have hw4 := HSt4.out.le
      have hSt5 := HSt4.out.keep hb5.size fun b h1 h2 => hb5.block b (by omega)
      have hSt5' : StsAt w5 w3.heap.size hi (.slice aS (o.map (stF L o)).length cS) (o.map (stF L o)) xs := by rw [List.length_map]; exact hSt5
      have hDi5 : DisX xs (o.map (stF L o)).length := by rw [List.length_map]; exact HDi.out
      have HDo := hidd (dictOf_any aS cS (o.map (stF L o)) E be w3.heap.size hi xs w5 hSt5' hDi5 hrow hok HAr.out (fun j hj hx => by have := (hx.range hSt5' hj).2; omega))
      rw [List.length_map] at HDo
      have HEq := hidd (HVal.out E hok)
      have HSt5 := hidd hSt5'
      clear hyes hmus hrow hok hb5 HE hSt5 hSt5' hDi5 HB4 HX4 hmust HBu HVal
      dsimp only
      go_wp2_with fail
      refine HDo.out.mono ?_
      rintro e w6 ⟨rfl, hs6, hb6⟩
      have HS6 := hidd hs6
      have hlx : ∀ j, j < o.length → ∀ b, LiesX xs j b → w3.heap.size ≤ b := fun j hj b hx => (hx.range HSt5.out (by simpa using hj)).1
      have HX6 : Hid (w6.heap[w.heap.size]? = some (.cells #[.int .i64 0, .slice none 0 0] 27)) := (hb6.block _ (Array.getElem?_eq_some_iff.1 HX5.out).1 (by
        rintro ⟨j, hj, hx⟩
        have := hlx j hj _ hx
        omega)).trans HX5.out
      have HB6 : Hid (Below w.heap.size w w6) := HB5.out.trans (hb6.below HB5.out.size (fun i hi' ⟨j, hj, hx⟩ => by
        have := hlx j hj _ hx
        omega))
      clear hs6 hb6 HDo
      dsimp only
      have HO : Hid (bldO ts = (dictOf ts ord, 0)) := bldO_is (Or.inr ⟨HCd.out, ord, HOr.out, Or.inr ⟨by omega, rfl, rfl⟩⟩)
      rw [← HEq.out] at HO
      generalize hV : valE E 0 = V at *
      have HV := hidd hV
      clear hV HEq
      have x0 := blkc HX6.out 0
      have x1 := blkc HX6.out 1
      have f0 := blkf HX6.out 0
      have f1 := blkf HX6.out 1
      have HR := hidd (box_ret (x' := .int .i64 (V : Int)) (y' := .slice aS o.length cS) HB6.out HX6.out)
      have z0 := blkc HR.out.2 0
      have z1 := blkc HR.out.2 1
      have HHo : Hid (StsAt ((w6.setCell ⟨w.heap.size, 0, none⟩ (.int .i64 (V : Int))).setCell ⟨w.heap.size, 1, none⟩ (.slice aS o.length cS)) w3.heap.size hi (.slice aS o.length cS) ((o.map (stF L o)).map (ahdS E)) xs) := HS6.out.keep (by simp) fun b h1 h2 => by
        rw [heap_set_other _ w.heap.size 1 _ b (by omega), heap_set_other w6 w.heap.size 0 _ b (by omega)]
      go_wp2_with fail
      refine bodyPost_ret (v := .tuple #[.agg #[.int .i64 (V : Int), .slice aS o.length cS], .int .i64 0]) (by simp [results, Try.results9, go_sem, z0, z1]) rfl ?_
      refine ⟨aS, cS, w3.heap.size, hi, xs, ?_, by omega, ?_, ?_, HR.out.1⟩
      · rw [HO.out]; simp
      · rw [HO.out]
        have := HHo.out
        simpa using this
      · rw [HO.out]
        have := HDi.out
        simpa using this
  · have hcz : (c != 0) = true := by simpa using hc0
    have HO : Hid (bldO ts = ((0, []), c)) := bldO_is (Or.inl ⟨HCd.out, hc0, rfl⟩)
    have x0 := blkc HX1.out 0
    have x1 := blkc HX1.out 1
    have f0 := blkf HX1.out 0
    have f1 := blkf HX1.out 1
    have HR := hidd (box_ret (x' := .int .i64 0) (y' := .slice none 0 0) HB1.out HX1.out)
    have z0 := blkc HR.out.2 0
    have z1 := blkc HR.out.2 1
    clear hc0
    go_wp2_with fail
    refine bodyPost_ret (v := .tuple #[.agg #[.int .i64 0, .slice none 0 0], .int .i64 c]) (by simp [results, Try.results9, go_sem, z0, z1]) rfl ?_
    refine ⟨none, 0, w.heap.size, _, [], by rw [HO.out]; rfl, Nat.le_refl _, by rw [HO.out]; exact StsAt.nil _ _, by rw [HO.out]; exact fun i j b _ hj => by simp at hj, HR.out.1⟩
end Go.Proofs.Ytbkedgpligcicaa

namespace Go.Proofs.Ytbkedgpligcicaa
open Go Go.RowKit
set_option linter.unusedVariables false
set_option maxRecDepth 100000

def BldPost (ts : List Tx) (w : World) (e : Ending) (w' : World) : Prop := ∃ a' c, e = .returned (.tuple #[.agg #[.int .i64 (bldO ts).1.1, .slice a' (bldO ts).1.2.length c], .int .i64 (bldO ts).2]) ∧ HoldS w' a' (bldO ts).1.2 ∧ Below w.heap.size w w'
def BuildS : Prop := ∀ (a : Option Addr) (cap : Nat) (ts : List Tx) (w : World), ts.length ≤ 1048576 → TmAt w a ts →
  Calls Try.prog 8 #[.slice a ts.length cap] w (BldPost ts w)
theorem okT_not {t : Tx} (h : ¬ okT t) : t.length < 1 ∨ 64 < t.length := by
  unfold okT at h
  omega
set_option maxHeartbeats 8000000 in
theorem specBuild_any : BuildS := by
  intro a cap ts w hlen htm
  have HT := hidd htm
  clear htm
  have HBa : Hid (Below w.heap.size w (w.alloc (.cells #[.int .i64 0, .slice none 0 0] 27))) := (Below.refl _ _).alloc (Nat.le_refl _) _
  have HX0 := hidd (heap_alloc_new w (.cells #[.int .i64 0, .slice none 0 0] 27))
  go_enter Try.func8, Try.ntmps8
  go_upto_region 1 with fail
  obtain ⟨wa, hwa⟩ : ∃ wa, w.alloc (.cells #[.int .i64 0, .slice none 0 0] 27) = wa := ⟨_, rfl⟩
  rw [hwa] at HBa HX0
  try rw [hwa]
  clear hwa
  have HTa : Hid (TmAt wa a ts) := HT.out.keep HBa.out.size fun g off ha hn => by
    obtain ⟨g', off', ha', hg', _⟩ := HT.out.resolve_left hn
    rw [ha] at ha'; cases ha'
    exact HBa.out.block _ hg'
  have HEnd : Hid (∀ (W : World) (c : Int), Below w.heap.size w W → W.heap[w.heap.size]? = some (.cells #[.int .i64 0, .slice none 0 0] 27) → CodeT ts c → c ≠ 0 → ∀ W', Below w.heap.size w W' → BldPost ts w (Ending.returned (.tuple #[.agg #[.int .i64 0, .slice none 0 0], .int .i64 c])) W') := by
    intro W c _ _ hc h0 W' hb'
    unfold BldPost
    rw [bldO_is (Or.inl ⟨hc, h0, rfl⟩)]
    exact ⟨none, 0, rfl, Or.inl rfl, hb'⟩
  by_cases hlong : 4096 < ts.length
  · have hlz : (4096 : Int) < (ts.length : Int) := by omega
    have x0 := blkc HX0.out 0
    have x1 := blkc HX0.out 1
    have f0 := blkf HX0.out 0
    have f1 := blkf HX0.out 1
    have HR := hidd (box_ret (x' := .int .i64 0) (y' := .slice none 0 0) HBa.out HX0.out)
    have z0 := blkc HR.out.2 0
    have z1 := blkc HR.out.2 1
    go_wp2_with fail
    refine bodyPost_ret (v := .tuple #[.agg #[.int .i64 0, .slice none 0 0], .int .i64 2]) (by simp [results, Try.results8, go_sem, z0, z1]) rfl ?_
    exact HEnd.out _ 2 HBa.out HX0.out (Or.inl ⟨hlong, rfl⟩) (by omega) _ HR.out.1
  have hlz : ¬ (4096 : Int) < (ts.length : Int) := by omega
  go_wp2_with fail
  go_loop [4] (fun iv => ∃ i : Nat, i ≤ ts.length ∧ iv = .int .i64 (i : Int) ∧ ∀ j, j < i → okT (ts.getD j [])) (fun iv => ts.length - (intOf iv).toNat)
  case atStart => exact ⟨0, Nat.zero_le _, rfl, fun j hj => by omega⟩
  case round =>
    obtain ⟨i, hi, rfl, hok⟩ := hrel
    have HOk := hidd hok
    clear hok
    by_cases hlt : i < ts.length
    · have hltz : (i : Int) < (ts.length : Int) := by omega
      obtain ⟨g, off, rfl, hg, hc⟩ := HTa.out.resolve_left (fun h => by rw [h] at hlt; simp at hlt)
      have c1 := hc i hlt
      clear hc
      obtain ⟨t, ht⟩ : ∃ t, ts.getD i [] = t := ⟨_, rfl⟩
      have Ht := hidd ht
      rw [ht] at c1
      clear ht
      have htl : (⟨t.toArray⟩ : ByteArray).size = t.length := by simp [ByteArray.size]
      by_cases hok : okT t
      · have HK : Hid (okT t) := hok
        have k1 : ¬ (t.length : Int) < 1 := by have := hok.1; omega
        have k2 : ¬ (64 : Int) < (t.length : Int) := by have := hok.2; omega
        clear hok
        go_wp2_with fail
        go_round
        case rel =>
          refine ⟨i + 1, by omega, by go_num, fun j hj => ?_⟩
          by_cases e : j = i
          · subst e; rw [Ht.out]; exact HK.out
          · exact HOk.out j (by omega)
        case measure => simp [intOf]; omega
      · have HK : Hid (CodeT ts 1) := Or.inr (Or.inl ⟨by omega, ⟨i, hlt, by rw [Ht.out]; exact hok⟩, rfl⟩)
        have x0 := blkc HX0.out 0
        have x1 := blkc HX0.out 1
        have f0 := blkf HX0.out 0
        have f1 := blkf HX0.out 1
        have HR := hidd (box_ret (x' := .int .i64 0) (y' := .slice none 0 0) HBa.out HX0.out)
        have z0 := blkc HR.out.2 0
        have z1 := blkc HR.out.2 1
        rcases okT_not hok with k1 | k1
        · have k1z : (t.length : Int) < 1 := by omega
          clear hok
          go_wp2_with fail
          refine bodyPost_ret (v := .tuple #[.agg #[.int .i64 0, .slice none 0 0], .int .i64 1]) (by simp [results, Try.results8, go_sem, z0, z1]) rfl ?_
          exact HEnd.out _ 1 HBa.out HX0.out HK.out (by omega) _ HR.out.1
        · have k1z : (64 : Int) < (t.length : Int) := by omega
          have k2z : ¬ (t.length : Int) < 1 := by omega
          clear hok
          go_wp2_with fail
          refine bodyPost_ret (v := .tuple #[.agg #[.int .i64 0, .slice none 0 0], .int .i64 1]) (by simp [results, Try.results8, go_sem, z0, z1]) rfl ?_
          exact HEnd.out _ 1 HBa.out HX0.out HK.out (by omega) _ HR.out.1
    · have hltz : ¬ (i : Int) < (ts.length : Int) := by omega
      have HAll : Hid (∀ j, j < ts.length → okT (ts.getD j [])) := fun j hj => HOk.out j (by omega)
      go_wp2_with fail
      go_loopw [5] (fun iv wr => ∃ i : Nat, 1 ≤ i ∧ iv = .int .i64 (i : Int) ∧ i ≤ 4097 ∧ (∀ j, 0 < j → j < i → j < ts.length → ltT (ts.getD (j - 1) []) (ts.getD j []) = true) ∧ ∃ q, wr = wa.drewN q) (fun iv _ => 5000 - (intOf iv).toNat)
      case atStart => exact ⟨1, Nat.le_refl _, rfl, by omega, fun j h0 h1 => by omega, 0, rfl⟩
      case round =>
        obtain ⟨i, hi1, rfl, hi2, hri, q, rfl⟩ := hrel
        have HRi := hidd hri
        clear hri
        have HBq : Hid (Below w.heap.size w (wa.drewN q)) := below_drewN HBa.out q
        have HXq : Hid ((wa.drewN q).heap[w.heap.size]? = some (.cells #[.int .i64 0, .slice none 0 0] 27)) := by show _ = _; rw [← HX0.out]; simp
        by_cases hlt : i < ts.length
        · have hltz : (i : Int) < (ts.length : Int) := by omega
          obtain ⟨g, off, rfl, hg, hc⟩ := HTa.out.resolve_left (fun h => by rw [h] at hlt; simp at hlt)
          have c1 := hc i hlt
          have c2 := hc (i - 1) (by omega)
          clear hc
          obtain ⟨ti, hti⟩ : ∃ t, ts.getD i [] = t := ⟨_, rfl⟩
          obtain ⟨tp, htp⟩ : ∃ t, ts.getD (i - 1) [] = t := ⟨_, rfl⟩
          have Hti := hidd hti
          have Htp := hidd htp
          rw [hti] at c1
          rw [htp] at c2
          have hpn : ((i : Int) - 1).toNat = i - 1 := by omega
          have hp0 : ¬ ((i : Int) - 1 < 0) := by omega
          have hp1 : (i : Int) - 1 < (ts.length : Int) := by omega
          clear hti htp
          go_upto_region 11 with fail
          go_cut [47] (fun v wy => v = .bool (!(ltT tp ti)) ∧ ∃ q', wy = wa.drewN q')
          case first =>
            go_quiet (fail)
            go_wp2_with fail
            go_meet
            case rel => exact ⟨by rw [← le_lt], q + nq, by first | rfl | simp [World.drewN, Nat.add_assoc]⟩
          case rest =>
            obtain ⟨rfl, q', rfl⟩ := hcut
            cases hlt2 : ltT tp ti with
            | true =>
              have HL2 := hidd hlt2
              clear hlt2
              go_wp2_with fail
              go_roundw
              case rel =>
                refine ⟨i + 1, by omega, by go_num, by omega, fun j h0 h1 h2 => ?_, q', rfl⟩
                by_cases e : j = i
                · subst e; rw [Hti.out, Htp.out]; exact HL2.out
                · exact HRi.out j h0 (by omega) h2
              case measure => simp [intOf]; omega
            | false =>
              have HL2 := hidd hlt2
              clear hlt2 HBq HXq
              have HBq : Hid (Below w.heap.size w (wa.drewN q')) := below_drewN HBa.out q'
              have HXq : Hid ((wa.drewN q').heap[w.heap.size]? = some (.cells #[.int .i64 0, .slice none 0 0] 27)) := by show _ = _; rw [← HX0.out]; simp
              have HK : Hid (CodeT ts 17) := Or.inr (Or.inr (Or.inl ⟨by omega, HAll.out, ⟨i, by omega, hlt, by rw [Hti.out, Htp.out]; exact HL2.out⟩, rfl⟩))
              generalize wa.drewN q' = wq at *
              have x0 := blkc HXq.out 0
              have x1 := blkc HXq.out 1
              have f0 := blkf HXq.out 0
              have f1 := blkf HXq.out 1
              have HR := hidd (box_ret (x' := .int .i64 0) (y' := .slice none 0 0) HBq.out HXq.out)
              have z0 := blkc HR.out.2 0
              have z1 := blkc HR.out.2 1
              go_wp2_with fail
              refine bodyPost_ret (v := .tuple #[.agg #[.int .i64 0, .slice none 0 0], .int .i64 17]) (by simp [results, Try.results8, go_sem, z0, z1]) rfl ?_
              exact HEnd.out _ 17 HBq.out HXq.out HK.out (by omega) _ HR.out.1
        · have hltz : ¬ (i : Int) < (ts.length : Int) := by omega
          have HCd : Hid (CodeT ts 0) := Or.inr (Or.inr (Or.inr ⟨by omega, HAll.out, fun j h0 h1 => HRi.out j h0 (by omega) h1, rfl⟩))
          have HG := hidd HCd.out.good
          have HTq : Hid (TmAt (wa.drewN q) a ts) := HTa.out.keep (by simp) fun g off ha hn => by simp
          have HBd := hidd (build_any make_any ts a cap (wa.drewN q) (by omega) HG.out.1 (fun t ht => (HG.out.2.2 t ht).2) HTq.out)
          generalize wa.drewN q = wq at *
          go_wp2_with fail
          refine HBd.out.mono ?_
          rintro e w6 ⟨ord, a6, c6, rfl, hbf, hh6, hb6, hol⟩
          have HBf := hidd hbf
          have HH6 := hidd hh6
          have HB6 := hidd (HBq.out.trans (hb6.mono HBq.out.size))
          have HX6 := hidd (blko HXq.out hb6)
          clear hbf hh6 hb6 HBd
          dsimp only
          go_upto_region 14 with fail
          have HB7 := hidd ((Below.refl w6.heap.size w6).alloc (Nat.le_refl _) (.cells #[.int .i64 (ts.length : Int), .slice a6 ord.length c6] 27))
          have HD7 := hidd (heap_alloc_new w6 (.cells #[.int .i64 (ts.length : Int), .slice a6 ord.length c6] 27))
          obtain ⟨w7, hw7⟩ : ∃ w7, w6.alloc (.cells #[.int .i64 (ts.length : Int), .slice a6 ord.length c6] 27) = w7 := ⟨_, rfl⟩
          rw [hw7] at HB7 HD7
          try rw [hw7]
          clear hw7
          have HX7 := hidd (blko HX6.out HB7.out)
          have HH7 := hidd (HH6.out.below HB7.out)
          have HBw7 := hidd (HB6.out.trans (HB7.out.mono HB6.out.size))
          have hne7 : w.heap.size ≠ w6.heap.size := by have := (Array.getElem?_eq_some_iff.1 HX6.out).1; omega
          obtain ⟨D7, hD7⟩ : ∃ D7, w6.heap.size = D7 := ⟨_, rfl⟩
          rw [hD7] at HD7 hne7
          try rw [hD7]
          clear hD7 HB7 HX6 HB6 HH6
          have d0 := blkc HD7.out 0
          have d1 := blkc HD7.out 1
          have x0 := blkc HX7.out 0
          have x1 := blkc HX7.out 1
          have f0 := blkf HX7.out 0
          have f1 := blkf HX7.out 1
          by_cases hbig : 16384 < ord.length
          · have hbz : (16384 : Int) < (ord.length : Int) := by omega
            have HO : Hid (bldO ts = ((0, []), 11)) := bldO_is (Or.inr ⟨HCd.out, ord, HBf.out, Or.inl ⟨hbig, rfl, rfl⟩⟩)
            have HR := hidd (box_ret (x' := .int .i64 0) (y' := .slice none 0 0) HBw7.out HX7.out)
            have z0 := blkc HR.out.2 0
            have z1 := blkc HR.out.2 1
            go_wp2_with fail
            refine bodyPost_ret (v := .tuple #[.agg #[.int .i64 0, .slice none 0 0], .int .i64 11]) (by simp [results, Try.results8, go_sem, z0, z1]) rfl ?_
            unfold BldPost
            rw [HO.out]
            exact ⟨none, 0, rfl, Or.inl rfl, HR.out.1⟩
          · have hbz : ¬ (16384 : Int) < (ord.length : Int) := by omega
            have HO : Hid (bldO ts = (dictOf ts ord, 0)) := bldO_is (Or.inr ⟨HCd.out, ord, HBf.out, Or.inr ⟨by omega, rfl, rfl⟩⟩)
            have HR := hidd (box_ret (x' := .int .i64 (ts.length : Int)) (y' := .slice a6 ord.length c6) HBw7.out HX7.out)
            have z0 := blkc HR.out.2 0
            have z1 := blkc HR.out.2 1
            have HHz : Hid (HoldS ((w7.setCell ⟨w.heap.size, 0, none⟩ (.int .i64 (ts.length : Int))).setCell ⟨w.heap.size, 1, none⟩ (.slice a6 ord.length c6)) a6 (dictOf ts ord).2) := HH7.out.away (n := 0) (y := 0) (z := 0) (x := none) (i0 := 0) (by simp) HX7.out (fun b hb => by
              rw [heap_set_other _ w.heap.size 1 _ b hb, heap_set_other w7 w.heap.size 0 _ b hb])
            go_wp2_with fail
            refine bodyPost_ret (v := .tuple #[.agg #[.int .i64 (ts.length : Int), .slice a6 ord.length c6], .int .i64 0]) (by simp [results, Try.results8, go_sem, z0, z1]) rfl ?_
            unfold BldPost
            rw [HO.out]
            exact ⟨a6, c6, by simp [dictOf], HHz.out, HR.out.1⟩
end Go.Proofs.Ytbkedgpligcicaa

namespace Go.Proofs.Ytbkedgpligcicaa
open Go Go.RowKit
set_option linter.unusedVariables false
set_option maxRecDepth 100000

set_option maxHeartbeats 4000000 in
theorem implFind_any (hok : OkC 15) : FindC 10 := by
  intro c a cap S t w hn hA hS
  have HOk := hidd (fun W (hW : Below w.heap.size w W) => hok c a cap S W hn hA (hS.below hW))
  have HS := hidd hS
  clear hok hA hS
  have HBa : Hid (Below w.heap.size w (w.alloc (.cells #[.int .i64 c, .slice a S.length cap] 27))) := (Below.refl _ _).alloc (Nat.le_refl _) _
  have Hbx := hidd (heap_alloc_new w (.cells #[.int .i64 c, .slice a S.length cap] 27))
  have hsl : (⟨t.toArray⟩ : ByteArray).size = t.length := by rw [Lib.size_eq]
  go_enter Try.func10, Try.ntmps10
  by_cases hl : 65536 < t.length
  · have hlz : (t.length : Int) > 65536 := by omega
    have HF := hidd (findO_long (d := dictT c S) hl)
    go_wp2_with fail
    go_ret2
    exact ⟨by rw [HF.out]; rfl, HBa.out⟩
  have hlz : ¬ (t.length : Int) > 65536 := by omega
  go_wp2_with fail
  refine (HOk.out _ HBa.out).mono ?_
  rintro e w1 ⟨rfl, hb1⟩
  have HB1 := hidd (HBa.out.trans (hb1.mono HBa.out.size))
  have Hbx1 := hidd (blko Hbx.out hb1)
  clear hb1 Hbx HOk
  dsimp only
  rcases okD_cases c S with ⟨hok, ts, hts⟩ | ⟨hok, hno⟩
  · rw [hok]
    have HD := hidd (dictT_some hts)
    obtain ⟨ord, hat⟩ := hts.at
    have HAt := hidd hat
    have HR0 := hidd hts.1.1
    clear hok hts hat
    have b1 := blkc Hbx1.out 1
    have hzw : w.heap.size < w1.heap.size := (Array.getElem?_eq_some_iff.1 Hbx1.out).1
    have HBc := hidd ((Below.refl w1.heap.size w1).alloc (Nat.le_refl _) (.cells #[.slice a S.length cap, .int .i64 0, .slice none 0 0, .int .i64 0] 71))
    have HC0 : Hid (CurAt w1 (w1.alloc (.cells #[.slice a S.length cap, .int .i64 0, .slice none 0 0, .int .i64 0] 71)) w1.heap.size a cap S (ord.idxOf ts) 0 [] (.slice none 0 0)) := by
      refine ⟨HBc.out, HS.out.below HB1.out, Nat.le_refl _, ?_, World.ownsRow_nil _ _ _ _⟩
      rw [(dict_root HAt.out.bfs).2]
      exact heap_alloc_new w1 _
    have HSp := hidd (spell_any t (by omega) HAt.out HC0.out)
    go_upto_region 6 with fail
    obtain ⟨wq, hwq⟩ : ∃ wq, w1.alloc (.cells #[.slice a S.length cap, .int .i64 0, .slice none 0 0, .int .i64 0] 71) = wq := ⟨_, rfl⟩
    rw [hwq] at HSp
    try rw [hwq]
    clear hwq HC0 HBc b1
    go_cut [22] (fun cv wy => Below w.heap.size w wy ∧ ((t ∈ ts ∧ cv = .bool false ∧ wy.cell? ⟨w1.heap.size, 3, none⟩ = some (.int .i64 ((rk t ts : Nat) : Int))) ∨ (t ∉ ts ∧ cv = .bool true)))
    case first =>
      go_wp2_with fail
      refine HSp.out.mono ?_
      rintro e w2 ⟨b, rfl, hb2, hsp⟩
      have HB2 := hidd (HB1.out.trans (hb2.mono HB1.out.size))
      clear hb2 HSp
      dsimp only
      rcases hsp with ⟨rfl, hm, gv2, hcu⟩ | ⟨rfl, hno⟩
      · have HFi := hidd (final_any hcu (HAt.out.lt hm))
        rw [HAt.out.fin hm] at HFi
        have HC := hidd hcu
        have HIn : Hid (finT (subs t ts) = true ↔ t ∈ ts) := by
          show _ ↔ _
          rw [finT_mem, subs_mem, List.append_nil]
        clear hcu
        go_wp2_with fail
        refine HFi.out.mono ?_
        rintro e w3 ⟨rfl, m3, rfl⟩
        have HB3 := hidd (below_drewN HB2.out m3)
        have n3 := blkc (HC.out.below (below_drewN (Below.refl _ _) m3)).box 3
        have HN3 := hidd n3
        clear n3 HFi
        dsimp only
        cases hf : finT (subs t ts) with
        | true =>
          have HT := hidd (HIn.out.1 hf)
          clear hf
          go_wp2_with fail
          go_meet
          case rel => exact ⟨HB3.out, Or.inl ⟨HT.out, rfl, HN3.out⟩⟩
        | false =>
          have HT : Hid (t ∉ ts) := fun e => by have := HIn.out.2 e; rw [hf] at this; cases this
          clear hf
          go_wp2_with fail
          go_meet
          case rel => exact ⟨HB3.out, Or.inr ⟨HT.out, rfl⟩⟩
      · have HT : Hid (t ∉ ts) := fun e => by
          have : ([] : Tx) ∈ subs t ts := subs_mem.2 (by rw [List.append_nil]; exact e)
          rw [hno] at this
          simp at this
        clear hno
        go_wp2_with fail
        go_meet
        case rel => exact ⟨HB2.out, Or.inr ⟨HT.out, rfl⟩⟩
    case rest =>
      obtain ⟨hb3, hcs⟩ := hcut
      have HB3 := hidd hb3
      clear hb3
      rcases hcs with ⟨hin, rfl, hnum⟩ | ⟨hout, rfl⟩
      · have HR : Hid (findO (dictT c S) t = (((rk t ts : Nat) : Int), 0)) := by
          show _ = _
          rw [HD.out, findO_in hl hin, rise_rk HR0.out hin]
        clear hin
        go_wp2_with fail
        go_ret2
        exact ⟨by rw [HR.out]; rfl, HB3.out⟩
      · have HR : Hid (findO (dictT c S) t = (0, 8)) := by
          show _ = _
          rw [HD.out, findO_out hl hout]
        clear hout
        go_wp2_with fail
        go_ret2
        exact ⟨by rw [HR.out]; rfl, HB3.out⟩
  · rw [hok]
    have HR : Hid (findO (dictT c S) t = (0, 1)) := by
      show _ = _
      rw [dictT_none hno, findO_none hl]
    clear hok hno
    go_wp2_with fail
    go_ret2
    exact ⟨by rw [HR.out]; rfl, HB1.out⟩
end Go.Proofs.Ytbkedgpligcicaa

namespace Go.Proofs.Ytbkedgpligcicaa
open Go Go.RowKit
set_option linter.unusedVariables false
set_option maxRecDepth 100000

theorem seek1_any (a0 a1 a2 T : Int) (w : World) : Calls Try.prog 77 #[.agg #[.int .i64 a0, .int .i64 a1, .int .i64 a2], .int .i64 T] w fun e w' => e = .returned (.int .i64 (cmpI a2 T)) ∧ Below w.heap.size w w' := by
  have HB := hidd ((Below.refl w.heap.size w).alloc (Nat.le_refl _) (.cells #[.int .i64 a0, .int .i64 a1, .int .i64 a2] 85))
  go_enter Try.func77, Try.ntmps77
  go_wp2_with (go_at_call 75; refine (compare_any _ _ _).mono ?_; rintro e w' ⟨rfl, rfl⟩)
  go_ret
  exact ⟨rfl, HB.out⟩
end Go.Proofs.Ytbkedgpligcicaa

namespace Go.Proofs.Ytbkedgpligcicaa
open Go
set_option linter.unusedVariables false

/-! The way of a number through a dictionary, in plain words. -/
theorem rk_append : ∀ (p q : Tx) (L : List Tx), rk (p ++ q) L = rk p L + rk q (subs p L)
  | [], q, L => by rw [List.nil_append, rk_nil, subs]; omega
  | a :: p, q, L => by rw [List.cons_append, rk_cons, rk_append p q, rk_cons, subs]; omega
theorem ahead_mono {n n' : Nat} (h : n ≤ n') (L : List Tx) : aheadT n L ≤ aheadT n' L := by
  refine List.countP_mono_left fun s _ hs => ?_
  cases s with
  | nil => rfl
  | cons c r =>
    simp only [isAhead, decide_eq_true_eq] at hs ⊢
    omega
theorem ahead_add {n n' : Nat} (h : n < n') : ∀ L : List Tx, aheadT n L + (subT n L).length ≤ aheadT n' L
  | [] => Nat.le_refl _
  | s :: L => by
    have ih := ahead_add h L
    unfold aheadT subT at ih ⊢
    rw [List.countP_cons, List.countP_cons, List.filterMap_cons]
    cases s with
    | nil => simp [isAhead, tailIf]; omega
    | cons c r =>
      by_cases h1 : c.toNat = n
      · have h2 : c.toNat < n' := by omega
        have h3 : ¬ c.toNat < n := by omega
        simp only [tailIf, if_pos h1, isAhead, h2, h3, decide_true, decide_false, if_true, List.length_cons]
        simp; omega
      · simp only [tailIf, if_neg h1, isAhead]
        by_cases h2 : c.toNat < n
        · have h3 : c.toNat < n' := by omega
          simp [h2, h3]; omega
        · simp [h2]; omega
theorem sub_pos {L : List Tx} {n : Nat} (h : n ∈ labelsT L) : 1 ≤ (subT n L).length := by
  have := (labelsT_mem.1 h).2
  exact List.length_pos_iff.2 this
theorem stOf_ahead (ord : List (List Tx)) (L : List Tx) : (stOf ord L).2.Pairwise fun a b => a.2.2 < b.2.2 := by
  unfold stOf
  rw [List.pairwise_map]
  refine (labelsT_lt L).imp_of_mem fun {a b} ha hb h => ?_
  have h1 := ahead_add h L
  have h2 := sub_pos ha
  show ((aheadT a L : Nat) : Int) < ((aheadT b L : Nat) : Int)
  omega
theorem rise_lt {L : List Tx} {q : Tx} (hr : RiseT L) (hq : q ∈ L) : rk q L < L.length := by
  rw [← rise_rk hr hq]
  exact List.idxOf_lt_length_of_mem hq
theorem rk_pos {L : List Tx} {q : Tx} (h0 : [] ∈ L) (hq : q ≠ []) : 0 < rk q L := by
  unfold rk
  rw [List.countP_pos_iff]
  refine ⟨[], h0, ?_⟩
  cases q with
  | nil => exact absurd rfl hq
  | cons b r => rfl
/-- Which arc leads on to a text. -/
theorem seek_arc {ord : List (List Tx)} {L : List Tx} {b : UInt8} {q : Tx} (hr : RiseT L) (hm : (b :: q) ∈ L) :
    b.toNat ∈ labelsT L ∧ q ∈ subT b.toNat L ∧ ∃ k, below (fun a => a.2.2) (((rk (b :: q) L : Nat) : Int) + 1) (stOf ord L).2 = k + 1 ∧ (stOf ord L).2[k]? = some ((b.toNat : Int), ((ord.idxOf (subT b.toNat L) : Nat) : Int), ((aheadT b.toNat L : Nat) : Int)) := by
  have hq : q ∈ subT b.toNat L := subT_mem.2 ⟨b, rfl, hm⟩
  have hl : b.toNat ∈ labelsT L := labelsT_mem.2 ⟨UInt8.toNat_lt b, fun e => by rw [e] at hq; simp at hq⟩
  refine ⟨hl, hq, ?_⟩
  obtain ⟨k, hk, hkb⟩ := List.getElem_of_mem hl
  have hk' : (labelsT L)[k]? = some b.toNat := by rw [List.getElem?_eq_getElem hk, hkb]
  have hlen : (stOf ord L).2.length = (labelsT L).length := by simp [stOf]
  have hrk := rk_cons b q L
  have hlt := rise_lt (subT_rise (n := b.toNat) hr) hq
  have hget : ∀ t (ht : t < (labelsT L).length), ((stOf ord L).2.getD t ar0).2.2 = ((aheadT (labelsT L)[t] L : Nat) : Int) := fun t ht => by
    have := stOf_at (ord := ord) (List.getElem?_eq_getElem ht)
    rw [List.getD_eq_getElem?_getD, this]; rfl
  refine ⟨k, below_edge _ _ _ _ (by omega) (fun t ht => ?_) (fun t ht1 ht2 => ?_), stOf_at hk'⟩
  · have htl : t < (labelsT L).length := by omega
    rw [hget t htl]
    have : (labelsT L)[t] ≤ b.toNat := by
      by_cases e : t = k
      · subst e; omega
      · have := List.pairwise_iff_getElem.1 (labelsT_lt L) t k htl hk (by omega); omega
    have := ahead_mono this L
    omega
  · have htl : t < (labelsT L).length := by omega
    rw [hget t htl]
    have h1 : b.toNat < (labelsT L)[t] := by
      have := List.pairwise_iff_getElem.1 (labelsT_lt L) k t hk htl (by omega); omega
    have := ahead_add h1 L
    omega
end Go.Proofs.Ytbkedgpligcicaa
