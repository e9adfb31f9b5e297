import Derived.Test.YtefhmbnhhkgifaaDoorReadLogJ35
namespace Go.Proofs.YtefhmbnhhkgifaaDoor
open Go Go.RowKit
set_option linter.unusedVariables false
set_option linter.unusedSimpArgs false
set_option maxRecDepth 100000

def rc0 : Rc := (0, 0, [], ([], []))
theorem Tryd.infoRec : (Tryd.prog.info? 36).map (fun i => (i.zero, i.size, i.bytes)) = some (some (.agg #[.int .i64 0, .int .i64 0, .string ⟨#[]⟩, .string ⟨#[]⟩, .slice none 0 0]), 5, 72) := by kernel_rfl
/-- The five cells of a record. -/
def cell5 (x : Rc) (va : Value) : List Value := [.int .i64 x.1, .int .i64 x.2.1, mkS x.2.2.1, mkS x.2.2.2.1, va]
/-- The records of an answer: a row, and what each record's values keep in a stretch of its own. -/
structure LogA (w : World) (base hi : Nat) (vL : Value) (L : List Rc) (ys : List Value) (lo hh : Nat → Nat) (va : Nat → Value) (xs : Nat → List Value) : Prop where
  row : w.ownsRow base 36 5 vL L.length ys
  top : ∀ b, vL.ownBlock = some b → b < hi
  cel : ∀ i k, i < L.length → k < 5 → ys[i * 5 + k]? = (cell5 (L.getD i rc0) (va i))[k]?
  rng : ∀ i, i < L.length → base ≤ lo i ∧ hh i ≤ hi
  ans : ∀ i, i < L.length → AnsV w (lo i) (hh i) (va i) (L.getD i rc0).2.2.2.2 (xs i)
  aprt : ∀ i b, i < L.length → vL.ownBlock = some b → b < lo i ∨ hh i ≤ b
  dis : ∀ i j, i < j → j < L.length → hh i ≤ lo j
theorem LogA.nil (w : World) (base hi : Nat) (lo hh : Nat → Nat) (va : Nat → Value) (xs : Nat → List Value) : LogA w base hi (.slice none 0 0) [] [] lo hh va xs :=
  ⟨World.ownsRow_nil _ _ _ _, fun b hb => by simp [Value.ownBlock] at hb, fun i k hi => absurd hi (by simp), fun i hi => absurd hi (by simp), fun i hi => absurd hi (by simp), fun i b hi => absurd hi (by simp), fun i j _ hj => absurd hj (by simp)⟩
theorem LogA.keep {w w' : World} {base hi : Nat} {vL : Value} {L : List Rc} {ys : List Value} {lo hh : Nat → Nat} {va : Nat → Value} {xs : Nat → List Value} (h : LogA w base hi vL L ys lo hh va xs) (hk : ∀ b, base ≤ b → b < hi → w'.heap[b]? = w.heap[b]?) : LogA w' base hi vL L ys lo hh va xs :=
  ⟨own_keep h.row fun b hb => hk b (h.row.lt b hb).1 (h.top b hb), h.top, h.cel, h.rng, fun i hi' => (h.ans i hi').keep fun b h1 h2 => hk b (by have := (h.rng i hi').1; omega) (by have := (h.rng i hi').2; omega), h.aprt, h.dis⟩
theorem LogA.mono {w : World} {base base' hi hi' : Nat} {vL : Value} {L : List Rc} {ys : List Value} {lo hh : Nat → Nat} {va : Nat → Value} {xs : Nat → List Value} (h : LogA w base hi vL L ys lo hh va xs) (hb : base' ≤ base) (hh' : hi ≤ hi') : LogA w base' hi' vL L ys lo hh va xs :=
  ⟨own_monoR h.row hb, fun b hb' => by have := h.top b hb'; omega, h.cel, fun i hi' => by have := h.rng i hi'; omega, h.ans, h.aprt, h.dis⟩
theorem LogA.below {w w' : World} {base hi : Nat} {vL : Value} {L : List Rc} {ys : List Value} {lo hh : Nat → Nat} {va : Nat → Value} {xs : Nat → List Value} (h : LogA w base hi vL L ys lo hh va xs) (hhi : hi ≤ w.heap.size) (hb : Below w.heap.size w w') : LogA w' base hi vL L ys lo hh va xs := h.keep fun b _ h2 => hb.block b (by omega)
/-- A record put behind the others. -/
theorem LogA.snoc {w w2 : World} {base hi hi' g cap lo2 hh2 : Nat} {vL vA : Value} {L : List Rc} {ys : List Value} {lo hh : Nat → Nat} {va : Nat → Value} {xs : Nat → List Value} {x : Rc} {zs : List Value} (h : LogA w base hi vL L ys lo hh va xs)
    (ha : AnsV w lo2 hh2 vA x.2.2.2.2 zs) (h1 : base ≤ hi) (h2 : hi ≤ lo2) (h3 : hi ≤ w.heap.size) (h4 : hh2 ≤ w.heap.size) (hr : w2.ownsRow base 36 5 (.slice (some ⟨g, 0, none⟩) (L.length + 1) cap) (L.length + 1) (ys ++ cell5 x vA)) (hg : w.grownBy w2 vL.ownBlock) (hat : vL.ownBlock = some g ∨ w.heap.size ≤ g) (hgl : g < hi') (hhi : w.heap.size ≤ hi') :
    LogA w2 base hi' (.slice (some ⟨g, 0, none⟩) (L.length + 1) cap) (L ++ [x]) (ys ++ cell5 x vA) (fun i => if i < L.length then lo i else lo2) (fun i => if i < L.length then hh i else hh2) (fun i => if i < L.length then va i else vA) (fun i => if i < L.length then xs i else zs) := by
  have hyl := h.row.1
  have hlen : (L ++ [x]).length = L.length + 1 := by simp
  have old : ∀ i, i < L.length → (L ++ [x]).getD i rc0 = L.getD i rc0 := fun i hi => by simp [List.getD_eq_getElem?_getD, List.getElem?_append_left hi]
  have new : (L ++ [x]).getD L.length rc0 = x := by simp [List.getD_eq_getElem?_getD]
  have ht := h.top
  refine ⟨by rw [hlen]; exact hr, fun b hb => by simp only [Value.ownBlock, Option.some.injEq] at hb; omega, fun i k hi hk => ?_, fun i hi => ?_, fun i hi => ?_, fun i b hi hb => ?_, fun i j hij hj => ?_⟩
  · rw [hlen] at hi
    by_cases h0 : i < L.length
    · rw [old i h0, if_pos h0, List.getElem?_append_left (by omega)]
      exact h.cel i k h0 hk
    · obtain rfl : i = L.length := by omega
      rw [new, if_neg h0, List.getElem?_append_right (by omega), hyl, Nat.add_sub_cancel_left]
  · rw [hlen] at hi
    by_cases h0 : i < L.length
    · have := h.rng i h0
      simp only [h0, if_true]
      omega
    · simp only [h0, if_false]
      omega
  · rw [hlen] at hi
    by_cases h0 : i < L.length
    · rw [old i h0]
      simp only [h0, if_true]
      refine (h.ans i h0).keep fun b k1 k2 => hg.block b (by have := h.rng i h0; omega) fun e => ?_
      have := h.aprt i b h0 e.symm
      omega
    · obtain rfl : i = L.length := by omega
      rw [new]
      simp only [h0, if_false]
      refine ha.keep fun b k1 k2 => hg.block b (by omega) fun e => ?_
      have := h.top b e.symm
      omega
  · rw [hlen] at hi
    simp only [Value.ownBlock, Option.some.injEq] at hb
    subst hb
    by_cases h0 : i < L.length
    · simp only [h0, if_true]
      rcases hat with e | e
      · exact h.aprt i g h0 e
      · have := h.rng i h0
        omega
    · simp only [h0, if_false]
      rcases hat with e | e
      · have := h.top g e
        omega
      · omega
  · rw [hlen] at hj
    by_cases h0 : j < L.length
    · have := h.dis i j hij h0
      simp only [h0, if_true, show i < L.length by omega]
      exact this
    · simp only [h0, if_false, show i < L.length by omega, if_true]
      have := (h.rng i (by omega)).2
      omega
/-- What both sides' ReadLog come to. -/
def LogP (w0 : World) (bs : List UInt8) (e : Ending) (w' : World) : Prop := Below w0.heap.size w0 w' ∧ ∃ L r vL ys lo hh va xs, e = .returned (.tuple #[vL, .int .i64 ((bs.length - r.length : Nat) : Int), .int .i64 0]) ∧ Ends bs L r ∧ LogA w' w0.heap.size w'.heap.size vL L ys lo hh va xs
set_option maxHeartbeats 8000000 in
theorem implLog_any {w0 : World} {u : TypeId} {pv : Value} {b off c : Nat} {bs : List UInt8} (hE : ErrC w0 u pv) (hn : bs.length ≤ 1048576) (hb : b < w0.heap.size) (hc : bs.length ≤ c) (hB : BytesAt w0 b off bs) :
    Calls Tryd.prog 6 #[.slice (some ⟨b, off, none⟩) bs.length c] w0 (LogP w0 bs) := by
  obtain ⟨i1, hi1, hy0, hy1, hy2⟩ := info_parts Tryd.infoRec
  have hnz : ¬ (bs.length : Int) > 1048576 := by omega
  have HE := hidd hE
  have HBa := hidd ((Below.refl w0.heap.size w0).alloc (Nat.le_refl _) (.cells #[.slice (some ⟨b, off, none⟩) bs.length c, .bool false] 42))
  have HR : Hid (RdrG 42 w0 (w0.alloc (.cells #[.slice (some ⟨b, off, none⟩) bs.length c, .bool false] 42)) w0.heap.size bs false) := ⟨HBa.out, Nat.le_refl _, _, heap_alloc_new w0 _, Or.inr ⟨b, off, c, rfl, hc, hb, hB⟩⟩
  clear hE hB
  go_enter Tryd.func6, Tryd.ntmps6
  go_upto_region 4 with fail
  obtain ⟨wa, hwa⟩ : ∃ wa, w0.alloc (.cells #[.slice (some ⟨b, off, none⟩) bs.length c, .bool false] 42) = wa := ⟨_, rfl⟩
  rw [hwa] at HBa HR
  try rw [hwa]
  clear hwa
  have hwz : w0.heap.size < wa.heap.size := HR.out.lt
  go_wp2_with fail
  go_loopw [6, 7] (fun vL sv wr => ∃ L r ys lo hh va xs, sv = .int .i64 ((bs.length - r.length : Nat) : Int) ∧ runK bs L.length = some (L, r) ∧ RdrG 42 w0 wr w0.heap.size r false ∧ wa.heap.size ≤ wr.heap.size ∧ LogA wr wa.heap.size wr.heap.size vL L ys lo hh va xs) (fun _ sv _ => bs.length - (intOf sv).toNat)
  case atStart => exact ⟨[], bs, [], fun _ => 0, fun _ => 0, fun _ => .nilIface, fun _ => [], by simp, rfl, HR.out, Nat.le_refl _, LogA.nil _ _ _ _ _ _ _⟩
  case round =>
    obtain ⟨L, r, ys, lo, hh, va, xs, rfl, hrun, hrd, hwr, hlog⟩ := hrel
    clear HR
    have hk := runK_len _ hrun
    have HRun := hidd hrun
    have HRd := hidd hrd
    have HLog := hidd hlog
    obtain ⟨aL, cL, rfl⟩ := own_formR hlog.row
    have hLl : L.length ≤ 1048576 := by omega
    have hrl : r.length ≤ bs.length := by omega
    clear hrun hrd hlog hk
    have HC := hidd (record_any HE.out (by omega) HRd.out)
    go_wp2_with fail
    refine HC.out.mono ?_
    rintro e w1 ⟨kd, sq, id, did, aV, cV, V, zs, lo2, ok, rfl, hlo2, hans, hbel, hfr, hcase⟩
    have HAns := hidd hans
    have HBel := hidd hbel
    have HFr := hidd hfr
    have HCs := hidd hcase
    have hz1 := hfr.1
    clear hans hbel hfr hcase HC
    have HL1 : Hid (LogA w1 wa.heap.size wr.heap.size (.slice aL L.length cL) L ys lo hh va xs) := HLog.out.keep fun x h1 h2 => HFr.out.2 x h2 (by omega)
    have HBx := hidd ((Below.refl w1.heap.size w1).alloc (Nat.le_refl _) (.cells #[.int .i64 kd, .int .i64 sq, .string ⟨id.toArray⟩, .string ⟨did.toArray⟩, .slice aV V.length cV] 36))
    have HXx := hidd (heap_alloc_new w1 (.cells #[.int .i64 kd, .int .i64 sq, .string ⟨id.toArray⟩, .string ⟨did.toArray⟩, .slice aV V.length cV] 36))
    dsimp only
    go_upto_region 7 with fail
    obtain ⟨w2, hw2⟩ : ∃ w2, w1.alloc (.cells #[.int .i64 kd, .int .i64 sq, .string ⟨id.toArray⟩, .string ⟨did.toArray⟩, .slice aV V.length cV] 36) = w2 := ⟨_, rfl⟩
    rw [hw2] at HBx HXx
    try rw [hw2]
    clear hw2
    have hz2 := HBx.out.size
    have x0 := blkc HXx.out 0
    have x1 := blkc HXx.out 1
    have x2 := blkc HXx.out 2
    have x3 := blkc HXx.out 3
    have x4 := blkc HXx.out 4
    have HEnd : Hid (nextR r (L.length + 1) = none → LogP w0 bs (.returned (.tuple #[.slice aL L.length cL, .int .i64 ((bs.length - r.length : Nat) : Int), .int .i64 0])) w2) := fun hno =>
      ⟨HBel.out.trans (HBx.out.mono HBel.out.size), L, r, _, ys, lo, hh, va, xs, rfl, ⟨HRun.out, hno⟩, ((HL1.out.below hz1 HBx.out).mono (by omega) (by omega))⟩
    cases ok with
    | false =>
      have HNo : Hid (nextR r (L.length + 1) = none) := by
        rcases HCs.out with ⟨h, _⟩ | ⟨_, h⟩
        · cases h
        · exact nextR_no h _
      have HF := hidd (HEnd.out HNo.out)
      clear HEnd
      go_wp2_with fail
      refine bodyPost_ret (v := .tuple #[.slice aL L.length cL, .int .i64 ((bs.length - r.length : Nat) : Int), .int .i64 0]) (by simp [results, Tryd.results6, go_sem]) rfl HF.out
    | true =>
      obtain ⟨r', hrec, hrd1⟩ : ∃ r', recN r = some ((kd, sq, id, (did, V)), r') ∧ RdrG 42 w0 w1 w0.heap.size r' false := by
        rcases HCs.out with ⟨_, h⟩ | ⟨h, _⟩
        · exact h
        · cases h
      have HRec := hidd hrec
      have HRd1 := hidd hrd1
      clear hrec hrd1 HCs
      by_cases hseq : sq = ((L.length + 1 : Nat) : Int)
      · have HNx : Hid (nextR r (L.length + 1) = some ((kd, sq, id, (did, V)), r')) := by show _ = _; rw [nextR_yes HRec.out]; exact if_pos hseq
        have hsqz : (sq != (L.length : Int) + 1) = false := by simp; omega
        have hrl' := nextR_len HNx.out
        have HRun' := hidd (runK_step HRun.out HNx.out)
        clear HEnd hseq
        have HBy := hidd ((Below.refl w2.heap.size w2).alloc (Nat.le_refl _) (.cells #[.int .i64 kd, .int .i64 sq, .string ⟨id.toArray⟩, .string ⟨did.toArray⟩, .slice aV V.length cV] 36))
        have HB13 := hidd (HBx.out.trans (HBy.out.mono HBx.out.size))
        have HNw := hidd (heap_alloc_new w2 (.cells #[.int .i64 kd, .int .i64 sq, .string ⟨id.toArray⟩, .string ⟨did.toArray⟩, .slice aV V.length cV] 36))
        have hz3 : (w2.alloc (.cells #[.int .i64 kd, .int .i64 sq, .string ⟨id.toArray⟩, .string ⟨did.toArray⟩, .slice aV V.length cV] 36)).heap.size = w2.heap.size + 1 := by simp
        have HL3 := hidd (HL1.out.below hz1 HB13.out)
        have HA3 : Hid (AnsV (w2.alloc (.cells #[.int .i64 kd, .int .i64 sq, .string ⟨id.toArray⟩, .string ⟨did.toArray⟩, .slice aV V.length cV] 36)) lo2 w1.heap.size (.slice aV V.length cV) V zs) := HAns.out.keep fun x _ h2 => HB13.out.block x h2
        obtain ⟨w3, hw3⟩ : ∃ w3, w2.alloc (.cells #[.int .i64 kd, .int .i64 sq, .string ⟨id.toArray⟩, .string ⟨did.toArray⟩, .slice aV V.length cV] 36) = w3 := ⟨_, rfl⟩
        have Hw3 := hidd hw3
        rw [hw3] at HB13 HNw hz3 HL3 HA3
        clear hw3
        have HRd3 := hidd (HRd1.out.below HB13.out)
        have HB3 := hidd (HBel.out.trans (HB13.out.mono HBel.out.size))
        go_wp2_with (at_builtin; rw [Hw3.out]; refine wpList_append_lies _ rfl _ _ 23 rfl wa.heap.size 36 i1 (.agg #[.int .i64 0, .int .i64 0, .string ⟨#[]⟩, .string ⟨#[]⟩, .slice none 0 0]) 5 72 Tryd.underlying23 hi1 hy0 hy1 hy2 rfl (by decide) (.slice aL L.length cL) L.length ys rfl HL3.out.row ⟨w2.heap.size, 0, none⟩ 1 1 (cell5 (kd, sq, id, (did, V)) (.slice aV V.length cV)) rfl rfl (World.news_of_block HNw.out) (by intro u' hu'; simp [cell5] at hu'; rcases hu' with rfl | rfl | rfl | rfl | rfl <;> rfl) (by decide) (by unfold maxLen; omega) (by omega) (by omega) _ rfl ?_)
        intro g4 c4 w4 hown4 hgrow4 hat4 hlt4
        have hz4 := hgrow4.size
        have HS := hidd (HL3.out.snoc HA3.out (by omega) hlo2 (by omega) (by omega) hown4 hgrow4 (hat4.imp (fun h => h) (fun h => by omega)) hlt4 hz4)
        have hrk : w4.heap[w0.heap.size]? = w3.heap[w0.heap.size]? := hgrow4.block _ (by omega) (fun e => by have := (HL3.out.row.lt _ e.symm).1; omega)
        have HB4 : Hid (Below w0.heap.size w0 w4) := HB3.out.grown hgrow4 HB3.out.size (fun x hx => by have := (HL3.out.row.lt x hx).1; omega)
        have HRd4 := hidd (HRd3.out.keep HB4.out hrk)
        obtain ⟨a4, c4', hb4, _, _⟩ := HRd4.out.val
        have y0 := blkc hb4 0
        clear hown4 hgrow4 hat4 hrk hb4 HL3 HA3 HNw HB13 HB3 HRd3 x0 x1 x2 x3 x4
        go_wp2_with fail
        go_roundw
        case rel => exact ⟨_, r', _, _, _, _, _, by go_num, HRun'.out, HRd4.out, by omega, by simpa using HS.out⟩
        case measure => simp [intOf]; omega
      · have HNo : Hid (nextR r (L.length + 1) = none) := by show _ = _; rw [nextR_yes HRec.out]; exact if_neg hseq
        have hsqz : (sq != (L.length : Int) + 1) = true := by simp; omega
        have HF := hidd (HEnd.out HNo.out)
        clear HEnd hseq
        go_wp2_with fail
        refine bodyPost_ret (v := .tuple #[.slice aL L.length cL, .int .i64 ((bs.length - r.length : Nat) : Int), .int .i64 0]) (by simp [results, Tryd.results6, go_sem]) rfl HF.out
end Go.Proofs.YtefhmbnhhkgifaaDoor
