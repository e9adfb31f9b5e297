import Derived.Test.YtpdiaddgialanaaGreatDoorLogJ29
import Derived.Test.YtpdiaddgialanaaGreatDoorLogJ13
import Derived.Test.YtpdiaddgialanaaGreatDoorLogJ17
import Derived.Test.YtpdiaddgialanaaGreatDoorLogJ23
import Derived.Lib.AppendStr
import Derived.Test.YtpdiaddgialanaaGreatDoorLogJ01
import Derived.Laws.ShiftsVar
import Derived.Maps.AppendAt
namespace Go.Proofs.YtpdiaddgialanaaGreatDoor
open Go Go.RowKit
set_option linter.unusedVariables false
set_option linter.unusedSimpArgs false
set_option maxRecDepth 100000

def rc0 : Rc := (0, 0, [], ([], []))
theorem Tryz.infoRec : (Tryz.prog.info? 28).map (fun i => (i.zero, i.size, i.bytes)) = some (some (.agg #[.int .i64 0, .int .i64 0, .string ⟨#[]⟩, .string ⟨#[]⟩, .slice none 0 0]), 5, 72) := by kernel_rfl
/-- The five cells of a record. -/
def cell5 (x : Rc) (va : Value) : List Value := [.int .i64 x.1, .int .i64 x.2.1, mkS x.2.2.1, mkS x.2.2.2.1, va]
/-- The records of an answer: a row, and what each record's values keep in a stretch of its own. -/
structure LogA (w : World) (base hi : Nat) (vL : Value) (L : List Rc) (ys : List Value) (lo hh : Nat → Nat) (va : Nat → Value) (xs : Nat → List Value) : Prop where
  row : w.ownsRow base 28 5 vL L.length ys
  top : ∀ b, vL.ownBlock = some b → b < hi
  cel : ∀ i k, i < L.length → k < 5 → ys[i * 5 + k]? = (cell5 (L.getD i rc0) (va i))[k]?
  rng : ∀ i, i < L.length → base ≤ lo i ∧ hh i ≤ hi
  ans : ∀ i, i < L.length → AnsV w (lo i) (hh i) (va i) (L.getD i rc0).2.2.2.2 (xs i)
  aprt : ∀ i b, i < L.length → vL.ownBlock = some b → b < lo i ∨ hh i ≤ b
  dis : ∀ i j, i < j → j < L.length → hh i ≤ lo j
theorem LogA.nil (w : World) (base hi : Nat) (lo hh : Nat → Nat) (va : Nat → Value) (xs : Nat → List Value) : LogA w base hi (.slice none 0 0) [] [] lo hh va xs :=
  ⟨World.ownsRow_nil _ _ _ _, fun b hb => by simp [Value.ownBlock] at hb, fun i k hi => absurd hi (by simp), fun i hi => absurd hi (by simp), fun i hi => absurd hi (by simp), fun i b hi => absurd hi (by simp), fun i j _ hj => absurd hj (by simp)⟩
theorem LogA.keep {w w' : World} {base hi : Nat} {vL : Value} {L : List Rc} {ys : List Value} {lo hh : Nat → Nat} {va : Nat → Value} {xs : Nat → List Value} (h : LogA w base hi vL L ys lo hh va xs) (hk : ∀ b, base ≤ b → b < hi → w'.heap[b]? = w.heap[b]?) : LogA w' base hi vL L ys lo hh va xs :=
  ⟨own_keep h.row fun b hb => hk b (h.row.lt b hb).1 (h.top b hb), h.top, h.cel, h.rng, fun i hi' => (h.ans i hi').keep fun b h1 h2 => hk b (by have := (h.rng i hi').1; omega) (by have := (h.rng i hi').2; omega), h.aprt, h.dis⟩
theorem LogA.mono {w : World} {base base' hi hi' : Nat} {vL : Value} {L : List Rc} {ys : List Value} {lo hh : Nat → Nat} {va : Nat → Value} {xs : Nat → List Value} (h : LogA w base hi vL L ys lo hh va xs) (hb : base' ≤ base) (hh' : hi ≤ hi') : LogA w base' hi' vL L ys lo hh va xs :=
  ⟨own_monoR h.row hb, fun b hb' => by have := h.top b hb'; omega, h.cel, fun i hi' => by have := h.rng i hi'; omega, h.ans, h.aprt, h.dis⟩
theorem LogA.below {w w' : World} {base hi : Nat} {vL : Value} {L : List Rc} {ys : List Value} {lo hh : Nat → Nat} {va : Nat → Value} {xs : Nat → List Value} (h : LogA w base hi vL L ys lo hh va xs) (hhi : hi ≤ w.heap.size) (hb : Below w.heap.size w w') : LogA w' base hi vL L ys lo hh va xs := h.keep fun b _ h2 => hb.block b (by omega)
/-- A record put behind the others. -/
theorem LogA.snoc {w w2 : World} {base hi hi' g cap lo2 hh2 : Nat} {vL vA : Value} {L : List Rc} {ys : List Value} {lo hh : Nat → Nat} {va : Nat → Value} {xs : Nat → List Value} {x : Rc} {zs : List Value} (h : LogA w base hi vL L ys lo hh va xs)
    (ha : AnsV w lo2 hh2 vA x.2.2.2.2 zs) (h1 : base ≤ hi) (h2 : hi ≤ lo2) (h3 : hi ≤ w.heap.size) (h4 : hh2 ≤ w.heap.size) (hr : w2.ownsRow base 28 5 (.slice (some ⟨g, 0, none⟩) (L.length + 1) cap) (L.length + 1) (ys ++ cell5 x vA)) (hg : w.grownBy w2 vL.ownBlock) (hat : vL.ownBlock = some g ∨ w.heap.size ≤ g) (hgl : g < hi') (hhi : w.heap.size ≤ hi') :
    LogA w2 base hi' (.slice (some ⟨g, 0, none⟩) (L.length + 1) cap) (L ++ [x]) (ys ++ cell5 x vA) (fun i => if i < L.length then lo i else lo2) (fun i => if i < L.length then hh i else hh2) (fun i => if i < L.length then va i else vA) (fun i => if i < L.length then xs i else zs) := by
  have hyl := h.row.1
  have hlen : (L ++ [x]).length = L.length + 1 := by simp
  have old : ∀ i, i < L.length → (L ++ [x]).getD i rc0 = L.getD i rc0 := fun i hi => by simp [List.getD_eq_getElem?_getD, List.getElem?_append_left hi]
  have new : (L ++ [x]).getD L.length rc0 = x := by simp [List.getD_eq_getElem?_getD]
  have ht := h.top
  refine ⟨by rw [hlen]; exact hr, fun b hb => by simp only [Value.ownBlock, Option.some.injEq] at hb; omega, fun i k hi hk => ?_, fun i hi => ?_, fun i hi => ?_, fun i b hi hb => ?_, fun i j hij hj => ?_⟩
  · rw [hlen] at hi
    by_cases h0 : i < L.length
    · rw [old i h0, if_pos h0, List.getElem?_append_left (by omega)]
      exact h.cel i k h0 hk
    · obtain rfl : i = L.length := by omega
      rw [new, if_neg h0, List.getElem?_append_right (by omega), hyl, Nat.add_sub_cancel_left]
  · rw [hlen] at hi
    by_cases h0 : i < L.length
    · have := h.rng i h0
      simp only [h0, if_true]
      omega
    · simp only [h0, if_false]
      omega
  · rw [hlen] at hi
    by_cases h0 : i < L.length
    · rw [old i h0]
      simp only [h0, if_true]
      refine (h.ans i h0).keep fun b k1 k2 => hg.block b (by have := h.rng i h0; omega) fun e => ?_
      have := h.aprt i b h0 e.symm
      omega
    · obtain rfl : i = L.length := by omega
      rw [new]
      simp only [h0, if_false]
      refine ha.keep fun b k1 k2 => hg.block b (by omega) fun e => ?_
      have := h.top b e.symm
      omega
  · rw [hlen] at hi
    simp only [Value.ownBlock, Option.some.injEq] at hb
    subst hb
    by_cases h0 : i < L.length
    · simp only [h0, if_true]
      rcases hat with e | e
      · exact h.aprt i g h0 e
      · have := h.rng i h0
        omega
    · simp only [h0, if_false]
      rcases hat with e | e
      · have := h.top g e
        omega
      · omega
  · rw [hlen] at hj
    by_cases h0 : j < L.length
    · have := h.dis i j hij h0
      simp only [h0, if_true, show i < L.length by omega]
      exact this
    · simp only [h0, if_false, show i < L.length by omega, if_true]
      have := (h.rng i (by omega)).2
      omega
/-- What both sides' ReadLog come to. -/
def LogP (w0 : World) (bs : List UInt8) (e : Ending) (w' : World) : Prop := Below w0.heap.size w0 w' ∧ ∃ L r vL ys lo hh va xs, e = .returned (.tuple #[vL, .int .i64 ((bs.length - r.length : Nat) : Int), .int .i64 0]) ∧ Ends bs L r ∧ LogA w' w0.heap.size w'.heap.size vL L ys lo hh va xs
set_option maxHeartbeats 8000000 in
theorem implLog_any {w0 : World} {u : TypeId} {pv : Value} {b off c : Nat} {bs : List UInt8} (hE : ErrC w0 u pv) (hn : bs.length ≤ 1048576) (hb : b < w0.heap.size) (hc : bs.length ≤ c) (hB : BytesAt w0 b off bs) :
    Calls Tryz.prog 8 #[.slice (some ⟨b, off, none⟩) bs.length c] w0 (LogP w0 bs) := by
  obtain ⟨i1, hi1, hy0, hy1, hy2⟩ := info_parts Tryz.infoRec
  have hnz : ¬ (bs.length : Int) > 1048576 := by omega
  have HE := hidd hE
  have HBa := hidd ((Below.refl w0.heap.size w0).alloc (Nat.le_refl _) (.cells #[.slice (some ⟨b, off, none⟩) bs.length c, .bool false] 62))
  have HR : Hid (RdrG 62 w0 (w0.alloc (.cells #[.slice (some ⟨b, off, none⟩) bs.length c, .bool false] 62)) w0.heap.size bs false) := ⟨HBa.out, Nat.le_refl _, _, heap_alloc_new w0 _, Or.inr ⟨b, off, c, rfl, hc, hb, hB⟩⟩
  clear hE hB
  go_enter Tryz.func8, Tryz.ntmps8
  go_upto_region 4 with fail
  obtain ⟨wa, hwa⟩ : ∃ wa, w0.alloc (.cells #[.slice (some ⟨b, off, none⟩) bs.length c, .bool false] 62) = wa := ⟨_, rfl⟩
  rw [hwa] at HBa HR
  try rw [hwa]
  clear hwa
  have hwz : w0.heap.size < wa.heap.size := HR.out.lt
  go_wp2_with fail
  go_loopw [6, 7] (fun vL sv wr => ∃ L r ys lo hh va xs, sv = .int .i64 ((bs.length - r.length : Nat) : Int) ∧ runK bs L.length = some (L, r) ∧ RdrG 62 w0 wr w0.heap.size r false ∧ wa.heap.size ≤ wr.heap.size ∧ LogA wr wa.heap.size wr.heap.size vL L ys lo hh va xs) (fun _ sv _ => bs.length - (intOf sv).toNat)
  case atStart => exact ⟨[], bs, [], fun _ => 0, fun _ => 0, fun _ => .nilIface, fun _ => [], by simp, rfl, HR.out, Nat.le_refl _, LogA.nil _ _ _ _ _ _ _⟩
  case round =>
    obtain ⟨L, r, ys, lo, hh, va, xs, rfl, hrun, hrd, hwr, hlog⟩ := hrel
    clear HR
    have hk := runK_len _ hrun
    have HRun := hidd hrun
    have HRd := hidd hrd
    have HLog := hidd hlog
    obtain ⟨aL, cL, rfl⟩ := own_formR hlog.row
    have hLl : L.length ≤ 1048576 := by omega
    have hrl : r.length ≤ bs.length := by omega
    clear hrun hrd hlog hk
    have HC := hidd (record_any HE.out (by omega) HRd.out)
    go_wp2_with fail
    refine HC.out.mono ?_
    rintro e w1 ⟨kd, sq, id, did, aV, cV, V, zs, lo2, ok, rfl, hlo2, hans, hbel, hfr, hcase⟩
    have HAns := hidd hans
    have HBel := hidd hbel
    have HFr := hidd hfr
    have HCs := hidd hcase
    have hz1 := hfr.1
    clear hans hbel hfr hcase HC
    have HL1 : Hid (LogA w1 wa.heap.size wr.heap.size (.slice aL L.length cL) L ys lo hh va xs) := HLog.out.keep fun x h1 h2 => HFr.out.2 x h2 (by omega)
    have HBx := hidd ((Below.refl w1.heap.size w1).alloc (Nat.le_refl _) (.cells #[.int .i64 kd, .int .i64 sq, .string ⟨id.toArray⟩, .string ⟨did.toArray⟩, .slice aV V.length cV] 28))
    have HXx := hidd (heap_alloc_new w1 (.cells #[.int .i64 kd, .int .i64 sq, .string ⟨id.toArray⟩, .string ⟨did.toArray⟩, .slice aV V.length cV] 28))
    dsimp only
    go_upto_region 7 with fail
    obtain ⟨w2, hw2⟩ : ∃ w2, w1.alloc (.cells #[.int .i64 kd, .int .i64 sq, .string ⟨id.toArray⟩, .string ⟨did.toArray⟩, .slice aV V.length cV] 28) = w2 := ⟨_, rfl⟩
    rw [hw2] at HBx HXx
    try rw [hw2]
    clear hw2
    have hz2 := HBx.out.size
    have x0 := blkc HXx.out 0
    have x1 := blkc HXx.out 1
    have x2 := blkc HXx.out 2
    have x3 := blkc HXx.out 3
    have x4 := blkc HXx.out 4
    have HEnd : Hid (nextR r (L.length + 1) = none → LogP w0 bs (.returned (.tuple #[.slice aL L.length cL, .int .i64 ((bs.length - r.length : Nat) : Int), .int .i64 0])) w2) := fun hno =>
      ⟨HBel.out.trans (HBx.out.mono HBel.out.size), L, r, _, ys, lo, hh, va, xs, rfl, ⟨HRun.out, hno⟩, ((HL1.out.below hz1 HBx.out).mono (by omega) (by omega))⟩
    cases ok with
    | false =>
      have HNo : Hid (nextR r (L.length + 1) = none) := by
        rcases HCs.out with ⟨h, _⟩ | ⟨_, h⟩
        · cases h
        · exact nextR_no h _
      have HF := hidd (HEnd.out HNo.out)
      clear HEnd
      go_wp2_with fail
      refine bodyPost_ret (v := .tuple #[.slice aL L.length cL, .int .i64 ((bs.length - r.length : Nat) : Int), .int .i64 0]) (by simp [results, Tryz.results8, go_sem]) rfl HF.out
    | true =>
      obtain ⟨r', hrec, hrd1⟩ : ∃ r', recN r = some ((kd, sq, id, (did, V)), r') ∧ RdrG 62 w0 w1 w0.heap.size r' false := by
        rcases HCs.out with ⟨_, h⟩ | ⟨h, _⟩
        · exact h
        · cases h
      have HRec := hidd hrec
      have HRd1 := hidd hrd1
      clear hrec hrd1 HCs
      by_cases hseq : sq = ((L.length + 1 : Nat) : Int)
      · have HNx : Hid (nextR r (L.length + 1) = some ((kd, sq, id, (did, V)), r')) := by show _ = _; rw [nextR_yes HRec.out]; exact if_pos hseq
        have hsqz : (sq != (L.length : Int) + 1) = false := by simp; omega
        have hrl' := nextR_len HNx.out
        have HRun' := hidd (runK_step HRun.out HNx.out)
        clear HEnd hseq
        have HBy := hidd ((Below.refl w2.heap.size w2).alloc (Nat.le_refl _) (.cells #[.int .i64 kd, .int .i64 sq, .string ⟨id.toArray⟩, .string ⟨did.toArray⟩, .slice aV V.length cV] 28))
        have HB13 := hidd (HBx.out.trans (HBy.out.mono HBx.out.size))
        have HNw := hidd (heap_alloc_new w2 (.cells #[.int .i64 kd, .int .i64 sq, .string ⟨id.toArray⟩, .string ⟨did.toArray⟩, .slice aV V.length cV] 28))
        have hz3 : (w2.alloc (.cells #[.int .i64 kd, .int .i64 sq, .string ⟨id.toArray⟩, .string ⟨did.toArray⟩, .slice aV V.length cV] 28)).heap.size = w2.heap.size + 1 := by simp
        have HL3 := hidd (HL1.out.below hz1 HB13.out)
        have HA3 : Hid (AnsV (w2.alloc (.cells #[.int .i64 kd, .int .i64 sq, .string ⟨id.toArray⟩, .string ⟨did.toArray⟩, .slice aV V.length cV] 28)) lo2 w1.heap.size (.slice aV V.length cV) V zs) := HAns.out.keep fun x _ h2 => HB13.out.block x h2
        obtain ⟨w3, hw3⟩ : ∃ w3, w2.alloc (.cells #[.int .i64 kd, .int .i64 sq, .string ⟨id.toArray⟩, .string ⟨did.toArray⟩, .slice aV V.length cV] 28) = w3 := ⟨_, rfl⟩
        have Hw3 := hidd hw3
        rw [hw3] at HB13 HNw hz3 HL3 HA3
        clear hw3
        have HRd3 := hidd (HRd1.out.below HB13.out)
        have HB3 := hidd (HBel.out.trans (HB13.out.mono HBel.out.size))
        go_wp2_with (at_builtin; rw [Hw3.out]; refine wpList_append_lies _ rfl _ _ 32 rfl wa.heap.size 28 i1 (.agg #[.int .i64 0, .int .i64 0, .string ⟨#[]⟩, .string ⟨#[]⟩, .slice none 0 0]) 5 72 Tryz.underlying32 hi1 hy0 hy1 hy2 rfl (by decide) (.slice aL L.length cL) L.length ys rfl HL3.out.row ⟨w2.heap.size, 0, none⟩ 1 1 (cell5 (kd, sq, id, (did, V)) (.slice aV V.length cV)) rfl rfl (World.news_of_block HNw.out) (by intro u' hu'; simp [cell5] at hu'; rcases hu' with rfl | rfl | rfl | rfl | rfl <;> rfl) (by decide) (by unfold maxLen; omega) (by omega) (by omega) _ rfl ?_)
        intro g4 c4 w4 hown4 hgrow4 hat4 hlt4
        have hz4 := hgrow4.size
        have HS := hidd (HL3.out.snoc HA3.out (by omega) hlo2 (by omega) (by omega) hown4 hgrow4 (hat4.imp (fun h => h) (fun h => by omega)) hlt4 hz4)
        have hrk : w4.heap[w0.heap.size]? = w3.heap[w0.heap.size]? := hgrow4.block _ (by omega) (fun e => by have := (HL3.out.row.lt _ e.symm).1; omega)
        have HB4 : Hid (Below w0.heap.size w0 w4) := HB3.out.grown hgrow4 HB3.out.size (fun x hx => by have := (HL3.out.row.lt x hx).1; omega)
        have HRd4 := hidd (HRd3.out.keep HB4.out hrk)
        obtain ⟨a4, c4', hb4, _, _⟩ := HRd4.out.val
        have y0 := blkc hb4 0
        clear hown4 hgrow4 hat4 hrk hb4 HL3 HA3 HNw HB13 HB3 HRd3 x0 x1 x2 x3 x4
        go_wp2_with fail
        go_roundw
        case rel => exact ⟨_, r', _, _, _, _, _, by go_num, HRun'.out, HRd4.out, by omega, by simpa using HS.out⟩
        case measure => simp [intOf]; omega
      · have HNo : Hid (nextR r (L.length + 1) = none) := by show _ = _; rw [nextR_yes HRec.out]; exact if_neg hseq
        have hsqz : (sq != (L.length : Int) + 1) = true := by simp; omega
        have HF := hidd (HEnd.out HNo.out)
        clear HEnd hseq
        go_wp2_with fail
        refine bodyPost_ret (v := .tuple #[.slice aL L.length cL, .int .i64 ((bs.length - r.length : Nat) : Int), .int .i64 0]) (by simp [results, Tryz.results8, go_sem]) rfl HF.out
end Go.Proofs.YtpdiaddgialanaaGreatDoor

namespace Go.Proofs.YtpdiaddgialanaaGreatDoor
open Go Go.RowKit
set_option linter.unusedVariables false
set_option linter.unusedSimpArgs false
set_option maxRecDepth 100000

/-! The law of logs: small things. -/
theorem sum_le_mul {ns : List Nat} {K : Nat} (h : ∀ x ∈ ns, x ≤ K) : ns.sum ≤ ns.length * K := by
  induction ns with
  | nil => simp
  | cons x t ih =>
    have h1 := h x (List.mem_cons_self ..)
    have h2 := ih fun y hy => h y (List.mem_cons_of_mem _ hy)
    rw [List.sum_cons, List.length_cons, Nat.add_mul]
    omega
theorem flat_le {α : Type} {l : List α} {f : α → List UInt8} {K : Nat} (h : ∀ x ∈ l, (f x).length ≤ K) : (l.flatMap f).length ≤ l.length * K := by
  rw [List.length_flatMap]
  have := sum_le_mul (ns := l.map fun x => (f x).length) (K := K) (fun y hy => by
    obtain ⟨x, hx, rfl⟩ := List.mem_map.1 hy
    exact h x hx)
  rwa [List.length_map] at this
theorem txSum_le {tx : List (List UInt8)} {K : Nat} (h : ∀ t ∈ tx, t.length ≤ K) : txSum tx ≤ tx.length * K := by
  unfold txSum
  have := sum_le_mul (ns := tx.map List.length) (K := K) (fun y hy => by
    obtain ⟨x, hx, rfl⟩ := List.mem_map.1 hy
    exact h x hx)
  rwa [List.length_map] at this
theorem SmB.le {V : List Vl} (h : SmB V) : leV V ≤ 1048576 := by
  have h1 : bodyV V ≤ V.length * 15000 := by
    unfold bodyV
    have := sum_le_mul (ns := V.map fun v => txSum v.2.1) (K := 15000) (fun y hy => by
      obtain ⟨x, hx, rfl⟩ := List.mem_map.1 hy
      obtain ⟨q1, q2, q3, q4⟩ := h.2 x hx
      have := txSum_le q3
      have : x.2.1.length * 5000 ≤ 3 * 5000 := Nat.mul_le_mul_right _ q2
      omega)
    rwa [List.length_map] at this
  have h2 : lsV V ≤ V.length * 100 := by
    unfold lsV
    have := sum_le_mul (ns := V.map vlL) (K := 100) (fun y hy => by
      obtain ⟨x, hx, rfl⟩ := List.mem_map.1 hy
      obtain ⟨q1, q2, q3, q4⟩ := h.2 x hx
      unfold vlL
      omega)
    rwa [List.length_map] at this
  have h3 := h.1
  unfold leV
  omega
theorem nuB_le9 (z : Int) (h : nuOK z = true) : (nuB z).length ≤ 9 := putL_length9 _ (by have := (sgn_to h).2; omega)
theorem SmB.dc {V : List Vl} {did : List UInt8} (h : SmB V) (hd : did.length ≤ 40) (hok : dcOK (did, V) = true) : (dcB (did, V)).length ≤ 500000000 := by
  simp only [dcOK, Bool.and_eq_true, decide_eq_true_eq, List.all_eq_true] at hok
  have hv : ∀ x ∈ V, (vlB x).length ≤ 20000 := fun x hx => by
    obtain ⟨q1, q2, q3, q4⟩ := h.2 x hx
    have hx2 := hok.2 x hx
    simp only [vlOK, Bool.and_eq_true, decide_eq_true_eq, List.all_eq_true] at hx2
    have a1 : (x.2.1.flatMap txB).length ≤ x.2.1.length * 5009 := flat_le fun t ht => by
      have := q3 t ht
      have := putL_length9 t.length (by omega)
      simp only [txB, List.length_append]
      omega
    have a2 : (x.2.2.flatMap nuB).length ≤ x.2.2.length * 9 := flat_le fun z hz => nuB_le9 z (hx2.2 z hz)
    have b1 : x.2.1.length * 5009 ≤ 3 * 5009 := Nat.mul_le_mul_right _ q2
    have b2 : x.2.2.length * 9 ≤ 50 * 9 := Nat.mul_le_mul_right _ q4
    have c1 := putL_length9 x.1.length (by omega)
    have c2 := putL_length9 x.2.1.length (by omega)
    have c3 := putL_length9 x.2.2.length (by omega)
    simp only [vlB, txB, List.length_append]
    omega
  have a3 : (V.flatMap vlB).length ≤ V.length * 20000 := flat_le hv
  have b3 : V.length * 20000 ≤ 6 * 20000 := Nat.mul_le_mul_right _ h.1
  have c4 := putL_length9 did.length (by omega)
  have c5 := putL_length9 V.length (by have := h.1; omega)
  simp only [dcB, txB, List.length_append]
  omega
theorem SmB.all {V : List Vl} (h : SmB V) (i : Nat) : (V.getD i vl0).1.length ≤ 1048576 ∧ (V.getD i vl0).2.1.length ≤ 1048576 ∧ (V.getD i vl0).2.2.length ≤ 1048576 := by
  by_cases hi : i < V.length
  · have := h.2 (V.getD i vl0) (by rw [List.getD_eq_getElem?_getD, List.getElem?_eq_getElem hi]; exact List.getElem_mem _)
    omega
  · rw [List.getD_eq_getElem?_getD, List.getElem?_eq_none (by omega)]
    simp [vl0]
/-- RecordBytes of a drawn record, by any of the two. -/
theorem recB_any {f : Nat} (hf : RecC f) (kd sq : Int) (id did : List UInt8) (a : Option Addr) (c : Nat) (V : List Vl) (w : World) (hid : id.length ≤ 10) (hd : did.length ≤ 40) (hS : SmB V) (hH : HoldV w a V) :
    Calls Tryz.prog f #[.agg #[.int .i64 kd, .int .i64 sq, .string ⟨id.toArray⟩, .string ⟨did.toArray⟩, .slice a V.length c]] w fun e w' => ∃ v, e = .returned (.tuple #[v, .int .i64 (rcO (kd, sq, id, (did, V))).2]) ∧ w'.ownsRow w.heap.size 5 1 v (rcO (kd, sq, id, (did, V))).1.length (Lib.byteCells (rcO (kd, sq, id, (did, V))).1) ∧ Below w.heap.size w w' :=
  hf kd sq id did a c V w (by omega) (by omega) (by have := hS.1; omega) (fun i => hS.all i) (fun h => hS.dc hd h) hS.le hH
/-- What the loop has: the records so far. -/
structure LI (w : World) (i : Nat) (bv ev : Value) (R : List Rc) (B : List UInt8) (E : List Nat) (W : World) : Prop where
  bel : Below w.heap.size w W
  brw : W.ownsRow w.heap.size 5 1 bv B.length (Lib.byteCells B)
  erw : W.ownsRow w.heap.size 3 1 ev E.length (zC (E.map fun (x : Nat) => (x : Int)))
  log : Logs R B E
  few : R.length ≤ i
  len : B.length ≤ 1048576
  bnn : bv ≠ .slice none 0 0
theorem LI.below {w W W' : World} {i : Nat} {bv ev : Value} {R : List Rc} {B : List UInt8} {E : List Nat} (h : LI w i bv ev R B E W) (hb : Below W.heap.size W W') : LI w i bv ev R B E W' :=
  ⟨h.bel.trans (hb.mono h.bel.size), own_congr h.brw fun x hx => hb.block x (own_ltL h.brw hx), own_congr h.erw fun x hx => hb.block x (own_ltL h.erw hx), h.log, h.few, h.len, h.bnn⟩
end Go.Proofs.YtpdiaddgialanaaGreatDoor

namespace Go.Proofs.YtpdiaddgialanaaGreatDoor
open Go Go.RowKit
set_option linter.unusedVariables false

set_option maxHeartbeats 2000000 in
set_option maxRecDepth 100000 in
/-- laws.at of the code: a number below n. -/
theorem lawAt_any (ao : Option Addr) (n cap i m : Nat) (w : World) (hn : n ≤ 1048576) (hi : i ≤ 1048576) (hm : 1 < m) (hm2 : m ≤ 2000000) (hc : CodeIn w ao n) :
    Calls Tryz.prog 9 #[.slice ao n cap, .int .i64 (i : Int), .int .i64 (m : Int)] w fun e w' => ∃ x : Nat, e = .returned (.int .i64 (x : Int)) ∧ x < m ∧ w.grownBy w' none := by
  have hmz : ¬ (m : Int) ≤ 1 := by omega
  have hm0 : (m : Int) ≠ 0 := by omega
  by_cases h0 : n = 0
  · subst h0
    go_enter Tryz.func9, Tryz.ntmps9
    go_wp2
    go_ret
    refine ⟨i * 7 % m, ?_, Nat.mod_lt _ (by omega), grown_drewN w 0 none⟩
    show Ending.returned (.int .i64 ((i : Int) * 7 % (m : Int))) = _
    rw [Int.natCast_emod]
    rfl
  · have hn0 : (n : Int) ≠ 0 := by omega
    obtain ⟨A, hA⟩ : ∃ A : Nat, (i : Int) % (n : Int) = (A : Int) := ⟨i % n, by rw [Int.natCast_emod]⟩
    obtain ⟨B, hB⟩ : ∃ B : Nat, ((i : Int) + 1) % (n : Int) = (B : Int) := ⟨(i + 1) % n, by rw [Int.natCast_emod]; rfl⟩
    obtain ⟨D, hD⟩ : ∃ D : Nat, (i : Int) / (n : Int) = (D : Int) := ⟨i / n, by rw [Int.natCast_ediv]⟩
    have hAn : A < n := by have := Int.emod_lt_of_pos (i : Int) (by omega : (0 : Int) < (n : Int)); omega
    have hBn : B < n := by have := Int.emod_lt_of_pos ((i : Int) + 1) (by omega : (0 : Int) < (n : Int)); omega
    have hDi : D ≤ i := by
      have h1 : i / n ≤ i := Nat.div_le_self _ _
      have h2 : ((i / n : Nat) : Int) = (D : Int) := by rw [Int.natCast_ediv]; exact hD
      omega
    obtain ⟨blk, off, z, rfl, _, hz0, hz1, hzc⟩ := hc A hAn
    obtain ⟨blk', off', y, he, _, hy0, hy1, hyc⟩ := hc B hBn
    obtain ⟨rfl, rfl⟩ : blk = blk' ∧ off = off' := by simpa using he
    have hmod : ∃ x : Nat, (z * 31 + y + (D : Int)) % (m : Int) = (x : Int) ∧ x < m := by
      have h1 := Int.emod_nonneg (z * 31 + y + (D : Int)) hm0
      have h2 := Int.emod_lt_of_pos (z * 31 + y + (D : Int)) (by omega : (0 : Int) < (m : Int))
      exact ⟨((z * 31 + y + (D : Int)) % (m : Int)).toNat, by omega, by omega⟩
    obtain ⟨x, hx, hxm⟩ := hmod
    have hAz : (A : Int) < (n : Int) := by omega
    have hBz : (B : Int) < (n : Int) := by omega
    clear hc he
    go_enter Tryz.func9, Tryz.ntmps9
    go_wp2
    go_quiet (fail)
    go_wp2
    go_ret
    refine ⟨x, ?_, hxm, grown_drewN _ _ _⟩
    show Ending.returned (.int .i64 ((z * 31 + y + (D : Int)) % (m : Int))) = _
    rw [hx]
end Go.Proofs.YtpdiaddgialanaaGreatDoor

namespace Go.Proofs.YtpdiaddgialanaaGreatDoor
open Go Go.RowKit
set_option linter.unusedVariables false
set_option linter.unusedSimpArgs false
set_option maxRecDepth 100000

/-! The law of logs: the bytes that are drawn from. -/
theorem lawAtC_any (ao : Option Addr) (n cap i m : Nat) (w : World) (hn : n ≤ 1048576) (hi : i ≤ 1048576) (hm : 1 ≤ m) (hm2 : m ≤ 2000000) (hc : CodeIn w ao n) :
    Calls Tryz.prog 9 #[.slice ao n cap, .int .i64 (i : Int), .int .i64 (m : Int)] w fun e w' => ∃ x : Nat, e = .returned (.int .i64 (x : Int)) ∧ x < m ∧ Below w.heap.size w w' := by
  by_cases h : 1 < m
  · refine (lawAt_any ao n cap i m w hn hi h hm2 hc).mono ?_
    rintro e w' ⟨x, h1, h2, h3⟩
    exact ⟨x, h1, h2, (Below.refl _ _).grown h3 (Nat.le_refl _) (fun k hk => by cases hk)⟩
  · obtain rfl : m = 1 := by omega
    clear hc
    go_enter Tryz.func9, Tryz.ntmps9
    go_wp2
    go_ret
    exact ⟨0, rfl, by omega, Below.refl _ _⟩
theorem Tryz.infoU8L : (Tryz.prog.info? 5).map (fun i => (i.zero, i.size, i.bytes)) = some (some (.int .u8 0), 1, 1) := by kernel_rfl
/-- A byte, and bytes of code behind it. -/
theorem wpList_append_code {w : World} {ops : Array Oper} {rest : List Oper} {o : Oper} {a : Act} {Q : Exit → Act → World → Prop} (hgd : o.guard = none) (s x : Operand)
    (ho : o.op = .call { callee := .builtin .append, args := #[s, x], argTypes := #[22, 22] })
    (g : Nat) (c0 : Int) (hc0 : 0 ≤ c0 ∧ c0 ≤ 255) (hs : a.eval s = .slice (some ⟨g, 0, none⟩) 1 1) (hg : w.heap[g]? = some (.cells #[.int .u8 c0] 5))
    (ao : Option Addr) (k cap : Nat) (hx : a.eval x = .slice ao k cap) (hc : CodeIn w ao k) (hk : k ≤ 50) (hnil : ao = none → cap = 0)
    (h : ∀ g' cap' w', CodeIn w' (some ⟨g', 0, none⟩) (1 + k) → Below g w w' → wpList Tryz.prog ops Q rest (a.put o.dst (.slice (some ⟨g', 0, none⟩) (1 + k) cap')) w') :
    wpList Tryz.prog ops Q (o :: rest) a w := by
  obtain ⟨i0, hi0, hz0, hz1, hz2⟩ := info_parts Tryz.infoU8L
  have hgl : g < w.heap.size := (Array.getElem?_eq_some_iff.1 hg).1
  have hown : w.ownsRow g 5 1 (.slice (some ⟨g, 0, none⟩) 1 1) 1 [.int .u8 c0] := ⟨rfl, Or.inr ⟨g, 1, #[.int .u8 c0], rfl, Nat.le_refl _, hg, Nat.le_refl _, by unfold maxLen; omega, rfl, rfl⟩⟩
  cases ao with
  | none =>
    have hk0 : k = 0 := by
      rcases Nat.eq_zero_or_pos k with h0 | h0
      · exact h0
      · obtain ⟨_, _, _, h1, _⟩ := hc 0 h0
        cases h1
    subst hk0
    have hcap := hnil rfl
    subst hcap
    refine wpList_plain hgd fun K hK => ?_
    have hr : (Builtin.append_ #[22, 22] o.type #[.slice (some ⟨g, 0, none⟩) 1 1, .slice none 0 0]).run Tryz.prog w = .ok (.slice (some ⟨g, 0, none⟩) 1 1) w := by
      simp [Builtin.append_, run_underlying Tryz.underlying22, sizeOf, typeInfo, hi0, Builtin.lenOf, Builtin.firstCells, loadCells, loadCellsFrom, storeCells]
    unfold Oper.wp execOp
    simp only [ho, resolve, invoke, builtin, Sem.run_bind, Sem.run_pure, Result.andThen_ok, List.map_toArray, List.map_cons, List.map_nil, hs, hx, hr]
    exact hK _ _ (h g 1 w (fun j hj => ⟨g, 0, c0, rfl, hgl, hc0.1, hc0.2, by
      have : j = 0 := by omega
      subst this
      exact blkc hg 0⟩) (Below.refl _ _))
  | some ad =>
    have hex : ∀ j, ∃ z : Int, j < k → w.cell? (ad.add j) = some (.int .u8 z) ∧ 0 ≤ z ∧ z ≤ 255 := fun j => by
      by_cases hj : j < k
      · obtain ⟨blk, off, z, h1, h2, h3, h4, h5⟩ := hc j hj
        injection h1 with h1
        subst h1
        exact ⟨z, fun _ => ⟨by rw [Go.WideShapes.add_plain]; exact h5, h3, h4⟩⟩
      · exact ⟨0, fun h => absurd h hj⟩
    obtain ⟨f, hf⟩ := Classical.axiomOfChoice hex
    refine wpList_append_own_at w hgd s x 22 ho g 5 i0 (.int .u8 0) 1 1 Tryz.underlying22 hi0 hz0 hz1 hz2 rfl (by decide) _ 1 _ hs hown ad k cap ((List.range k).map fun j => .int .u8 (f j)) hx (by simp) (fun j u hj => ?_) (fun u hu => ?_) (by unfold maxLen; omega) (by omega) (Nat.le_of_lt hgl) ?_
    · simp only [List.getElem?_map, Option.map_eq_some_iff] at hj
      obtain ⟨q, hq, rfl⟩ := hj
      obtain ⟨hq1, rfl⟩ : q < k ∧ q = j := by
        rw [List.getElem?_eq_some_iff] at hq
        obtain ⟨h1, h2⟩ := hq
        simp at h1 h2
        omega
      exact (hf q hq1).1
    · obtain ⟨q, _, rfl⟩ := List.mem_map.1 hu
      rfl
    · intro v' w' h2 h3 h4 h5
      rcases h2.2 with ⟨h', _⟩ | ⟨g', cap', cur', h', hb', hg', _⟩
      · exact absurd (h4.1 h').1 (by simp)
      · subst h'
        refine h g' cap' w' (fun j hj => ?_) ((Below.refl _ _).grown h3 (Nat.le_of_lt hgl) (fun q hq => by have hq' : some g = some q := hq; injection hq' with hq'; omega))
        have hcell := h2.cellAt j (by omega)
        by_cases hj0 : j = 0
        · subst hj0
          exact ⟨g', 0, c0, rfl, (Array.getElem?_eq_some_iff.1 hg').1, hc0.1, hc0.2, hcell⟩
        · refine ⟨g', 0, f (j - 1), rfl, (Array.getElem?_eq_some_iff.1 hg').1, (hf (j - 1) (by omega)).2.1, (hf (j - 1) (by omega)).2.2, ?_⟩
          rw [Nat.zero_add, hcell, List.getElem?_append_right (by simp; omega)]
          simp only [List.length_cons, List.length_nil, Nat.zero_add, List.getElem?_map]
          rw [List.getElem?_range (by omega)]
          rfl
end Go.Proofs.YtpdiaddgialanaaGreatDoor
