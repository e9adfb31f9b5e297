import Derived.Test.YtbkedgpligcicaaDictJ19
import Derived.Test.YtbkedgpligcicaaDictJ18
import Derived.Test.YtbkedgpligcicaaDictJ10
import Derived.Test.YtbkedgpligcicaaDictJ01
import Derived.Test.YtbkedgpligcicaaDictJ21
import Derived.Test.YtbkedgpligcicaaDictJ15
import Derived.Test.YtbkedgpligcicaaDictJ16
import Derived.Deep.LoopGhost
import Derived.Deep.AppendLies
import Derived.Deep.CutBlock
import Derived.Deep.DeepCutAuto
import Derived.OrdersHeld
import Derived.OrdersIn
namespace Go.Proofs.Ytbkedgpligcicaa
open Go Go.RowKit
set_option linter.unusedVariables false
set_option maxRecDepth 100000

/-- What both have to do. -/
def ReadC (fn : Nat) : Prop := ∀ (b off cap : Nat) (bs : List UInt8) (w : World), bs.length ≤ 9223372036854775807 → bs.length ≤ cap → BytesAt w b off bs → b < w.heap.size →
  Calls Try.prog fn #[.slice (some ⟨b, off, none⟩) bs.length cap] w fun e w' => ∃ a c, e = .returned (.tuple #[.agg #[.int .i64 (readO bs).1.1, .slice a (readO bs).1.2.length c], .int .i64 (readO bs).2]) ∧ HoldS w' a (readO bs).1.2 ∧ Below w.heap.size w w'
theorem readO_long {bs : List UInt8} (h : 1048576 < bs.length) : readO bs = ((0, []), 2) := by unfold readO; rw [if_pos h]
theorem readO_none {bs : List UInt8} (h : ¬ 1048576 < bs.length) (hd : readD bs = none) : readO bs = ((0, []), 15) := by unfold readO; rw [if_neg h, hd]
theorem readO_some {bs : List UInt8} {d : Int × List St} (h : ¬ 1048576 < bs.length) (hd : readD bs = some d) : readO bs = (d, 0) := by unfold readO; rw [if_neg h, hd]
def upG (L : List Tx) (i : Nat) : Prop := upTo L i ∧ ∀ j, j < i → 1 ≤ (L.getD j []).length
theorem upG_zero (L : List Tx) : upG L 0 := ⟨upTo_zero L, fun j h => by omega⟩
theorem upG_step {L : List Tx} {i : Nat} (h : upG L i) (h0 : 1 ≤ (L.getD i []).length) (h1 : (L.getD i []).length ≤ 64) (h2 : 0 < i → ltT (L.getD (i - 1) []) (L.getD i []) = true) : upG L (i + 1) :=
  ⟨upTo_step h.1 h1 h2, fun j hj => by
    by_cases e : j = i
    · rw [e]; exact h0
    · exact h.2 j (by omega)⟩
theorem upG_good {L : List Tx} (h : upG L L.length) (hl : L.length ≤ 4096) : GoodT L :=
  ⟨upTo_rise h.1, hl, fun t ht => ⟨by
    obtain ⟨j, hj, rfl⟩ := List.getElem_of_mem ht
    have := h.2 j hj
    rwa [List.getD_eq_getElem?_getD, List.getElem?_eq_getElem hj] at this, upTo_short h.1 t ht⟩⟩
theorem good_upG {L : List Tx} (h : GoodT L) : upG L L.length := ⟨good_upTo h, fun j hj => by
  rw [List.getD_eq_getElem?_getD, List.getElem?_eq_getElem hj]
  exact (h.2.2 _ (List.getElem_mem hj)).1⟩
theorem dict_fine {L : List Tx} {ord : List (List Tx)} (ho : IsBfs nextT L ord) : Fine (dictOf L ord).2 := by
  have hl : (dictOf L ord).2.length = ord.length := by simp [dictOf]
  intro i hi
  rw [hl] at hi
  have e : arcsAt (dictOf L ord).2 i = (stOf ord ord[i]).2 := by simp [arcsAt, dictOf, hi]
  rw [e, hl]
  refine ⟨by have := labelsT_len ord[i]; simpa [stOf] using this, fun a ha => ?_⟩
  obtain ⟨n, hn, rfl⟩ := List.mem_map.1 ha
  have h1 := (labelsT_mem.1 hn).1
  have h2 : ord.idxOf (subT n ord[i]) < ord.length := List.idxOf_lt_length_of_mem (dict_next ho (List.getElem_mem hi) hn)
  unfold ArcIn
  refine ⟨by show (0 : Int) ≤ (n : Int); omega, by show (n : Int) ≤ 255; omega, by show (0 : Int) ≤ ((ord.idxOf (subT n ord[i]) : Nat) : Int); omega, ?_⟩
  show ((ord.idxOf (subT n ord[i]) : Nat) : Int).toNat < ord.length
  omega
/-- A box of two that is written over. -/
theorem box_ret {w W : World} {x y x' y' : Value} {t : TypeId} (h : Below w.heap.size w W) (hb : W.heap[w.heap.size]? = some (.cells #[x, y] t)) :
    Below w.heap.size w ((W.setCell ⟨w.heap.size, 0, none⟩ x').setCell ⟨w.heap.size, 1, none⟩ y') ∧ ((W.setCell ⟨w.heap.size, 0, none⟩ x').setCell ⟨w.heap.size, 1, none⟩ y').heap[w.heap.size]? = some (.cells #[x', y'] t) :=
  ⟨(h.setCell (p := ⟨w.heap.size, 0, none⟩) (Nat.le_refl _) _).setCell (p := ⟨w.heap.size, 1, none⟩) (Nat.le_refl _) _, blk_set2 hb⟩
theorem HoldS.away {W W' : World} {a : Option Addr} {S : List St} {B n y z : Nat} {x : Option Addr} {i0 : Int} {t : TypeId} (h : HoldS W a S) (hz : W.heap.size ≤ W'.heap.size) (hB : W.heap[B]? = some (.cells #[.int .i64 i0, .slice x y z] t)) (hk : ∀ b, b ≠ B → W'.heap[b]? = W.heap[b]?) : HoldS W' a S := by
  have hcB : ∀ (j : Nat) (v : Value), W.cell? ⟨B, j, none⟩ = some v → (j = 0 ∧ v = .int .i64 i0) ∨ (j = 1 ∧ v = .slice x y z) := fun j v hv => by
    rw [blkc hB j] at hv
    match j, hv with
    | 0, hv => left; exact ⟨rfl, by simpa using hv.symm⟩
    | 1, hv => right; exact ⟨rfl, by simpa using hv.symm⟩
    | j + 2, hv => simp at hv
  have hA : ∀ (ai : Option Addr) (l : List Ar), HoldA W ai l → HoldA W' ai l := fun ai l hl => by
    rcases hl with hl | ⟨b, off, e, hb, hc⟩
    · exact Or.inl hl
    · by_cases hl0 : l = []
      · exact Or.inl hl0
      · have hp : 0 < l.length := List.length_pos_iff.2 hl0
        obtain ⟨c0, c1, c2⟩ := hc 0 hp
        have hne : b ≠ B := by
          rintro rfl
          rcases hcB _ _ c2 with ⟨h1, _⟩ | ⟨h1, h2⟩
          · omega
          · omega
        refine HoldA.keep (Or.inr ⟨b, off, e, hb, hc⟩) hz fun b' off' e' _ => ?_
        rw [e] at e'
        cases e'
        exact hk b hne
  rcases h with h | ⟨b, off, ha, hbl, h⟩
  · exact Or.inl h
  · by_cases hS0 : S = []
    · exact Or.inl hS0
    · have hp : 0 < S.length := List.length_pos_iff.2 hS0
      have hne : b ≠ B := by
        rintro rfl
        rcases hcB _ _ (h 0 hp).1 with ⟨_, h2⟩ | ⟨_, h2⟩ <;> cases h2
      refine Or.inr ⟨b, off, ha, Nat.lt_of_lt_of_le hbl hz, fun i hi => ?_⟩
      obtain ⟨h1, ai, ci, h2, h3⟩ := h i hi
      have e : ∀ j, W'.cell? ⟨b, j, none⟩ = W.cell? ⟨b, j, none⟩ := fun j => by simp [World.cell?, hk b hne]
      rw [e, e]
      exact ⟨h1, ai, ci, h2, hA ai _ h3⟩
theorem HoldS.put2 {W : World} {a : Option Addr} {S : List St} {x' y' : Value} {B y z : Nat} {x : Option Addr} {i0 : Int} {t : TypeId} (h : HoldS W a S) (hb : W.heap[B]? = some (.cells #[.int .i64 i0, .slice x y z] t)) : HoldS ((W.setCell ⟨B, 0, none⟩ x').setCell ⟨B, 1, none⟩ y') a S :=
  h.away (n := 0) (by simp) hb fun b hb => (heap_set_other _ B 1 _ b hb).trans (heap_set_other W B 0 _ b hb)
theorem str_ne (x y : List UInt8) : ((⟨x.toArray⟩ : ByteArray).toList != (⟨y.toArray⟩ : ByteArray).toList) = !(decide (x = y)) := by
  rw [Lib.toList_data, Lib.toList_data]
  by_cases h : x = y <;> simp [h]
end Go.Proofs.Ytbkedgpligcicaa

namespace Go.Proofs.Ytbkedgpligcicaa
open Go Go.RowKit
set_option linter.unusedVariables false
set_option maxRecDepth 100000

theorem stsN_len : ∀ (k : Nat) (p : List St × List UInt8 × Bool), (stsN k p).2.1.length ≤ p.2.1.length
  | 0, p => Nat.le_refl _
  | k + 1, p => by rw [stsN_succ]; exact Nat.le_trans (stateR_len _ _) (stsN_len k p)
theorem stsN_num : ∀ (k : Nat) (p : List St × List UInt8 × Bool), (stsN k p).1.length = p.1.length + k
  | 0, p => rfl
  | k + 1, p => by rw [stsN_succ, stepS, List.length_append, stsN_num k p]; simp; omega
/-- Where the arcs of a state lie; no two have the same place. -/
def LiesX (xs : List Value) (i b : Nat) : Prop := ∃ off n c, xs[i * 2 + 1]? = some (.slice (some ⟨b, off, none⟩) n c)
def DisX (xs : List Value) (n : Nat) : Prop := ∀ i j b, i < j → j < n → LiesX xs i b → ¬ LiesX xs j b
theorem LiesX.range {W : World} {lo hi : Nat} {v : Value} {S : List St} {xs : List Value} (h : StsAt W lo hi v S xs) {i b : Nat} (hi' : i < S.length) (hb : LiesX xs i b) : lo ≤ b ∧ b < hi := by
  obtain ⟨_, aj, cj, q2, _, q4⟩ := h.sts i hi'
  obtain ⟨off, n, c, e⟩ := hb
  rw [q2] at e
  simp only [Option.some.injEq, Value.slice.injEq] at e
  obtain ⟨q5, q6, _⟩ := q4 b off e.1
  exact ⟨q5, q6⟩
/-- The program's reader of all states. -/
structure StRd (w0 W : World) (B hi : Nat) (v : Value) (xs : List Value) (p : List St × List UInt8 × Bool) : Prop where
  rdr : RdrAt w0 W B p.2.1 p.2.2
  sts : StsAt W (B + 1) hi v p.1 xs
  dis : DisX xs p.1.length
theorem StRd.next {w0 W V w6 : World} {B hi g6 cp6 : Nat} {v va : Value} {xs : List Value} {p : List St × List UInt8 × Bool} {f : Bool} {l : List Ar} {lo2 : Nat} (h : StRd w0 W B hi v xs p) (hl : B + 1 ≤ lo2) (hl2 : hi ≤ lo2) (harow : W.ownsRow lo2 85 3 va l.length (aC l)) (hV : Below W.heap.size W V)
    (hown : w6.ownsRow (B + 1) 82 2 (.slice (some ⟨g6, 0, none⟩) (p.1.length + 1) cp6) (p.1.length + 1) (xs ++ [.bool f, va])) (hg : V.grownBy w6 v.ownBlock) :
    StRd w0 w6 B w6.heap.size (.slice (some ⟨g6, 0, none⟩) (p.1.length + 1) cp6) (xs ++ [.bool f, va]) (p.1 ++ [(f, l)], p.2) := by
  have hv : ∀ b, v.ownBlock = some b → B + 1 ≤ b := fun b hb => (own_blk h.sts.row hb).1
  have hBl := h.rdr.lt
  have hVs := hV.size
  have hnew := h.rdr.new
  have hk : ∀ b, b ≤ B → w6.heap[b]? = W.heap[b]? := fun b hb => by
    rw [hg.block b (by omega) (fun e => by have := hv b e.symm; omega), hV.block b (by omega)]
  have hb6 : Below w0.heap.size W w6 := ⟨by rw [hg.os, hV.os], by rw [hg.tape, hV.tape], by rw [hg.output, hV.output], Nat.le_trans hV.size hg.size, fun b hb => hk b (by omega)⟩
  refine ⟨h.rdr.keep (h.rdr.old.trans hb6) (hk B (Nat.le_refl _)), h.sts.push hl harow hV hown hg, ?_⟩
  have hxl : xs.length = p.1.length * 2 := h.sts.row.1
  have old : ∀ i b, i < p.1.length → LiesX (xs ++ [.bool f, va]) i b → LiesX xs i b := by
    rintro i b hi' ⟨o, n, c, e⟩
    rw [List.getElem?_append_left (by omega)] at e
    exact ⟨o, n, c, e⟩
  intro i j b hij hj h1 h2
  have hj' : j < p.1.length + 1 := by simpa using hj
  have h1' := old i b (by omega) h1
  by_cases hjl : j < p.1.length
  · exact h.dis i j b hij hjl h1' (old j b hjl h2)
  · have hje : j = p.1.length := by omega
    subst hje
    obtain ⟨o, n, c, e⟩ := h2
    rw [List.getElem?_append_right (by omega), show p.1.length * 2 + 1 - xs.length = 1 by omega] at e
    have hva : va = .slice (some ⟨b, o, none⟩) n c := by simpa using e
    have q1 := (own_blk harow (b := b) (by rw [hva]; rfl)).1
    have q2 := (h1'.range h.sts (by omega)).2
    omega
/-- What statesOf does. -/
def StatesPost (bs : List UInt8) (w : World) (e : Ending) (w' : World) : Prop :=
  Below w.heap.size w w' ∧ ∃ a n c t, e = .returned (.tuple #[.slice a n c, .bool t]) ∧ ((t = false ∧ rdI bs = none) ∨ (t = true ∧ ∃ S lo hi xs, rdI bs = some S ∧ n = S.length ∧ w.heap.size ≤ lo ∧ StsAt w' lo hi (.slice a n c) S xs ∧ DisX xs S.length))
set_option maxHeartbeats 8000000 in
theorem statesOf_any (b off cap : Nat) (bs : List UInt8) (w : World) (hl : bs.length ≤ 1048576) (hcap : bs.length ≤ cap) (hc : BytesAt w b off bs) (hb : b < w.heap.size) :
    Calls Try.prog 51 #[.slice (some ⟨b, off, none⟩) bs.length cap] w (StatesPost bs w) := by
  have HWs := hidd (withoutSum_any b off cap bs w hl hcap hc hb)
  have Hc := hidd hc
  clear hc
  go_enter Try.func51, Try.ntmps51
  go_wp2_with fail
  refine HWs.out.mono ?_
  rintro e w1 ⟨hb1, hcs⟩
  have HB1 := hidd hb1
  clear hb1 HWs
  rcases hcs with ⟨hok, rfl⟩ | ⟨hno, rfl⟩
  · have HRI := hidd (rdI_statesR hok.1 hok.2)
    clear hok
    have hml : (bs.take (bs.length - 4)).length = bs.length - 4 := by rw [List.length_take]; omega
    have HBm := hidd (bytes_take (Hc.out.below HB1.out) (bs.length - 4))
    obtain ⟨M, hM⟩ : ∃ M, bs.take (bs.length - 4) = M := ⟨_, rfl⟩
    rw [hM] at hml HBm HRI
    rw [← hml]
    have hMl : M.length ≤ 1048576 := by omega
    have hMc : M.length ≤ cap := by omega
    have hb1 : b < w1.heap.size := Nat.lt_of_lt_of_le hb HB1.out.size
    clear hM hml
    have HBr := hidd ((Below.refl w1.heap.size w1).alloc (Nat.le_refl _) (.cells #[.slice (some ⟨b, off, none⟩) M.length cap, .bool false] 143))
    have HR0 : Hid (RdrAt w1 (w1.alloc (.cells #[.slice (some ⟨b, off, none⟩) M.length cap, .bool false] 143)) w1.heap.size M false) := ⟨HBr.out, Nat.le_refl _, _, heap_alloc_new w1 _, .inr ⟨b, off, cap, rfl, hMc, hb1, HBm.out⟩⟩
    have HNu := hidd (number_any (most := 16384) hMl (by omega) HR0.out)
    obtain ⟨cn, hcn, hcn2⟩ := numR_val 16384 M false
    rw [hcn] at HNu
    have HSR : Hid (statesR M = stsN cn ([], (numR 16384 M false).2)) := by show _ = _; rw [statesR, hcn]; rfl
    have hql := Nat.le_trans (numR_len 16384 M false) hMl
    clear hcn
    generalize (numR 16384 M false).2 = q0 at *
    dsimp only
    go_upto_region 6 with fail
    obtain ⟨wr0, hwr0⟩ : ∃ wr0, w1.alloc (.cells #[.slice (some ⟨b, off, none⟩) M.length cap, .bool false] 143) = wr0 := ⟨_, rfl⟩
    rw [hwr0] at HNu HBr
    try rw [hwr0]
    have hsz0 : wr0.heap.size = w1.heap.size + 1 := by rw [← hwr0]; simp
    clear hwr0 HR0
    go_wp2_with fail
    refine HNu.out.mono ?_
    rintro e w2 ⟨rfl, hr2, hf2⟩
    have HI0 : Hid (StRd w1 w2 w1.heap.size w2.heap.size (.slice none 0 0) [] ([], q0)) := ⟨hr2, StsAt.nil w2 _, fun i j b _ hj => by simp at hj⟩
    clear hr2 hf2 HNu
    dsimp only
    obtain ⟨B, hB⟩ : ∃ B, w1.heap.size = B := ⟨_, rfl⟩
    have HB := hidd hB
    rw [hB] at HI0
    try rw [hB]
    clear hB hsz0 HBr HBm
    go_wp2_with fail
    go_loopw [7, 18] (fun vv iv wr => ∃ (i hi : Nat) (aV : Option Addr) (cV : Nat) (xs : List Value), i ≤ cn ∧ vv = .slice aV i cV ∧ iv = .int .i64 (i : Int) ∧ StRd w1 wr B hi (.slice aV i cV) xs (stsN i ([], q0))) (fun _ iv _ => cn - (intOf iv).toNat)
    case atStart => exact ⟨0, _, none, 0, [], Nat.zero_le _, rfl, rfl, HI0.out⟩
    case round =>
      clear HI0
      obtain ⟨i, hi, aV, cV, xs, hic, rfl, rfl, hst⟩ := hrel
      have HS := hidd hst
      clear hst
      have hpl : (stsN i ([], q0)).2.1.length ≤ 1048576 := Nat.le_trans (stsN_len i _) hql
      have hpn : (stsN i ([], q0)).1.length = i := by rw [stsN_num]; simp
      have HSu := hidd (stsN_succ i ([], q0))
      by_cases hlt : i < cn
      · have hltz : (i : Int) < (cn : Int) := by omega
        generalize stsN i ([], q0) = p at *
        obtain ⟨S, bs1, sh1⟩ := p
        dsimp only at hpl hpn HS
        subst hpn
        have HSt := hidd (state_any hpl HS.out.rdr)
        unfold stepS at HSu
        dsimp only at HSu
        generalize stateR bs1 sh1 = q at *
        obtain ⟨⟨f, l⟩, bs2, sh2⟩ := q
        dsimp only at HSt HSu
        go_wp2_with fail
        refine HSt.out.mono ?_
        rintro e w3 ⟨va, rfl, hr3, hf3, ho3⟩
        have HS3 : Hid (StRd w1 w3 B hi (.slice aV S.length cV) xs (S, bs2, sh2)) := ⟨hr3, HS.out.sts.keep hf3.1 fun b h1 h2 => hf3.2 b (Nat.lt_of_lt_of_le h2 HS.out.sts.le) (by omega), HS.out.dis⟩
        have hhi := HS.out.sts.le
        have hBr := HS.out.rdr.lt
        have HO3 := hidd ho3
        obtain ⟨aA, cA, rfl⟩ := own_form ho3
        clear hr3 ho3 HSt
        have hw3 := hf3.1
        clear hf3 HS
        obtain ⟨i1, hi1, hy0, hy1, hy2⟩ := info_parts Try.infoSt
        have HOr := hidd HS3.out.sts.row
        dsimp only
        go_wp2_with (at_builtin; refine wpList_append_lies _ rfl (.tmp 20) (.tmp 22) 25 rfl (B + 1) 82 i1 (.agg #[.bool false, .slice none 0 0]) 2 32 Try.underlying25 hi1 hy0 hy1 hy2 rfl (by decide) (.slice aV S.length cV) S.length xs rfl (HOr.out.alloc _) ⟨w3.heap.size, 0, none⟩ 1 1 [.bool f, .slice aA l.length cA] rfl rfl ?e1 ?e2 (by decide) ?e3 ?e4 ?e5 _ rfl ?_)
        case e2 => first | exact ⟨rfl, rfl⟩ | (intro u' hu'; simp at hu'; rcases hu' with rfl | rfl <;> rfl)
        case e3 => unfold maxLen; omega
        case e4 => omega
        case e5 => first | omega | (simp; omega)
        intro g6 cp6 w6 hown6 hgrow6 hat6 hlt6
        have HT := hidd (HS3.out.next (f := f) (l := l) (by omega) hhi HO3.out ((Below.refl _ _).alloc (Nat.le_refl _) _) hown6 hgrow6)
        clear hown6 hgrow6 hat6 hlt6 HS3 HOr HO3
        have HT2 : Hid (StRd w1 w6 B w6.heap.size (.slice (some ⟨g6, 0, none⟩) (S.length + 1) cp6) (xs ++ [.bool f, .slice aA l.length cA]) (stsN (S.length + 1) ([], q0))) := by
          show StRd _ _ _ _ _ _ _
          rw [HSu.out]
          exact HT.out
        clear HT
        go_wp2_with fail
        go_roundw
        case rel => exact ⟨S.length + 1, _, _, _, _, by omega, rfl, by go_num, HT2.out⟩
        case measure => simp [intOf]; omega
      · have hltz : ¬ (i : Int) < (cn : Int) := by omega
        have hie : i = cn := by omega
        subst hie
        have hwB : w.heap.size ≤ B := by have := HB1.out.size; have := HB.out; omega
        rw [HSR.out] at HRI
        have hsn := hpn
        generalize stsN i ([], q0) = p at *
        obtain ⟨S, bs1, sh1⟩ := p
        dsimp only at HS HRI hpn
        subst hpn
        have HBw : Hid (Below w.heap.size w wr) := HB1.out.trans (HS.out.rdr.old.mono HB1.out.size)
        obtain ⟨vR, hbx, hvR⟩ := HS.out.rdr.box
        obtain ⟨aR, cR, rfl⟩ : ∃ aR cR, vR = .slice aR bs1.length cR := by
          rcases hvR with ⟨rfl, a, c, rfl⟩ | ⟨b', off', c, rfl, _⟩
          · exact ⟨a, c, rfl⟩
          · exact ⟨_, c, rfl⟩
        have r0 := blkc hbx 0
        have r1 := blkc hbx 1
        clear hbx hvR hsn
        cases sh1 with
        | true =>
          have HN : Hid (rdI bs = none) := by show _ = _; rw [HRI.out, if_neg (fun h => by cases h.1)]
          go_wp2_with fail
          go_quiet (fail)
          go_wp2_with fail
          go_ret2
          exact ⟨below_drewN HBw.out nq, aV, S.length, cV, false, rfl, .inl ⟨rfl, HN.out⟩⟩
        | false =>
          by_cases h0 : bs1 = []
          · have hz : ((bs1.length : Int) == 0) = true := by rw [h0]; rfl
            have HN : Hid (rdI bs = some S) := by show _ = _; rw [HRI.out, if_pos ⟨rfl, h0⟩]
            clear h0
            go_wp2_with fail
            go_quiet (fail)
            go_wp2_with fail
            go_ret2
            exact ⟨below_drewN HBw.out nq, aV, S.length, cV, true, rfl, .inr ⟨rfl, S, B + 1, hi, xs, HN.out, rfl, by omega, HS.out.sts.keep (by simp) (fun b h1 h2 => by simp), HS.out.dis⟩⟩
          · have hz : ((bs1.length : Int) == 0) = false := beq_false_of_ne (fun e => h0 (List.length_eq_zero_iff.1 (by omega)))
            have HN : Hid (rdI bs = none) := by show _ = _; rw [HRI.out, if_neg (fun h => h0 h.2)]
            clear h0
            go_wp2_with fail
            go_quiet (fail)
            go_wp2_with fail
            go_ret2
            exact ⟨below_drewN HBw.out nq, aV, S.length, cV, false, rfl, .inl ⟨rfl, HN.out⟩⟩
  · have HN : Hid (rdI bs = none) := by
      show _ = _
      unfold SumOK at hno
      unfold rdI
      rw [if_neg hno]
    clear hno
    dsimp only
    go_wp2_with fail
    go_ret2
    exact ⟨HB1.out, none, 0, 0, false, rfl, .inl ⟨rfl, HN.out⟩⟩
end Go.Proofs.Ytbkedgpligcicaa

namespace Go.Proofs.Ytbkedgpligcicaa
open Go Go.RowKit
set_option linter.unusedVariables false
set_option maxRecDepth 100000

/-! What states has in memory. -/
theorem StsAt.keepT {W W' : World} {lo hi : Nat} {v : Value} {S : List St} {xs : List Value} (h : StsAt W lo hi v S xs) (hz : W.heap.size ≤ W'.heap.size)
    (hk : ∀ b cur, b < hi → (W.heap[b]? = some (.cells cur 85) ∨ W.heap[b]? = some (.cells cur 82)) → W'.heap[b]? = W.heap[b]?) : StsAt W' lo hi v S xs := by
  refine ⟨Nat.le_trans h.le hz, own_congr h.row fun b hb => ?_, h.own, fun j hj => ?_⟩
  · obtain ⟨_, cur, hc⟩ := own_blk h.row hb
    exact hk b cur (h.own b hb) (Or.inr hc)
  · obtain ⟨q1, aj, cj, q2, q3, q4⟩ := h.sts j hj
    refine ⟨q1, aj, cj, q2, q3.keep hz fun b off e _ => ?_, fun b off e => ?_⟩
    · obtain ⟨_, r2, cur, r3⟩ := q4 b off e
      exact hk b cur r2 (Or.inl r3)
    · obtain ⟨r1, r2, cur, r3⟩ := q4 b off e
      exact ⟨r1, r2, cur, (hk b cur r2 (Or.inl r3)).trans r3⟩
structure SI (w W : World) (mb : Nat) (ov dv : Value) (hi : Nat) (xs : List Value) (o : List Nat) (S : List St) : Prop where
  bel : Below w.heap.size w W
  met : W.ownsRow w.heap.size 3 1 ov o.length (nV o)
  map : PMap W mb o
  mlo : w.heap.size ≤ mb
  sts : StsAt W w.heap.size hi dv S xs
  dis : DisX xs S.length
structure SJ (w W : World) (mb : Nat) (ov dv : Value) (hi SB : Nat) (xs : List Value) (o : List Nat) (S : List St) (f : Bool) (va : Value) (l : List Ar) : Prop extends SI w W mb ov dv hi xs o S where
  sbl : hi ≤ SB
  sbw : w.heap.size ≤ SB
  sbox : W.heap[SB]? = some (.cells #[.bool f, va] 82)
  arow : W.ownsRow (SB + 1) 85 3 va l.length (aC l)
theorem PMap.blk {W : World} {mb : Nat} {o : List Nat} (h : PMap W mb o) : ∃ es c, W.heap[mb]? = some (.map es c) := by
  obtain ⟨es, c, h1, _⟩ := h
  exact ⟨es, c, h1⟩
theorem PMap.lt {W : World} {mb : Nat} {o : List Nat} (h : PMap W mb o) : mb < W.heap.size := by
  obtain ⟨es, c, h1⟩ := h.blk
  exact (Array.getElem?_eq_some_iff.1 h1).1
theorem SI.below {w W V : World} {mb : Nat} {ov dv : Value} {hi : Nat} {xs : List Value} {o : List Nat} {S : List St} (h : SI w W mb ov dv hi xs o S) (hb : Below W.heap.size W V) : SI w V mb ov dv hi xs o S := by
  have hle := h.sts.le
  exact ⟨h.bel.trans (hb.mono h.bel.size), own_below h.met hb, h.map.keep (hb.block _ h.map.lt), h.mlo, h.sts.keep hb.size (fun b _ h2 => hb.block b (by omega)), h.dis⟩
theorem SJ.below {w W V : World} {mb : Nat} {ov dv : Value} {hi SB : Nat} {xs : List Value} {o : List Nat} {S : List St} {f : Bool} {va : Value} {l : List Ar} (h : SJ w W mb ov dv hi SB xs o S f va l) (hb : Below W.heap.size W V) : SJ w V mb ov dv hi SB xs o S f va l :=
  ⟨h.toSI.below hb, h.sbl, h.sbw, blko h.sbox hb, own_congr h.arow fun b hb2 => by
    obtain ⟨_, cur, hc⟩ := own_blk h.arow hb2
    exact hb.block b (Array.getElem?_eq_some_iff.1 hc).1⟩
theorem SI.box {w W : World} {mb : Nat} {ov dv : Value} {hi : Nat} {xs : List Value} {o : List Nat} {S : List St} (h : SI w W mb ov dv hi xs o S) (f : Bool) :
    SJ w (W.alloc (.cells #[.bool f, .slice none 0 0] 82)) mb ov dv hi W.heap.size xs o S f (.slice none 0 0) [] :=
  ⟨h.below ((Below.refl _ _).alloc (Nat.le_refl _) _), h.sts.le, h.bel.size, heap_alloc_new W _, World.ownsRow_nil _ _ _ _⟩
/-- One more that is met. -/
theorem SJ.meet {w W w8 V w6 : World} {mb y g6 cp6 : Nat} {ov dv : Value} {hi SB : Nat} {xs : List Value} {o : List Nat} {S : List St} {f : Bool} {va : Value} {l : List Ar} (h : SJ w W mb ov dv hi SB xs o S f va l)
    (hm : PMap w8 mb (o ++ [y])) (hg8 : W.grownBy w8 (some mb)) (hV : Below w8.heap.size w8 V) (hown : w6.ownsRow w.heap.size 3 1 (.slice (some ⟨g6, 0, none⟩) (o.length + 1) cp6) (o.length + 1) (nV o ++ [.int .i64 (y : Int)])) (hg : V.grownBy w6 ov.ownBlock) :
    SJ w w6 mb (.slice (some ⟨g6, 0, none⟩) (o.length + 1) cp6) dv hi SB xs (o ++ [y]) S f va l := by
  have hs1 := hg8.size
  have hs2 := hV.size
  have hs3 := hg.size
  have hov : ∀ b, ov.ownBlock = some b → w.heap.size ≤ b ∧ ∃ cur, W.heap[b]? = some (.cells cur 3) := fun b hb => own_blk h.met hb
  have hmp := h.map.blk
  have hkeep : ∀ (b : Nat) (cs : Array Value) (t : TypeId), W.heap[b]? = some (.cells cs t) → t ≠ 3 → w6.heap[b]? = W.heap[b]? := fun b cs t hb ht => by
    have hbl := (Array.getElem?_eq_some_iff.1 hb).1
    have hne : b ≠ mb := by
      rintro rfl
      obtain ⟨es, c, he⟩ := hmp
      rw [he] at hb; cases hb
    rw [hg.block b (by omega) (fun e => by
      obtain ⟨_, cur, hc⟩ := hov b e.symm
      rw [hb] at hc
      simp only [Option.some.injEq, Obj.cells.injEq] at hc
      exact ht hc.2.1), hV.block b (by omega), hg8.block b hbl (by simpa using hne)]
  have hmb6 : w6.heap[mb]? = w8.heap[mb]? := by
    have hl8 := hm.lt
    rw [hg.block mb (by omega) (fun e => by
      obtain ⟨_, cur, hc⟩ := hov mb e.symm
      obtain ⟨es, c, he⟩ := hmp
      rw [he] at hc; cases hc), hV.block mb hl8]
  refine ⟨⟨⟨?_, ?_, ?_, ?_, ?_⟩, ?_, hm.keep hmb6, h.mlo, h.sts.keepT (by omega) (fun b cur _ hc => ?_), h.dis⟩, h.sbl, h.sbw, (hkeep SB _ _ h.sbox (by decide)).trans h.sbox, own_congr h.arow fun b hb2 => ?_⟩
  · rw [hg.os, hV.os, hg8.os, h.bel.os]
  · rw [hg.tape, hV.tape, hg8.tape, h.bel.tape]
  · rw [hg.output, hV.output, hg8.output, h.bel.output]
  · have := h.bel.size; omega
  · intro b hb
    have hbw := h.bel.size
    rw [hg.block b (by omega) (fun e => by have := (hov b e.symm).1; omega), hV.block b (by omega), hg8.block b (by omega) (by have := h.mlo; simp; omega)]
    exact h.bel.block b hb
  · have e : nV (o ++ [y]) = nV o ++ [.int .i64 (y : Int)] := by simp [nV]
    rw [e, List.length_append]
    exact hown
  · rcases hc with hc | hc
    · exact hkeep b _ _ hc (by decide)
    · exact hkeep b _ _ hc (by decide)
  · obtain ⟨_, cur, hc⟩ := own_blk h.arow hb2
    exact hkeep b _ _ hc (by decide)
/-- One more arc. -/
theorem SJ.arc {w W V w6 : World} {mb g6 cp6 : Nat} {ov dv : Value} {hi SB : Nat} {xs : List Value} {o : List Nat} {S : List St} {f : Bool} {va : Value} {l : List Ar} {p : Ar} (h : SJ w W mb ov dv hi SB xs o S f va l)
    (hV : Below W.heap.size W V) (hown : w6.ownsRow (SB + 1) 85 3 (.slice (some ⟨g6, 0, none⟩) (l.length + 1) cp6) (l.length + 1) (aC l ++ [.int .i64 p.1, .int .i64 p.2.1, .int .i64 p.2.2])) (hg : V.grownBy w6 va.ownBlock) :
    w6.heap[SB]? = some (.cells #[.bool f, va] 82) ∧ SJ w (w6.setCell ⟨SB, 1, none⟩ (.slice (some ⟨g6, 0, none⟩) (l.length + 1) cp6)) mb ov dv hi SB xs o S f (.slice (some ⟨g6, 0, none⟩) (l.length + 1) cp6) (l ++ [p]) := by
  have hs2 := hV.size
  have hs3 := hg.size
  have hva : ∀ b, va.ownBlock = some b → SB + 1 ≤ b ∧ ∃ cur, W.heap[b]? = some (.cells cur 85) := fun b hb => own_blk h.arow hb
  have hbox : SB < W.heap.size := (Array.getElem?_eq_some_iff.1 h.sbox).1
  have hlow : ∀ b, b ≤ SB → w6.heap[b]? = W.heap[b]? := fun b hb => by
    rw [hg.block b (by omega) (fun e => by have := (hva b e.symm).1; omega), hV.block b (by omega)]
  have hkeep : ∀ (b : Nat) (o : Obj), W.heap[b]? = some o → (∀ cs, o ≠ .cells cs 85) → w6.heap[b]? = W.heap[b]? := fun b o hb ho => by
    have hbl := (Array.getElem?_eq_some_iff.1 hb).1
    rw [hg.block b (by omega) (fun e => by
      obtain ⟨_, cur, hc⟩ := hva b e.symm
      rw [hb] at hc
      cases hc
      exact ho _ rfl), hV.block b hbl]
  have hb6 := (hlow SB (Nat.le_refl _)).trans h.sbox
  refine ⟨hb6, ?_⟩
  have hset : ∀ b, b ≠ SB → ∀ u, (w6.setCell ⟨SB, 1, none⟩ u).heap[b]? = w6.heap[b]? := fun b hb u => heap_set_other w6 SB 1 u b hb
  refine ⟨⟨⟨?_, ?_, ?_, ?_, ?_⟩, ?_, ?_, h.mlo, h.sts.keepT (by simp; omega) (fun b cur hb hc => ?_), h.dis⟩, h.sbl, h.sbw, ?_, ?_⟩
  · show w6.os = _; rw [hg.os, hV.os, h.bel.os]
  · show w6.tape = _; rw [hg.tape, hV.tape, h.bel.tape]
  · show w6.output = _; rw [hg.output, hV.output, h.bel.output]
  · have := h.bel.size; simp; omega
  · intro b hb
    have h1 := h.sbw
    rw [hset b (by omega), hlow b (by omega)]
    exact h.bel.block b hb
  · refine own_congr h.met fun b hb => ?_
    obtain ⟨_, cur, hc⟩ := own_blk h.met hb
    have hne : b ≠ SB := by
      rintro rfl
      rw [h.sbox] at hc
      simp only [Option.some.injEq, Obj.cells.injEq] at hc
      exact absurd hc.2.1 (by decide)
    rw [hset b hne]
    exact hkeep b _ hc (fun cs e => by
      simp only [Obj.cells.injEq] at e
      exact absurd e.2.1 (by decide))
  · obtain ⟨es, c, he⟩ := h.map.blk
    have hne : mb ≠ SB := by rintro rfl; rw [h.sbox] at he; cases he
    exact h.map.keep ((hset mb hne _).trans (hkeep mb _ he (fun cs e => by cases e)))
  · have h1 := h.sbl
    rw [hset b (by omega), hlow b (by omega)]
  · rw [heap_setCell_same w6 SB 1 _ _ _ hb6]
    rfl
  · rw [List.length_append, aC_snoc]
    refine own_congr hown fun b hb => ?_
    have := (own_blk hown hb).1
    exact hset b (by omega) _
/-- One more state. -/
theorem SJ.next {w W V w6 : World} {mb g6 cp6 : Nat} {ov dv : Value} {hi SB : Nat} {xs : List Value} {o : List Nat} {S : List St} {f : Bool} {va : Value} {l : List Ar} (h : SJ w W mb ov dv hi SB xs o S f va l)
    (hV : Below W.heap.size W V) (hown : w6.ownsRow w.heap.size 82 2 (.slice (some ⟨g6, 0, none⟩) (S.length + 1) cp6) (S.length + 1) (xs ++ [.bool f, va])) (hg : V.grownBy w6 dv.ownBlock) :
    SI w w6 mb ov (.slice (some ⟨g6, 0, none⟩) (S.length + 1) cp6) w6.heap.size (xs ++ [.bool f, va]) o (S ++ [(f, l)]) := by
  have hs2 := hV.size
  have hs3 := hg.size
  have hbw := h.bel.size
  have hsw := h.sbw
  have hdv : ∀ b, dv.ownBlock = some b → w.heap.size ≤ b ∧ ∃ cur, W.heap[b]? = some (.cells cur 82) := fun b hb => own_blk h.sts.row hb
  have hkeep : ∀ (b : Nat) (o : Obj), W.heap[b]? = some o → (∀ cs, o ≠ .cells cs 82) → w6.heap[b]? = W.heap[b]? := fun b o hb ho => by
    have hbl := (Array.getElem?_eq_some_iff.1 hb).1
    rw [hg.block b (by omega) (fun e => by
      obtain ⟨_, cur, hc⟩ := hdv b e.symm
      rw [hb] at hc
      cases hc
      exact ho _ rfl), hV.block b hbl]
  refine ⟨⟨?_, ?_, ?_, ?_, ?_⟩, ?_, ?_, h.mlo, h.sts.push (by omega : w.heap.size ≤ SB + 1) h.arow hV hown hg, ?_⟩
  · rw [hg.os, hV.os, h.bel.os]
  · rw [hg.tape, hV.tape, h.bel.tape]
  · rw [hg.output, hV.output, h.bel.output]
  · omega
  · intro b hb
    rw [hg.block b (by omega) (fun e => by have := (hdv b e.symm).1; omega), hV.block b (by omega)]
    exact h.bel.block b hb
  · refine own_congr h.met fun b hb => ?_
    obtain ⟨_, cur, hc⟩ := own_blk h.met hb
    exact hkeep b _ hc (fun cs e => by
      simp only [Obj.cells.injEq] at e
      exact absurd e.2.1 (by decide))
  · obtain ⟨es, c, he⟩ := h.map.blk
    exact h.map.keep (hkeep mb _ he (fun cs e => by cases e))
  · have hxl : xs.length = S.length * 2 := h.sts.row.1
    have old : ∀ i b, i < S.length → LiesX (xs ++ [.bool f, va]) i b → LiesX xs i b := by
      rintro i b hi' ⟨q, n, c, e⟩
      rw [List.getElem?_append_left (by omega)] at e
      exact ⟨q, n, c, e⟩
    intro i j b hij hj h1 h2
    have hj' : j < S.length + 1 := by simpa using hj
    have h1' := old i b (by omega) h1
    by_cases hjl : j < S.length
    · exact h.dis i j b hij hjl h1' (old j b hjl h2)
    · have hje : j = S.length := by omega
      subst hje
      obtain ⟨q, n, c, e⟩ := h2
      rw [List.getElem?_append_right (by omega), show S.length * 2 + 1 - xs.length = 1 by omega] at e
      have hva : va = .slice (some ⟨b, q, none⟩) n c := by simpa using e
      have q1 := (own_blk h.arow (b := b) (by rw [hva]; rfl)).1
      have q2 := (h1'.range h.sts (by omega)).2
      have q3 := h.sbl
      omega
end Go.Proofs.Ytbkedgpligcicaa

namespace Go.Proofs.Ytbkedgpligcicaa
open Go Go.RowKit
set_option linter.unusedVariables false
set_option maxRecDepth 100000

theorem cell_setF (w : World) (b b' j k : Nat) (v : Value) (h : b' ≠ b) : (w.setCell ⟨b, j, none⟩ v).cell? ⟨b', k, none⟩ = w.cell? ⟨b', k, none⟩ := by
  have e := heap_set_other w b j v b' h
  simp [World.cell?, e]
theorem Try.infoIntF : (Try.prog.info? 3).map (fun i => (i.zero, i.size, i.bytes)) = some (some (.int .i64 0), 1, 8) := by kernel_rfl
def StPost (L : List Ar) (r : Nat) (w : World) (e : Ending) (w' : World) : Prop :=
  Below w.heap.size w w' ∧ ∃ (o : List Nat) (a : Option Addr) (c hi : Nat) (xs : List Value), e = .returned (.slice a o.length c) ∧ IsBfs (nxF L) r o ∧ StsAt w' w.heap.size hi (.slice a o.length c) (o.map (stF L o)) xs ∧ DisX xs o.length ∧ o.length ≤ 2 * L.length + 2
theorem link_cells {base : Nat} {w : World} {rb mb g cap : Nat} {L : List Ar} (h : RegAt base w rb mb g cap L) {m : Nat} {l : Ar} (hm : L[m]? = some l) :
    w.cell? ⟨g, m * 3, none⟩ = some (.int .i64 l.1) ∧ w.cell? ⟨g, m * 3 + 1, none⟩ = some (.int .i64 l.2.1) ∧ w.cell? ⟨g, m * 3 + 2, none⟩ = some (.int .i64 l.2.2) := by
  have hml := (List.getElem?_eq_some_iff.1 hm).1
  have hc := aC_at L m hml
  have e : lCells L = aC L := rfl
  have hg : L.getD m ar0 = l := by rw [List.getD_eq_getElem?_getD, hm]; rfl
  rw [hg] at hc
  refine ⟨?_, ?_, ?_⟩
  · rw [h.row.cellAt (m * 3) (by omega), e]; exact hc.1
  · rw [h.row.cellAt (m * 3 + 1) (by omega), e]; exact hc.2.1
  · rw [h.row.cellAt (m * 3 + 2) (by omega), e]; exact hc.2.2
theorem met_cell {w W : World} {ov : Value} {o : List Nat} {lo : Nat} (h : W.ownsRow lo 3 1 ov o.length (nV o)) {i x : Nat} (hx : o[i]? = some x) : ∃ g cap, ov = .slice (some ⟨g, 0, none⟩) o.length cap ∧ W.cell? ⟨g, i, none⟩ = some (.int .i64 (x : Int)) := by
  have hl := (List.getElem?_eq_some_iff.1 hx).1
  rcases own_cases h with ⟨rfl, h0⟩ | ⟨g, cap, rfl, _, _⟩
  · omega
  · refine ⟨g, cap, rfl, ?_⟩
    rw [h.cellAt i (by omega)]
    simp [nV, hx]
set_option maxHeartbeats 8000000 in
theorem states_any (base : Nat) (w : World) (rb mr g cap : Nat) (L : List Ar) (r : Nat) (hreg : RegAt base w rb mr g cap L) (hr : IsF L r) (hL : L.length ≤ 1000000) :
    Calls Try.prog 39 #[.pointer (some ⟨rb, 0, none⟩), .int .i64 (r : Int)] w (StPost L r w) := by
  have HR := hidd hreg
  have HF := hidd hr
  have hrl := hr.le
  have HP0 := hidd (PlO.start hr)
  have hrb := hreg.rlt
  have hgl := hreg.glt.2
  clear hreg hr
  have HB1 := hidd ((Below.refl w.heap.size w).alloc (Nat.le_refl _) (.cells #[.int .i64 (r : Int)] 3))
  have HM1 : Hid ((w.alloc (.cells #[.int .i64 (r : Int)] 3)).ownsRow w.heap.size 3 1 (.slice (some ⟨w.heap.size, 0, none⟩) 1 1) 1 [.int .i64 (r : Int)]) := by
    show World.ownsRow _ _ _ _ _ _ _
    have := World.ownsRow_lit (base := w.heap.size) (e := 3) (size := 1) w #[.int .i64 (r : Int)] 1 (Nat.le_refl _) (by unfold maxLen; omega) (by simp)
    simpa using this
  go_enter Try.func39, Try.ntmps39
  go_upto_region 2 with fail
  obtain ⟨w1, hw1⟩ : ∃ w1, w.alloc (.cells #[.int .i64 (r : Int)] 3) = w1 := ⟨_, rfl⟩
  have hsz1 : w1.heap.size = w.heap.size + 1 := by rw [← hw1]; simp
  rw [hw1] at HB1 HM1
  try rw [hw1]
  clear hw1
  obtain ⟨w2, hput, hm2, hg2⟩ := (pMap_new w1).put (by simp) r (by omega) (by simp)
  have hput : (Instr.mapUpdate 118 (.map (some w1.heap.size)) (.int .i64 (r : Int)) (.int .i64 0)).run Try.prog (w1.alloc (.map #[] 0)) = .ok () w2 := by simpa [nI] using hput
  have Hsz1 := hidd hsz1
  clear hsz1
  have HM2 := hidd hm2
  have HG2 := hidd hg2
  clear hm2 hg2
  have hmk := run_makeMap (P := Try.prog) 118 w1
  go_wp2_with fail
  clear hmk hput
  have HI0 : Hid (SI w w2 w1.heap.size (.slice (some ⟨w.heap.size, 0, none⟩) 1 1) (.slice none 0 0) w2.heap.size [] [r] []) := by
    have hb2 : Below w1.heap.size w1 w2 := by
      have ha := (Below.refl w1.heap.size w1).alloc (Nat.le_refl _) (.map #[] 0)
      exact ha.grown HG2.out (by simp) (fun k hk => by cases hk; exact Nat.le_refl _)
    have hsz1 := Hsz1.out
    exact ⟨HB1.out.trans (hb2.mono (by omega)), own_below HM1.out hb2, HM2.out, by omega, StsAt.nil w2 _, fun i j b _ hj => by simp at hj⟩
  obtain ⟨mb, hmb⟩ : ∃ mb, w1.heap.size = mb := ⟨_, rfl⟩
  rw [hmb] at HI0
  try rw [hmb]
  clear hmb HM1 HM2 HG2 HB1 Hsz1
  go_loopg [5, 7, 8] (2 * L.length + 2) (fun gk ov dv iv wr => ∃ (i hi : Nat) (o : List Nat) (xs : List Value), iv = .int .i64 (i : Int) ∧ gk = 2 * L.length + 2 - i ∧ i ≤ o.length ∧ PlO L r i o ∧ SI w wr mb ov dv hi xs o ((o.take i).map (stF L o)))
  case atStart => exact ⟨0, _, [r], [], rfl, rfl, by simp, HP0.out, HI0.out⟩
  case round =>
    clear HI0 HP0
    obtain ⟨i, hi, o, xs, rfl, hgk, hio, hpl, hsi⟩ := hrel
    have HPl := hidd hpl
    have HSI := hidd hsi
    have hfew := hpl.few
    clear hpl hsi
    by_cases hlt : i < o.length
    · obtain ⟨x, hx⟩ : ∃ x, o[i]? = some x := ⟨o[i], List.getElem?_eq_getElem hlt⟩
      obtain ⟨gO, cO, rfl, c0⟩ := met_cell (w := w) HSI.out.met hx
      have hltz : (i : Int) < (o.length : Int) := by omega
      have HX := hidd hx
      have HIs := hidd (HPl.out.allF x (List.mem_of_getElem? hx))
      have hxl := HIs.out.le
      clear hx
      obtain ⟨f, hf⟩ : ∃ f : Bool, decide (x % 2 = 1) = f := ⟨_, rfl⟩
      have hfz : ((x : Int) % 2 == 1) = f := by
        rw [← hf]
        by_cases h2 : x % 2 = 1
        · rw [decide_eq_true h2]; simp; omega
        · rw [decide_eq_false h2]; simp; omega
      have Hf := hidd hf
      clear hf
      obtain ⟨N, hN⟩ : ∃ N, o.length = N := ⟨_, rfl⟩
      rw [hN] at HSI hltz
      try rw [hN]
      go_upto_region 8 with fail
      have HJ0 := hidd (HSI.out.box f)
      have HB3 := hidd ((Below.refl wr.heap.size wr).alloc (Nat.le_refl _) (.cells #[.bool f, .slice none 0 0] 82))
      obtain ⟨W3, hW3⟩ : ∃ W3, wr.alloc (.cells #[.bool f, .slice none 0 0] 82) = W3 := ⟨_, rfl⟩
      rw [hW3] at HJ0 HB3
      try rw [hW3]
      clear hW3
      have c1 : W3.cell? ⟨gO, i, none⟩ = some (.int .i64 (x : Int)) := (HB3.out.cell (p := ⟨gO, i, none⟩) (cell_lt c0)).trans c0
      clear c0
      obtain ⟨c, hc⟩ : ∃ c : Nat, (x : Int) / 2 = (c : Int) := ⟨x / 2, by rw [Int.natCast_ediv]; rfl⟩
      have hcn : x / 2 = c := by omega
      have HCh : Hid (ChainIs L (lksF L x) c) := by show ChainIs _ _ _; rw [← hcn]; exact HIs.out.chain
      have hl256 := HIs.out.lks256
      obtain ⟨SB, hSB⟩ : ∃ SB, wr.heap.size = SB := ⟨_, rfl⟩
      rw [hSB] at HJ0
      try rw [hSB]
      have HNn := hidd hN
      obtain ⟨Sd, hSd⟩ : ∃ Sd, (o.take i).map (stF L o) = Sd := ⟨_, rfl⟩
      have hSdl : Sd.length = i := by rw [← hSd]; simp; omega
      rw [hSd] at HJ0
      have HSd := hidd hSd
      have HSdl := hidd hSdl
      clear hcn hSB hN HSI HB3 hSd hSdl
      go_wp2_with fail
      clear c1 hc hfz
      go_loopg [5, 10] (lksF L x).length (fun gk ov cv wy => ∃ (k cn : Nat) (o' : List Nat) (va : Value), cv = .int .i64 (cn : Int) ∧ gk = (lksF L x).length - k ∧ k ≤ (lksF L x).length ∧ ChainIs L ((lksF L x).drop k) cn ∧ o' = meets o ((nxF L x).take k) ∧ SJ w wy mb ov u7 hi SB xs o' Sd f va (((lksF L x).take k).map (arcT o')))
      case atStart => exact ⟨0, c, o, _, rfl, rfl, Nat.zero_le _, HCh.out, rfl, HJ0.out⟩
      case round =>
        clear HJ0 HCh
        obtain ⟨k, cn, o', va, rfl, hgk2, hk, hch, ho', hsj⟩ := hrel
        have HCh := hidd hch
        have HO' := hidd ho'
        have HJ := hidd hsj
        clear hch ho' hsj
        have hnd' : o'.Nodup := by rw [HO'.out]; exact meets_nodup HPl.out.nodup
        have hall' : ∀ z ∈ o', IsF L z := by
          intro z hz
          rw [HO'.out] at hz
          rcases meets_mem.1 hz with hz | hz
          · exact HPl.out.allF z hz
          · exact HIs.out.next z (List.mem_of_mem_take hz)
        have hfew' : o'.length ≤ 2 * L.length + 2 := by
          have hs := hnd'.length_le_of_subset (l₂ := List.range (2 * L.length + 2)) (fun z hz => by
            have := (hall' z hz).le
            simp; omega)
          simpa using hs
        have HNd := hidd hnd'
        have HAll := hidd hall'
        clear hnd' hall'
        obtain ⟨aO, cO2, rfl⟩ := own_form HJ.out.met
        have hwb := HJ.out.bel.size
        by_cases hkl : k < (lksF L x).length
        · obtain ⟨p, hp⟩ : ∃ p, (lksF L x)[k]? = some p := ⟨_, List.getElem?_eq_getElem hkl⟩
          obtain ⟨y, hpy, hyn, hyk, hp0, hp1⟩ := HIs.out.to hp
          have hdr : (lksF L x).drop k = p :: (lksF L x).drop (k + 1) := by
            rw [List.drop_eq_getElem_cons hkl]
            congr 1
            have := List.getElem?_eq_getElem hkl
            rw [hp] at this
            exact (Option.some.inj this).symm
          have hch := HCh.out
          rw [hdr] at hch
          obtain ⟨m, r', hcm, hch2, hLm⟩ := hch
          have HCh2 := hidd hch2
          have hml := (List.getElem?_eq_some_iff.1 hLm).1
          have hlk := link_cells (HR.out.below HJ.out.bel) hLm
          have hr1 : wr.cell? ⟨rb, 1, none⟩ = some (.slice (some ⟨g, 0, none⟩) L.length cap) := blkc (HR.out.below HJ.out.bel).reg 1
          obtain ⟨p0, p1⟩ := p
          dsimp only at hpy hp0 hp1 hlk
          subst hpy
          obtain ⟨l0, l1, l2⟩ := hlk
          have hyF := HIs.out.next y hyn
          have hyl := hyF.le
          have Hp := hidd hp
          have Hyk := hidd hyk
          have hcz : (0 : Int) < (cn : Int) := by omega
          have hcm2 : (cn : Int) - 1 = (m : Int) := by omega
          have hmz : (m : Int) < (L.length : Int) := by omega
          have hrr := hch2.le
          clear hch2 hp hyk hdr hcm hLm hyn
          go_upto_region 11 with fail
          have HB5 := hidd ((Below.refl wr.heap.size wr).alloc (Nat.le_refl _) (.cells #[.int .i64 p0, .int .i64 (y : Int), .int .i64 (r' : Int)] 120))
          have HQ := hidd (heap_alloc_new wr (.cells #[.int .i64 p0, .int .i64 (y : Int), .int .i64 (r' : Int)] 120))
          obtain ⟨W5, hW5⟩ : ∃ W5, wr.alloc (.cells #[.int .i64 p0, .int .i64 (y : Int), .int .i64 (r' : Int)] 120) = W5 := ⟨_, rfl⟩
          rw [hW5] at HB5 HQ
          try rw [hW5]
          clear hW5
          have HJ5 := hidd (HJ.out.below HB5.out)
          obtain ⟨QB, hQB⟩ : ∃ QB, wr.heap.size = QB := ⟨_, rfl⟩
          rw [hQB] at HQ
          try rw [hQB]
          clear hQB HB5 HJ l0 l1 l2 hr1
          have q0 := blkc HQ.out 0
          have q1 := blkc HQ.out 1
          have q2 := blkc HQ.out 2
          have hsm : ∀ z ∈ o', z ≤ 9223372036854775807 := fun z hz => by have := (HAll.out z hz).le; omega
          have HSm := hidd hsm
          clear hsm
          obtain ⟨i1, hi1, hy0, hy1, hy2⟩ := info_parts Try.infoIntF
          have hQl : QB < W5.heap.size := (Array.getElem?_eq_some_iff.1 HQ.out).1
          have hw5 := HJ5.out.bel.size
          have hmeet : Hid (meet o' y = meets o ((nxF L x).take (k + 1))) := by
            show _ = _
            rw [List.take_add_one, Hyk.out, HO'.out]
            exact (meets_snoc _ _ _).symm
          have htak : Hid ((lksF L x).take (k + 1) = (lksF L x).take k ++ [(p0, (y : Int))]) := by
            show _ = _
            rw [List.take_add_one, Hp.out]
            rfl
          have hold' : Hid (∀ q ∈ (lksF L x).take k, q.2.toNat ∈ o') := by
            intro q hq
            rw [HO'.out]
            refine meets_mem.2 (Or.inr ?_)
            obtain ⟨j, hj⟩ := List.mem_iff_getElem?.1 hq
            have hjl := (List.getElem?_eq_some_iff.1 hj).1
            rw [List.length_take] at hjl
            rw [List.getElem?_take, if_pos (by omega)] at hj
            refine List.mem_iff_getElem?.2 ⟨j, ?_⟩
            rw [List.getElem?_take, if_pos (by omega), nxF, List.getElem?_map, hj]
            rfl
          have hlook : ∃ (j : Nat) (b : Bool), (Instr.lookup 118 (.map (some mb)) (.int .i64 (y : Int)) true).run Try.prog W5 = .ok (.tuple #[.int .i64 (j : Int), .bool b]) W5 ∧ ((b = true ∧ o'[j]? = some y) ∨ (b = false ∧ y ∉ o')) := by
            rcases HJ5.out.map.look HSm.out y (by omega) with ⟨h1, h2⟩ | ⟨j, h1, h2⟩
            · exact ⟨0, false, h2, Or.inr ⟨rfl, h1⟩⟩
            · exact ⟨j, true, h2, Or.inl ⟨rfl, h1⟩⟩
          obtain ⟨j, kb, hlk, hkb⟩ := hlook
          have Hkb := hidd hkb
          clear hkb
          go_upto_if 55 with fail
          clear hlk
          go_cut [5, 12] (fun ov2 pv wy => ∃ (o2 : List Nat) (a2 : Option Addr) (c2 : Nat), ov2 = .slice a2 o2.length c2 ∧ o2 = meet o' y ∧ pv = .int .i64 ((o2.idxOf y : Nat) : Int) ∧ SJ w wy mb ov2 u7 hi SB xs o2 Sd f va (((lksF L x).take k).map (arcT o2)) ∧ wy.heap[QB]? = some (.cells #[.int .i64 p0, .int .i64 (y : Int), .int .i64 (r' : Int)] 120))
          case first =>
            cases kb with
            | true =>
              have hj := (Hkb.out.resolve_right (fun h => by cases h.1)).2
              have hym : y ∈ o' := List.mem_of_getElem? hj
              have HM : Hid (meet o' y = o') := by show _ = _; unfold meet; rw [if_pos hym]
              have HJx : Hid (o'.idxOf y = j) := by
                show _ = _
                have h1 := idxOf_at hym
                exact (List.getElem?_inj (List.idxOf_lt_length_of_mem hym) HNd.out).1 (h1.trans hj.symm)
              clear hj hym Hkb
              go_wp2_with fail
              go_meet
              case rel => exact ⟨o', aO, cO2, rfl, HM.out.symm, by rw [HJx.out], HJ5.out, HQ.out⟩
            | false =>
              have hym : y ∉ o' := (Hkb.out.resolve_left (fun h => by cases h.1)).2
              have HM : Hid (meet o' y = o' ++ [y]) := by show _ = _; unfold meet; rw [if_neg hym]
              have HJx : Hid ((o' ++ [y]).idxOf y = o'.length) := by
                show _ = _
                rw [List.idxOf_append, if_neg hym]
                simp
              obtain ⟨w8, hput8, hm8, hg8⟩ := HJ5.out.map.put HSm.out y (by omega) hym
              simp only [nI] at hput8
              have HM8 := hidd hm8
              have HG8 := hidd hg8
              have hmbl := HJ5.out.map.lt
              have HMp := hidd HJ5.out.map.blk
              have HQ8 : Hid (w8.heap[QB]? = some (.cells #[.int .i64 p0, .int .i64 (y : Int), .int .i64 (r' : Int)] 120)) := by
                refine (hg8.block QB hQl (fun e => ?_)).trans HQ.out
                cases e
                obtain ⟨es, cc, he⟩ := HMp.out
                rw [HQ.out] at he; cases he
              have HOV : Hid (w8.ownsRow w.heap.size 3 1 (.slice aO o'.length cO2) o'.length (nV o')) := own_congr HJ5.out.met fun b hb => by
                obtain ⟨_, cur, hc⟩ := own_blk HJ5.out.met hb
                refine hg8.block b (Array.getElem?_eq_some_iff.1 hc).1 (fun e => ?_)
                cases e
                obtain ⟨es, cc, he⟩ := HMp.out
                rw [hc] at he; cases he
              have s1 := blkc HQ8.out 1
              have hw8 := hg8.size
              clear hm8 hg8 Hkb hym
              go_wp2_with (at_builtin; refine wpList_append_lies _ rfl (.tmp 62) (.tmp 65) 66 rfl w.heap.size 3 i1 (.int .i64 0) 1 8 Try.underlying66 hi1 hy0 hy1 hy2 rfl (by decide) (.slice aO o'.length cO2) o'.length (nV o') rfl (HOV.out.alloc _) ⟨w8.heap.size, 0, none⟩ 1 1 [.int .i64 (y : Int)] rfl rfl ?d1 ?d2 (by decide) ?d3 ?d4 ?d5 _ rfl ?_)
              case d1 => try (intro j' u' hj'; match j', hj' with | 0, hj' => simp at hj'; subst hj'; simp [Addr.add])
              case d2 => first | rfl | (intro u' hu'; simp at hu'; subst hu'; rfl)
              case d3 => unfold maxLen; omega
              case d4 => omega
              case d5 => first | omega | (simp; omega)
              intro g6 cp6 w6 hown6 hgrow6 hat6 hlt6
              have HB6 := hidd ((Below.refl w8.heap.size w8).alloc (Nat.le_refl _) (.cells #[.int .i64 (y : Int)] 3))
              have HJ6 := hidd (HJ5.out.meet HM8.out HG8.out HB6.out hown6 hgrow6)
              have HQ6 : Hid (w6.heap[QB]? = some (.cells #[.int .i64 p0, .int .i64 (y : Int), .int .i64 (r' : Int)] 120)) := box_grown HQ8.out HB6.out hgrow6 (fun e => by
                obtain ⟨_, cur, hc⟩ := own_blk HOV.out e
                exact blk_ne hc HQ8.out (by decide) rfl)
              clear hown6 hgrow6 hat6 hlt6 s1 hput8
              go_wp2_with fail
              go_meet
              case rel =>
                refine ⟨o' ++ [y], _, _, by rw [List.length_append]; rfl, HM.out.symm, by rw [HJx.out], ?_, HQ6.out⟩
                rw [arcs_app hold'.out]
                exact HJ6.out
          case rest =>
            obtain ⟨o2, a2, c2, rfl, ho2, rfl, hsj2, hq2⟩ := hcut
            have HO2 := hidd ho2
            have HJ2 := hidd hsj2
            have HQ2 := hidd hq2
            clear ho2 hsj2 hq2 HJ5 HQ q0 q1 q2 Hkb
            have q0 := blkc HQ2.out 0
            have q1 := blkc HQ2.out 1
            have q2 := blkc HQ2.out 2
            have s1 := blkc HJ2.out.sbox 1
            have hSl := (Array.getElem?_eq_some_iff.1 HJ2.out.sbox).1
            have hQ2l := (Array.getElem?_eq_some_iff.1 HQ2.out).1
            obtain ⟨i2, hi2', hv0, hv1, hv2⟩ := info_parts Try.infoArc
            have hyo2 : y ∈ o2 := by rw [HO2.out]; exact meet_mem.2 (Or.inr rfl)
            have hix : o2.idxOf y < o2.length := List.idxOf_lt_length_of_mem hyo2
            have ho2l : o2.length ≤ o'.length + 1 := by
              rw [HO2.out]; unfold meet; split <;> simp
            have HAr : Hid (((lksF L x).take (k + 1)).map (arcT o2) = ((lksF L x).take k).map (arcT o2) ++ [(p0, ((o2.idxOf y : Nat) : Int), 0)]) := by
              show _ = _
              rw [htak.out, List.map_append]
              simp [arcT]
            obtain ⟨ix, hixe⟩ : ∃ ix, o2.idxOf y = ix := ⟨_, rfl⟩
            rw [hixe] at HAr hix
            try rw [hixe]
            clear hixe hyo2
            have hal : (((lksF L x).take k).map (arcT o2)).length = k := by simp; omega
            obtain ⟨A, hA⟩ : ∃ A, ((lksF L x).take k).map (arcT o2) = A := ⟨_, rfl⟩
            rw [hA] at HJ2 HAr hal
            clear hA
            have Hal := hidd hal
            clear hal
            obtain ⟨aV, cV, rfl⟩ := own_form HJ2.out.arow
            have HOV := hidd HJ2.out.arow
            have hkA : A.length ≤ 256 := by have := Hal.out; omega
            go_wp2_with (at_builtin; refine wpList_append_lies _ rfl (.tmp 68) (.tmp 73) 80 rfl (SB + 1) 85 i2 (.agg #[.int .i64 0, .int .i64 0, .int .i64 0]) 3 24 Try.underlying80 hi2' hv0 hv1 hv2 rfl (by decide) (.slice aV A.length cV) A.length (aC A) rfl (HOV.out.alloc _) ⟨wc.heap.size, 0, none⟩ 1 1 [.int .i64 p0, .int .i64 (ix : Int), .int .i64 0] rfl rfl ?g1 ?g2 (by decide) ?g3 ?g4 ?g5 _ rfl ?_)
            case g1 => intro j' u' hj'; match j', hj' with | 0, hj' => simp at hj'; subst hj'; simp [Addr.add] | 1, hj' => simp at hj'; subst hj'; simp [Addr.add] | 2, hj' => simp at hj'; subst hj'; simp [Addr.add]
            case g2 => first | exact ⟨rfl, rfl, rfl⟩ | (intro u' hu'; simp at hu'; rcases hu' with rfl | rfl | rfl <;> rfl)
            case g3 => unfold maxLen; omega
            case g4 => omega
            case g5 => first | omega | (simp; omega)
            intro g6 cp6 w6 hown6 hgrow6 hat6 hlt6
            obtain ⟨t1, t3⟩ := HJ2.out.arc (p := (p0, (ix : Int), 0)) ((Below.refl _ _).alloc (Nat.le_refl _) _) hown6 hgrow6
            have hQ6 : w6.heap[QB]? = some (.cells #[.int .i64 p0, .int .i64 (y : Int), .int .i64 (r' : Int)] 120) := box_grown HQ2.out ((Below.refl _ _).alloc (Nat.le_refl _) _) hgrow6 (fun e => by
              obtain ⟨_, cur, hc⟩ := own_blk HOV.out e
              exact blk_ne hc HQ2.out (by decide) rfl)
            have hQS : QB ≠ SB := fun e => blk_ne HQ2.out HJ2.out.sbox (by decide) e
            have u1 : w6.cell? ⟨SB, 1, none⟩ = some (.slice aV A.length cV) := blkc t1 1
            have u2 : w6.frozen? ⟨SB, 1, none⟩ = false := blkf t1 1
            have v2 : w6.cell? ⟨QB, 2, none⟩ = some (.int .i64 (r' : Int)) := blkc hQ6 2
            have v3 : (w6.setCell ⟨SB, 1, none⟩ (.slice (some ⟨g6, 0, none⟩) (A.length + 1) cp6)).cell? ⟨QB, 2, none⟩ = some (.int .i64 (r' : Int)) := by rw [cell_setF w6 SB QB 1 2 _ hQS]; exact v2
            have HT3 := hidd t3
            clear t1 t3 hown6 hgrow6 hat6 hlt6 HJ2 HOV q0 q1 q2 s1 hQ6
            go_wp2_with fail
            go_roundg ((lksF L x).length - (k + 1))
            case rel =>
              refine ⟨k + 1, r', o2, .slice (some ⟨g6, 0, none⟩) (A.length + 1) cp6, rfl, rfl, by omega, HCh2.out, HO2.out.trans hmeet.out, ?_⟩
              rw [HAr.out]
              exact HT3.out
            all_goals first | omega | (simp; omega)
        · have hke : k = (lksF L x).length := by omega
          have hc0 : cn = 0 := by
            have := HCh.out
            rw [hke, List.drop_length] at this
            exact this
          subst hc0
          have hoF : o' = meets o (nxF L x) := by
            rw [HO'.out, hke, List.take_of_length_le]
            simp [nxF]
          have HoF := hidd hoF
          have HAr : Hid (((lksF L x).take k).map (arcT o') = (lksF L x).map (arcT o')) := by
            show _ = _
            rw [hke, List.take_of_length_le (Nat.le_refl _)]
          rw [HAr.out] at HJ
          clear hke hoF HAr HO' HCh
          obtain ⟨i2, hi2', hv0, hv1, hv2⟩ := info_parts Try.infoSt
          obtain ⟨aV, cV, hva⟩ := own_form HJ.out.arow
          have s0 := blkc HJ.out.sbox 0
          have s1 := blkc HJ.out.sbox 1
          have hSl := (Array.getElem?_eq_some_iff.1 HJ.out.sbox).1
          obtain ⟨aD, cD, hdv⟩ := own_form HJ.out.sts.row
          have HOV : Hid (wr.ownsRow w.heap.size 82 2 (.slice aD Sd.length cD) Sd.length xs) := by rw [← hdv]; exact HJ.out.sts.row
          have hil : i < 2 * L.length + 2 := by omega
          obtain ⟨al, hal⟩ : ∃ al, ((lksF L x).map (arcT o')).length = al := ⟨_, rfl⟩
          rw [hal] at hva
          have hal2 : al ≤ 256 := by rw [← hal]; simpa using hl256
          have HvaE := hidd hva
          rw [hva] at s1
          rw [hdv] at HJ
          rw [hva] at HJ
          try rw [hdv]
          clear hal
          go_wp2_with (at_builtin; refine wpList_append_lies _ rfl (.tmp 78) (.tmp 80) 25 rfl w.heap.size 82 i2 (.agg #[.bool false, .slice none 0 0]) 2 32 Try.underlying25 hi2' hv0 hv1 hv2 rfl (by decide) (.slice aD Sd.length cD) Sd.length xs rfl (HOV.out.alloc _) ⟨wr.heap.size, 0, none⟩ 1 1 [.bool f, .slice aV al cV] rfl rfl ?e1 ?e2 (by decide) ?e3 ?e4 ?e5 _ rfl ?_)
          case e1 => intro j' u' hj'; match j', hj' with | 0, hj' => simp at hj'; subst hj'; simp [Addr.add] | 1, hj' => simp at hj'; subst hj'; simp [Addr.add]
          case e2 => first | exact ⟨rfl, rfl⟩ | (intro u' hu'; simp at hu'; rcases hu' with rfl | rfl <;> rfl)
          case e3 => have := HSdl.out; unfold maxLen; omega
          case e4 => have := HSdl.out; omega
          case e5 => first | omega | (simp; omega)
          intro g6 cp6 w6 hown6 hgrow6 hat6 hlt6
          have HT := hidd (HJ.out.next ((Below.refl _ _).alloc (Nat.le_refl _) _) hown6 hgrow6)
          clear hown6 hgrow6 hat6 hlt6 HJ HOV s0 s1
          have HPl2 := hidd (HPl.out.next HX.out)
          have HSt2 := hidd (HPl.out.states HX.out)
          rw [← HoF.out] at HPl2 HSt2
          have hlen2 : i + 1 ≤ o'.length := by
            obtain ⟨q, hq⟩ := meets_pre (nxF L x) o
            rw [HoF.out, hq, List.length_append]
            omega
          go_wp2_with fail
          go_roundg (2 * L.length + 2 - (i + 1))
          case rel =>
            refine ⟨i + 1, w6.heap.size, o', xs ++ [.bool f, .slice aV al cV], by go_num, rfl, hlen2, HPl2.out, ?_⟩
            rw [HSt2.out, HSd.out, stF_eq, Hf.out]
            exact HT.out
          all_goals first | omega | (simp; omega)
    · have hltz : ¬ (i : Int) < (o.length : Int) := by omega
      obtain rfl : i = o.length := by omega
      obtain ⟨aO, cO, hov⟩ := own_form HSI.out.met
      subst hov
      obtain ⟨aD, cD, hdv⟩ := own_form HSI.out.sts.row
      rw [List.length_map, List.length_take, Nat.min_self] at hdv
      have HSI' := HSI.out
      rw [List.take_of_length_le (Nat.le_refl _)] at HSI'
      have HS2 := hidd HSI'
      clear HSI' HSI
      subst hdv
      go_wp2_with fail
      go_ret
      refine ⟨HS2.out.bel, o, aD, cD, hi, xs, rfl, HPl.out.done (Nat.le_refl _), HS2.out.sts, ?_, hfew⟩
      have := HS2.out.dis
      rw [List.length_map] at this
      exact this
end Go.Proofs.Ytbkedgpligcicaa

namespace Go.Proofs.Ytbkedgpligcicaa
open Go Go.RowKit
set_option linter.unusedVariables false

/-! A region that draws, in a round: as everywhere, if it defers nothing. -/
def noDefer (ops : Array Oper) : Bool := ops.toList.all fun o => match o.op with
  | .defer _ => false
  | _ => true
theorem noDefer_at {ops : Array Oper} (h : noDefer ops = true) {i : Nat} {o : Oper} (ho : ops[i]? = some o) : ∀ c, o.op ≠ .defer c := by
  intro c e
  have hm : o ∈ ops.toList := by
    have := List.mem_of_getElem? (by rw [Array.getElem?_toList]; exact ho : ops.toList[i]? = some o)
    exact this
  have := List.all_eq_true.1 h o hm
  rw [e] at this
  cases this
theorem wpOpIn_round {l m : Nat} {P : Program} {ops : Array Oper} {Q : Exit → Act → World → Prop} (hd : noDefer ops = true) (hno : ¬ LetsOut Q) {i : Nat} {K K' : Act → World → Prop} (hk : ∀ a w, K a w → K' a w) {a : Act} {w : World}
    (h : wpOp P ops Q i K a w) : wpOpIn (Fence.wide.inRound l) m P ops Q i K' a w := by
  unfold wpOp at h
  unfold wpOpIn
  cases ho : ops[i]? with
  | none => simp only [ho] at h ⊢; exact hk _ _ h
  | some o =>
    simp only [ho] at h ⊢
    split
    · rename_i hw
      simp only [hw, if_true] at h
      have h' := h.resolve_right (fun h2 => hno h2.2)
      unfold Oper.wp at h'
      unfold Oper.wpIn
      refine ⟨fun f _ => trivial, ?_⟩
      show o.uponIn (Fence.wide.inRound l) m P a K' Q ((o.semAt (some l) a.eval).run P w)
      rw [Oper.semAt_some l a.eval o (noDefer_at hd ho)]
      generalize (execOp a.eval o).run P w = r at h'
      cases r with
      | ok x w' =>
        cases x with
        | value v => exact hk _ _ h'
        | skip => exact hk _ _ h'
        | defer d => exact hk _ _ h'
        | enter f args =>
          refine ⟨(fun h => by cases h), CallsIn.inRound l (callsIn_wide.2 ?_)⟩
          refine Calls.mono h' ?_
          intro e w2 he
          cases e <;> first | exact hk _ _ he | exact he
        | row r args =>
          refine ⟨(fun h => by cases h), fun c cs _ => ?_⟩
          obtain ⟨v, w2, hq, hst⟩ := h' c cs
          exact ⟨v, w2, hk _ _ hq, stepsIn_wide.2 hst⟩
        | _ => exact h'.elim
      | halt x w' => cases x <;> first | exact h' | exact h'.elim
    · rename_i hw
      simp only [hw] at h
      exact ⟨fun f _ => trivial, hk _ _ h⟩
theorem wpAnyIn_round {l m : Nat} {P : Program} {md : Region.Mode} {ops : Array Oper} {Q : Exit → Act → World → Prop} (hd : noDefer ops = true) (hno : ¬ LetsOut Q) : ∀ (fuel : Nat) (listed : Array Bool) (a : Act) (w : World), wpAny P md ops Q fuel listed a w → wpAnyIn (Fence.wide.inRound l) m P md ops Q fuel listed a w
  | 0, _, _, _, h => h
  | fuel + 1, _, _, _, h => ⟨h.1, fun i hi => wpOpIn_round hd hno (fun a' w' h' => wpAnyIn_round hd hno fuel _ a' w' h') (h.2 i hi)⟩
theorem region_round {id l m : Nat} {P : Program} {ops : Array Oper} {Q : Exit → Act → World → Prop} {a : Act} {w : World} {S : World → Prop} (hm : P.follows .mixedOrders = true) (hd : noDefer ops = true) (hno : ¬ LetsOut Q)
    (hS : S w.drew) (h : S w.drew → wpAnyH P .any ops Q S ops.size (Array.replicate ops.size false) a w.drew) : (Code.region id ops true).wpIn (Fence.wide.inRound l) m P Q a w :=
  wpIn_region_any hm (wpAnyIn_round hd hno _ _ _ _ (wpAny_of_held _ _ _ _ (h hS)))
end Go.Proofs.Ytbkedgpligcicaa
