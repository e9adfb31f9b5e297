import Derived.Test.YtjndogajdlophaaReadDictJ22
import Derived.Test.YtjndogajdlophaaReadDictJ19
import Derived.Test.YtjndogajdlophaaReadDictJ14
import Derived.Test.YtjndogajdlophaaReadDictJ15
import Derived.Test.YtjndogajdlophaaReadDictJ16
import Derived.Test.YtjndogajdlophaaReadDictJ13
import Derived.Test.YtjndogajdlophaaReadDictJ03
namespace Go.Proofs.Ytjndogajdlophaa
open Go Go.RowKit
set_option linter.unusedVariables false
set_option maxRecDepth 100000

theorem stsN_len : ∀ (k : Nat) (p : List St × List UInt8 × Bool), (stsN k p).2.1.length ≤ p.2.1.length
  | 0, p => Nat.le_refl _
  | k + 1, p => by rw [stsN_succ]; exact Nat.le_trans (stateR_len _ _) (stsN_len k p)
theorem stsN_num : ∀ (k : Nat) (p : List St × List UInt8 × Bool), (stsN k p).1.length = p.1.length + k
  | 0, p => rfl
  | k + 1, p => by rw [stsN_succ, stepS, List.length_append, stsN_num k p]; simp; omega
/-- Where the arcs of a state lie; no two have the same place. -/
def LiesX (xs : List Value) (i b : Nat) : Prop := ∃ off n c, xs[i * 2 + 1]? = some (.slice (some ⟨b, off, none⟩) n c)
def DisX (xs : List Value) (n : Nat) : Prop := ∀ i j b, i < j → j < n → LiesX xs i b → ¬ LiesX xs j b
theorem LiesX.range {W : World} {lo hi : Nat} {v : Value} {S : List St} {xs : List Value} (h : StsAt W lo hi v S xs) {i b : Nat} (hi' : i < S.length) (hb : LiesX xs i b) : lo ≤ b ∧ b < hi := by
  obtain ⟨_, aj, cj, q2, _, q4⟩ := h.sts i hi'
  obtain ⟨off, n, c, e⟩ := hb
  rw [q2] at e
  simp only [Option.some.injEq, Value.slice.injEq] at e
  obtain ⟨q5, q6, _⟩ := q4 b off e.1
  exact ⟨q5, q6⟩
/-- The program's reader of all states. -/
structure StRd (w0 W : World) (B hi : Nat) (v : Value) (xs : List Value) (p : List St × List UInt8 × Bool) : Prop where
  rdr : RdrAt w0 W B p.2.1 p.2.2
  sts : StsAt W (B + 1) hi v p.1 xs
  dis : DisX xs p.1.length
theorem StRd.next {w0 W V w6 : World} {B hi g6 cp6 : Nat} {v va : Value} {xs : List Value} {p : List St × List UInt8 × Bool} {f : Bool} {l : List Ar} {lo2 : Nat} (h : StRd w0 W B hi v xs p) (hl : B + 1 ≤ lo2) (hl2 : hi ≤ lo2) (harow : W.ownsRow lo2 110 3 va l.length (aC l)) (hV : Below W.heap.size W V)
    (hown : w6.ownsRow (B + 1) 104 2 (.slice (some ⟨g6, 0, none⟩) (p.1.length + 1) cp6) (p.1.length + 1) (xs ++ [.bool f, va])) (hg : V.grownBy w6 v.ownBlock) :
    StRd w0 w6 B w6.heap.size (.slice (some ⟨g6, 0, none⟩) (p.1.length + 1) cp6) (xs ++ [.bool f, va]) (p.1 ++ [(f, l)], p.2) := by
  have hv : ∀ b, v.ownBlock = some b → B + 1 ≤ b := fun b hb => (own_blk h.sts.row hb).1
  have hBl := h.rdr.lt
  have hVs := hV.size
  have hnew := h.rdr.new
  have hk : ∀ b, b ≤ B → w6.heap[b]? = W.heap[b]? := fun b hb => by
    rw [hg.block b (by omega) (fun e => by have := hv b e.symm; omega), hV.block b (by omega)]
  have hb6 : Below w0.heap.size W w6 := ⟨by rw [hg.os, hV.os], by rw [hg.tape, hV.tape], by rw [hg.output, hV.output], Nat.le_trans hV.size hg.size, fun b hb => hk b (by omega)⟩
  refine ⟨h.rdr.keep (h.rdr.old.trans hb6) (hk B (Nat.le_refl _)), h.sts.push hl harow hV hown hg, ?_⟩
  have hxl : xs.length = p.1.length * 2 := h.sts.row.1
  have old : ∀ i b, i < p.1.length → LiesX (xs ++ [.bool f, va]) i b → LiesX xs i b := by
    rintro i b hi' ⟨o, n, c, e⟩
    rw [List.getElem?_append_left (by omega)] at e
    exact ⟨o, n, c, e⟩
  intro i j b hij hj h1 h2
  have hj' : j < p.1.length + 1 := by simpa using hj
  have h1' := old i b (by omega) h1
  by_cases hjl : j < p.1.length
  · exact h.dis i j b hij hjl h1' (old j b hjl h2)
  · have hje : j = p.1.length := by omega
    subst hje
    obtain ⟨o, n, c, e⟩ := h2
    rw [List.getElem?_append_right (by omega), show p.1.length * 2 + 1 - xs.length = 1 by omega] at e
    have hva : va = .slice (some ⟨b, o, none⟩) n c := by simpa using e
    have q1 := (own_blk harow (b := b) (by rw [hva]; rfl)).1
    have q2 := (h1'.range h.sts (by omega)).2
    omega
/-- What statesOf does. -/
def StatesPost (bs : List UInt8) (w : World) (e : Ending) (w' : World) : Prop :=
  Below w.heap.size w w' ∧ ∃ a n c t, e = .returned (.tuple #[.slice a n c, .bool t]) ∧ ((t = false ∧ rdI bs = none) ∨ (t = true ∧ ∃ S lo hi xs, rdI bs = some S ∧ n = S.length ∧ w.heap.size ≤ lo ∧ StsAt w' lo hi (.slice a n c) S xs ∧ DisX xs S.length))
set_option maxHeartbeats 8000000 in
theorem statesOf_any (b off cap : Nat) (bs : List UInt8) (w : World) (hl : bs.length ≤ 1048576) (hcap : bs.length ≤ cap) (hc : BytesAt w b off bs) (hb : b < w.heap.size) :
    Calls Try.prog 38 #[.slice (some ⟨b, off, none⟩) bs.length cap] w (StatesPost bs w) := by
  have HWs := hidd (withoutSum_any b off cap bs w hl hcap hc hb)
  have Hc := hidd hc
  clear hc
  go_enter Try.func38, Try.ntmps38
  go_wp2_with fail
  refine HWs.out.mono ?_
  rintro e w1 ⟨hb1, hcs⟩
  have HB1 := hidd hb1
  clear hb1 HWs
  rcases hcs with ⟨hok, rfl⟩ | ⟨hno, rfl⟩
  · have HRI := hidd (rdI_statesR hok.1 hok.2)
    clear hok
    have hml : (bs.take (bs.length - 4)).length = bs.length - 4 := by rw [List.length_take]; omega
    have HBm := hidd (bytes_take (Hc.out.below HB1.out) (bs.length - 4))
    obtain ⟨M, hM⟩ : ∃ M, bs.take (bs.length - 4) = M := ⟨_, rfl⟩
    rw [hM] at hml HBm HRI
    rw [← hml]
    have hMl : M.length ≤ 1048576 := by omega
    have hMc : M.length ≤ cap := by omega
    have hb1 : b < w1.heap.size := Nat.lt_of_lt_of_le hb HB1.out.size
    clear hM hml
    have HBr := hidd ((Below.refl w1.heap.size w1).alloc (Nat.le_refl _) (.cells #[.slice (some ⟨b, off, none⟩) M.length cap, .bool false] 132))
    have HR0 : Hid (RdrAt w1 (w1.alloc (.cells #[.slice (some ⟨b, off, none⟩) M.length cap, .bool false] 132)) w1.heap.size M false) := ⟨HBr.out, Nat.le_refl _, _, heap_alloc_new w1 _, .inr ⟨b, off, cap, rfl, hMc, hb1, HBm.out⟩⟩
    have HNu := hidd (number_any (most := 16384) hMl (by omega) HR0.out)
    obtain ⟨cn, hcn, hcn2⟩ := numR_val 16384 M false
    rw [hcn] at HNu
    have HSR : Hid (statesR M = stsN cn ([], (numR 16384 M false).2)) := by show _ = _; rw [statesR, hcn]; rfl
    have hql := Nat.le_trans (numR_len 16384 M false) hMl
    clear hcn
    generalize (numR 16384 M false).2 = q0 at *
    dsimp only
    go_upto_region 6 with fail
    obtain ⟨wr0, hwr0⟩ : ∃ wr0, w1.alloc (.cells #[.slice (some ⟨b, off, none⟩) M.length cap, .bool false] 132) = wr0 := ⟨_, rfl⟩
    rw [hwr0] at HNu HBr
    try rw [hwr0]
    have hsz0 : wr0.heap.size = w1.heap.size + 1 := by rw [← hwr0]; simp
    clear hwr0 HR0
    go_wp2_with fail
    refine HNu.out.mono ?_
    rintro e w2 ⟨rfl, hr2, hf2⟩
    have HI0 : Hid (StRd w1 w2 w1.heap.size w2.heap.size (.slice none 0 0) [] ([], q0)) := ⟨hr2, StsAt.nil w2 _, fun i j b _ hj => by simp at hj⟩
    clear hr2 hf2 HNu
    dsimp only
    obtain ⟨B, hB⟩ : ∃ B, w1.heap.size = B := ⟨_, rfl⟩
    have HB := hidd hB
    rw [hB] at HI0
    try rw [hB]
    clear hB hsz0 HBr HBm
    go_wp2_with fail
    go_loopw [7, 18] (fun vv iv wr => ∃ (i hi : Nat) (aV : Option Addr) (cV : Nat) (xs : List Value), i ≤ cn ∧ vv = .slice aV i cV ∧ iv = .int .i64 (i : Int) ∧ StRd w1 wr B hi (.slice aV i cV) xs (stsN i ([], q0))) (fun _ iv _ => cn - (intOf iv).toNat)
    case atStart => exact ⟨0, _, none, 0, [], Nat.zero_le _, rfl, rfl, HI0.out⟩
    case round =>
      clear HI0
      obtain ⟨i, hi, aV, cV, xs, hic, rfl, rfl, hst⟩ := hrel
      have HS := hidd hst
      clear hst
      have hpl : (stsN i ([], q0)).2.1.length ≤ 1048576 := Nat.le_trans (stsN_len i _) hql
      have hpn : (stsN i ([], q0)).1.length = i := by rw [stsN_num]; simp
      have HSu := hidd (stsN_succ i ([], q0))
      by_cases hlt : i < cn
      · have hltz : (i : Int) < (cn : Int) := by omega
        generalize stsN i ([], q0) = p at *
        obtain ⟨S, bs1, sh1⟩ := p
        dsimp only at hpl hpn HS
        subst hpn
        have HSt := hidd (state_any hpl HS.out.rdr)
        unfold stepS at HSu
        dsimp only at HSu
        generalize stateR bs1 sh1 = q at *
        obtain ⟨⟨f, l⟩, bs2, sh2⟩ := q
        dsimp only at HSt HSu
        go_wp2_with fail
        refine HSt.out.mono ?_
        rintro e w3 ⟨va, rfl, hr3, hf3, ho3⟩
        have HS3 : Hid (StRd w1 w3 B hi (.slice aV S.length cV) xs (S, bs2, sh2)) := ⟨hr3, HS.out.sts.keep hf3.1 fun b h1 h2 => hf3.2 b (Nat.lt_of_lt_of_le h2 HS.out.sts.le) (by omega), HS.out.dis⟩
        have hhi := HS.out.sts.le
        have hBr := HS.out.rdr.lt
        have HO3 := hidd ho3
        obtain ⟨aA, cA, rfl⟩ := own_form ho3
        clear hr3 ho3 HSt
        have hw3 := hf3.1
        clear hf3 HS
        obtain ⟨i1, hi1, hy0, hy1, hy2⟩ := info_parts Try.infoSt
        have HOr := hidd HS3.out.sts.row
        dsimp only
        go_wp2_with (at_builtin; refine wpList_append_lies _ rfl (.tmp 20) (.tmp 22) 28 rfl (B + 1) 104 i1 (.agg #[.bool false, .slice none 0 0]) 2 32 Try.underlying28 hi1 hy0 hy1 hy2 rfl (by decide) (.slice aV S.length cV) S.length xs rfl (HOr.out.alloc _) ⟨w3.heap.size, 0, none⟩ 1 1 [.bool f, .slice aA l.length cA] rfl rfl ?e1 ?e2 (by decide) ?e3 ?e4 ?e5 _ rfl ?_)
        case e2 => first | exact ⟨rfl, rfl⟩ | (intro u' hu'; simp at hu'; rcases hu' with rfl | rfl <;> rfl)
        case e3 => unfold maxLen; omega
        case e4 => omega
        case e5 => first | omega | (simp; omega)
        intro g6 cp6 w6 hown6 hgrow6 hat6 hlt6
        have HT := hidd (HS3.out.next (f := f) (l := l) (by omega) hhi HO3.out ((Below.refl _ _).alloc (Nat.le_refl _) _) hown6 hgrow6)
        clear hown6 hgrow6 hat6 hlt6 HS3 HOr HO3
        have HT2 : Hid (StRd w1 w6 B w6.heap.size (.slice (some ⟨g6, 0, none⟩) (S.length + 1) cp6) (xs ++ [.bool f, .slice aA l.length cA]) (stsN (S.length + 1) ([], q0))) := by
          show StRd _ _ _ _ _ _ _
          rw [HSu.out]
          exact HT.out
        clear HT
        go_wp2_with fail
        go_roundw
        case rel => exact ⟨S.length + 1, _, _, _, _, by omega, rfl, by go_num, HT2.out⟩
        case measure => simp [intOf]; omega
      · have hltz : ¬ (i : Int) < (cn : Int) := by omega
        have hie : i = cn := by omega
        subst hie
        have hwB : w.heap.size ≤ B := by have := HB1.out.size; have := HB.out; omega
        rw [HSR.out] at HRI
        have hsn := hpn
        generalize stsN i ([], q0) = p at *
        obtain ⟨S, bs1, sh1⟩ := p
        dsimp only at HS HRI hpn
        subst hpn
        have HBw : Hid (Below w.heap.size w wr) := HB1.out.trans (HS.out.rdr.old.mono HB1.out.size)
        obtain ⟨vR, hbx, hvR⟩ := HS.out.rdr.box
        obtain ⟨aR, cR, rfl⟩ : ∃ aR cR, vR = .slice aR bs1.length cR := by
          rcases hvR with ⟨rfl, a, c, rfl⟩ | ⟨b', off', c, rfl, _⟩
          · exact ⟨a, c, rfl⟩
          · exact ⟨_, c, rfl⟩
        have r0 := blkc hbx 0
        have r1 := blkc hbx 1
        clear hbx hvR hsn
        cases sh1 with
        | true =>
          have HN : Hid (rdI bs = none) := by show _ = _; rw [HRI.out, if_neg (fun h => by cases h.1)]
          go_wp2_with fail
          go_quiet (fail)
          go_wp2_with fail
          go_ret2
          exact ⟨below_drewN HBw.out nq, aV, S.length, cV, false, rfl, .inl ⟨rfl, HN.out⟩⟩
        | false =>
          by_cases h0 : bs1 = []
          · have hz : ((bs1.length : Int) == 0) = true := by rw [h0]; rfl
            have HN : Hid (rdI bs = some S) := by show _ = _; rw [HRI.out, if_pos ⟨rfl, h0⟩]
            clear h0
            go_wp2_with fail
            go_quiet (fail)
            go_wp2_with fail
            go_ret2
            exact ⟨below_drewN HBw.out nq, aV, S.length, cV, true, rfl, .inr ⟨rfl, S, B + 1, hi, xs, HN.out, rfl, by omega, HS.out.sts.keep (by simp) (fun b h1 h2 => by simp), HS.out.dis⟩⟩
          · have hz : ((bs1.length : Int) == 0) = false := beq_false_of_ne (fun e => h0 (List.length_eq_zero_iff.1 (by omega)))
            have HN : Hid (rdI bs = none) := by show _ = _; rw [HRI.out, if_neg (fun h => h0 h.2)]
            clear h0
            go_wp2_with fail
            go_quiet (fail)
            go_wp2_with fail
            go_ret2
            exact ⟨below_drewN HBw.out nq, aV, S.length, cV, false, rfl, .inl ⟨rfl, HN.out⟩⟩
  · have HN : Hid (rdI bs = none) := by
      show _ = _
      unfold SumOK at hno
      unfold rdI
      rw [if_neg hno]
    clear hno
    dsimp only
    go_wp2_with fail
    go_ret2
    exact ⟨HB1.out, none, 0, 0, false, rfl, .inl ⟨rfl, HN.out⟩⟩
end Go.Proofs.Ytjndogajdlophaa

namespace Go.Proofs.Ytjndogajdlophaa
open Go Go.RowKit Go.Shelf
set_option linter.unusedVariables false

/-! Aheads written into the arcs of states. -/
structure ButX (X : Nat → Prop) (w w' : World) : Prop where
  os : w'.os = w.os
  tape : w'.tape = w.tape
  output : w'.output = w.output
  size : w.heap.size ≤ w'.heap.size
  block : ∀ b, b < w.heap.size → ¬ X b → w'.heap[b]? = w.heap[b]?
theorem ButX.refl (X : Nat → Prop) (w : World) : ButX X w w := ⟨rfl, rfl, rfl, Nat.le_refl _, fun _ _ _ => rfl⟩
theorem ButX.trans {X Y Z : Nat → Prop} {a b c : World} (h : ButX X a b) (k : ButX Y b c) (hx : ∀ i, i < a.heap.size → X i → Z i) (hy : ∀ i, i < a.heap.size → Y i → Z i) : ButX Z a c :=
  ⟨k.os.trans h.os, k.tape.trans h.tape, k.output.trans h.output, Nat.le_trans h.size k.size, fun i hi hn =>
    (k.block i (Nat.lt_of_lt_of_le hi h.size) fun e => hn (hy i hi e)).trans (h.block i hi fun e => hn (hx i hi e))⟩
theorem ButX.of_below {X : Nat → Prop} {a b : World} (h : Below a.heap.size a b) : ButX X a b := ⟨h.os, h.tape, h.output, h.size, fun i hi _ => h.block i hi⟩
theorem ButX.below {X : Nat → Prop} {n : Nat} {a b : World} (h : ButX X a b) (hn : n ≤ a.heap.size) (hx : ∀ i, i < n → ¬ X i) : Below n a b :=
  ⟨h.os, h.tape, h.output, h.size, fun i hi => h.block i (by omega) (hx i hi)⟩
/-- The arcs of which some have their Ahead. -/
def updA (f : Bool) (E : List Nat) (l : List Ar) (pre : List Nat) : List Ar := l.mapIdx fun i a => if i ∈ pre then (a.1, a.2.1, ((ahN f E l i : Nat) : Int)) else a
theorem updA_len (f : Bool) (E : List Nat) (l : List Ar) (pre : List Nat) : (updA f E l pre).length = l.length := by simp [updA]
theorem updA_nil (f : Bool) (E : List Nat) (l : List Ar) : updA f E l [] = l := by
  apply List.ext_getElem
  · simp [updA]
  · intro i h1 h2; simp [updA]
theorem updA_at (f : Bool) (E : List Nat) (l : List Ar) (pre : List Nat) {i : Nat} (h : i < l.length) : (updA f E l pre).getD i ar0 = if i ∈ pre then ((l.getD i ar0).1, (l.getD i ar0).2.1, ((ahN f E l i : Nat) : Int)) else l.getD i ar0 := by
  simp [updA, List.getD_eq_getElem?_getD, h]
theorem ahdA_len (E : List Nat) : ∀ (n : Nat) (l : List Ar), (ahdA E n l).length = l.length := fun n l => by
  have := congrArg List.length (ahdA_bare E l n)
  simpa using this
theorem updA_all (f : Bool) (E : List Nat) (l : List Ar) (pre : List Nat) (h : ∀ i, i < l.length → i ∈ pre) : updA f E l pre = ahdA E (if f then 1 else 0) l := by
  apply List.ext_getElem
  · rw [updA_len, ahdA_len]
  · intro i h1 h2
    rw [updA_len] at h1
    have e1 : (updA f E l pre)[i] = (l[i].1, l[i].2.1, ((ahN f E l i : Nat) : Int)) := by simp [updA, h i h1]
    have e2 := ahdA_at E l (if f then 1 else 0) i _ (List.getElem?_eq_getElem h2)
    have e3 : bareA ((ahdA E (if f then 1 else 0) l)[i]) = bareA l[i] := by
      have := congrArg (fun (t : List Ar) => t[i]?) (ahdA_bare E l (if f then 1 else 0))
      simp [h1, h2] at this
      exact this
    rw [e1]
    have e4 : (ahdA E (if f then 1 else 0) l)[i].1 = l[i].1 ∧ (ahdA E (if f then 1 else 0) l)[i].2.1 = l[i].2.1 := by
      unfold bareA at e3
      simp only [Prod.mk.injEq, and_true] at e3
      exact e3
    refine Prod.ext e4.1.symm (Prod.ext e4.2.symm ?_)
    rw [e2]
    rfl
/-- One Ahead more. -/
theorem HoldA.ahead {W : World} {b off : Nat} {f : Bool} {E : List Nat} {l : List Ar} {pre : List Nat} {x : Nat} {cur : Array Value} (h : HoldA W (some ⟨b, off, none⟩) (updA f E l pre)) (hx : x < l.length) (hb : W.heap[b]? = some (.cells cur 110)) :
    HoldA (W.setCell ⟨b, off + x * 3 + 2, none⟩ (.int .i64 ((ahN f E l x : Nat) : Int))) (some ⟨b, off, none⟩) (updA f E l (pre ++ [x])) := by
  rcases h with h | ⟨b', off', e, hbl, hc⟩
  · have := congrArg List.length h
    rw [updA_len, List.length_nil] at this
    omega
  · cases e
    refine Or.inr ⟨b, off, rfl, by simpa using hbl, fun k hk => ?_⟩
    rw [updA_len] at hk
    have hc' := hc k (by rw [updA_len]; exact hk)
    rw [updA_at f E l pre hk] at hc'
    rw [updA_at f E l (pre ++ [x]) hk]
    have hs := blk_setk hb (off + x * 3 + 2) (.int .i64 ((ahN f E l x : Nat) : Int))
    have cell : ∀ j, j ≠ off + x * 3 + 2 → (W.setCell ⟨b, off + x * 3 + 2, none⟩ (.int .i64 ((ahN f E l x : Nat) : Int))).cell? ⟨b, j, none⟩ = W.cell? ⟨b, j, none⟩ := fun j hj => by
      rw [blkc hs j, blkc hb j, Array.getElem?_setIfInBounds_ne (by omega)]
    rw [cell _ (by omega), cell _ (by omega)]
    by_cases hkx : k = x
    · subst hkx
      have hlt : off + k * 3 + 2 < cur.size := by
        have := hc'.2.2
        rw [blkc hb] at this
        exact (Array.getElem?_eq_some_iff.1 this).1
      rw [if_pos (by simp)]
      refine ⟨?_, ?_, ?_⟩
      · rw [hc'.1]; split <;> rfl
      · rw [hc'.2.1]; split <;> rfl
      · rw [blkc hs, Array.getElem?_setIfInBounds_self_of_lt hlt]
    · rw [cell _ (by omega)]
      have hm : (k ∈ pre ++ [x]) ↔ k ∈ pre := by simp [hkx]
      simp only [hm]
      exact hc'
end Go.Proofs.Ytjndogajdlophaa

namespace Go.Proofs.Ytjndogajdlophaa
open Go Go.RowKit Go.Shelf
set_option linter.unusedVariables false
attribute [local go_sem] Oper.semAt_some

/-- States of which the first k have their Aheads. -/
structure DoAt (w W : World) (xs : List Value) (S : List St) (E : List Nat) (k : Nat) : Prop where
  but : ButX (fun b => ∃ j, j < S.length ∧ LiesX xs j b) w W
  arcs : ∀ j, j < S.length → ∀ aj n cj, xs[j * 2 + 1]? = some (.slice aj n cj) → HoldA W aj (if j < k then (ahdS E (S.getD j st0)).2 else (S.getD j st0).2)
  typ : ∀ j b, j < S.length → LiesX xs j b → ∃ cur, W.heap[b]? = some (.cells cur 110)
theorem DoAt.start {w : World} {lo hi : Nat} {v : Value} {S : List St} {xs : List Value} (E : List Nat) (h : StsAt w lo hi v S xs) : DoAt w w xs S E 0 := by
  refine ⟨ButX.refl _ _, fun j hj aj n cj e => ?_, fun j b hj hb => ?_⟩
  · obtain ⟨_, a', c', q2, q3, _⟩ := h.sts j hj
    rw [q2] at e
    simp only [Option.some.injEq, Value.slice.injEq] at e
    rw [if_neg (by omega), ← e.1]
    exact q3
  · obtain ⟨_, a', c', q2, _, q4⟩ := h.sts j hj
    obtain ⟨off, n, c, e⟩ := hb
    rw [q2] at e
    simp only [Option.some.injEq, Value.slice.injEq] at e
    exact (q4 b off e.1).2.2
theorem DoAt.below {w W W' : World} {xs : List Value} {S : List St} {E : List Nat} {k : Nat} (h : DoAt w W xs S E k) (hb : Below W.heap.size W W') : DoAt w W' xs S E k :=
  ⟨h.but.trans (ButX.of_below (X := fun _ => False) hb) (fun _ _ q => q) (fun _ _ q => q.elim), fun j hj aj n cj e => (h.arcs j hj aj n cj e).below hb, fun j b hj hl => by
    obtain ⟨cur, hc⟩ := h.typ j b hj hl
    exact ⟨cur, blko hc hb⟩⟩
/-- Within one state. -/
def IDo (w3 : World) (xs : List Value) (k : Nat) (ai : Option Addr) (f : Bool) (E : List Nat) (l : List Ar) (pre : List (Fin l.length)) (W : World) : Prop :=
  ButX (fun b => LiesX xs k b) w3 W ∧ HoldA W ai (updA f E l (pre.map Fin.val)) ∧ ∀ b, LiesX xs k b → ∃ cur, W.heap[b]? = some (.cells cur 110)
theorem IDo.store {w3 W : World} {xs : List Value} {k b off : Nat} {f : Bool} {E : List Nat} {l : List Ar} {pre : List (Fin l.length)} (x : Fin l.length) (h : IDo w3 xs k (some ⟨b, off, none⟩) f E l pre W) (hb : LiesX xs k b) :
    KeepsOthers W (W.setCell ⟨b, off + x.val * 3 + 2, none⟩ (.int .i64 ((ahN f E l x.val : Nat) : Int))) ∧ KpA (some ⟨b, off, none⟩) l W (W.setCell ⟨b, off + x.val * 3 + 2, none⟩ (.int .i64 ((ahN f E l x.val : Nat) : Int))) ∧ IDo w3 xs k (some ⟨b, off, none⟩) f E l (pre ++ [x]) (W.setCell ⟨b, off + x.val * 3 + 2, none⟩ (.int .i64 ((ahN f E l x.val : Nat) : Int))) := by
  obtain ⟨h1, h2, h3⟩ := h
  obtain ⟨cur, hc⟩ := h3 b hb
  have hx := x.isLt
  have ho : ∀ b', b' ≠ b → (W.setCell ⟨b, off + x.val * 3 + 2, none⟩ (.int .i64 ((ahN f E l x.val : Nat) : Int))).heap[b']? = W.heap[b']? := fun b' hb' => heap_set_other W b _ _ b' hb'
  have hs := blk_setk hc (off + x.val * 3 + 2) (.int .i64 ((ahN f E l x.val : Nat) : Int))
  refine ⟨KeepsOthers.setCell _ _ _, ⟨fun k' o hne hk' _ => ?_, fun hT => ?_⟩, ⟨h1.os, h1.tape, h1.output, by simpa using h1.size, fun b' hb' hn => ?_⟩, ?_, fun b' hb' => ?_⟩
  · rw [ho k' (fun e => hne off (by rw [e]))]; exact hk'
  · rcases hT with hT | ⟨b2, o2, e, hT⟩
    · exact Or.inl hT
    · cases e
      refine Or.inr ⟨b, off, rfl, fun j hj => ?_⟩
      obtain ⟨t1, t2, v, t3⟩ := hT j hj
      have cell : ∀ m, m ≠ off + x.val * 3 + 2 → (W.setCell ⟨b, off + x.val * 3 + 2, none⟩ (.int .i64 ((ahN f E l x.val : Nat) : Int))).cell? ⟨b, m, none⟩ = W.cell? ⟨b, m, none⟩ := fun m hm => by
        rw [blkc hs m, blkc hc m, Array.getElem?_setIfInBounds_ne (by omega)]
      rw [cell _ (by omega), cell _ (by omega)]
      refine ⟨t1, t2, ?_⟩
      by_cases hjx : j = x.val
      · subst hjx
        have hlt : off + x.val * 3 + 2 < cur.size := by
          rw [blkc hc] at t3
          exact (Array.getElem?_eq_some_iff.1 t3).1
        exact ⟨_, by rw [blkc hs, Array.getElem?_setIfInBounds_self_of_lt hlt]⟩
      · exact ⟨v, by rw [cell _ (by omega)]; exact t3⟩
  · rw [ho b' (fun e => hn (e ▸ hb))]; exact h1.block b' hb' hn
  · rw [List.map_append]
    exact h2.ahead hx hc
  · by_cases e : b' = b
    · subst e; exact ⟨_, hs⟩
    · obtain ⟨cur2, hc2⟩ := h3 b' hb'
      exact ⟨cur2, (ho b' e).trans hc2⟩
theorem DoAt.step {w w3 W : World} {xs : List Value} {S : List St} {E : List Nat} {k : Nat} {ai : Option Addr} {ci n : Nat} {ys : List (Fin (arcsAt S k).length)} (h : DoAt w w3 xs S E k) (hk : k < S.length) (hx : xs[k * 2 + 1]? = some (.slice ai n ci)) (hd : DisX xs S.length)
    (hi : IDo w3 xs k ai (finAt S k) E (arcsAt S k) ys W) (hy : ys.map Fin.val = List.range (arcsAt S k).length) : DoAt w W xs S E (k + 1) := by
  obtain ⟨hb, hA, hT⟩ := hi
  have hne : ∀ j b, j < S.length → j ≠ k → LiesX xs j b → ¬ LiesX xs k b := fun j b hj hjk h1 h2 => by
    rcases Nat.lt_or_ge j k with q | q
    · exact hd j k b q hk h1 h2
    · exact hd k j b (by omega) hj h2 h1
  refine ⟨h.but.trans hb (fun _ _ q => q) (fun i _ q => ⟨k, hk, q⟩), fun j hj aj n' cj e => ?_, fun j b hj hl => ?_⟩
  · by_cases hjk : j = k
    · subst hjk
      rw [hx] at e
      simp only [Option.some.injEq, Value.slice.injEq] at e
      rw [if_pos (by omega), ← e.1]
      rw [hy, updA_all _ _ _ _ (fun i hi => by simpa using hi)] at hA
      exact hA
    · have h1 := h.arcs j hj aj n' cj e
      have : (if j < k + 1 then (ahdS E (S.getD j st0)).2 else (S.getD j st0).2) = (if j < k then (ahdS E (S.getD j st0)).2 else (S.getD j st0).2) := by
        by_cases q : j < k
        · rw [if_pos q, if_pos (by omega)]
        · rw [if_neg q, if_neg (by omega)]
      rw [this]
      exact h1.keep hb.size fun b off e' hbl => hb.block b hbl (hne j b hj hjk ⟨off, n', cj, by rw [e, e']⟩)
  · by_cases hjk : j = k
    · subst hjk; exact hT b hl
    · obtain ⟨cur, hc⟩ := h.typ j b hj hl
      exact ⟨cur, (hb.block b (Array.getElem?_eq_some_iff.1 hc).1 (hne j b hj hjk hl)).trans hc⟩
theorem DoAt.done {w W : World} {lo hi : Nat} {v : Value} {xs : List Value} {S : List St} {E : List Nat} (h : DoAt w W xs S E S.length) (hs : StsAt w lo hi v S xs) : StsAt W lo hi v (S.map (ahdS E)) xs := by
  have hl : (S.map (ahdS E)).length = S.length := by simp
  refine ⟨Nat.le_trans hs.le h.but.size, ?_, hs.own, fun j hj => ?_⟩
  · rw [hl]
    refine own_congr hs.row fun b hb => h.but.block b (hs.row.lt b hb).2 ?_
    rintro ⟨j, hj, hlx⟩
    obtain ⟨_, cur, hc⟩ := own_blk hs.row hb
    obtain ⟨_, aj, cj, q2, _, q4⟩ := hs.sts j hj
    obtain ⟨off, n, c, e⟩ := hlx
    rw [q2] at e
    simp only [Option.some.injEq, Value.slice.injEq] at e
    obtain ⟨_, _, cur2, hc2⟩ := q4 b off e.1
    exact blk_ne hc hc2 (by decide) rfl
  · rw [hl] at hj
    obtain ⟨q1, aj, cj, q2, q3, q4⟩ := hs.sts j hj
    have e0 : (S.map (ahdS E)).getD j st0 = ahdS E (S.getD j st0) := getD_ahd E S hj
    have e1 : (ahdS E (S.getD j st0)).2.length = (S.getD j st0).2.length := ahdA_len _ _ _
    rw [e0]
    refine ⟨q1, aj, cj, by rw [e1]; exact q2, ?_, fun b off e => ?_⟩
    · have := h.arcs j hj aj _ cj q2
      rw [if_pos hj] at this
      exact this
    · obtain ⟨r1, r2, _⟩ := q4 b off e
      exact ⟨r1, r2, h.typ j b hj ⟨off, _, cj, by rw [q2, e]⟩⟩
theorem DoAt.row {w W : World} {lo hi k : Nat} {v : Value} {xs : List Value} {S : List St} {E : List Nat} (h : DoAt w W xs S E k) (hs : StsAt w lo hi v S xs) : W.ownsRow lo 104 2 v S.length xs := by
  refine own_congr hs.row fun b hb => h.but.block b (hs.row.lt b hb).2 ?_
  rintro ⟨j, hj, hlx⟩
  obtain ⟨_, cur, hc⟩ := own_blk hs.row hb
  obtain ⟨_, aj, cj, q2, _, q4⟩ := hs.sts j hj
  obtain ⟨off, n, c, e⟩ := hlx
  rw [q2] at e
  simp only [Option.some.injEq, Value.slice.injEq] at e
  obtain ⟨_, _, cur2, hc2⟩ := q4 b off e.1
  exact blk_ne hc hc2 (by decide) rfl
theorem rowCells {W : World} {lo n c : Nat} {a : Option Addr} {xs : List Value} {t : TypeId} (h : W.ownsRow lo t 2 (.slice a n c) n xs) {j : Nat} (hj : j < n) : ∃ g, a = some ⟨g, 0, none⟩ ∧ W.cell? ⟨g, j * 2, none⟩ = xs[j * 2]? ∧ W.cell? ⟨g, j * 2 + 1, none⟩ = xs[j * 2 + 1]? := by
  rcases h.2 with ⟨_, e⟩ | ⟨g, cap, cur, e, _⟩
  · omega
  · simp only [Value.slice.injEq] at e
    obtain ⟨rfl, _, rfl⟩ := e
    exact ⟨g, rfl, h.cellAt (j * 2) (by omega), h.cellAt (j * 2 + 1) (by omega)⟩
set_option maxHeartbeats 4000000 in
set_option maxRecDepth 100000 in
theorem dictOf_any (a : Option Addr) (c : Nat) (S : List St) (E : List Nat) (be lo hi : Nat) (xs : List Value) (w : World) (hs : StsAt w lo hi (.slice a S.length c) S xs) (hd : DisX xs S.length) (hrow : w.heap[be]? = some (.cells (nCellsE E).toArray 3)) (hok : EndOK S E) (hAr : ∀ i, (arcsAt S i).length ≤ 1048576) (hbe : ∀ j, j < S.length → ¬ LiesX xs j be) :
    Calls Try.prog 40 #[.slice a S.length c, .slice (some ⟨be, 0, none⟩) S.length S.length] w fun e w' => e = .returned (.agg #[.int .i64 ((valE E 0 : Nat) : Int), .slice a S.length c]) ∧ StsAt w' lo hi (.slice a S.length c) (S.map (ahdS E)) xs ∧ ButX (fun b => ∃ j, j < S.length ∧ LiesX xs j b) w w' := by
  have HBa := hidd ((Below.refl w.heap.size w).alloc (Nat.le_refl _) (.cells #[.int .i64 0, .slice none 0 0] 30))
  have HX0 := hidd (heap_alloc_new w (.cells #[.int .i64 0, .slice none 0 0] 30))
  have HD0 := hidd ((DoAt.start E hs).below HBa.out)
  have HS := hidd hs
  have HDi := hidd hd
  have HOk := hidd hok
  have HBe := hidd hbe
  have HRow0 := hidd (blko hrow HBa.out)
  clear hs hd hok hbe hrow
  refine (callsIn_wide (n := 4)).1 ?_
  refine callsIn_of_wp_marks Try.func40 rfl trivial ?_ rfl
  simp only [Try.ntmps40, List.size_toArray, List.length_cons, List.length_nil, Nat.reduceAdd, Nat.reduceSub, Array.replicate_succ, Array.replicate_zero, List.push_toArray, List.append_toArray, List.nil_append, List.cons_append]
  refine wpIn_wide.2 ?_
  go_upto_region 1 with fail
  obtain ⟨w1, hw1⟩ : ∃ w1, w.alloc (.cells #[.int .i64 0, .slice none 0 0] 30) = w1 := ⟨_, rfl⟩
  rw [hw1] at HBa HX0 HD0 HRow0
  try rw [hw1]
  clear hw1
  go_wp2_with fail
  refine wp_loop (fun a' w' => ∃ (k : Nat) (u6 u7 u8 u12 u13 u14 u15 u16 u17 u18 u19 u20 u21 u22 u23 u24 u25 u26 : Value) (Ds : List Nat), a' = { tmps := #[.slice a S.length c, .slice (some ⟨be, 0, none⟩) S.length S.length, undef, undef, .pointer (some ⟨w.heap.size, 0, none⟩), undef, u6, u7, u8, .slice a S.length c, .int .i64 (S.length : Int), .int .i64 (k : Int), u12, u13, u14, u15, u16, u17, u18, u19, u20, u21, u22, u23, u24, u25, u26, undef, undef, undef, undef, undef], defers := Ds.map mark } ∧ k ≤ S.length ∧ DoAt w w' xs S E k ∧ w'.heap[w.heap.size]? = some (.cells #[.int .i64 0, .slice none 0 0] 30) ∧ w'.heap[be]? = some (.cells (nCellsE E).toArray 3) ∧ Marks w' w.heap.size Ds) (fun a' _ => S.length - (intOf (a'.tmps.getD 11 undef)).toNat) ⟨0, undef, undef, undef, undef, undef, undef, undef, undef, undef, undef, undef, undef, undef, undef, undef, undef, undef, undef, [], rfl, Nat.zero_le _, HD0.out, HX0.out, HRow0.out, ⟨List.nodup_nil, by simp⟩⟩ ?_
  rintro _ wr ⟨k, u6, u7, u8, u12, u13, u14, u15, u16, u17, u18, u19, u20, u21, u22, u23, u24, u25, u26, Ds, rfl, hk, hdo, hres, hrw, hmk⟩
  have HDo := hidd hdo
  have HRes := hidd hres
  have HRow := hidd hrw
  have HMk := hidd hmk
  clear hdo hres hrw hmk HD0 HX0 HRow0 HBa
  have HrS := hidd (HDo.out.row HS.out)
  have hzr : w.heap.size < wr.heap.size := (Array.getElem?_eq_some_iff.1 HRes.out).1
  have hzb : be < wr.heap.size := (Array.getElem?_eq_some_iff.1 HRow.out).1
  have hElen := HOk.out.len
  have hrng := HOk.out.range
  by_cases hlt : k < S.length
  · have hltz : (k : Int) < (S.length : Int) := by omega
    obtain ⟨g, rfl, hg0, hg1⟩ := rowCells HrS.out hlt
    obtain ⟨q1, ai, ci, q2, q3, q4⟩ := HS.out.sts k hlt
    rw [q1] at hg0
    rw [q2] at hg1
    have hfk : (S.getD k st0).1 = finAt S k := rfl
    have hak : (S.getD k st0).2 = arcsAt S k := rfl
    rw [hfk] at hg0
    rw [hak] at hg1 q2
    have HAi : Hid (HoldA wr ai (arcsAt S k)) := by
      have := HDo.out.arcs k hlt ai _ ci q2
      rw [if_neg (by omega)] at this
      exact this
    have Hq2 := hidd q2
    have HLt : Hid (∀ b, LiesX xs k b → b < w.heap.size ∧ b ≠ be) := fun b hb => ⟨by have := (hb.range HS.out hlt).2; have := HS.out.le; omega, fun e => HBe.out k hlt (e ▸ hb)⟩
    have HAl := hidd (HOk.out.arcs k hlt)
    clear q1 q2 q3 q4
    go_wp2_with fail
    refine (callsIn_wide.1 (aheads_any Fence.wide 3 trivial rfl _ _ _ _ _ _ _ _)).mono ?_
    rintro e w3 ⟨rfl, hw3⟩
    have hB3 := box_three wr (.cells #[.bool (finAt S k), .slice ai (arcsAt S k).length ci] 104) (.cells #[.bool (finAt S k), .slice ai (arcsAt S k).length ci] 104) (.cells #[.slice (some ⟨be, 0, none⟩) S.length S.length] 71)
    rw [← hw3] at hB3
    have hbel : Below wr.heap.size wr w3 := by rw [hw3]; exact (((Below.refl _ _).alloc (Nat.le_refl _) _).alloc (by simp) _).alloc (by simp; omega) _
    have hsz3 : w3.heap.size = wr.heap.size + 3 := by rw [hw3]; simp
    have HX := hidd hB3
    have HRow4 := hidd (blko HRow.out hbel)
    have HRes4 := hidd (blko HRes.out hbel)
    have HDo4 := hidd (HDo.out.below hbel)
    have HM4 : Hid (Marks w3 w.heap.size Ds) := HMk.out.keep (fun D hD => blko hD hbel)
    have HAi4 := hidd (HAi.out.below hbel)
    clear hw3 hB3 hbel hg0 hg1 HMk HRow HRes HDo HAi HrS
    simp only [World.size_alloc] at *
    have Hsz3 := hidd hsz3
    clear hsz3
    go_wp2_with fail
    refine (wpIn_wide (n := 4)).1 ?_
    have HLx : Hid (∀ b off, ai = some ⟨b, off, none⟩ → LiesX xs k b) := fun b off e => ⟨off, _, ci, by rw [Hq2.out, e]⟩
    have HT3 : Hid (∀ b, LiesX xs k b → ∃ cur, w3.heap[b]? = some (.cells cur 110)) := fun b hb => HDo4.out.typ k b hlt hb
    refine wpIn_rangeFunc_ownF rfl (by omega) (gf := 89) (lb := #[.pointer (some ⟨wr.heap.size + 1, 0, none⟩), .pointer (some ⟨wr.heap.size + 1 + 1, 0, none⟩)]) rfl trivial (enters_of Try.func89 (by kernel_rfl) rfl)
      (ahead_stops Fence.wide _ trivial rfl (by omega) (wr.heap.size + 1) (wr.heap.size + 1 + 1) be S.length (finAt S k) ai (arcsAt S k) ci E (hAr k) (fun p hp => by have := HAl.out.2 p hp; rw [hElen]; exact this.2.2) (by omega) (fun x _ => Nat.le_trans (HOk.out.bound hlt x) (by omega)) w3 HX.out.2.1 (by rw [hElen]; exact HX.out.2.2) HRow4.out ?ne HAi4.out) KpA.trans
      (fun W l o o' hlo ho hc _ => KpA.of fun i q h1 h2 => (World.putObj_heap_other (by rintro rfl; rw [ho] at h1; cases h1; rw [hc] at h2; cases h2)).trans h1) (Below.refl _ _) (fun _ => rfl)
      (IDo w3 xs k ai (finAt S k) E (arcsAt S k)) (fun _ _ _ => False) ?own (fun _ _ _ _ _ h _ _ => h) ⟨ButX.refl _ _, by rw [List.map_nil, updA_nil]; exact HAi4.out, HT3.out⟩
      (fun x => { tmps := #[.slice (some ⟨g, 0, none⟩) S.length c, .slice (some ⟨be, 0, none⟩) S.length S.length, undef, undef, .pointer (some ⟨w.heap.size, 0, none⟩), undef, .pointer (some ⟨wr.heap.size, 0, none⟩), .int .i64 (x.val : Int), .int .i64 ((ahN (finAt S k) E (arcsAt S k) x.val : Nat) : Int), .slice (some ⟨g, 0, none⟩) S.length c, .int .i64 (S.length : Int), .int .i64 (k : Int), .bool true, .pointer (some ⟨g, k * 2, none⟩), .agg #[.bool (finAt S k), .slice ai (arcsAt S k).length ci], .agg #[.bool (finAt S k), .slice ai (arcsAt S k).length ci], .slice (some ⟨be, 0, none⟩) S.length S.length, .func (.func 89) #[] #[.pointer (some ⟨wr.heap.size + 1, 0, none⟩), .pointer (some ⟨wr.heap.size + 1 + 1, 0, none⟩)], .int .i64 (x.val : Int), .int .i64 ((ahN (finAt S k) E (arcsAt S k) x.val : Nat) : Int), u20, u21, u22, u23, u24, u25, u26, undef, undef, undef, undef, undef], defers := [] }) ?assign ?body ?done ?stop
    case ne =>
      intro hnn off
      refine ⟨fun e => ?_, fun e => ?_, fun e => ?_⟩
      · have := (HLt.out _ (HLx.out _ _ e)).1; omega
      · have := (HLt.out _ (HLx.out _ _ e)).1; omega
      · exact (HLt.out _ (HLx.out _ _ e)).2 rfl
    case own =>
      rintro pre W W' row ⟨h1, h2, h3⟩ hg hr
      have hb : ∀ b, b < w3.heap.size → W'.heap[b]? = W.heap[b]? := fun b hb => hg.block b (Nat.lt_of_lt_of_le hb h1.size) (fun e => by have := (hr b e.symm).1; omega)
      refine ⟨⟨hg.os.trans h1.os, hg.tape.trans h1.tape, hg.output.trans h1.output, Nat.le_trans h1.size hg.size, fun b hbl hn => (hb b hbl).trans (h1.block b hbl hn)⟩, h2.keep hg.size fun b off e _ => hb b ?_, fun b hbx => ?_⟩
      · have := (HLt.out _ (HLx.out _ _ e)).1
        have := Hsz3.out
        omega
      · obtain ⟨cur, hc⟩ := h3 b hbx
        have := (HLt.out _ hbx).1
        have := Hsz3.out
        exact ⟨cur, (hb b (by omega)).trans hc⟩
    case assign =>
      intro l x W K hK
      unfold ahOf
      gi_wp2
      exact hK
    case body =>
      rintro l pre x W ⟨hbW, hAW, hTW⟩ hlt2
      have hxl := x.isLt
      have hbx : W.heap[wr.heap.size]? = some (.cells #[.bool (finAt S k), .slice ai (arcsAt S k).length ci] 104) := (hbW.block _ (by have := Hsz3.out; omega) (fun e => by have := (HLt.out _ e).1; omega)).trans HX.out.1
      have q1 : W.cell? ⟨wr.heap.size, 1, none⟩ = some (.slice ai (arcsAt S k).length ci) := blkc hbx 1
      have hxz : (x.val : Int) < ((arcsAt S k).length : Int) := by omega
      obtain ⟨b', off', rfl, hb', hcell⟩ := hAW.resolve_left (fun h => by have := congrArg List.length h; rw [updA_len, List.length_nil] at this; omega)
      obtain ⟨cur, hcur⟩ := hTW b' (HLx.out _ _ rfl)
      have x2 := (hcell x.val (by rw [updA_len]; exact hxl)).2.2
      have f2 : W.frozen? ⟨b', off' + x.val * 3 + 2, none⟩ = false := frozen_of_row W b' _ cur _ hcur
      have HSto := hidd (IDo.store x ⟨hbW, hAW, hTW⟩ (HLx.out _ _ rfl))
      have HbW := hidd hbW
      have HAW := hidd hAW
      have HTW := hidd hTW
      have Hcur := hidd hcur
      have Hcell := hidd hcell
      clear hbW hAW hTW hcur hcell hbx
      generalize hpv : ((updA (finAt S k) E (arcsAt S k) (pre.map Fin.val)).getD x.val ar0).2.2 = pv at *
      clear hpv
      generalize hav : ahN (finAt S k) E (arcsAt S k) x.val = av at *
      have HAv := hidd hav
      clear hav
      have Hx := hidd hxl
      generalize hxv : x.val = xv at *
      gi_wp2
      exact HSto.out
    case done =>
      rintro D ys W hD hys hI hK
      have HI := hidd hI
      have Hys := hidd hys
      have HD := hidd hD
      have HKD := hidd hK
      clear hI hys hD hK
      have HDo5 := hidd (HDo4.out.step hlt Hq2.out HDi.out HI.out Hys.out)
      have HB5 : Hid (ButX (fun b => LiesX xs k b) w3 W) := HI.out.1
      have hz3 := Hsz3.out
      go_wp2_with fail
      refine ⟨⟨k + 1, _, _, _, _, _, _, _, _, _, _, _, _, _, _, _, _, _, _, D :: Ds, rfl, by omega, HDo5.out, (HB5.out.block _ (by omega) (fun e => by have := (HLt.out _ e).1; omega)).trans HRes4.out, (HB5.out.block _ (by omega) (fun e => (HLt.out _ e).2 rfl)).trans HRow4.out, ?_⟩, ?_⟩
      · refine Marks.push (HM4.out.keep fun D' h => ?_) (by have := HD.out; omega) HKD.out ?_
        · refine (HB5.out.block _ (Array.getElem?_eq_some_iff.1 h).1 (fun e => ?_)).trans h
          obtain ⟨cur, hc⟩ := HT3.out _ e
          rw [h] at hc; cases hc
        · intro hm
          have := HM4.out.lt hm
          have := HD.out
          omega
      · simp [intOf]; omega
    case stop =>
      rintro D cd pre W hD _ hF hK
      exact hF.elim
  · have hltz : ¬ (k : Int) < (S.length : Int) := by omega
    have hke : k = S.length := by omega
    rw [hke] at HDo
    have HSt := hidd (HDo.out.done HS.out)
    have e0 : wr.cell? ⟨be, 0, none⟩ = some (.int .i64 ((valE E 0 : Nat) : Int)) := by rw [blkc HRow.out 0]; simp [nCellsE, valE, show 0 < E.length by omega]
    have hS0 : (0 : Int) < (S.length : Int) := by omega
    have x0 := blkc HRes.out 0
    have x1 := blkc HRes.out 1
    have f0 := blkf HRes.out 0
    have f1 := blkf HRes.out 1
    generalize hV : valE E 0 = V at *
    have HV := hidd hV
    clear hV
    have HXs := hidd (blk_set2 (x := .int .i64 (V : Int)) (y := .slice a S.length c) HRes.out)
    have Hbut : Hid (ButX (fun b => ∃ j, j < S.length ∧ LiesX xs j b) w ((wr.setCell ⟨w.heap.size, 0, none⟩ (.int .i64 (V : Int))).setCell ⟨w.heap.size, 1, none⟩ (.slice a S.length c))) := by
      refine ⟨HDo.out.but.os, HDo.out.but.tape, HDo.out.but.output, by have := HDo.out.but.size; simpa using this, fun b hb hn => ?_⟩
      rw [heap_set_other _ w.heap.size 1 _ b (by omega), heap_set_other wr w.heap.size 0 _ b (by omega)]
      exact HDo.out.but.block b hb hn
    have HSt2 : Hid (StsAt ((wr.setCell ⟨w.heap.size, 0, none⟩ (.int .i64 (V : Int))).setCell ⟨w.heap.size, 1, none⟩ (.slice a S.length c)) lo hi (.slice a S.length c) (S.map (ahdS E)) xs) := HSt.out.keep (by simp) fun b h1 h2 => by
      have := HS.out.le
      rw [heap_set_other _ w.heap.size 1 _ b (by omega), heap_set_other wr w.heap.size 0 _ b (by omega)]
    clear HSt HDo
    go_wp2_with fail
    refine leaves_marks (B := w.heap.size) Ds _ _ (HMk.out.keep fun D h => ?_) (AllBut.refl _) (Below.refl _ _) ?_
    · rw [heap_set_other _ w.heap.size 1 _ D (fun e => by rw [e, HRes.out] at h; cases h), heap_set_other wr w.heap.size 0 _ D (fun e => by rw [e, HRes.out] at h; cases h)]
      exact h
    · intro w' ha hb
      have k3 : w'.heap[w.heap.size]? = some (.cells #[.int .i64 (V : Int), .slice a S.length c] 30) := (ha.block _ (by rw [HXs.out]; simp)).trans HXs.out
      have k4 := blkc k3 0
      have k5 := blkc k3 1
      refine ⟨.agg #[.int .i64 (V : Int), .slice a S.length c], by simp [results, Try.results40, go_sem, k4, k5], by rw [HV.out], ?_, ?_⟩
      · refine HSt2.out.keep (by rw [ha.size]; exact Nat.le_refl _) fun b h1 h2 => hb.block b ?_
        have := HS.out.le
        omega
      · refine ⟨hb.os.trans Hbut.out.os, hb.tape.trans Hbut.out.tape, hb.output.trans Hbut.out.output, Nat.le_trans Hbut.out.size (by rw [ha.size]; exact Nat.le_refl _), fun b hb' hn => (hb.block b hb').trans (Hbut.out.block b hb' hn)⟩
end Go.Proofs.Ytjndogajdlophaa

namespace Go.Proofs.Ytjndogajdlophaa
open Go Go.RowKit
set_option linter.unusedVariables false
set_option maxRecDepth 100000

/-- What the program's reader does: its answer owns its memory, place by place. -/
def ReadI (fn : Nat) : Prop := ∀ (b off cap : Nat) (bs : List UInt8) (w : World), bs.length ≤ 9223372036854775807 → bs.length ≤ cap → BytesAt w b off bs → b < w.heap.size →
  Calls Try.prog fn #[.slice (some ⟨b, off, none⟩) bs.length cap] w fun e w' => ∃ a c lo hi xs, e = .returned (.tuple #[.agg #[.int .i64 (readO bs).1.1, .slice a (readO bs).1.2.length c], .int .i64 (readO bs).2]) ∧ w.heap.size ≤ lo ∧ StsAt w' lo hi (.slice a (readO bs).1.2.length c) (readO bs).1.2 xs ∧ DisX xs (readO bs).1.2.length ∧ Below w.heap.size w w'
set_option maxHeartbeats 8000000 in
theorem implRead_any : ReadI 13 := by
  intro b off cap bs w hlen hcap hc hb
  have Hc := hidd hc
  clear hc
  have HBa : Hid (Below w.heap.size w (w.alloc (.cells #[.int .i64 0, .slice none 0 0] 30))) := (Below.refl _ _).alloc (Nat.le_refl _) _
  have HX0 := hidd (heap_alloc_new w (.cells #[.int .i64 0, .slice none 0 0] 30))
  go_enter Try.func13, Try.ntmps13
  go_upto_region 1 with fail
  obtain ⟨wa, hwa⟩ : ∃ wa, w.alloc (.cells #[.int .i64 0, .slice none 0 0] 30) = wa := ⟨_, rfl⟩
  rw [hwa] at HBa HX0
  try rw [hwa]
  clear hwa
  by_cases hl : 1048576 < bs.length
  · have hlz : (bs.length : Int) > 1048576 := by omega
    have HO := hidd (readO_long hl)
    have x0 := blkc HX0.out 0
    have x1 := blkc HX0.out 1
    have f0 := blkf HX0.out 0
    have f1 := blkf HX0.out 1
    have HR := hidd (box_ret (x' := .int .i64 0) (y' := .slice none 0 0) HBa.out HX0.out)
    have z0 := blkc HR.out.2 0
    have z1 := blkc HR.out.2 1
    go_wp2_with fail
    refine bodyPost_ret (v := .tuple #[.agg #[.int .i64 0, .slice none 0 0], .int .i64 2]) (by simp [results, Try.results13, go_sem, z0, z1]) rfl ?_
    refine ⟨none, 0, w.heap.size, _, [], by rw [HO.out]; rfl, Nat.le_refl _, by rw [HO.out]; exact StsAt.nil _ _, by rw [HO.out]; exact fun i j b _ hj => by simp at hj, HR.out.1⟩
  have hlz : ¬ (bs.length : Int) > 1048576 := by omega
  have HSo := hidd (statesOf_any b off cap bs wa (by omega) hcap (Hc.out.below HBa.out) (Nat.lt_of_lt_of_le hb HBa.out.size))
  go_wp2_with fail
  refine HSo.out.mono ?_
  rintro e w1 ⟨hb1, a, n, c, t, rfl, hcs⟩
  have HB1 := hidd (HBa.out.trans (hb1.mono HBa.out.size))
  have HX1 := hidd (blko HX0.out hb1)
  have hza : w.heap.size < wa.heap.size := (Array.getElem?_eq_some_iff.1 HX0.out).1
  clear hb1 HSo HX0
  dsimp only
  rcases hcs with ⟨rfl, hno⟩ | ⟨rfl, S, lo, hi, xs, hrd, rfl, hlo, hst, hdi⟩
  · have HO := hidd (readO_none hl (readD_impl_none hno))
    clear hno
    have x0 := blkc HX1.out 0
    have x1 := blkc HX1.out 1
    have f0 := blkf HX1.out 0
    have f1 := blkf HX1.out 1
    have HR := hidd (box_ret (x' := .int .i64 0) (y' := .slice none 0 0) HB1.out HX1.out)
    have z0 := blkc HR.out.2 0
    have z1 := blkc HR.out.2 1
    go_wp2_with fail
    refine bodyPost_ret (v := .tuple #[.agg #[.int .i64 0, .slice none 0 0], .int .i64 15]) (by simp [results, Try.results13, go_sem, z0, z1]) rfl ?_
    refine ⟨none, 0, w.heap.size, _, [], by rw [HO.out]; rfl, Nat.le_refl _, by rw [HO.out]; exact StsAt.nil _ _, by rw [HO.out]; exact fun i j b _ hj => by simp at hj, HR.out.1⟩
  · have HRd := hidd hrd
    have HSt := hidd hst
    have HDi := hidd hdi
    obtain ⟨hv1, hv2, hv3, hv4⟩ := rdI_inv hrd
    have hAr : ∀ i, (arcsAt S i).length ≤ 1048576 := fun i => by
      by_cases hi' : i < S.length
      · have e : arcsAt S i = S[i].2 := by simp [arcsAt, hi']
        have := (hv3 S[i] (List.getElem_mem hi')).1
        rw [e]; omega
      · have : arcsAt S i = [] := by
          unfold arcsAt
          rw [List.getD_eq_getElem?_getD, List.getElem?_eq_none (by omega)]; rfl
        rw [this]; simp
    have HAr := hidd hAr
    have Hv4 := hidd hv4
    clear hrd hst hdi hv1 hv3 hv4 hAr
    obtain ⟨a', c', e', hH⟩ := HSt.out.hold
    simp only [Value.slice.injEq, true_and] at e'
    obtain ⟨rfl, rfl⟩ := e'
    have HE := hidd (endingsM_any a c S w1 (by omega) HAr.out hH)
    clear hH
    go_wp2_with fail
    refine HE.out.mono ?_
    rintro e w2 ⟨v, ok, rfl, hb2, hyes, hmust⟩
    have HB2 := hidd (HB1.out.trans (hb2.mono HB1.out.size))
    have HX2 := hidd (blko HX1.out hb2)
    have Hb2 := hidd hb2
    clear hb2 HE HB1
    dsimp only
    cases ok with
    | false =>
      have HO := hidd (readO_none hl (readD_notMust HRd.out (fun hm => by have := hmust hm; cases this)))
      clear hyes hmust
      have x0 := blkc HX2.out 0
      have x1 := blkc HX2.out 1
      have f0 := blkf HX2.out 0
      have f1 := blkf HX2.out 1
      have HR := hidd (box_ret (x' := .int .i64 0) (y' := .slice none 0 0) HB2.out HX2.out)
      have z0 := blkc HR.out.2 0
      have z1 := blkc HR.out.2 1
      go_wp2_with fail
      refine bodyPost_ret (v := .tuple #[.agg #[.int .i64 0, .slice none 0 0], .int .i64 15]) (by simp [results, Try.results13, go_sem, z0, z1]) rfl ?_
      refine ⟨none, 0, w.heap.size, _, [], by rw [HO.out]; rfl, Nat.le_refl _, by rw [HO.out]; exact StsAt.nil _ _, by rw [HO.out]; exact fun i j b _ hj => by simp at hj, HR.out.1⟩
    | true =>
      obtain ⟨be, E, rfl, hbe, hrow, hok⟩ := hyes rfl
      have HO := hidd (readO_some hl (readD_ok HRd.out hok))
      have hw1 := HSt.out.le
      have HSt2 := hidd (HSt.out.keep Hb2.out.size fun b h1 h2 => Hb2.out.block b (by omega))
      have HDo := hidd (dictOf_any a c S E be lo hi xs w2 HSt2.out HDi.out hrow hok HAr.out (fun j hj hx => by have := (hx.range HSt.out hj).2; omega))
      clear hyes hmust hrow hok
      go_wp2_with fail
      refine HDo.out.mono ?_
      rintro e w3 ⟨rfl, hs3, hb3⟩
      have HS3 := hidd hs3
      have HX3 : Hid (w3.heap[w.heap.size]? = some (.cells #[.int .i64 0, .slice none 0 0] 30)) := (hb3.block _ (Array.getElem?_eq_some_iff.1 HX2.out).1 (by
        rintro ⟨j, hj, hx⟩
        have := (hx.range HSt.out hj).1
        omega)).trans HX2.out
      have HB3 : Hid (Below w.heap.size w w3) := HB2.out.trans (hb3.below HB2.out.size (fun i hi' ⟨j, hj, hx⟩ => by
        have := (hx.range HSt.out hj).1
        omega))
      clear hs3 hb3 HDo
      dsimp only
      generalize hV : valE E 0 = V at *
      have HV := hidd hV
      clear hV
      have x0 := blkc HX3.out 0
      have x1 := blkc HX3.out 1
      have f0 := blkf HX3.out 0
      have f1 := blkf HX3.out 1
      have HR := hidd (box_ret (x' := .int .i64 (V : Int)) (y' := .slice a S.length c) HB3.out HX3.out)
      have z0 := blkc HR.out.2 0
      have z1 := blkc HR.out.2 1
      have HHo : Hid (StsAt ((w3.setCell ⟨w.heap.size, 0, none⟩ (.int .i64 (V : Int))).setCell ⟨w.heap.size, 1, none⟩ (.slice a S.length c)) lo hi (.slice a S.length c) (S.map (ahdS E)) xs) := HS3.out.keep (by simp) fun b h1 h2 => by
        rw [heap_set_other _ w.heap.size 1 _ b (by omega), heap_set_other w3 w.heap.size 0 _ b (by omega)]
      go_wp2_with fail
      refine bodyPost_ret (v := .tuple #[.agg #[.int .i64 (V : Int), .slice a S.length c], .int .i64 0]) (by simp [results, Try.results13, go_sem, z0, z1]) rfl ?_
      refine ⟨a, c, lo, hi, xs, ?_, by omega, ?_, ?_, HR.out.1⟩
      · rw [HO.out]; simp
      · rw [HO.out]
        have := HHo.out
        simpa using this
      · rw [HO.out]
        have := HDi.out
        simpa using this
end Go.Proofs.Ytjndogajdlophaa

namespace Go.Proofs.Ytjndogajdlophaa
open Go Go.RowKit
set_option linter.unusedVariables false
set_option maxRecDepth 100000

/-! An answer that is written over, place by place, and held against what was written. -/
def mkAr (k : Nat) (i : Nat) : Ar := (((k + 3 * i : Nat) : Int), ((k + 3 * i + 1 : Nat) : Int), ((k + 3 * i + 2 : Nat) : Int))
def mkAf (k : Nat) (l : List Ar) (i : Nat) : List Ar := l.mapIdx fun j a => if j < i then mkAr k j else a
theorem mkAf_len (k : Nat) (l : List Ar) (i : Nat) : (mkAf k l i).length = l.length := by simp [mkAf]
theorem mkAf_zero (k : Nat) (l : List Ar) : mkAf k l 0 = l := by
  apply List.ext_getElem
  · simp [mkAf]
  · intro i h1 h2; simp [mkAf]
theorem mkAf_at (k : Nat) (l : List Ar) (i : Nat) {j : Nat} (h : j < l.length) : (mkAf k l i).getD j ar0 = if j < i then mkAr k j else l.getD j ar0 := by
  simp [mkAf, List.getD_eq_getElem?_getD, h]
def mkA (k : Nat) (l : List Ar) : List Ar := mkAf k l l.length
theorem mkA_len (k : Nat) (l : List Ar) : (mkA k l).length = l.length := mkAf_len _ _ _
theorem HoldA.mark3 {W : World} {b off k i : Nat} {l : List Ar} {cur : Array Value} (h : HoldA W (some ⟨b, off, none⟩) (mkAf k l i)) (hi : i < l.length) (hb : W.heap[b]? = some (.cells cur 110)) :
    HoldA (((W.setCell ⟨b, off + i * 3, none⟩ (.int .i64 ((k + 3 * i : Nat) : Int))).setCell ⟨b, off + i * 3 + 1, none⟩ (.int .i64 ((k + 3 * i + 1 : Nat) : Int))).setCell ⟨b, off + i * 3 + 2, none⟩ (.int .i64 ((k + 3 * i + 2 : Nat) : Int))) (some ⟨b, off, none⟩) (mkAf k l (i + 1)) := by
  rcases h with h | ⟨b', off', e, hbl, hc⟩
  · have := congrArg List.length h
    rw [mkAf_len, List.length_nil] at this
    omega
  · cases e
    refine Or.inr ⟨b, off, rfl, by simpa using hbl, fun j hj => ?_⟩
    rw [mkAf_len] at hj
    have s1 := blk_setk hb (off + i * 3) (.int .i64 ((k + 3 * i : Nat) : Int))
    have s2 := blk_setk s1 (off + i * 3 + 1) (.int .i64 ((k + 3 * i + 1 : Nat) : Int))
    have s3 := blk_setk s2 (off + i * 3 + 2) (.int .i64 ((k + 3 * i + 2 : Nat) : Int))
    rw [blkc s3, blkc s3, blkc s3, mkAf_at k l (i + 1) hj]
    have hc' := hc j (by rw [mkAf_len]; exact hj)
    rw [mkAf_at k l i hj, blkc hb, blkc hb, blkc hb] at hc'
    obtain ⟨c0, c1, c2⟩ := hc'
    have l0 := (Array.getElem?_eq_some_iff.1 c0).1
    have l1 := (Array.getElem?_eq_some_iff.1 c1).1
    have l2 := (Array.getElem?_eq_some_iff.1 c2).1
    by_cases hji : j = i
    · subst hji
      rw [if_pos (by omega)]
      refine ⟨?_, ?_, ?_⟩
      · rw [Array.getElem?_setIfInBounds_ne (by omega), Array.getElem?_setIfInBounds_ne (by omega), Array.getElem?_setIfInBounds_self_of_lt l0]; rfl
      · rw [Array.getElem?_setIfInBounds_ne (by omega), Array.getElem?_setIfInBounds_self_of_lt (by simpa using l1)]; rfl
      · rw [Array.getElem?_setIfInBounds_self_of_lt (by simpa using l2)]; rfl
    · have hq : (j < i + 1) ↔ j < i := by omega
      simp only [hq]
      rw [Array.getElem?_setIfInBounds_ne (by omega), Array.getElem?_setIfInBounds_ne (by omega), Array.getElem?_setIfInBounds_ne (by omega), Array.getElem?_setIfInBounds_ne (by omega), Array.getElem?_setIfInBounds_ne (by omega), Array.getElem?_setIfInBounds_ne (by omega), Array.getElem?_setIfInBounds_ne (by omega), Array.getElem?_setIfInBounds_ne (by omega), Array.getElem?_setIfInBounds_ne (by omega)]
      exact ⟨c0, c1, c2⟩
set_option maxHeartbeats 4000000 in
theorem markA_any (a : Option Addr) (c k : Nat) (l : List Ar) (w : World) (hn : l.length ≤ 1048576) (hk : k ≤ 17592186044416) (h : HoldA w a l) (ht : ∀ b off, a = some ⟨b, off, none⟩ → ∃ cur, w.heap[b]? = some (.cells cur 110)) :
    Calls Try.prog 76 #[.slice a l.length c, .int .i64 (k : Int)] w fun e w' => e = .returned (.int .i64 ((k + 3 * l.length : Nat) : Int)) ∧ HoldA w' a (mkA k l) ∧ ButX (fun b => ∃ off, a = some ⟨b, off, none⟩) w w' ∧ ∀ b off, a = some ⟨b, off, none⟩ → ∃ cur, w'.heap[b]? = some (.cells cur 110) := by
  have H := hidd h
  have HT := hidd ht
  clear h ht
  go_enter Try.func76, Try.ntmps76
  go_wp2_with fail
  go_loopw [1, 5] (fun kv iv wr => ∃ i : Nat, i ≤ l.length ∧ kv = .int .i64 ((k + 3 * i : Nat) : Int) ∧ iv = .int .i64 (i : Int) ∧ HoldA wr a (mkAf k l i) ∧ ButX (fun b => ∃ off, a = some ⟨b, off, none⟩) w wr ∧ ∀ b off, a = some ⟨b, off, none⟩ → ∃ cur, wr.heap[b]? = some (.cells cur 110)) (fun _ iv _ => l.length - (intOf iv).toNat)
  case atStart => exact ⟨0, Nat.zero_le _, by simp, rfl, by rw [mkAf_zero]; exact H.out, ButX.refl _ _, HT.out⟩
  case round =>
    obtain ⟨i, hi, rfl, rfl, hA, hB, hT⟩ := hrel
    clear H HT
    by_cases hlt : i < l.length
    · have hltz : (i : Int) < (l.length : Int) := by omega
      obtain ⟨b, off, rfl, hbl, hc⟩ := hA.resolve_left (fun e => by have := congrArg List.length e; rw [mkAf_len, List.length_nil] at this; omega)
      obtain ⟨cur, hcur⟩ := hT b off rfl
      obtain ⟨c0, c1, c2⟩ := hc i (by rw [mkAf_len]; exact hlt)
      have HM := hidd (HoldA.mark3 (k := k) (i := i) (l := l) (Or.inr ⟨b, off, rfl, hbl, hc⟩) hlt hcur)
      have f0 : wr.frozen? ⟨b, off + i * 3, none⟩ = false := frozen_of_row wr b _ cur _ hcur
      have f1 : wr.frozen? ⟨b, off + i * 3 + 1, none⟩ = false := frozen_of_row wr b _ cur _ hcur
      have f2 : wr.frozen? ⟨b, off + i * 3 + 2, none⟩ = false := frozen_of_row wr b _ cur _ hcur
      have HB := hidd hB
      have HT := hidd hT
      have Hcur := hidd hcur
      clear hA hB hT hc hcur
      generalize (mkAf k l i).getD i ar0 = p at *
      obtain ⟨p0, p1, p2⟩ := p
      dsimp only at c0 c1 c2
      obtain ⟨K, hK⟩ : ∃ K, k + 3 * i = K := ⟨_, rfl⟩
      have hKb : K ≤ 17592190000000 := by omega
      rw [hK] at HM
      have HKe := hidd hK
      rw [hK]
      clear hK
      rw [show ((K + 1 : Nat) : Int) = (K : Int) + 1 by omega, show ((K + 2 : Nat) : Int) = (K : Int) + 1 + 1 by omega] at HM
      go_wp2_with fail
      go_roundw
      case rel =>
        refine ⟨i + 1, by omega, ?_, by go_num, HM.out, ⟨HB.out.os, HB.out.tape, HB.out.output, by simpa using HB.out.size, fun b' hb' hn => ?_⟩, fun b' off' e => ?_⟩
        · have := HKe.out
          rw [show k + 3 * (i + 1) = K + 3 by omega]
          go_num
        · have hne : b' ≠ b := fun e => hn ⟨off, by rw [e]⟩
          rw [heap_set_other _ b _ _ b' hne, heap_set_other _ b _ _ b' hne, heap_set_other _ b _ _ b' hne]
          exact HB.out.block b' hb' hn
        · cases e
          exact ⟨_, blk_setk (blk_setk (blk_setk Hcur.out _ _) _ _) _ _⟩
      case measure => simp [intOf]; omega
    · have hltz : ¬ (i : Int) < (l.length : Int) := by omega
      obtain rfl : i = l.length := by omega
      have HA := hidd hA
      have HB := hidd hB
      have HT := hidd hT
      clear hA hB hT
      generalize hK : k + 3 * l.length = K at *
      go_wp2_with fail
      go_ret
      exact ⟨rfl, HA.out, HB.out, HT.out⟩
set_option maxHeartbeats 4000000 in
theorem heldA_any (a : Option Addr) (c k : Nat) (l : List Ar) (w : World) (hn : l.length ≤ 1048576) (hk : k ≤ 17592186044416) (h : HoldA w a (mkA k l)) :
    Calls Try.prog 77 #[.slice a l.length c, .int .i64 (k : Int)] w fun e w' => e = .returned (.int .i64 ((k + 3 * l.length : Nat) : Int)) ∧ ∃ m, w' = w.drewN m := by
  have H := hidd h
  clear h
  go_enter Try.func77, Try.ntmps77
  go_wp2_with fail
  go_loopw [1, 5] (fun kv iv wr => ∃ i : Nat, i ≤ l.length ∧ kv = .int .i64 ((k + 3 * i : Nat) : Int) ∧ iv = .int .i64 (i : Int) ∧ wr = w) (fun _ iv _ => l.length - (intOf iv).toNat)
  case atStart => exact ⟨0, Nat.zero_le _, by simp, rfl, rfl⟩
  case round =>
    obtain ⟨i, hi, rfl, rfl, hwr⟩ := hrel
    subst hwr
    by_cases hlt : i < l.length
    · have hltz : (i : Int) < (l.length : Int) := by omega
      obtain ⟨b, off, rfl, hbl, hc⟩ := H.out.resolve_left (fun e => by have := congrArg List.length e; rw [mkA_len, List.length_nil] at this; omega)
      obtain ⟨c0, c1, c2⟩ := hc i (by rw [mkA_len]; exact hlt)
      unfold mkA at c0 c1 c2
      rw [mkAf_at k l l.length hlt, if_pos hlt] at c0 c1 c2
      unfold mkAr at c0 c1 c2
      dsimp only at c0 c1 c2
      clear hc
      obtain ⟨K, hK⟩ : ∃ K, k + 3 * i = K := ⟨_, rfl⟩
      have hKb : K ≤ 17592190000000 := by omega
      rw [hK] at c0 c1 c2
      have HKe := hidd hK
      rw [hK]
      clear hK
      rw [show ((K + 1 : Nat) : Int) = (K : Int) + 1 by omega] at c1
      rw [show ((K + 2 : Nat) : Int) = (K : Int) + 1 + 1 by omega] at c2
      go_wp2_with fail
      go_roundw
      case rel =>
        refine ⟨i + 1, by omega, ?_, by go_num, trivial⟩
        have := HKe.out
        rw [show k + 3 * (i + 1) = K + 3 by omega]
        go_num
      case measure => simp [intOf]; omega
    · have hltz : ¬ (i : Int) < (l.length : Int) := by omega
      obtain rfl : i = l.length := by omega
      generalize hK : k + 3 * l.length = K at *
      go_wp2_with fail
      go_ret
      exact ⟨rfl, 0, rfl⟩
end Go.Proofs.Ytjndogajdlophaa

namespace Go.Proofs.Ytjndogajdlophaa
open Go Go.RowKit
set_option linter.unusedVariables false
set_option maxRecDepth 100000

def kAt (k : Nat) (S : List St) : Nat → Nat
  | 0 => k
  | i + 1 => kAt k S i + 1 + 3 * (arcsAt S i).length
theorem kAt_le {k : Nat} {S : List St} (hA : ∀ i, (arcsAt S i).length ≤ 256) : ∀ i, kAt k S i ≤ k + i * 769
  | 0 => by simp [kAt]
  | i + 1 => by have := kAt_le (k := k) hA i; have := hA i; simp only [kAt]; omega
def mkSt (k : Nat) (S : List St) (j : Nat) : St := (kAt k S j % 3 == 0, mkA (kAt k S j + 1) (arcsAt S j))
def mkS (k : Nat) (S : List St) : List St := S.mapIdx fun j _ => mkSt k S j
theorem mkS_len (k : Nat) (S : List St) : (mkS k S).length = S.length := by simp [mkS]
theorem mkS_at (k : Nat) (S : List St) {j : Nat} (h : j < S.length) : (mkS k S).getD j st0 = mkSt k S j := by simp [mkS, List.getD_eq_getElem?_getD, h]
theorem rem3 (n : Nat) : ((n : Int) % 3 == 0) = (n % 3 == 0) := by
  have : (n : Int) % 3 = ((n % 3 : Nat) : Int) := by omega
  rw [this]
  have h : n % 3 < 3 := Nat.mod_lt _ (by omega)
  generalize n % 3 = m at *
  match m, h with
  | 0, _ => rfl
  | 1, _ => rfl
  | 2, _ => rfl
/-- An answer of which the first i states are written over. -/
structure OvAt (w W : World) (g : Nat) (xs : List Value) (S : List St) (k i : Nat) : Prop where
  but : ButX (fun b => b = g ∨ ∃ j, j < S.length ∧ LiesX xs j b) w W
  rowt : ∃ cur, W.heap[g]? = some (.cells cur 104)
  fins : ∀ j, j < S.length → W.cell? ⟨g, j * 2, none⟩ = some (.bool (if j < i then kAt k S j % 3 == 0 else finAt S j))
  sl : ∀ j, j < S.length → W.cell? ⟨g, j * 2 + 1, none⟩ = xs[j * 2 + 1]?
  arcs : ∀ j, j < S.length → ∀ aj n cj, xs[j * 2 + 1]? = some (.slice aj n cj) → HoldA W aj (if j < i then mkA (kAt k S j + 1) (arcsAt S j) else arcsAt S j)
  typ : ∀ j b, j < S.length → LiesX xs j b → ∃ cur, W.heap[b]? = some (.cells cur 110)
theorem OvAt.start {w : World} {lo hi g n c : Nat} {S : List St} {xs : List Value} (k : Nat) (h : StsAt w lo hi (.slice (some ⟨g, 0, none⟩) n c) S xs) : OvAt w w g xs S k 0 := by
  obtain ⟨_, cur, hc⟩ := own_blk h.row (b := g) rfl
  have hn : n = S.length := by
    rcases h.row.2 with ⟨e, _⟩ | ⟨_, _, _, e, _⟩
    · cases e
    · simp only [Value.slice.injEq] at e; exact e.2.1
  subst hn
  refine ⟨ButX.refl _ _, ⟨cur, hc⟩, fun j hj => ?_, fun j hj => h.row.cellAt (j * 2 + 1) (by omega), fun j hj aj n cj e => ?_, fun j b hj hb => ?_⟩
  · rw [h.row.cellAt (j * 2) (by omega), (h.sts j hj).1, if_neg (by omega)]; rfl
  · obtain ⟨_, a', c', q2, q3, _⟩ := h.sts j hj
    rw [q2] at e
    simp only [Option.some.injEq, Value.slice.injEq] at e
    rw [if_neg (by omega), ← e.1]
    exact q3
  · obtain ⟨_, a', c', q2, _, q4⟩ := h.sts j hj
    obtain ⟨off, n, c, e⟩ := hb
    rw [q2] at e
    simp only [Option.some.injEq, Value.slice.injEq] at e
    exact (q4 b off e.1).2.2
theorem OvAt.apart {w W : World} {g : Nat} {xs : List Value} {S : List St} {k i : Nat} (h : OvAt w W g xs S k i) : ∀ j b, j < S.length → LiesX xs j b → b ≠ g := fun j b hj hb e => by
  obtain ⟨c1, h1⟩ := h.typ j b hj hb
  obtain ⟨c2, h2⟩ := h.rowt
  rw [e] at h1
  exact blk_ne h1 h2 (by decide) rfl
/-- The state i is written over. -/
theorem OvAt.next {w W W' : World} {g : Nat} {xs : List Value} {S : List St} {k i n ci : Nat} {ai : Option Addr} (h : OvAt w W g xs S k i) (hi : i < S.length) (hd : DisX xs S.length) (hx : xs[i * 2 + 1]? = some (.slice ai n ci))
    (hA : HoldA W' ai (mkA (kAt k S i + 1) (arcsAt S i))) (hb : ButX (fun b => ∃ off, ai = some ⟨b, off, none⟩) (W.setCell ⟨g, i * 2, none⟩ (.bool (kAt k S i % 3 == 0))) W') (hT : ∀ b off, ai = some ⟨b, off, none⟩ → ∃ cur, W'.heap[b]? = some (.cells cur 110)) : OvAt w W' g xs S k (i + 1) := by
  obtain ⟨cur, hc⟩ := h.rowt
  have hsz := h.but.size
  have hgl := (Array.getElem?_eq_some_iff.1 hc).1
  have hs := blk_setk hc (i * 2) (.bool (kAt k S i % 3 == 0))
  have hlies : ∀ b off, ai = some ⟨b, off, none⟩ → LiesX xs i b := fun b off e => ⟨off, n, ci, by rw [hx, e]⟩
  have hnx : ¬ ∃ off, ai = some ⟨g, off, none⟩ := fun ⟨off, e⟩ => h.apart i g hi (hlies g off e) rfl
  have hg' : W'.heap[g]? = some (.cells (cur.setIfInBounds (i * 2) (.bool (kAt k S i % 3 == 0))) 104) := (hb.block g (by simpa using hgl) hnx).trans hs
  have hblk : ∀ b, b < W.heap.size → b ≠ g → (¬ ∃ off, ai = some ⟨b, off, none⟩) → W'.heap[b]? = W.heap[b]? := fun b hbl hbg hn => (hb.block b (by simpa using hbl) hn).trans (heap_set_other W g _ _ b hbg)
  have hcell : ∀ m, m ≠ i * 2 → W'.cell? ⟨g, m, none⟩ = W.cell? ⟨g, m, none⟩ := fun m hm => by
    rw [blkc hg', blkc hc, Array.getElem?_setIfInBounds_ne (by omega)]
  have hnot : ∀ j b, j < S.length → j ≠ i → LiesX xs j b → ¬ ∃ off, ai = some ⟨b, off, none⟩ := fun j b hj hji hl ⟨off, e⟩ => by
    rcases Nat.lt_or_ge j i with q | q
    · exact hd j i b q hi hl (hlies b off e)
    · exact hd i j b (by omega) hj (hlies b off e) hl
  refine ⟨⟨hb.os.trans h.but.os, hb.tape.trans h.but.tape, hb.output.trans h.but.output, Nat.le_trans hsz (by have := hb.size; simpa using this), fun b hbl hn => ?_⟩, ⟨_, hg'⟩, fun j hj => ?_, fun j hj => ?_, fun j hj aj n' cj e => ?_, fun j b hj hl => ?_⟩
  · rw [hblk b (by omega) (fun e => hn (.inl e)) (fun ⟨off, e⟩ => hn (.inr ⟨i, hi, hlies b off e⟩))]
    exact h.but.block b hbl hn
  · by_cases hji : j = i
    · subst hji
      have hl : j * 2 < cur.size := by
        have := h.fins j hj
        rw [blkc hc] at this
        exact (Array.getElem?_eq_some_iff.1 this).1
      rw [blkc hg', Array.getElem?_setIfInBounds_self_of_lt hl, if_pos (by omega)]
    · rw [hcell _ (by omega), h.fins j hj]
      have : (j < i + 1) ↔ j < i := by omega
      simp only [this]
  · rw [hcell _ (by omega)]; exact h.sl j hj
  · by_cases hji : j = i
    · subst hji
      rw [hx] at e
      simp only [Option.some.injEq, Value.slice.injEq] at e
      rw [if_pos (by omega), ← e.1]
      exact hA
    · have : (j < i + 1) ↔ j < i := by omega
      simp only [this]
      have h1 := h.arcs j hj aj n' cj e
      refine h1.keep (by have := hb.size; simpa using this) fun b off e' hbl => ?_
      have hl : LiesX xs j b := ⟨off, n', cj, by rw [e, e']⟩
      exact hblk b hbl (h.apart j b hj hl) (hnot j b hj hji hl)
  · by_cases hji : j = i
    · subst hji
      obtain ⟨off, n', c', e⟩ := hl
      rw [hx] at e
      simp only [Option.some.injEq, Value.slice.injEq] at e
      exact hT b off e.1
    · obtain ⟨cur2, hc2⟩ := h.typ j b hj hl
      exact ⟨cur2, (hblk b (Array.getElem?_eq_some_iff.1 hc2).1 (h.apart j b hj hl) (hnot j b hj hji hl)).trans hc2⟩
theorem OvAt.hold {w W : World} {g lo hi c : Nat} {xs : List Value} {S : List St} {k : Nat} (h : OvAt w W g xs S k S.length) (hs : StsAt w lo hi (.slice (some ⟨g, 0, none⟩) S.length c) S xs) : HoldS W (some ⟨g, 0, none⟩) (mkS k S) := by
  obtain ⟨cur, hc⟩ := h.rowt
  refine Or.inr ⟨g, 0, rfl, (Array.getElem?_eq_some_iff.1 hc).1, fun j hj => ?_⟩
  rw [mkS_len] at hj
  obtain ⟨_, aj, cj, q2, _, _⟩ := hs.sts j hj
  rw [mkS_at k S hj, Nat.zero_add]
  refine ⟨?_, aj, cj, ?_, ?_⟩
  · rw [h.fins j hj, if_pos hj]; rfl
  · rw [h.sl j hj, q2]
    show some (Value.slice aj (arcsAt S j).length cj) = some (Value.slice aj (mkA (kAt k S j + 1) (arcsAt S j)).length cj)
    rw [mkA_len]
  · have := h.arcs j hj aj _ cj q2
    rw [if_pos hj] at this
    exact this
set_option maxHeartbeats 4000000 in
theorem markS_any (a : Option Addr) (c k lo hi : Nat) (S : List St) (xs : List Value) (w : World) (hn : S.length ≤ 16384) (hA : ∀ i, (arcsAt S i).length ≤ 256) (hk : k ≤ 1000) (hs : StsAt w lo hi (.slice a S.length c) S xs) (hd : DisX xs S.length) :
    Calls Try.prog 41 #[.slice a S.length c, .int .i64 (k : Int)] w fun e w' => e = .returned (.int .i64 ((kAt k S S.length : Nat) : Int)) ∧ HoldS w' a (mkS k S) ∧ ButX (fun b => lo ≤ b ∧ b < hi) w w' := by
  by_cases h0 : S.length = 0
  · have hS : S = [] := List.length_eq_zero_iff.1 h0
    subst hS
    go_enter Try.func41, Try.ntmps41
    go_wp2_with fail
    go_loopw [1, 5] (fun kv iv wr => kv = .int .i64 (k : Int) ∧ iv = .int .i64 0 ∧ wr = w) (fun _ _ _ => 0)
    case atStart => exact ⟨rfl, rfl, rfl⟩
    case round =>
      obtain ⟨rfl, rfl, hwr⟩ := hrel
      subst hwr
      go_wp2_with fail
      go_ret
      exact ⟨rfl, Or.inl rfl, ButX.refl _ _⟩
  · obtain ⟨g, rfl, _, _⟩ := rowCells hs.row (show 0 < S.length by omega)
    have HS := hidd hs
    have HD := hidd hd
    have HM0 := hidd (OvAt.start k hs)
    have hglo := (own_blk hs.row (b := g) rfl).1
    clear hs hd
    go_enter Try.func41, Try.ntmps41
    go_wp2_with fail
    go_loopw [1, 5] (fun kv iv wr => ∃ i : Nat, i ≤ S.length ∧ kv = .int .i64 ((kAt k S i : Nat) : Int) ∧ iv = .int .i64 (i : Int) ∧ OvAt w wr g xs S k i) (fun _ iv _ => S.length - (intOf iv).toNat)
    case atStart => exact ⟨0, Nat.zero_le _, rfl, rfl, HM0.out⟩
    case round =>
      clear HM0
      obtain ⟨i, hiS, rfl, rfl, hm⟩ := hrel
      have HM := hidd hm
      clear hm
      by_cases hlt : i < S.length
      · have hltz : (i : Int) < (S.length : Int) := by omega
        obtain ⟨cur, hcur⟩ := HM.out.rowt
        have c0 := HM.out.fins i hlt
        have f0 : wr.frozen? ⟨g, i * 2, none⟩ = false := frozen_of_row wr g _ cur _ hcur
        obtain ⟨_, ai, ci, q2, _, _⟩ := HS.out.sts i hlt
        have hak : (S.getD i st0).2 = arcsAt S i := rfl
        rw [hak] at q2
        have hsl := HM.out.sl i hlt
        rw [q2] at hsl
        have hKl := kAt_le (k := k) hA i
        have HKn : Hid (kAt k S (i + 1) = kAt k S i + 1 + 3 * (arcsAt S i).length) := rfl
        have Hq2 := hidd q2
        have hAi := hA i
        have HNx := hidd (fun W' => HM.out.next (W' := W') hlt HD.out Hq2.out)
        have hne : ∀ b off, ai = some ⟨b, off, none⟩ → b ≠ g := fun b off e => HM.out.apart i b hlt ⟨off, _, ci, by rw [Hq2.out, e]⟩
        have HAr : Hid (HoldA (wr.setCell ⟨g, i * 2, none⟩ (.bool (kAt k S i % 3 == 0))) ai (arcsAt S i)) := by
          have h1 := HM.out.arcs i hlt ai _ ci Hq2.out
          rw [if_neg (by omega)] at h1
          exact h1.keep (by simp) fun b off e _ => heap_set_other wr g _ _ b (hne b off e)
        have HTy : Hid (∀ b off, ai = some ⟨b, off, none⟩ → ∃ cur, (wr.setCell ⟨g, i * 2, none⟩ (.bool (kAt k S i % 3 == 0))).heap[b]? = some (.cells cur 110)) := fun b off e => by
          obtain ⟨c', h'⟩ := HM.out.typ i b hlt ⟨off, _, ci, by rw [Hq2.out, e]⟩
          exact ⟨c', (heap_set_other wr g _ _ b (hne b off e)).trans h'⟩
        have hsl2 : (wr.setCell ⟨g, i * 2, none⟩ (.bool (kAt k S i % 3 == 0))).cell? ⟨g, i * 2 + 1, none⟩ = some (.slice ai (arcsAt S i).length ci) := by
          rw [blkc (blk_setk hcur _ _), Array.getElem?_setIfInBounds_ne (by omega), ← blkc hcur]; exact hsl
        obtain ⟨K, hK⟩ : ∃ K, kAt k S i = K := ⟨_, rfl⟩
        rw [hK] at HKn hKl HNx HAr HTy hsl2
        rw [hK]
        have hKb : K ≤ 20000000 := by omega
        have HMa := hidd (markA_any ai ci (K + 1) (arcsAt S i) _ (by omega) (by omega) HAr.out HTy.out)
        have hr3 := rem3 K
        clear hK hcur hsl hne q2
        generalize (arcsAt S i).length = nl at *
        rw [← hr3] at hsl2 HMa HNx
        rw [show ((K + 1 : Nat) : Int) = (K : Int) + 1 by omega] at HMa
        have HKn2 := hidd HKn.out
        clear hr3 HAr HTy HKn
        go_wp2_with fail
        refine HMa.out.mono ?_
        rintro e w3 ⟨rfl, h1, h2, h3⟩
        have HN := hidd (HNx.out w3 h1 h2 h3)
        clear h1 h2 h3 HMa HNx
        dsimp only
        go_wp2_with fail
        go_roundw
        case rel =>
          refine ⟨i + 1, by omega, ?_, by go_num, HN.out⟩
          rw [HKn2.out]
        case measure => simp [intOf]; omega
      · have hltz : ¬ (i : Int) < (S.length : Int) := by omega
        have hie : i = S.length := by omega
        rw [hie] at HM
        have HB : Hid (ButX (fun b => lo ≤ b ∧ b < hi) w wr) := by
          refine ⟨HM.out.but.os, HM.out.but.tape, HM.out.but.output, HM.out.but.size, fun b hb hn => HM.out.but.block b hb ?_⟩
          rintro (e | ⟨j, hj, hl⟩)
          · exact hn ⟨by omega, by have := HS.out.own g rfl; omega⟩
          · exact hn (hl.range HS.out hj)
        have HHo := hidd (HM.out.hold HS.out)
        rw [hie]
        generalize hK : kAt k S S.length = K at *
        have HK := hidd hK
        clear hie HM hK
        go_wp2_with fail
        go_ret
        exact ⟨by rw [HK.out]; rfl, HHo.out, HB.out⟩
set_option maxHeartbeats 4000000 in
theorem heldS_any (a : Option Addr) (c k : Nat) (S : List St) (w : World) (hn : S.length ≤ 16384) (hA : ∀ i, (arcsAt S i).length ≤ 256) (hk : k ≤ 1000) (hs : HoldS w a (mkS k S)) :
    Calls Try.prog 42 #[.slice a S.length c, .int .i64 (k : Int)] w fun e w' => e = .returned (.int .i64 ((kAt k S S.length : Nat) : Int)) ∧ ∃ m, w' = w.drewN m := by
  have HS := hidd hs
  clear hs
  go_enter Try.func42, Try.ntmps42
  go_wp2_with fail
  go_loopw [1, 5] (fun kv iv wr => ∃ i q : Nat, i ≤ S.length ∧ kv = .int .i64 ((kAt k S i : Nat) : Int) ∧ iv = .int .i64 (i : Int) ∧ wr = w.drewN q) (fun _ iv _ => S.length - (intOf iv).toNat)
  case atStart => exact ⟨0, 0, Nat.zero_le _, rfl, rfl, rfl⟩
  case round =>
    obtain ⟨i, q, hi, rfl, rfl, hwr⟩ := hrel
    by_cases hlt : i < S.length
    · have hltz : (i : Int) < (S.length : Int) := by omega
      obtain ⟨b, off, rfl, hb, hc⟩ := HS.out.resolve_left (fun e => by have := congrArg List.length e; rw [mkS_len, List.length_nil] at this; omega)
      obtain ⟨c0, ai, ci, c1, hAi⟩ := hc i (by rw [mkS_len]; exact hlt)
      rw [mkS_at k S hlt] at c0 c1 hAi
      unfold mkSt at c0 c1 hAi
      dsimp only at c0 c1 hAi
      rw [mkA_len] at c1
      have hKl := kAt_le (k := k) hA i
      have hAl := hA i
      have HKn : Hid (kAt k S (i + 1) = kAt k S i + 1 + 3 * (arcsAt S i).length) := rfl
      have hbel : Below w.heap.size w wr := by rw [hwr]; exact below_drewN (Below.refl _ _) q
      replace c0 := (hbel.cell (p := ⟨b, off + i * 2, none⟩) hb).trans c0
      replace c1 := (hbel.cell (p := ⟨b, off + i * 2 + 1, none⟩) hb).trans c1
      obtain ⟨K, hK⟩ : ∃ K, kAt k S i = K := ⟨_, rfl⟩
      rw [hK] at HKn hKl c0 hAi
      rw [hK]
      have hKb : K ≤ 20000000 := by omega
      have HHe := hidd (heldA_any ai ci (K + 1) (arcsAt S i) wr (by omega) (by omega) (hAi.below hbel))
      rw [← rem3 K] at c0
      rw [show ((K + 1 : Nat) : Int) = (K : Int) + 1 by omega] at HHe
      have hbb : (((K : Int) % 3 == 0) != ((K : Int) % 3 == 0)) = false := by simp
      have hKp : ¬ (((K + 1 + 3 * (arcsAt S i).length : Nat) : Int) < 0) := by omega
      have Hwr := hidd hwr
      clear hK hc hAi hbel hwr
      generalize (arcsAt S i).length = nl at *
      go_wp2_with fail
      refine HHe.out.mono ?_
      rintro e w3 ⟨rfl, m3, hw3⟩
      have HW3 : Hid (w3 = w.drewN (q + m3)) := by show _ = _; rw [hw3, Hwr.out]; simp [World.drewN, Nat.add_assoc]
      clear HHe hw3
      dsimp only
      go_wp2_with fail
      go_roundw
      case rel =>
        refine ⟨i + 1, q + m3, by omega, ?_, by go_num, HW3.out⟩
        rw [HKn.out]
      case measure => simp [intOf]; omega
    · have hltz : ¬ (i : Int) < (S.length : Int) := by omega
      have hie : i = S.length := by omega
      rw [hie]
      generalize hK : kAt k S S.length = K at *
      have HK := hidd hK
      have Hwr := hidd hwr
      clear hwr hie hK
      go_wp2_with fail
      go_ret
      exact ⟨by rw [HK.out]; rfl, q, Hwr.out⟩
end Go.Proofs.Ytjndogajdlophaa

namespace Go.Proofs.Ytjndogajdlophaa
open Go Go.RowKit
set_option linter.unusedVariables false
set_option maxRecDepth 100000

theorem readD_is {bs : List UInt8} {d : Int × List St} (h : readD bs = some d) : ∃ ts, IsDict d ts := by
  unfold readD at h
  split at h
  · rename_i hx
    cases h
    obtain ⟨ts, h1, _⟩ := hx.choose_spec
    exact ⟨ts, h1⟩
  · cases h
theorem readO_small (bs : List UInt8) : (readO bs).1.2.length ≤ 16384 ∧ ∀ i, (arcsAt (readO bs).1.2 i).length ≤ 256 := by
  have hnil : ([] : List St).length ≤ 16384 ∧ ∀ i, (arcsAt ([] : List St) i).length ≤ 256 := ⟨by simp, fun i => by simp [arcsAt, st0]⟩
  unfold readO
  split
  · exact hnil
  · cases hd : readD bs with
    | none => exact hnil
    | some d =>
      obtain ⟨ts, h⟩ := readD_is hd
      have hd' : IsDict (d.1, d.2) ts := h
      refine ⟨hd'.n2, fun i => ?_⟩
      by_cases hi : i < d.2.length
      · exact (hd'.small i hi).1
      · have : arcsAt d.2 i = [] := by
          unfold arcsAt
          rw [List.getD_eq_getElem?_getD, List.getElem?_eq_none (by omega)]; rfl
        show (arcsAt d.2 i).length ≤ 256
        rw [this]; simp
set_option maxHeartbeats 1000000 in
theorem markD_any (x : Int) (a : Option Addr) (c lo hi : Nat) (S : List St) (xs : List Value) (w : World) (hn : S.length ≤ 16384) (hA : ∀ i, (arcsAt S i).length ≤ 256) (hs : StsAt w lo hi (.slice a S.length c) S xs) (hd : DisX xs S.length) :
    Calls Try.prog 16 #[.agg #[.int .i64 x, .slice a S.length c], .int .i64 1] w fun e w' => e = .returned (.int .i64 ((kAt 1 S S.length : Nat) : Int)) ∧ HoldS w' a (mkS 1 S) ∧ ButX (fun b => lo ≤ b ∧ b < hi) w w' := by
  have HBa := hidd ((Below.refl w.heap.size w).alloc (Nat.le_refl _) (.cells #[.int .i64 x, .slice a S.length c] 30))
  have HM := hidd (markS_any a c 1 lo hi S xs _ hn hA (by omega) (hs.keep HBa.out.size fun b h1 h2 => HBa.out.block b (Nat.lt_of_lt_of_le h2 hs.le)) hd)
  clear hs hd
  go_enter Try.func16, Try.ntmps16
  go_wp2_with fail
  refine HM.out.mono ?_
  rintro e w2 ⟨rfl, h1, h2⟩
  have H1 := hidd h1
  have H2 : Hid (ButX (fun b => lo ≤ b ∧ b < hi) w w2) := (ButX.of_below (X := fun _ => False) HBa.out).trans h2 (fun _ _ q => q.elim) (fun _ _ q => q)
  clear h1 h2
  dsimp only
  go_wp2_with fail
  go_ret
  exact ⟨rfl, H1.out, H2.out⟩
set_option maxHeartbeats 1000000 in
theorem heldD_any (x : Int) (a : Option Addr) (c : Nat) (S : List St) (w : World) (hn : S.length ≤ 16384) (hA : ∀ i, (arcsAt S i).length ≤ 256) (hs : HoldS w a (mkS 1 S)) :
    Calls Try.prog 17 #[.agg #[.int .i64 x, .slice a S.length c], .int .i64 1] w fun e w' => e = .returned (.int .i64 ((kAt 1 S S.length : Nat) : Int)) ∧ Below w.heap.size w w' := by
  have HBa := hidd ((Below.refl w.heap.size w).alloc (Nat.le_refl _) (.cells #[.int .i64 x, .slice a S.length c] 30))
  have HM := hidd (heldS_any a c 1 S _ hn hA (by omega) (hs.below HBa.out))
  clear hs
  generalize kAt 1 S S.length = K at *
  have hK : ¬ ((K : Int) < 0) := by omega
  go_enter Try.func17, Try.ntmps17
  go_wp2_with fail
  refine HM.out.mono ?_
  rintro e w2 ⟨rfl, m2, rfl⟩
  dsimp only
  go_wp2_with fail
  go_ret
  exact ⟨rfl, below_drewN HBa.out m2⟩
theorem bytes_own {w : World} {base g n c : Nat} {bs : List UInt8} (h : w.ownsRow base 5 1 (.slice (some ⟨g, 0, none⟩) n c) n (Lib.byteCells bs)) (hl : bs.length = n) : BytesAt w g 0 bs := own_bytes h hl
end Go.Proofs.Ytjndogajdlophaa
