import Derived.Test.YtionicjnoogpjaaGreatDoorAnalyzJ32
namespace Go.Proofs.YtionicjnoogpjaaGreatDoor
open Go Go.RowKit
set_option linter.unusedVariables false
set_option linter.unusedSimpArgs false
set_option maxRecDepth 100000

/-- What termSteps has made so far. -/
structure TI (w W : World) (az : Array Value) (v : Value) (L : List Value) (s p : Bool) (B1 B2 : Nat) : Prop where
  own : W.ownsRow (w.heap.size + 1) 121 1 v L.length L
  bel : Below w.heap.size w W
  box : W.heap[w.heap.size]? = some (.cells az 26)
  st : s = true → W.heap[B1]? = some (.cells #[.func (.func 83) #[] #[]] 66) ∧ v.ownBlock ≠ some B1
  ph : p = true → W.heap[B2]? = some (.cells #[.func (.func 84) #[] #[]] 66) ∧ v.ownBlock ≠ some B2
theorem TI.size {w W : World} {az : Array Value} {v : Value} {L : List Value} {s p : Bool} {B1 B2 : Nat} (h : TI w W az v L s p B1 B2) : w.heap.size < W.heap.size := (Array.getElem?_eq_some_iff.1 h.box).1
theorem TI.alloc {w W : World} {az : Array Value} {v : Value} {L : List Value} {s p : Bool} {B1 B2 : Nat} (h : TI w W az v L s p B1 B2) (o : Obj) : TI w (W.alloc o) az v L s p B1 B2 := by
  have hz := h.size
  refine ⟨h.own.alloc _, h.bel.alloc (by omega) _, (Below.heap_alloc _ _ _ hz).trans h.box, fun e => ?_, fun e => ?_⟩
  · obtain ⟨h1, h2⟩ := h.st e
    exact ⟨(Below.heap_alloc _ _ _ (Array.getElem?_eq_some_iff.1 h1).1).trans h1, h2⟩
  · obtain ⟨h1, h2⟩ := h.ph e
    exact ⟨(Below.heap_alloc _ _ _ (Array.getElem?_eq_some_iff.1 h1).1).trans h1, h2⟩
theorem TI.blk {w W : World} {az : Array Value} {v : Value} {L : List Value} {s p : Bool} {B1 B2 : Nat} (h : TI w W az v L s p B1 B2) : v.ownBlock ≠ some W.heap.size := fun e => by
  have := own_blk_lt h.own _ e
  omega
theorem TI.box1 {w W : World} {az : Array Value} {v : Value} {L : List Value} {p : Bool} {B1 B2 : Nat} (h : TI w W az v L false p B1 B2) : TI w (W.alloc (.cells #[.func (.func 83) #[] #[]] 66)) az v L true p W.heap.size B2 := by
  have h1 := h.alloc (.cells #[.func (.func 83) #[] #[]] 66)
  exact ⟨h1.own, h1.bel, h1.box, fun _ => ⟨heap_alloc_new _ _, h.blk⟩, h1.ph⟩
theorem TI.box2 {w W : World} {az : Array Value} {v : Value} {L : List Value} {s : Bool} {B1 B2 : Nat} (h : TI w W az v L s false B1 B2) : TI w (W.alloc (.cells #[.func (.func 84) #[] #[]] 66)) az v L s true B1 W.heap.size := by
  have h1 := h.alloc (.cells #[.func (.func 84) #[] #[]] 66)
  exact ⟨h1.own, h1.bel, h1.box, h1.st, fun _ => ⟨heap_alloc_new _ _, h.blk⟩⟩
theorem TI.grow {w W w' : World} {az : Array Value} {v v' : Value} {L L' : List Value} {s p : Bool} {B1 B2 : Nat} (h : TI w W az v L s p B1 B2) (ho : w'.ownsRow (w.heap.size + 1) 121 1 v' L'.length L') (hg : W.grownBy w' v.ownBlock) (hat : v'.ownBlock = v.ownBlock ∨ v'.ownBlock = some W.heap.size) : TI w w' az v' L' s p B1 B2 := by
  have hz := h.size
  have far : ∀ b, b < W.heap.size → v.ownBlock ≠ some b → v'.ownBlock ≠ some b := fun b hb hn e => by
    rcases hat with h' | h'
    · exact hn (h'.symm.trans e)
    · have := Option.some.inj (h'.symm.trans e); omega
  refine ⟨ho, h.bel.grown hg (by omega) (fun k e => by have := own_block h.own k e; omega), (hg.block _ hz (fun e => by have := own_block h.own _ e.symm; omega)).trans h.box, fun e => ?_, fun e => ?_⟩
  · obtain ⟨h1, h2⟩ := h.st e
    have hl := (Array.getElem?_eq_some_iff.1 h1).1
    exact ⟨(hg.block _ hl (fun e => h2 e.symm)).trans h1, far _ hl h2⟩
  · obtain ⟨h1, h2⟩ := h.ph e
    have hl := (Array.getElem?_eq_some_iff.1 h1).1
    exact ⟨(hg.block _ hl (fun e => h2 e.symm)).trans h1, far _ hl h2⟩
set_option maxHeartbeats 8000000 in
theorem termSteps_any (fo st ph : Bool) (aS aY : Option Addr) (cS cY nS nY : Nat) (lo hi : Int) (w : World) :
    Calls Tryz.prog 36 #[.agg #[.bool fo, .bool st, .bool ph, .slice aS nS cS, .slice aY nY cY, .int .i64 lo, .int .i64 hi]] w fun e w' => ∃ v B1 B2, e = .returned v ∧ w'.ownsRow w.heap.size 121 1 v (termF fo st ph aS aY cS cY nS nY lo hi B1 B2).length (termF fo st ph aS aY cS cY nS nY lo hi B1 B2) ∧ (st = true → w'.heap[B1]? = some (.cells #[.func (.func 83) #[] #[]] 66)) ∧ (ph = true → w'.heap[B2]? = some (.cells #[.func (.func 84) #[] #[]] 66)) ∧ Below w.heap.size w w' := by
  obtain ⟨i0, hi0, hz0, hz1, hz2⟩ := info_parts Tryz.infoStep
  have HB : Hid (Below w.heap.size w (w.alloc (.cells #[.bool fo, .bool st, .bool ph, .slice aS nS cS, .slice aY nY cY, .int .i64 lo, .int .i64 hi] 26))) := (Below.refl _ _).alloc (Nat.le_refl _) _
  have hblk : (w.alloc (.cells #[.bool fo, .bool st, .bool ph, .slice aS nS cS, .slice aY nY cY, .int .i64 lo, .int .i64 hi] 26)).heap[w.heap.size]? = some (.cells #[.bool fo, .bool st, .bool ph, .slice aS nS cS, .slice aY nY cY, .int .i64 lo, .int .i64 hi] 26) := heap_alloc_new _ _
  have Hblk := hidd hblk
  clear hblk
  have hs1 : (w.alloc (.cells #[.bool fo, .bool st, .bool ph, .slice aS nS cS, .slice aY nY cY, .int .i64 lo, .int .i64 hi] 26)).heap.size = w.heap.size + 1 := by simp
  go_enter Tryz.func36, Tryz.ntmps36
  go_upto_region 1 with fail
  generalize w.alloc (.cells #[.bool fo, .bool st, .bool ph, .slice aS nS cS, .slice aY nY cY, .int .i64 lo, .int .i64 hi] 26) = wa at *
  have q0 : wa.cell? ⟨w.heap.size, 0, none⟩ = some (.bool fo) := blkc Hblk.out 0
  have q1 : wa.cell? ⟨w.heap.size, 1, none⟩ = some (.bool st) := blkc Hblk.out 1
  have q2 : wa.cell? ⟨w.heap.size, 2, none⟩ = some (.bool ph) := blkc Hblk.out 2
  have q3 : wa.cell? ⟨w.heap.size, 3, none⟩ = some (.slice aS nS cS) := blkc Hblk.out 3
  have q4 : wa.cell? ⟨w.heap.size, 4, none⟩ = some (.slice aY nY cY) := blkc Hblk.out 4
  have q5 : wa.cell? ⟨w.heap.size, 5, none⟩ = some (.int .i64 lo) := blkc Hblk.out 5
  have q6 : wa.cell? ⟨w.heap.size, 6, none⟩ = some (.int .i64 hi) := blkc Hblk.out 6
  go_upto_if 8 with fail
  have HT0 : Hid (TI w (wa.alloc (.cells #[.func (.func 82) #[.agg #[.bool fo, .bool st, .bool ph, .slice aS nS cS, .slice aY nY cY, .int .i64 lo, .int .i64 hi]] #[]] 121)) #[.bool fo, .bool st, .bool ph, .slice aS nS cS, .slice aY nY cY, .int .i64 lo, .int .i64 hi] (.slice (some ⟨w.heap.size + 1, 0, none⟩) 1 1) [.func (.func 82) #[.agg #[.bool fo, .bool st, .bool ph, .slice aS nS cS, .slice aY nY cY, .int .i64 lo, .int .i64 hi]] #[]] false false 0 0) := by
    have h1 := World.ownsRow_lit (base := w.heap.size + 1) (e := 121) (size := 1) wa #[.func (.func 82) #[.agg #[.bool fo, .bool st, .bool ph, .slice aS nS cS, .slice aY nY cY, .int .i64 lo, .int .i64 hi]] #[]] 1 (by omega) (by unfold maxLen; omega) (by simp)
    rw [hs1] at h1
    exact ⟨h1, HB.out.alloc (by omega) _, (Below.heap_alloc _ _ _ (by omega)).trans Hblk.out, (fun e => by cases e), (fun e => by cases e)⟩
  clear q0 q1 q2 q3 q4 q5 q6
  generalize wa.alloc (.cells #[.func (.func 82) #[.agg #[.bool fo, .bool st, .bool ph, .slice aS nS cS, .slice aY nY cY, .int .i64 lo, .int .i64 hi]] #[]] 121) = w1 at *
  go_cut [3] (fun c wy => ∃ B1, TI w wy #[.bool fo, .bool st, .bool ph, .slice aS nS cS, .slice aY nY cY, .int .i64 lo, .int .i64 hi] c ([(.func (.func 82) #[.agg #[.bool fo, .bool st, .bool ph, .slice aS nS cS, .slice aY nY cY, .int .i64 lo, .int .i64 hi]] #[])] ++ (if st = true then [(.func (.func 120) #[] #[.pointer (some ⟨B1, 0, none⟩)])] else [])) st false B1 0)
  case first =>
    cases st with
    | false =>
      go_wp2_with fail
      go_meet
      case rel => exact ⟨0, HT0.out⟩
    | true =>
      have HT1 := hidd HT0.out.box1
      have HT2 := hidd (HT1.out.alloc (.cells #[(.func (.func 120) #[] #[.pointer (some ⟨w1.heap.size, 0, none⟩)])] 121))
      have hz9 := HT0.out.size
      go_wp2_with (first | (go_at_call 79; refine (eachText_any 83 _).mono ?_; rintro e w2 ⟨rfl, hw2⟩; obtain rfl := hw2.symm) | (at_builtin; refine wpList_append_own_at _ rfl _ _ 71 rfl (w.heap.size + 1) 121 i0 .nilFunc 1 8 Tryz.underlying71 hi0 hz0 hz1 hz2 rfl (by decide) _ _ _ rfl HT2.out.own ⟨w1.heap.size + 1, 0, none⟩ 1 1 [(.func (.func 120) #[] #[.pointer (some ⟨w1.heap.size, 0, none⟩)])] rfl rfl ?c1 ?c2 ?c3 ?c4 ?c5 ?_))
      case c1 =>
        intro q u hq
        match q, hq with
        | 0, hq => simp at hq; subst hq; simp [Addr.add]
        | q + 1, hq => simp at hq
      case c2 =>
        intro u hu
        simp at hu
        subst hu; rfl
      case c3 => unfold maxLen; (try simp only [List.length_cons, List.length_nil]); omega
      case c4 => (try simp only [List.length_cons, List.length_nil]); omega
      case c5 => simp; omega
      intro v' w3 hown' hgrow hne hat
      have HT3 := hidd (HT2.out.grow (L' := [(.func (.func 82) #[.agg #[.bool fo, .bool true, .bool ph, .slice aS nS cS, .slice aY nY cY, .int .i64 lo, .int .i64 hi]] #[]), (.func (.func 120) #[] #[.pointer (some ⟨w1.heap.size, 0, none⟩)])]) hown' hgrow (hat.imp id (fun h => h.trans (by simp))))
      clear hown' hgrow hne hat
      go_wp2_with fail
      go_meet
      case rel => exact ⟨_, HT3.out⟩
  case rest =>
    obtain ⟨B1, hT⟩ := hcut
    have hL1 : ([(.func (.func 82) #[.agg #[.bool fo, .bool st, .bool ph, .slice aS nS cS, .slice aY nY cY, .int .i64 lo, .int .i64 hi]] #[])] ++ (if st = true then [(.func (.func 120) #[] #[.pointer (some ⟨B1, 0, none⟩)])] else []) : List Value).length ≤ 2 := by cases st <;> simp
    obtain ⟨L1, hL1e⟩ : ∃ L1, ([(.func (.func 82) #[.agg #[.bool fo, .bool st, .bool ph, .slice aS nS cS, .slice aY nY cY, .int .i64 lo, .int .i64 hi]] #[])] ++ (if st = true then [(.func (.func 120) #[] #[.pointer (some ⟨B1, 0, none⟩)])] else []) : List Value) = L1 := ⟨_, rfl⟩
    rw [hL1e] at hT hL1
    have HL1 := hidd hL1e
    have HT1 := hidd hT
    have q2 := blkc hT.box 2
    simp at q2
    have hz1' := hT.size
    clear hL1e hT HT0
    go_upto_if 14 with fail
    clear q2
    go_cut [3] (fun c wy => ∃ B2, TI w wy #[.bool fo, .bool st, .bool ph, .slice aS nS cS, .slice aY nY cY, .int .i64 lo, .int .i64 hi] c (L1 ++ (if ph = true then [(.func (.func 120) #[] #[.pointer (some ⟨B2, 0, none⟩)])] else [])) st ph B1 B2)
    case first =>
      cases ph with
      | false =>
        go_wp2_with fail
        go_meet
        case rel => exact ⟨0, by simpa using HT1.out⟩
      | true =>
        have HT2 := hidd HT1.out.box2
        have HT3 := hidd (HT2.out.alloc (.cells #[(.func (.func 120) #[] #[.pointer (some ⟨wc.heap.size, 0, none⟩)])] 121))
        go_wp2_with (first | (go_at_call 79; refine (eachText_any 84 _).mono ?_; rintro e w2 ⟨rfl, hw2⟩; obtain rfl := hw2.symm) | (at_builtin; refine wpList_append_own_at _ rfl _ _ 71 rfl (w.heap.size + 1) 121 i0 .nilFunc 1 8 Tryz.underlying71 hi0 hz0 hz1 hz2 rfl (by decide) _ _ _ rfl HT3.out.own ⟨wc.heap.size + 1, 0, none⟩ 1 1 [(.func (.func 120) #[] #[.pointer (some ⟨wc.heap.size, 0, none⟩)])] rfl rfl ?c1 ?c2 ?c3 ?c4 ?c5 ?_))
        case c1 =>
          intro q u hq
          match q, hq with
          | 0, hq => simp at hq; subst hq; simp [Addr.add]
          | q + 1, hq => simp at hq
        case c2 =>
          intro u hu
          simp at hu
          subst hu; rfl
        case c3 => unfold maxLen; (try simp only [List.length_cons, List.length_nil]); omega
        case c4 => (try simp only [List.length_cons, List.length_nil]); omega
        case c5 => simp; omega
        intro v' w3 hown' hgrow hne hat
        have HT4 := hidd (HT3.out.grow (L' := L1 ++ [(.func (.func 120) #[] #[.pointer (some ⟨wc.heap.size, 0, none⟩)])]) (by rw [List.length_append]; exact hown') hgrow (hat.imp id (fun h => h.trans (by simp))))
        clear hown' hgrow hne hat
        go_wp2_with fail
        go_meet
        case rel => exact ⟨_, HT4.out⟩
    case rest =>
      obtain ⟨B2, hT⟩ := hcut
      have hL2 : (L1 ++ (if ph = true then [(.func (.func 120) #[] #[.pointer (some ⟨B2, 0, none⟩)])] else []) : List Value).length ≤ 3 := by rw [List.length_append]; cases ph <;> simp <;> omega
      obtain ⟨L2, hL2e⟩ : ∃ L2, (L1 ++ (if ph = true then [(.func (.func 120) #[] #[.pointer (some ⟨B2, 0, none⟩)])] else []) : List Value) = L2 := ⟨_, rfl⟩
      rw [hL2e] at hT hL2
      have HL2 := hidd hL2e
      have HT2 := hidd hT
      have q5 := blkc hT.box 5
      simp at q5
      have hz2' := hT.size
      clear hL2e hT HT1
      go_upto_if 21 with fail
      clear q5
      go_cut [3] (fun c wy => TI w wy #[.bool fo, .bool st, .bool ph, .slice aS nS cS, .slice aY nY cY, .int .i64 lo, .int .i64 hi] c (L2 ++ (if (lo != 0) = true then [(.func (.func 85) #[.agg #[.bool fo, .bool st, .bool ph, .slice aS nS cS, .slice aY nY cY, .int .i64 lo, .int .i64 hi]] #[])] else [])) st ph B1 B2)
      case first =>
        cases hlo : (lo != 0)
        · go_wp2_with fail
          go_meet
          case rel => rw [if_neg (by rw [hlo]; simp), List.append_nil]; exact HT2.out
        · have q0 := blkc HT2.out.box 0
          have q1 := blkc HT2.out.box 1
          have q2 := blkc HT2.out.box 2
          have q3 := blkc HT2.out.box 3
          have q4 := blkc HT2.out.box 4
          have q5 := blkc HT2.out.box 5
          have q6 := blkc HT2.out.box 6
          simp at q0 q1 q2 q3 q4 q5 q6
          have HT3 := hidd (HT2.out.alloc (.cells #[(.func (.func 85) #[.agg #[.bool fo, .bool st, .bool ph, .slice aS nS cS, .slice aY nY cY, .int .i64 lo, .int .i64 hi]] #[])] 121))
          go_wp2_with (at_builtin; refine wpList_append_own_at _ rfl _ _ 71 rfl (w.heap.size + 1) 121 i0 .nilFunc 1 8 Tryz.underlying71 hi0 hz0 hz1 hz2 rfl (by decide) _ _ _ rfl HT3.out.own ⟨wc.heap.size, 0, none⟩ 1 1 [(.func (.func 85) #[.agg #[.bool fo, .bool st, .bool ph, .slice aS nS cS, .slice aY nY cY, .int .i64 lo, .int .i64 hi]] #[])] rfl rfl ?c1 ?c2 ?c3 ?c4 ?c5 ?_)
          case c1 =>
            intro q u hq
            match q, hq with
            | 0, hq => simp at hq; subst hq; simp [Addr.add]
            | q + 1, hq => simp at hq
          case c2 =>
            intro u hu
            simp at hu
            subst hu; rfl
          case c3 => unfold maxLen; (try simp only [List.length_cons, List.length_nil]); omega
          case c4 => (try simp only [List.length_cons, List.length_nil]); omega
          case c5 => simp; omega
          intro v' w3 hown' hgrow hne hat
          have HT4 := hidd (HT3.out.grow (L' := L2 ++ [(.func (.func 85) #[.agg #[.bool fo, .bool st, .bool ph, .slice aS nS cS, .slice aY nY cY, .int .i64 lo, .int .i64 hi]] #[])]) (by rw [List.length_append]; exact hown') hgrow (hat.imp id (fun h => h.trans (by simp))))
          clear hown' hgrow hne hat
          go_wp2_with fail
          go_meet
          case rel => rw [if_pos hlo]; exact HT4.out
      case rest =>
        have hL3 : (L2 ++ (if (lo != 0) = true then [(.func (.func 85) #[.agg #[.bool fo, .bool st, .bool ph, .slice aS nS cS, .slice aY nY cY, .int .i64 lo, .int .i64 hi]] #[])] else []) : List Value).length ≤ 4 := by rw [List.length_append]; cases (lo != 0) <;> simp <;> omega
        obtain ⟨L3, hL3e⟩ : ∃ L3, (L2 ++ (if (lo != 0) = true then [(.func (.func 85) #[.agg #[.bool fo, .bool st, .bool ph, .slice aS nS cS, .slice aY nY cY, .int .i64 lo, .int .i64 hi]] #[])] else []) : List Value) = L3 := ⟨_, rfl⟩
        rw [hL3e] at hcut hL3
        have HL3 := hidd hL3e
        have HT3 := hidd hcut
        have HT4 := hidd (hcut.alloc (.cells #[.func (.func 86) #[] #[], .func (.func 87) #[] #[]] 121))
        have hz3' := hcut.size
        clear hL3e hcut HT2
        go_wp2_with (at_builtin; refine wpList_append_own_at _ rfl _ _ 71 rfl (w.heap.size + 1) 121 i0 .nilFunc 1 8 Tryz.underlying71 hi0 hz0 hz1 hz2 rfl (by decide) _ _ _ rfl HT4.out.own ⟨wc.heap.size, 0, none⟩ 2 2 [.func (.func 86) #[] #[], .func (.func 87) #[] #[]] rfl rfl ?c1 ?c2 ?c3 ?c4 ?c5 ?_)
        case c1 =>
          intro q u hq
          match q, hq with
          | 0, hq => simp at hq; subst hq; simp [Addr.add]
          | 1, hq => simp at hq; subst hq; simp [Addr.add]
          | q + 2, hq => simp at hq
        case c2 =>
          intro u hu
          simp at hu
          rcases hu with rfl | rfl <;> rfl
        case c3 => unfold maxLen; (try simp only [List.length_cons, List.length_nil]); omega
        case c4 => (try simp only [List.length_cons, List.length_nil]); omega
        case c5 => simp; omega
        intro v' w3 hown' hgrow hne hat
        have HT5 := hidd (HT4.out.grow (L' := L3 ++ [.func (.func 86) #[] #[], .func (.func 87) #[] #[]]) (by rw [List.length_append]; exact hown') hgrow (hat.imp id (fun h => h.trans (by simp))))
        clear hown' hgrow hne hat
        go_wp2_with fail
        go_returns
        have HE : termF fo st ph aS aY cS cY nS nY lo hi B1 B2 = L3 ++ [.func (.func 86) #[] #[], .func (.func 87) #[] #[]] := by
          rw [← HL3.out, ← HL2.out, ← HL1.out, termF]
          simp only [List.append_assoc]
        refine ⟨v', B1, B2, rfl, ?_, fun e => (HT5.out.st e).1, fun e => (HT5.out.ph e).1, HT5.out.bel⟩
        rw [HE]
        exact own_mono HT5.out.own (by omega)
end Go.Proofs.YtionicjnoogpjaaGreatDoor

namespace Go.Proofs.YtionicjnoogpjaaGreatDoor
open Go Go.RowKit
set_option linter.unusedVariables false
set_option linter.unusedSimpArgs false
set_option maxRecDepth 100000

/-- A slice of tokens in one of Y's blocks. -/
def HoldTY (Y : Nat → Prop) (W : World) (a : Option Addr) (l : List Tk) : Prop := HoldT W a l ∧ (l = [] ∨ ∀ b off, a = some ⟨b, off, none⟩ → Y b)
theorem HoldTY.but {Y Y' X : Nat → Prop} {W W' : World} {a : Option Addr} {l : List Tk} (h : HoldTY Y W a l) (hb : But X W W') (hx : ∀ b, b < W.heap.size → Y b → ¬ X b ∧ Y' b) : HoldTY Y' W' a l := by
  obtain ⟨h1, h2⟩ := h
  rcases h2 with h2 | h2
  · exact ⟨Or.inl h2, Or.inl h2⟩
  rcases h1 with h1 | ⟨b, off, h5, h6, h7⟩
  · exact ⟨Or.inl h1, Or.inl h1⟩
  · have hh : ∀ b' off', a = some ⟨b', off', none⟩ → ¬ X b' ∧ Y' b' := fun b' off' e => by
      have hy := h2 b' off' e
      rw [e] at h5
      cases h5
      exact hx _ h6 hy
    exact ⟨HoldT.but (Or.inr ⟨b, off, h5, h6, h7⟩) hb (fun b' off' e => (hh b' off' e).1), Or.inr fun b' off' e => (hh b' off' e).2⟩
/-- The words whose terms are known. -/
def KnownAt (T : List UInt8 → List (List UInt8) × Int) (W : World) (mb : Nat) (Y : Nat → Prop) (L : List (List UInt8 × Value)) : Prop :=
  SMap W mb L ∧ ∀ x ∈ L, (T x.1).2 = 0 ∧ ∃ a c k, x.2 = .slice a (T x.1).1.length c ∧ HoldTY Y W a (withT k (T x.1).1)
theorem KnownAt.but {T : List UInt8 → List (List UInt8) × Int} {W W' : World} {mb : Nat} {Y Y' : Nat → Prop} {L : List (List UInt8 × Value)} {X : Nat → Prop} (h : KnownAt T W mb Y L) (hb : But X W W') (hm : ¬ X mb) (hx : ∀ b, b < W.heap.size → Y b → ¬ X b ∧ Y' b) : KnownAt T W' mb Y' L := by
  refine ⟨h.1.keep (hb.block mb h.1.lt hm), fun x hx' => ?_⟩
  obtain ⟨h1, a, c, k, h2, h3⟩ := h.2 x hx'
  exact ⟨h1, a, c, k, h2, h3.but hb hx⟩
theorem KnownAt.put {T : List UInt8 → List (List UInt8) × Int} {W W' : World} {mb : Nat} {Y : Nat → Prop} {L : List (List UInt8 × Value)} {t : List UInt8} {a : Option Addr} {c : Nat} {k : Tk} (h : KnownAt T W mb Y L) (hY : ∀ b, Y b → b ≠ mb) (hT : (T t).2 = 0) (hr : HoldTY Y W a (withT k (T t).1))
    (hs : SMap W' mb (L ++ [(t, .slice a (T t).1.length c)])) (hg : W.grownBy W' (some mb)) : KnownAt T W' mb Y (L ++ [(t, .slice a (T t).1.length c)]) ∧ HoldTY Y W' a (withT k (T t).1) := by
  have hb : But (fun b => b = mb) W W' := ⟨hg.os, hg.tape, hg.output, hg.size, fun b hb hn => hg.block b hb (fun e => hn (Option.some.inj e))⟩
  have hx : ∀ b, b < W.heap.size → Y b → ¬ (fun b => b = mb) b ∧ Y b := fun b _ hy => ⟨hY b hy, hy⟩
  refine ⟨⟨hs, fun x hx' => ?_⟩, hr.but hb hx⟩
  rcases List.mem_append.1 hx' with h1 | h1
  · obtain ⟨h2, a', c', k', h3, h4⟩ := h.2 x h1
    exact ⟨h2, a', c', k', h3, h4.but hb hx⟩
  · simp only [List.mem_singleton] at h1
    subst h1
    exact ⟨hT, a, c, k, rfl, hr.but hb hx⟩
/-- The chain of the terms, in a world. -/
structure ChAt (w0 wT : World) (fo st ph : Bool) (aS aY : Option Addr) (cS cY : Nat) (stops : List (List UInt8)) (syns : List (List UInt8 × List UInt8)) (lo hi : Int) (B1 B2 : Nat) (aF : Option Addr) : Prop where
  az : AzAt w0 aS aY stops syns lo hi
  bel : Below w0.heap.size w0 wT
  row : HoldFn wT (fun _ => False) aF (termF fo st ph aS aY cS cY stops.length syns.length lo hi B1 B2)
  b1 : st = true → wT.heap[B1]? = some (.cells #[.func (.func 83) #[] #[]] 66)
  b2 : ph = true → wT.heap[B2]? = some (.cells #[.func (.func 84) #[] #[]] 66)
theorem ChAt.below {w0 wT W : World} {fo st ph : Bool} {aS aY : Option Addr} {cS cY : Nat} {stops : List (List UInt8)} {syns : List (List UInt8 × List UInt8)} {lo hi : Int} {B1 B2 : Nat} {aF : Option Addr} (h : ChAt w0 wT fo st ph aS aY cS cY stops syns lo hi B1 B2 aF) (hb : Below wT.heap.size wT W) : ChAt w0 W fo st ph aS aY cS cY stops syns lo hi B1 B2 aF := by
  refine ⟨h.az, h.bel.trans (hb.mono h.bel.size), ?_, fun e => blko (h.b1 e) hb, fun e => blko (h.b2 e) hb⟩
  rcases h.row with h1 | ⟨b, h1, h2, h3, h4⟩
  · exact Or.inl h1
  · exact Or.inr ⟨b, h1, Nat.lt_of_lt_of_le h2 hb.size, h3, fun k hk => (hb.cell (p := ⟨b, k, none⟩) h2).trans (h4 k hk)⟩
theorem termF_len (fo st ph : Bool) (aS aY : Option Addr) (cS cY nS nY : Nat) (lo hi : Int) (B1 B2 : Nat) : (termF fo st ph aS aY cS cY nS nY lo hi B1 B2).length ≤ 6 := by
  unfold termF
  cases st <;> cases ph <;> cases (lo != 0) <;> simp
/-- What termsOf tells. -/
def TermsPost (T : List UInt8 → List (List UInt8) × Int) (t : List UInt8) (W : World) (mb : Nat) (Y : Nat → Prop) (e : Ending) (w' : World) : Prop :=
  But (fun b => b = mb) W w' ∧ ((∃ a c k L', (T t).2 = 0 ∧ e = .returned (.tuple #[.slice a (T t).1.length c, .int .i64 0]) ∧ HoldTY Y w' a (withT k (T t).1) ∧ KnownAt T w' mb Y L') ∨ (∃ v, (T t).2 ≠ 0 ∧ e = .returned (.tuple #[v, .int .i64 (T t).2])))
set_option maxHeartbeats 8000000 in
theorem termsOf_any {w0 : World} {fo st ph : Bool} {aS aY : Option Addr} {cS cY : Nat} {stops : List (List UInt8)} {syns : List (List UInt8 × List UInt8)} {lo hi : Int} {B1 B2 : Nat} {aF : Option Addr} (cF : Nat) (hlo : lo = 0 ∨ 0 < lo) (mb : Nat) (Y : Nat → Prop) (L : List (List UInt8 × Value)) (word : Tk) (W : World)
    (hch : ChAt w0 W fo st ph aS aY cS cY stops syns lo hi B1 B2 aF) (hY : ∀ b, Y b → b ≠ mb) (hYn : ∀ b, W.heap.size ≤ b → Y b) (hK : KnownAt (termsOf st ph syns lo hi) W mb Y L) (hsz : word.1.length ≤ 262144) :
    Calls Tryz.prog 37 #[.agg #[.slice aF (termF fo st ph aS aY cS cY stops.length syns.length lo hi B1 B2).length cF, .map (some mb)], tokV word] W (TermsPost (termsOf st ph syns lo hi) word.1 W mb Y) := by
  obtain ⟨tx, p0, p1, p2⟩ := word
  dsimp only at hsz ⊢
  have HT1 := hidd (termG_one st ph syns lo hi hlo (tx, p0, p1, p2))
  dsimp only at HT1
  have HFl := hidd (termF_len fo st ph aS aY cS cY stops.length syns.length lo hi B1 B2)
  have HRun : Hid (∀ wc w, Below W.heap.size W wc → But (fun _ => False) wc w → OwnX wc (fun _ => False) w (.slice (some ⟨wc.heap.size, 0, none⟩) 1 1) [(tx, p0, p1, p2)] → Calls Tryz.prog 34 #[.slice aF (termF fo st ph aS aY cS cY stops.length syns.length lo hi B1 B2).length cF, .slice (some ⟨wc.heap.size, 0, none⟩) 1 1] w fun e w' => ∃ v', e = .returned (.tuple #[v', .int .i64 (termsOf st ph syns lo hi tx).2]) ∧ OwnX wc (fun _ => False) w' v' (withT (tx, p0, p1, p2) (termsOf st ph syns lo hi tx).1) ∧ But (fun _ => False) wc w') := by
    intro wc w h1 h2 h3
    have hc := hch.below h1
    have h4 := runSteps_any wc (fun _ => False) _ (TermP 1 262144) (termG st ph syns lo hi) aF cF hc.row (by have := HFl.out; omega) (termChain hc.az hc.bel fo st ph cS cY B1 B2 hc.b1 hc.b2) (.slice (some ⟨wc.heap.size, 0, none⟩) 1 1) [(tx, p0, p1, p2)] w h2 h3 ⟨by simp, fun x hx => by simp at hx; rw [hx]; exact hsz⟩
    rw [HT1.out] at h4
    exact h4
  have HK := hidd hK
  have HY := hidd hY
  have HYn := hidd hYn
  obtain ⟨nF, hnF⟩ : ∃ n, (termF fo st ph aS aY cS cY stops.length syns.length lo hi B1 B2).length = n := ⟨_, rfl⟩
  rw [hnF] at HRun ⊢
  obtain ⟨T, hTe⟩ : ∃ T, termsOf st ph syns lo hi = T := ⟨_, rfl⟩
  rw [hTe] at HRun HK ⊢
  clear hTe hnF hch hY hYn hK HT1 HFl hlo
  show Calls Tryz.prog 37 #[.agg #[.slice aF nF cF, .map (some mb)], .agg #[.string (bs tx), .int .i64 p0, .int .i64 p1, .int .i64 p2]] W _
  have HKw : Hid (TermsPost T tx W mb Y = fun e w' => TermsPost T tx W mb Y e w') := rfl
  go_enter Tryz.func37, Tryz.ntmps37
  go_upto_region 1 with fail
  have HB : Hid (Below W.heap.size W ((W.alloc (.cells #[.slice aF nF cF, .map (some mb)] 75)).alloc (.cells #[.string (bs tx), .int .i64 p0, .int .i64 p1, .int .i64 p2] 35))) := ((Below.refl _ _).alloc (Nat.le_refl _) _).alloc (by simp) _
  obtain ⟨hx1, hx2⟩ := box_two W (.cells #[.slice aF nF cF, .map (some mb)] 75) (.cells #[.string (bs tx), .int .i64 p0, .int .i64 p1, .int .i64 p2] 35)
  have hsb : ((W.alloc (.cells #[.slice aF nF cF, .map (some mb)] 75)).alloc (.cells #[.string (bs tx), .int .i64 p0, .int .i64 p1, .int .i64 p2] 35)).heap.size = W.heap.size + 2 := by simp
  generalize (W.alloc (.cells #[.slice aF nF cF, .map (some mb)] 75)).alloc (.cells #[.string (bs tx), .int .i64 p0, .int .i64 p1, .int .i64 p2] 35) = Wb at *
  have k0 : Wb.cell? ⟨W.heap.size, 0, none⟩ = some (.slice aF nF cF) := blkc hx1 0
  have k1 : Wb.cell? ⟨W.heap.size, 1, none⟩ = some (.map (some mb)) := blkc hx1 1
  have t0 : Wb.cell? ⟨W.heap.size + 1, 0, none⟩ = some (.string (bs tx)) := blkc hx2 0
  have t1 : Wb.cell? ⟨W.heap.size + 1, 1, none⟩ = some (.int .i64 p0) := blkc hx2 1
  have t2 : Wb.cell? ⟨W.heap.size + 1, 2, none⟩ = some (.int .i64 p1) := blkc hx2 2
  have t3 : Wb.cell? ⟨W.heap.size + 1, 3, none⟩ = some (.int .i64 p2) := blkc hx2 3
  have HX1 := hidd hx1
  have HX2 := hidd hx2
  clear hx1 hx2
  have HKb : Hid (KnownAt T Wb mb Y L) := HK.out.but (X := fun _ => False) (But.of_below HB.out) (fun h => h) (fun b _ hy => ⟨fun h => h, hy⟩)
  rcases HKb.out.1.look tx (by omega) 73 29 (.slice none 0 0) Tryz.underlying73 Tryz.zeroValue29 with ⟨hno, hlk⟩ | ⟨j, v, hj, hlk⟩
  · have HNo := hidd hno
    clear hno
    have hlit : (Wb.alloc (.cells #[.string (bs tx), .int .i64 p0, .int .i64 p1, .int .i64 p2] 35)).ownsRow 0 35 4 (.slice (some ⟨Wb.heap.size, 0, none⟩) 1 1) 1 [.string (bs tx), .int .i64 p0, .int .i64 p1, .int .i64 p2] :=
      World.ownsRow_lit (base := 0) (e := 35) (size := 4) Wb #[.string (bs tx), .int .i64 p0, .int .i64 p1, .int .i64 p2] 1 (Nat.zero_le _) (by unfold maxLen; omega) (by simp)
    have HR := hidd (HRun.out Wb (Wb.alloc (.cells #[.string (bs tx), .int .i64 p0, .int .i64 p1, .int .i64 p2] 35)) HB.out ((But.refl _ _).alloc _) ⟨hlit, fun b e => Or.inr (by cases e; exact Nat.le_refl _)⟩)
    rw [hsb] at HR
    clear hlit HRun
    by_cases hc : (T tx).2 = 0
    · rw [hc] at HR
      go_upto_region 6 with (go_at_call 34; refine HR.out.mono ?_; rintro e w3 ⟨v3, rfl, ho3, hb3⟩)
      have HB3 : Hid (Below Wb.heap.size Wb w3) := hb3.below (Nat.le_refl _) (fun _ _ h => h)
      have hz3 := HB3.out.size
      have k3 : w3.cell? ⟨W.heap.size, 1, none⟩ = some (.map (some mb)) := blkc (blko HX1.out HB3.out) 1
      have s0 : w3.cell? ⟨W.heap.size + 1, 0, none⟩ = some (.string (bs tx)) := blkc (blko HX2.out HB3.out) 0
      have HK3 : Hid (KnownAt T w3 mb Y L) := HKb.out.but (X := fun _ => False) hb3 (fun h => h) (fun b _ hy => ⟨fun h => h, hy⟩)
      obtain ⟨a3, c3, rfl, hH3, hbb⟩ := holdT_row ho3.1
      have HH3 : Hid (HoldTY Y w3 a3 (withT (tx, p0, p1, p2) (T tx).1)) := ⟨hH3, Or.inr fun b off e => HYn.out b (by
        subst e
        rcases ho3.2 b rfl with h | h
        · exact h.elim
        · omega)⟩
      rw [withT_len]
      obtain ⟨w4, hput, hs4, hg4⟩ := HK3.out.1.put tx (by omega) (.slice a3 (T tx).1.length c3) 73 29 Tryz.underlying73 HNo.out
      have HQ := hidd (HK3.out.put HY.out hc HH3.out hs4 hg4)
      have HP : Hid (TermsPost T tx W mb Y (.returned (.tuple #[.slice a3 (T tx).1.length c3, .int .i64 0])) w4) := by
        refine ⟨?_, Or.inl ⟨a3, c3, _, _, hc, rfl, HQ.out.2, HQ.out.1⟩⟩
        have h1 : But (fun b => b = mb) W w3 := But.of_below (HB.out.trans (HB3.out.mono HB.out.size))
        exact h1.trans (Y := fun b => b = mb) ⟨hg4.os, hg4.tape, hg4.output, hg4.size, fun b hb hn => hg4.block b hb (fun e => hn (Option.some.inj e))⟩ (fun _ _ h => h) (fun _ _ h => h)
      clear hs4 hg4 HQ HK3 HH3 hH3 hbb ho3 hb3 HR
      go_wp2_with fail
      go_ret2
      exact HP.out
    · have hcn : ((T tx).2 == 0) = false := by rw [beq_eq_false_iff_ne]; exact hc
      have HPn : Hid (∀ v w3, But (fun _ => False) Wb w3 → TermsPost T tx W mb Y (.returned (.tuple #[v, .int .i64 (T tx).2])) w3) := fun v w3 h => ⟨(But.of_below HB.out).trans h (fun _ _ h => h) (fun _ _ h => h.elim), Or.inr ⟨v, hc, rfl⟩⟩
      clear hc
      generalize (T tx).2 = cd at *
      go_wp2_with (go_at_call 34; refine HR.out.mono ?_; rintro e w3 ⟨v3, rfl, ho3, hb3⟩)
      go_ret2
      exact HPn.out _ _ hb3
  · obtain ⟨h1, a, c, k, h2, h3⟩ := HKb.out.2 _ (List.mem_of_getElem? hj)
    dsimp only at h1 h2 h3
    subst h2
    have HP : Hid (TermsPost T tx W mb Y (.returned (.tuple #[.slice a (T tx).1.length c, .int .i64 0])) Wb) := ⟨But.of_below HB.out, Or.inl ⟨a, c, k, L, h1, rfl, h3, HKb.out⟩⟩
    clear h1 h3 hj
    go_wp2_with fail
    go_ret2
    exact HP.out
end Go.Proofs.YtionicjnoogpjaaGreatDoor
