import Derived.Test.YtmnfioghhdgciaaDoorProg
import Derived.Test.YtmnfioghhdgciaaDoorWildJ35
import Derived.Test.YtmnfioghhdgciaaDoorWildJ00
import Derived.Test.YtmnfioghhdgciaaDoorWildJ21
import Derived.WalkLawsBesides
import Derived.Test.YtmnfioghhdgciaaDoorWildJ11
import Derived.Lib.OthersKept
import Derived.Test.YtmnfioghhdgciaaDoorWildJ34
import Derived.Test.YtmnfioghhdgciaaDoorWildJ36
import Derived.Test.YtmnfioghhdgciaaDoorWildJ37
import Derived.Laws.EntriesVeiled
namespace Go.Proofs.YtmnfioghhdgciaaDoor
open Go Go.RowKit
set_option linter.unusedVariables false

def Tabs (w : World) : Prop := Lib.Utf8Tabs (Tryd.laysValid_ren.g 3) (Tryd.laysValid_ren.g 4) w
theorem Tabs.below {w w' : World} (h : Tabs w) (hb : Below w.heap.size w w') : Tabs w' := Utf8Tabs_below h hb
theorem valid_any (s : ByteArray) (w : World) (hs : s.size ≤ 1048576) (hT : Tabs w) :
    Calls Tryd.prog 31 #[.string s] w fun e w' => e = .returned (.bool (validB s)) ∧ Below w.heap.size w w' :=
  Any.utf8_ValidString Tryd.laysValid s w (by omega) hT
end Go.Proofs.YtmnfioghhdgciaaDoor

namespace Go.Proofs.YtmnfioghhdgciaaDoor
open Go Go.RowKit
set_option linter.unusedVariables false

set_option maxHeartbeats 1000000 in
theorem textCode_any (s : ByteArray) (w : World) (hs : s.size ≤ 1048576) (hT : Tabs w) :
    Calls Tryd.prog 16 #[.string s] w fun e w' => e = .returned (.int .i64 (decCode s)) ∧ Below w.heap.size w w' := by
  have HT := hidd hT
  clear hT
  by_cases hlong : 65536 < s.size
  · have HC : Hid (decCode s = 2) := by show _ = _; rw [decCode, if_pos hlong]
    have hlz : (65536 : Int) < (s.size : Int) := by omega
    go_enter Tryd.func16, Tryd.ntmps16
    go_wp2
    go_ret
    rw [HC.out]
    exact ⟨rfl, Below.refl _ _⟩
  · have hlz : ¬ (65536 : Int) < (s.size : Int) := by omega
    by_cases hv : validB s = true
    · have HC : Hid (decCode s = 0) := by show _ = _; rw [decCode, if_neg hlong, if_pos hv]
      go_enter Tryd.func16, Tryd.ntmps16
      go_wp2_with fail
      refine (valid_any s _ hs HT.out).mono ?_
      rintro e w1 ⟨rfl, hb1⟩
      go_wp2
      go_ret
      rw [HC.out]
      exact ⟨rfl, hb1⟩
    · have hv' : validB s = false := by simpa using hv
      have HC : Hid (decCode s = 3) := by show _ = _; rw [decCode, if_neg hlong, if_neg hv]
      clear hv
      go_enter Tryd.func16, Tryd.ntmps16
      go_wp2_with fail
      refine (valid_any s _ hs HT.out).mono ?_
      rintro e w1 ⟨rfl, hb1⟩
      go_wp2
      go_ret
      rw [HC.out]
      exact ⟨rfl, hb1⟩
end Go.Proofs.YtmnfioghhdgciaaDoor



namespace Go.Proofs.YtmnfioghhdgciaaDoor
open Go Go.RowKit
set_option linter.unusedVariables false

/-! impl.piecesOf. -/
def pcs (l : List Int) : List Int := l.map pieceI
theorem pcs_cons (x : Int) (l : List Int) : pcs (x :: l) = pieceI x :: pcs l := rfl
theorem pieceI_chr {r : Nat} : pieceI (r : Int) = (r : Int) := by unfold pieceI; rw [if_neg (by omega), if_neg (by omega)]
set_option maxHeartbeats 4000000 in
set_option maxRecDepth 100000 in
theorem piecesOf_any (s : ByteArray) (w : World) (hs : s.size ≤ 65536) :
    Calls Tryd.prog 19 #[.string s] w fun e w' => ∃ v, e = .returned v ∧ w'.ownsRow w.heap.size 3 1 v (pcs (partsL (runes s))).length (zI (pcs (partsL (runes s)))) ∧ Below w.heap.size w w' := by
  obtain ⟨i0, hi, hz0, hz1, hz2⟩ := info_parts Tryd.infoInt
  have Hgp := hidd (goP_parts (runes s))
  have hlenA : (pcs (goP false (runes s))).length ≤ 65537 := by have h1 := goP_len false (runes s); have h2 := runes_le s; simp only [pcs, List.length_map]; omega
  have HlenA := hidd hlenA
  clear hlenA
  have hit0 := hidd (World.iter_heap w s 0)
  have hb4 : Below w.heap.size w (w.iter s 0) := (Below.refl _ _).alloc (Nat.le_refl _) _
  have hown4 : (w.iter s 0).ownsRow w.heap.size 3 1 (.slice none 0 0) 0 [] := World.ownsRow_nil _ _ _ _
  go_enter Tryd.func19, Tryd.ntmps19
  go_wp2
  generalize w.iter s 0 = w4 at hit0 hb4 hown4 ⊢
  obtain ⟨B, hB⟩ : ∃ B, w.heap.size = B := ⟨_, rfl⟩
  rw [hB] at hit0 hb4 hown4 ⊢
  go_loopw [3, 4] (fun v tv wr => ∃ (p f : Nat) (tk : Bool) (acc : List Int), tv = .bool tk ∧ wr.ownsRow B 3 1 v acc.length (zI acc) ∧ wr.heap[B]? = some (.stringIter s p) ∧ Below B w wr ∧ acc ++ pcs (goP tk (runesFrom s f p)) = pcs (goP false (runes s)) ∧ s.size ≤ p + f) (fun _ _ wr => s.size - wr.iterPos B)
  case atStart => exact ⟨0, s.size, false, [], rfl, hown4, hit0.out, hb4, rfl, by omega⟩
  case round =>
    obtain ⟨p, f, tk, acc, rfl, hown, hit, hbel, hacc, hf⟩ := hrel
    have hlen : acc.length ≤ 65537 := by have := congrArg List.length hacc; rw [List.length_append] at this; have := HlenA.out; omega
    have HO := hidd hown
    clear hown hown4 hb4 hit0
    by_cases hlt : p < s.size
    · have hnx : ∀ ty, (Instr.next (.pointer (some ⟨B, 0, none⟩)) true ty).run Tryd.prog wr = _ := fun ty => Lib.run_next_any_at wr B s p ty hit hlt
      have hw := width_le s p hlt
      have hr := rune_le s p
      have HO2 := hidd (own_iterAt HO.out hit (p + (Utf8.decode s p).2))
      have hit2 := Lib.iterAt_heap wr B s p (p + (Utf8.decode s p).2) hit
      have hbel2 := Lib.below_iterAt hbel (k := B) (Nat.le_refl _) s (p + (Utf8.decode s p).2)
      obtain ⟨f', hf'⟩ : ∃ f', f = f' + 1 := ⟨f - 1, by omega⟩
      subst hf'
      rw [runesFrom_step s f' p hlt] at hacc
      have Hst := hidd hacc
      have Hpos := hidd (iterPos_of hit)
      have Hit2 := hidd hit2
      have HB2 := hidd hbel2
      have hzw : B ≤ (wr.iterAt B s (p + (Utf8.decode s p).2)).heap.size := by have := hbel2.size; omega
      have hzB : B < (wr.iterAt B s (p + (Utf8.decode s p).2)).heap.size := (Array.getElem?_eq_some_iff.1 hit2).1
      clear hacc HO hit2 hbel2 hbel
      generalize (Utf8.decode s p).1 = r at *
      generalize (Utf8.decode s p).2 = n at *
      generalize wr.iterAt B s (p + n) = wi at *
      cases tk with
      | true =>
        have Hn : Hid (acc ++ [(r : Int)] ++ pcs (goP false (runesFrom s f' (p + n))) = pcs (goP false (runes s))) := by
          show _ = _
          rw [← Hst.out]
          rw [goP, pcs_cons, pieceI_chr]; simp
        clear Hst
        go_wp2_with (at_builtin; refine wpList_append_own _ rfl _ _ 30 rfl B 3 i0 (.int .i64 0) 1 8 Tryd.underlying30 hi hz0 hz1 hz2 rfl (by decide) _ _ _ rfl (HO2.out.alloc _) ⟨wi.heap.size, 0, none⟩ 1 1 [.int .i64 ((r : Int))] rfl rfl ?c1b ?c2b ?c3b ?c4b ?c5b ?_)
        try case c1b =>
          intro j u hj
          match j, hj with
          | 0, hj => simp at hj; subst hj; simp [Addr.add]
        case c2b => first | rfl | (intro u hu; simp at hu; subst hu; rfl)
        case c3b => unfold maxLen; omega
        case c4b => omega
        case c5b => first | omega | (simp; omega)
        intro v' w5 hown' hgrow hne
        have R : Hid (w5.ownsRow B 3 1 v' (acc ++ [(r : Int)]).length (zI (acc ++ [(r : Int)])) ∧ w5.heap[B]? = some (.stringIter s (p + n)) ∧ Below B w w5) := by
          refine ⟨?_, ?_, (HB2.out.alloc hzw _).grown hgrow (by simp; omega) (own_block HO2.out)⟩
          · rw [List.length_append, zI_snoc]
            exact hown'
          · rw [hgrow.block B (by simp; omega) (own_ne_iter HO2.out Hit2.out), Below.heap_alloc _ _ _ hzB]
            exact Hit2.out
        clear hown' hgrow HO2 Hit2 HB2
        go_wp2
        go_roundw
        case rel => exact ⟨p + n, f', false, acc ++ [(r : Int)], rfl, R.out.1, R.out.2.1, R.out.2.2, Hn.out, by omega⟩
        case measure => rw [iterPos_of R.out.2.1, Hpos.out]; omega
      | false =>
        by_cases h92 : r = 92
        · subst h92
          have Hn : Hid (acc ++ pcs (goP true (runesFrom s f' (p + n))) = pcs (goP false (runes s))) := by
            show _ = _
            rw [← Hst.out]; simp [goP]
          clear Hst
          go_wp2
          go_roundw
          case rel => exact ⟨p + n, f', true, acc, rfl, HO2.out, Hit2.out, HB2.out, Hn.out, by omega⟩
          case measure => rw [iterPos_of Hit2.out, Hpos.out]; omega
        have b92 : ((r : Int) == 92) = false := beq_false_of_ne (by omega)
        have n92 : ¬ (r : Int) = 92 := by omega
        by_cases h63 : r = 63
        · subst h63
          have Hn : Hid (acc ++ [-2] ++ pcs (goP false (runesFrom s f' (p + n))) = pcs (goP false (runes s))) := by
            show _ = _
            rw [← Hst.out]
            rw [goP, if_neg (by omega), pcs_cons, show pieceI (mapP ((63 : Nat) : Int)) = -2 from by decide]; simp
          clear Hst
          go_wp2_with (at_builtin; refine wpList_append_own _ rfl _ _ 30 rfl B 3 i0 (.int .i64 0) 1 8 Tryd.underlying30 hi hz0 hz1 hz2 rfl (by decide) _ _ _ rfl (HO2.out.alloc _) ⟨wi.heap.size, 0, none⟩ 1 1 [.int .i64 (-2)] rfl rfl ?c1c ?c2c ?c3c ?c4c ?c5c ?_)
          try case c1c =>
            intro j u hj
            match j, hj with
            | 0, hj => simp at hj; subst hj; simp [Addr.add]
          case c2c => first | rfl | (intro u hu; simp at hu; subst hu; rfl)
          case c3c => unfold maxLen; omega
          case c4c => omega
          case c5c => first | omega | (simp; omega)
          intro v' w5 hown' hgrow hne
          have R : Hid (w5.ownsRow B 3 1 v' (acc ++ [-2]).length (zI (acc ++ [-2])) ∧ w5.heap[B]? = some (.stringIter s (p + n)) ∧ Below B w w5) := by
            refine ⟨?_, ?_, (HB2.out.alloc hzw _).grown hgrow (by simp; omega) (own_block HO2.out)⟩
            · rw [List.length_append, zI_snoc]
              exact hown'
            · rw [hgrow.block B (by simp; omega) (own_ne_iter HO2.out Hit2.out), Below.heap_alloc _ _ _ hzB]
              exact Hit2.out
          clear hown' hgrow HO2 Hit2 HB2
          go_wp2
          go_roundw
          case rel => exact ⟨p + n, f', false, acc ++ [-2], rfl, R.out.1, R.out.2.1, R.out.2.2, Hn.out, by omega⟩
          case measure => rw [iterPos_of R.out.2.1, Hpos.out]; omega
        have b63 : ((r : Int) == 63) = false := beq_false_of_ne (by omega)
        by_cases h42 : r = 42
        · subst h42
          have Hn : Hid (acc ++ [-3] ++ pcs (goP false (runesFrom s f' (p + n))) = pcs (goP false (runes s))) := by
            show _ = _
            rw [← Hst.out]
            rw [goP, if_neg (by omega), pcs_cons, show pieceI (mapP ((42 : Nat) : Int)) = -3 from by decide]; simp
          clear Hst
          go_wp2_with (at_builtin; refine wpList_append_own _ rfl _ _ 30 rfl B 3 i0 (.int .i64 0) 1 8 Tryd.underlying30 hi hz0 hz1 hz2 rfl (by decide) _ _ _ rfl (HO2.out.alloc _) ⟨wi.heap.size, 0, none⟩ 1 1 [.int .i64 (-3)] rfl rfl ?c1d ?c2d ?c3d ?c4d ?c5d ?_)
          try case c1d =>
            intro j u hj
            match j, hj with
            | 0, hj => simp at hj; subst hj; simp [Addr.add]
          case c2d => first | rfl | (intro u hu; simp at hu; subst hu; rfl)
          case c3d => unfold maxLen; omega
          case c4d => omega
          case c5d => first | omega | (simp; omega)
          intro v' w5 hown' hgrow hne
          have R : Hid (w5.ownsRow B 3 1 v' (acc ++ [-3]).length (zI (acc ++ [-3])) ∧ w5.heap[B]? = some (.stringIter s (p + n)) ∧ Below B w w5) := by
            refine ⟨?_, ?_, (HB2.out.alloc hzw _).grown hgrow (by simp; omega) (own_block HO2.out)⟩
            · rw [List.length_append, zI_snoc]
              exact hown'
            · rw [hgrow.block B (by simp; omega) (own_ne_iter HO2.out Hit2.out), Below.heap_alloc _ _ _ hzB]
              exact Hit2.out
          clear hown' hgrow HO2 Hit2 HB2
          go_wp2
          go_roundw
          case rel => exact ⟨p + n, f', false, acc ++ [-3], rfl, R.out.1, R.out.2.1, R.out.2.2, Hn.out, by omega⟩
          case measure => rw [iterPos_of R.out.2.1, Hpos.out]; omega
        have b42 : ((r : Int) == 42) = false := beq_false_of_ne (by omega)
        have hmp : mapP (r : Int) = (r : Int) := by rw [mapP, if_neg (by omega), if_neg (by omega)]
        have Hn : Hid (acc ++ [(r : Int)] ++ pcs (goP false (runesFrom s f' (p + n))) = pcs (goP false (runes s))) := by
          show _ = _
          rw [← Hst.out]
          rw [goP, if_neg n92, pcs_cons, hmp, pieceI_chr]; simp
        clear Hst hmp
        go_wp2_with (at_builtin; refine wpList_append_own _ rfl _ _ 30 rfl B 3 i0 (.int .i64 0) 1 8 Tryd.underlying30 hi hz0 hz1 hz2 rfl (by decide) _ _ _ rfl (HO2.out.alloc _) ⟨wi.heap.size, 0, none⟩ 1 1 [.int .i64 ((r : Int))] rfl rfl ?c1e ?c2e ?c3e ?c4e ?c5e ?_)
        try case c1e =>
          intro j u hj
          match j, hj with
          | 0, hj => simp at hj; subst hj; simp [Addr.add]
        case c2e => first | rfl | (intro u hu; simp at hu; subst hu; rfl)
        case c3e => unfold maxLen; omega
        case c4e => omega
        case c5e => first | omega | (simp; omega)
        intro v' w5 hown' hgrow hne
        have R : Hid (w5.ownsRow B 3 1 v' (acc ++ [(r : Int)]).length (zI (acc ++ [(r : Int)])) ∧ w5.heap[B]? = some (.stringIter s (p + n)) ∧ Below B w w5) := by
          refine ⟨?_, ?_, (HB2.out.alloc hzw _).grown hgrow (by simp; omega) (own_block HO2.out)⟩
          · rw [List.length_append, zI_snoc]
            exact hown'
          · rw [hgrow.block B (by simp; omega) (own_ne_iter HO2.out Hit2.out), Below.heap_alloc _ _ _ hzB]
            exact Hit2.out
        clear hown' hgrow HO2 Hit2 HB2
        go_wp2
        go_roundw
        case rel => exact ⟨p + n, f', false, acc ++ [(r : Int)], rfl, R.out.1, R.out.2.1, R.out.2.2, Hn.out, by omega⟩
        case measure => rw [iterPos_of R.out.2.1, Hpos.out]; omega
    · have hnx : ∀ ty, (Instr.next (.pointer (some ⟨B, 0, none⟩)) true ty).run Tryd.prog wr = _ := fun ty => Lib.run_next_end_at wr B s p ty hit hlt
      rw [runesFrom_end s f p hlt] at hacc
      have Hst := hidd hacc
      clear hacc hit
      have HB := hidd hbel
      have hzB : B ≤ wr.heap.size := by have := hbel.size; omega
      clear hbel
      cases tk with
      | false =>
        have HE : Hid (pcs (partsL (runes s)) = acc) := by show _ = _; rw [← Hgp.out, ← Hst.out]; simp [goP, pcs]
        go_wp2
        go_ret
        rw [HE.out, hB]
        exact ⟨_, rfl, HO.out, HB.out⟩
      | true =>
        have HE : Hid (pcs (partsL (runes s)) = acc ++ [92]) := by show _ = _; rw [← Hgp.out, ← Hst.out]; simp [goP, pcs, pieceI]
        go_wp2_with (at_builtin; refine wpList_append_own _ rfl _ _ 30 rfl B 3 i0 (.int .i64 0) 1 8 Tryd.underlying30 hi hz0 hz1 hz2 rfl (by decide) _ _ _ rfl (HO.out.alloc _) ⟨wr.heap.size, 0, none⟩ 1 1 [.int .i64 92] rfl rfl ?c1z ?c2z ?c3z ?c4z ?c5z ?_)
        try case c1z =>
          intro j u hj
          match j, hj with
          | 0, hj => simp at hj; subst hj; simp [Addr.add]
        case c2z => first | rfl | (intro u hu; simp at hu; subst hu; rfl)
        case c3z => unfold maxLen; omega
        case c4z => omega
        case c5z => first | omega | (simp; omega)
        intro v' w5 hown' hgrow hne
        have R : Hid (w5.ownsRow B 3 1 v' (acc ++ [92]).length (zI (acc ++ [92])) ∧ Below B w w5) := by
          refine ⟨?_, (HB.out.alloc hzB _).grown hgrow (by simp; omega) (own_block HO.out)⟩
          rw [List.length_append, zI_snoc]
          exact hown'
        clear hown' hgrow HO HB
        go_wp2
        go_ret
        rw [HE.out, hB]
        exact ⟨_, rfl, R.out.1, R.out.2⟩
end Go.Proofs.YtmnfioghhdgciaaDoor

namespace Go.Proofs.YtmnfioghhdgciaaDoor
open Go Go.RowKit
set_option linter.unusedVariables false
set_option linter.unusedSimpArgs false
set_option maxRecDepth 100000

/-! impl.Wildcard: the operations of its drawn regions, one by one. -/
theorem exec_loadWk (W : World) (ρ : Operand → Value) (o : Oper) (x : Operand) (ho : o.op = .load 56 x) (b : Nat) (p m : Int) (f g : FuncId) (u v : Value) (hx : ρ x = .pointer (some ⟨b, 0, none⟩))
    (h0 : W.cell? ⟨b, 0, none⟩ = some (.int .u64 p)) (h4 : W.cell? ⟨b, 1, none⟩ = some (.func (.func f) #[u] #[])) (h5 : W.cell? ⟨b, 2, none⟩ = some (.func (.func g) #[v] #[])) (h6 : W.cell? ⟨b, 3, none⟩ = some (.int .i64 m)) :
    (execOp ρ o).run Tryd.prog W = .ok (.value (.agg #[.int .u64 p, .func (.func f) #[u] #[], .func (.func g) #[v] #[], .int .i64 m])) W := by
  unfold execOp
  simp only [ho, Instr.loadAt, Instr.sureAddr, hx, Sem.run_bind, Sem.run_pure, Result.andThen_ok]
  go_simp
theorem exec_buildWk (W : World) (ρ : Operand → Value) (o : Oper) (x y z c : Operand) (ho : o.op = .build 56 #[(0, x), (1, y), (2, z), (3, c)]) (p m : Int) (f g : FuncId) (u v : Value) (hx : ρ x = .agg #[.int .u64 p]) (hy : ρ y = .func (.func f) #[u] #[]) (hz : ρ z = .func (.func g) #[v] #[]) (hc : ρ c = .int .i64 m) :
    (execOp ρ o).run Tryd.prog W = .ok (.value (.agg #[.int .u64 p, .func (.func f) #[u] #[], .func (.func g) #[v] #[], .int .i64 m])) W := by
  unfold execOp
  simp only [ho, hx, hy, hz, hc, Sem.run_bind, Sem.run_pure, Result.andThen_ok]
  go_simp
theorem exec_allocWk (W : World) (ρ : Operand → Value) (o : Oper) (ho : o.op = .alloc 56) :
    (execOp ρ o).run Tryd.prog W = .ok (.value (.pointer (some ⟨W.heap.size, 0, none⟩))) (W.alloc (.cells #[.int .u64 0, .nilFunc, .nilFunc, .int .i64 0] 56)) := by
  unfold execOp
  simp only [ho, Sem.run_bind, Sem.run_pure, Result.andThen_ok]
  go_simp
theorem exec_storeWk (W : World) (ρ : Operand → Value) (o : Oper) (x y : Operand) (ho : o.op = .store 56 x y) (b : Nat) (p m : Int) (f g : FuncId) (u v : Value) (x0 x1 x2 x3 : Value) (hx : ρ x = .pointer (some ⟨b, 0, none⟩)) (hy : ρ y = .agg #[.int .u64 p, .func (.func f) #[u] #[], .func (.func g) #[v] #[], .int .i64 m])
    (hb : W.heap[b]? = some (.cells #[x0, x1, x2, x3] 56)) :
    (execOp ρ o).run Tryd.prog W = .ok .skip ((((W.setCell ⟨b, 0, none⟩ (.int .u64 p)).setCell ⟨b, 1, none⟩ (.func (.func f) #[u] #[])).setCell ⟨b, 2, none⟩ (.func (.func g) #[v] #[])).setCell ⟨b, 3, none⟩ (.int .i64 m)) := by
  have c0 := blkc hb 0
  have c1 := blkc hb 1
  have c2 := blkc hb 2
  have c3 := blkc hb 3
  have fz := fun j => frozen_of_row _ _ j _ _ hb
  unfold execOp
  simp only [ho, hx, hy, Sem.run_bind, Sem.run_pure, Result.andThen_ok]
  go_simp
theorem exec_ext (W : World) (ρ : Operand → Value) (o : Oper) (x : Operand) (j : Nat) (ho : o.op = .extract x j) (a b v : Value) (hx : ρ x = .tuple #[a, b]) (hv : (#[a, b] : Array Value)[j]? = some v) : (execOp ρ o).run Tryd.prog W = .ok (.value v) W := by
  unfold execOp
  simp only [ho, hx, Sem.run_bind, Sem.run_pure, Result.andThen_ok]
  go_simp
end Go.Proofs.YtmnfioghhdgciaaDoor

namespace Go.Proofs.YtmnfioghhdgciaaDoor
open Go Go.RowKit
set_option linter.unusedVariables false
set_option linter.unusedSimpArgs false
set_option maxRecDepth 100000

/-! impl.Wildcard: what it comes to, in plain words. -/
def okV (T : List Int) (L : Nat) (C : Nat → Nat) (ls : List Int) (z : Nat) : Prop := PlOK T L z ∧ ∃ u : List Nat, (∀ a ∈ u, a ≤ ls.length) ∧ z = u.foldl (wiK T L C (letN ls)).step (prn T L C 1)
theorem okV.first {T : List Int} {L : Nat} {C : Nat → Nat} {ls : List Int} (hC : CovOK T L.testBit C) : okV T L C ls (prn T L C 1) := ⟨PlOK.first hC, [], by simp, rfl⟩
theorem okV.step {T : List Int} {L : Nat} {C : Nat → Nat} {ls : List Int} (hC : CovOK T L.testBit C) (hL : ∀ l, L.testBit l = true → l ≤ T.length) {z j : Nat} (h : okV T L C ls z) (hj : j < ls.length + 1) : okV T L C ls ((wiK T L C (letN ls)).step z j) := by
  obtain ⟨h1, u, h2, h3⟩ := h
  refine ⟨h1.step hC hL _, u ++ [j], fun a ha => ?_, by rw [List.foldl_append, ← h3]; rfl⟩
  rcases List.mem_append.1 ha with h | h
  · exact h2 a h
  · rw [List.mem_singleton.1 h]; omega
theorem many_big {T : List Int} {L : Nat} {C : Nat → Nat} {ls : List Int} (hC : CovOK T L.testBit C) (hL : ∀ l, L.testBit l = true → l ≤ T.length) (hT : ∀ t ∈ T, 0 ≤ t ∨ t = -2) (hm : ∀ t ∈ T, 0 ≤ t → t ∈ ls) (h : Many (okV T L C ls)) :
    ∀ D, sysL.Least ls.length ls ((wiK T L C (letN ls)).lang (ls.length + 1) (prn T L C 1)) D → 256 < D.length := by
  intro D hD
  obtain ⟨Z, h1, h2, h3⟩ := h
  have hlm := least_many hD (Z.map ((wiK T L C (letN ls)).lang (ls.length + 1))) (by
    rw [List.Nodup, List.pairwise_map]
    refine List.Pairwise.imp_of_mem ?_ h1
    intro a b ha hb hab
    refine wi_differ hL hC hT (fun t ht hne => ?_) ⟨ls.length, by omega, by simp [letN]⟩ (h3 a ha).1 (h3 b hb).1 hab
    obtain ⟨i, hi, hit⟩ := List.getElem_of_mem (hm t ht (by rcases hT t ht with h | h; exact h; exact absurd h hne))
    exact ⟨i, by omega, by simp [letN, hi, hit]⟩) (by
    intro K hK
    obtain ⟨z, hz, rfl⟩ := List.mem_map.1 hK
    obtain ⟨_, u, hu1, hu2⟩ := h3 z hz
    exact ⟨u, hu1, by rw [hu2, Kaut.lang_run u _ hu1]⟩)
  rw [List.length_map] at hlm
  omega
theorem count_same : ∀ (P : List Int), (∀ x ∈ P, okP x) → (stW (P.map pieceI)).count (-2) = P.count (-1)
  | [], _ => rfl
  | x :: P, h => by
    have ih := count_same P (fun y hy => h y (by simp [hy]))
    have hx := h x (by simp)
    by_cases e : x = -2
    · subst e
      have e1 : stW ((-2 :: P).map pieceI) = stW (P.map pieceI) := by simp [stW, pieceI]
      rw [e1, ih, List.count_cons_of_ne (by omega)]
    · have hp : pieceI x ≠ -3 := by
        unfold pieceI
        rw [if_neg e]
        split
        · omega
        · rcases hx with h | h | h <;> omega
      have e1 : stW ((x :: P).map pieceI) = pieceI x :: stW (P.map pieceI) := by simp [stW, hp]
      rw [e1, List.count_cons, List.count_cons, ih]
      congr 1
      by_cases ea : x = -1
      · subst ea; simp [pieceI]
      · have : pieceI x = x := by unfold pieceI; rw [if_neg e, if_neg ea]
        rw [this]
        have : ¬ x = -2 := e
        simp [ea, this]
theorem stW_of {P : List Int} (h : ∀ x ∈ P, okP x) : ∀ t ∈ stW (P.map pieceI), (0 ≤ t ∨ t = -2) ∧ t ≤ 1114111 := by
  intro t ht
  obtain ⟨h1, h2⟩ := List.mem_filter.1 ht
  obtain ⟨x, hx, rfl⟩ := List.mem_map.1 h1
  have h3 : pieceI x ≠ -3 := by simpa using h2
  unfold pieceI at h3 ⊢
  split
  · rename_i e; rw [if_pos e] at h3; exact absurd rfl h3
  · split
    · exact ⟨Or.inr rfl, by omega⟩
    · rcases h x hx with h | h | h
      · omega
      · omega
      · exact ⟨Or.inl h.1, h.2⟩
theorem stW_pos {P : List Int} (h : ∀ x ∈ P, okP x) (y : Int) : (y ∈ stW (P.map pieceI) ∧ 0 ≤ y) ↔ y ∈ P ∧ 0 ≤ y := by
  constructor
  · rintro ⟨h1, h2⟩
    obtain ⟨x, hx, e⟩ := List.mem_map.1 (List.mem_filter.1 h1).1
    have : x = y := by
      unfold pieceI at e
      split at e
      · omega
      · split at e
        · omega
        · exact e
    rw [← this]
    exact ⟨hx, by omega⟩
  · rintro ⟨h1, h2⟩
    have e : pieceI y = y := by unfold pieceI; rw [if_neg (by omega), if_neg (by omega)]
    refine ⟨List.mem_filter.2 ⟨List.mem_map.2 ⟨y, h1, e⟩, by simp; omega⟩, h2⟩
theorem runesFrom_bd (s : ByteArray) : ∀ (f p : Nat) (x : Int), x ∈ runesFrom s f p → 0 ≤ x ∧ x ≤ 1114111
  | 0, p, x, h => by simp [runesFrom] at h
  | f + 1, p, x, h => by
    by_cases hp : p < s.size
    · rw [runesFrom_step s f p hp] at h
      rcases List.mem_cons.1 h with rfl | h
      · have := rune_le s p; omega
      · exact runesFrom_bd s f _ x h
    · rw [runesFrom_end s _ p hp] at h; simp at h
theorem partsL_okP : ∀ (n : Nat) (l : List Int), l.length ≤ n → (∀ x ∈ l, 0 ≤ x ∧ x ≤ 1114111) → ∀ x ∈ partsL l, okP x
  | _, [], _, _ => by rw [partsL_nil]; simp
  | 0, x :: t, h, _ => by simp at h
  | n + 1, [x], h, hb => by
    rw [partsL_one]
    intro y hy
    rw [List.mem_singleton.1 hy]
    exact mapP_ok (hb x (by simp))
  | n + 1, x :: c :: t, h, hb => by
    by_cases e : x = 92
    · subst e
      rw [partsL_esc]
      intro y hy
      rcases List.mem_cons.1 hy with rfl | hy
      · exact Or.inr (Or.inr (hb y (by simp)))
      · exact partsL_okP n t (by simp at h; omega) (fun z hz => hb z (by simp [hz])) y hy
    · rw [partsL_cons (Or.inl e)]
      intro y hy
      rcases List.mem_cons.1 hy with rfl | hy
      · exact mapP_ok (hb x (by simp))
      · exact partsL_okP n (c :: t) (by simp at h ⊢; omega) (fun z hz => hb z (by simp [hz])) y hy
theorem parts_ok (s : ByteArray) : ∀ x ∈ partsL (runes s), okP x := partsL_okP _ _ (Nat.le_refl _) (fun x hx => runesFrom_bd s _ _ x hx)
end Go.Proofs.YtmnfioghhdgciaaDoor
