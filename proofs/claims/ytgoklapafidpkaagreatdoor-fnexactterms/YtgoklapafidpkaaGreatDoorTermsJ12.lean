import Derived.Test.YtgoklapafidpkaaGreatDoorTermsJ11
import Derived.Deep.CutBlock
import Derived.Deep.RegionHeld3
import Derived.Test.YtgoklapafidpkaaGreatDoorProg
import Derived.Test.YtgoklapafidpkaaGreatDoorTermsJ00
import Derived.WalkKit
import Derived.WalkLawsBesides
import Derived.BigQuiet
namespace Go.Proofs.YtgoklapafidpkaaGreatDoor
open Go Go.RowKit
set_option linter.unusedVariables false
set_option maxRecDepth 100000

/-- The place of the first token that the function takes; -1 if none. -/
def idxP (p : Tk → Bool) (l : List Tk) : Int := if l.any p then ((l.findIdx p : Nat) : Int) else -1
set_option maxHeartbeats 8000000 in
theorem indexFunc_any (g : FuncId) (lb : Array Value) (p : Tk → Bool) (base : Nat) (v : Value) (l : List Tk) (w : World) (hown : w.ownsRow base 63 4 v l.length (toksCells l)) (hn : l.length ≤ 1048576) (hsz : ∀ k, k < l.length → (l.getD k tk0).1.length ≤ 1048576)
    (eg : ∀ args w, (callFunc g args).run Tryz.prog w = .ok (.enter g args) w) (hP : PredC g lb p w (fun b => v.ownBlock = some b)) :
    Calls Tryz.prog 197 #[v, .func (.func g) #[] lb] w fun e w' => e = .returned (.int .i64 (idxP p l)) ∧ Below w.heap.size w w' := by
  obtain ⟨a, c, rfl, hH, _⟩ := holdT_row hown
  have HH := hidd hH
  have HP := hidd hP
  have HZ := hidd hsz
  clear hH hP hsz hown
  go_enter Tryz.func197, Tryz.ntmps197
  go_wp2_with fail
  go_loopw [8] (fun i wx => ∃ k : Nat, k ≤ l.length ∧ i = .int .i64 k ∧ (∀ j, j < k → p (l.getD j tk0) = false) ∧ Below w.heap.size w wx) (fun i _ => l.length - (intOf i).toNat)
  case atStart => exact ⟨0, by omega, rfl, fun j hj => absurd hj (by omega), Below.refl _ _⟩
  case round =>
    obtain ⟨k, hk, rfl, hno, hbx⟩ := hrel
    have HN := hidd hno
    have HB := hidd hbx
    clear hno hbx
    by_cases hlt : k < l.length
    · have hzk := HZ.out k hlt
      have HPk := hidd (HP.out wr (l.getD k tk0) (But.of_below HB.out) hzk)
      have hany : ∀ j (hj : j < l.length), l.getD j tk0 = l[j] := fun j hj => by simp [hj]
      have HA := hidd hany
      obtain ⟨b, off, rfl, hbl, hc⟩ := (HH.out.below HB.out).resolve_left (fun h => by rw [h] at hlt; simp at hlt)
      obtain ⟨t0, t1, t2, t3⟩ := hc k hlt
      clear hc hany
      obtain ⟨tk, htk⟩ : ∃ tk, l.getD k tk0 = tk := ⟨_, rfl⟩
      have HTk := hidd htk
      rw [htk] at t0 t1 t2 t3 HPk hzk
      clear htk
      obtain ⟨tx, p0, p1, p2⟩ := tk
      dsimp only at t0 t1 t2 t3
      unfold tokV at HPk
      dsimp only at HPk
      cases hp : p (tx, p0, p1, p2)
      · have HPn : Hid (∀ j, j < k + 1 → p (l.getD j tk0) = false) := fun j hj => by
          by_cases h : j < k
          · exact HN.out j h
          · have : j = k := by omega
            subst this
            rw [HTk.out]; exact hp
        rw [hp] at HPk
        clear hp
        go_wp2_with (go_at_fn g; refine HPk.out.mono ?_; rintro e w2 ⟨rfl, hb2⟩)
        go_roundw
        case rel => exact ⟨k + 1, by omega, by go_num, HPn.out, HB.out.trans (hb2.mono HB.out.size)⟩
        case measure => simp [intOf]; omega
      · have HR : Hid (idxP p l = (k : Int)) := by
          show _ = _
          have h1 : l.any p = true := List.any_eq_true.2 ⟨l[k], List.getElem_mem hlt, by rw [← HA.out k hlt, HTk.out]; exact hp⟩
          have h2 : l.findIdx p = k := by
            rw [List.findIdx_eq hlt]
            refine ⟨by rw [← HA.out k hlt, HTk.out]; exact hp, fun j hj => ?_⟩
            rw [← HA.out j (by omega)]; exact HN.out j hj
          rw [idxP, if_pos h1, h2]
        rw [hp] at HPk
        clear hp
        go_wp2_with (go_at_fn g; refine HPk.out.mono ?_; rintro e w2 ⟨rfl, hb2⟩)
        go_ret
        rw [HR.out]
        exact ⟨rfl, HB.out.trans (hb2.mono HB.out.size)⟩
    · have HR : Hid (idxP p l = -1) := by
        show _ = _
        have h1 : ¬ l.any p = true := by
          intro h
          obtain ⟨x, hx, hp⟩ := List.any_eq_true.1 h
          obtain ⟨j, hj, e⟩ := List.mem_iff_getElem.1 hx
          have := HN.out j (by omega)
          rw [List.getD_eq_getElem?_getD, List.getElem?_eq_getElem hj, Option.getD_some, e, hp] at this
          cases this
        rw [idxP, if_neg h1]
      go_wp2_with fail
      go_ret
      rw [HR.out]
      exact ⟨rfl, HB.out⟩
/-- clear over a part of a row. -/
theorem run_clear_row (w : World) (t e ty : TypeId) (z : Value) (ht : Tryz.prog.underlying t = some (.slice e)) (hv : ∀ w, (zeroValue e).run Tryz.prog w = .ok z w) (h1 : ∀ u ∈ z.cells, u.oneCell' = true) (b o n c : Nat) (hn : 0 < n) (hz : 0 < z.cells.size)
    (hc : ∀ j, j < n * z.cells.size → (w.cell? ⟨b, o + j, none⟩).isSome = true) (hf : ∀ j, j < n * z.cells.size → w.frozen? ⟨b, o + j, none⟩ = false) :
    (Builtin.clear_ #[t] ty #[.slice (some ⟨b, o, none⟩) n c]).run Tryz.prog w = .ok (.tuple #[]) (w.setCells b o (Builtin.zeroCells z.cells n).toList) := by
  have hl : (Builtin.zeroCells z.cells n).toList.length = n * z.cells.size := by simp [Builtin.zeroCells]
  have hst := run_storeCells_cells (P := Tryz.prog) b o (Builtin.zeroCells z.cells n).toList 0 w (by rw [hl]; simpa using hc) (by rw [hl]; simpa using hf) (by
    intro v hv'
    simp only [Builtin.zeroCells, Array.toList_map, List.mem_map] at hv'
    obtain ⟨i, _, rfl⟩ := hv'
    have hlt : i % z.cells.size < z.cells.size := Nat.mod_lt _ hz
    rw [getElem!_pos z.cells _ hlt]
    exact h1 _ (Array.getElem_mem hlt))
  simp only [Nat.add_zero] at hst
  obtain ⟨m, rfl⟩ : ∃ m, n = m + 1 := ⟨n - 1, by omega⟩
  simp [Builtin.clear_, run_underlying ht, hv, hst]
/-- What clear leaves of a row's head. -/
theorem own4_cells_set {base e g cap n i : Nat} {xs : List Value} : ∀ (vs : List Value) (o : Nat) (w : World), i * 4 ≤ o → w.ownsRow base e 4 (.slice (some ⟨g, 0, none⟩) i cap) i xs → (w.setCells g o vs).ownsRow base e 4 (.slice (some ⟨g, 0, none⟩) i cap) i xs
  | [], _, _, _, h => h
  | v :: r, o, w, ho, h => by
    rw [World.setCells]
    refine own4_cells_set (n := n) r (o + 1) _ (by omega) ?_
    refine ⟨h.1, ?_⟩
    rcases h.2 with ⟨h', _⟩ | ⟨g', cap', cur, h1, h2, h3, h4, h5, h6, h7⟩
    · cases h'
    · simp only [Value.slice.injEq, Option.some.injEq, Addr.mk.injEq, and_true, true_and] at h1
      obtain ⟨rfl, rfl⟩ := h1
      refine Or.inr ⟨g, cap, cur.setIfInBounds o v, rfl, h2, blk_setk h3 o v, h4, h5, by rw [Array.size_setIfInBounds]; exact h6, ?_⟩
      rw [Array.toList_setIfInBounds, List.take_set_of_le ho, h7]
theorem but_setCells {X : Nat → Prop} {a : World} (g : Nat) (hg : X g) : ∀ (vs : List Value) (o : Nat) (w : World), But X a w → But X a (w.setCells g o vs)
  | [], _, _, h => h
  | v :: r, o, w, h => by
    rw [World.setCells]
    exact but_setCells g hg r (o + 1) _ (h.set g o v hg)
end Go.Proofs.YtgoklapafidpkaaGreatDoor

namespace Go.Proofs.YtgoklapafidpkaaGreatDoor
open Go Go.RowKit
set_option linter.unusedVariables false
set_option maxRecDepth 100000

theorem filt_snoc (p : Tk → Bool) (l : List Tk) (j : Nat) (h : j < l.length) : (l.take (j + 1)).filter (fun x => !p x) = (l.take j).filter (fun x => !p x) ++ (if p (l.getD j tk0) then [] else [l.getD j tk0]) := by
  rw [List.take_succ_eq_append_getElem h, List.filter_append, List.getD_eq_getElem?_getD, List.getElem?_eq_getElem h, Option.getD_some]
  cases hp : p l[j] <;> simp [hp]
theorem idxP_spec (p : Tk → Bool) (l : List Tk) : (idxP p l = -1 ∧ l.filter (fun x => !p x) = l) ∨ ∃ i : Nat, i < l.length ∧ idxP p l = (i : Int) ∧ (l.take (i + 1)).filter (fun x => !p x) = l.take i := by
  unfold idxP
  by_cases h : l.any p = true
  · rw [if_pos h]
    refine Or.inr ⟨l.findIdx p, List.findIdx_lt_length.2 (by simpa using h), rfl, ?_⟩
    have hlt : l.findIdx p < l.length := List.findIdx_lt_length.2 (by simpa using h)
    rw [filt_snoc p l _ hlt]
    have h1 : p (l.getD (l.findIdx p) tk0) = true := by
      rw [List.getD_eq_getElem?_getD, List.getElem?_eq_getElem hlt, Option.getD_some]
      exact List.findIdx_getElem (w := hlt)
    rw [h1, if_pos rfl, List.append_nil, List.filter_eq_self]
    intro x hx
    obtain ⟨j, hj, e⟩ := List.mem_iff_getElem.1 hx
    rw [List.length_take] at hj
    rw [List.getElem_take] at e
    have := List.not_of_lt_findIdx (p := p) (xs := l) (i := j) (by omega)
    rw [← e]
    simpa using this
  · rw [if_neg h]
    refine Or.inl ⟨rfl, List.filter_eq_self.2 fun x hx => ?_⟩
    cases hp : p x
    · rfl
    · exact absurd (List.any_eq_true.2 ⟨x, hx, hp⟩) h
set_option maxHeartbeats 16000000 in
theorem deleteFunc_any (g : FuncId) (lb : Array Value) (p : Tk → Bool) (base : Nat) (v : Value) (l : List Tk) (w : World) (hown : w.ownsRow base 63 4 v l.length (toksCells l)) (hn : l.length ≤ 1048576) (hsz : ∀ k, k < l.length → (l.getD k tk0).1.length ≤ 1048576)
    (eg : ∀ args w, (callFunc g args).run Tryz.prog w = .ok (.enter g args) w) (hP : PredC g lb p w (fun b => v.ownBlock = some b)) :
    Calls Tryz.prog 186 #[v, .func (.func g) #[] lb] w fun e w' => ∃ v', e = .returned v' ∧ w'.ownsRow base 63 4 v' (l.filter fun x => !p x).length (toksCells (l.filter fun x => !p x)) ∧ v'.ownBlock = v.ownBlock ∧ But (fun b => v.ownBlock = some b) w w' := by
  have HI := hidd (indexFunc_any g lb p base v l w hown hn hsz eg hP)
  rcases idxP_spec p l with ⟨h1, h2⟩ | ⟨i0, hi0, h1, h2⟩
  · rw [h1] at HI
    have HO := hidd hown
    have H2 := hidd h2
    clear hown hP hsz h1 h2
    go_enter Tryz.func186, Tryz.ntmps186
    go_wp2_with fail
    refine HI.out.mono ?_
    rintro e w1 ⟨rfl, hb1⟩
    go_wp2_with fail
    go_ret
    rw [H2.out]
    exact ⟨_, rfl, own4_below HO.out hb1, rfl, But.of_below hb1⟩
  · rw [h1] at HI
    rcases own4_cases hown with ⟨_, hz⟩ | ⟨G, cap, rfl, hbG, hGl⟩
    · omega
    have HX : Hid ((fun b => (Value.slice (some ⟨G, 0, none⟩) l.length cap).ownBlock = some b) = fun b => G = b) := by
      show _ = _; funext b; simp [Value.ownBlock]
    rw [HX.out] at hP ⊢
    clear HX
    have HO := hidd hown
    have H2 := hidd h2
    have HP := hidd hP
    have HZ := hidd hsz
    clear hown hP hsz h1 h2
    go_enter Tryz.func186, Tryz.ntmps186
    go_wp2_with fail
    refine HI.out.mono ?_
    rintro e w1 ⟨rfl, hb1⟩
    have HB1 := hidd hb1
    clear hb1 HI
    have hne : ((i0 : Int) == -1) = false := by rw [beq_eq_false_iff_ne]; omega
    go_wp2_with fail
    go_loopw [5, 6] (fun vi vj wx => ∃ (i j : Nat) (m : List Tk), i < j ∧ j ≤ l.length ∧ vi = .int .i64 i ∧ vj = .int .i64 j ∧ m.length = l.length ∧ m.take i = (l.take j).filter (fun x => !p x) ∧ m.drop j = l.drop j ∧ wx.ownsRow base 63 4 (.slice (some ⟨G, 0, none⟩) m.length cap) m.length (toksCells m) ∧ But (fun b => G = b) w wx) (fun _ vj _ => l.length - (intOf vj).toNat)
    case atStart => exact ⟨i0, i0 + 1, l, by omega, by omega, rfl, by go_num, rfl, H2.out.symm, rfl, own4_below HO.out HB1.out, But.of_below HB1.out⟩
    case round =>
      obtain ⟨i, j, m, hij, hj, rfl, rfl, hml, hmt, hmd, hown, hbt⟩ := hrel
      have HOm := hidd hown
      have HBt := hidd hbt
      have HMt := hidd hmt
      have HMd := hidd hmd
      have HMl := hidd hml
      clear hown hbt hmt hmd hml
      by_cases hlt : j < l.length
      · have hjm : j < m.length := by have := HMl.out; omega
        obtain ⟨t0, t1, t2, t3⟩ := own4_cells HOm.out j hjm
        have HJ : Hid (m.getD j tk0 = l.getD j tk0) := by
          show _ = _
          have := congrArg (fun x => x.getD 0 tk0) HMd.out
          simpa using this
        have hzk := HZ.out j hlt
        have HF := hidd (filt_snoc p l j hlt)
        rw [HJ.out] at t0 t1 t2 t3
        obtain ⟨tk, htk⟩ : ∃ tk, l.getD j tk0 = tk := ⟨_, rfl⟩
        have HTk := hidd htk
        rw [htk] at t0 t1 t2 t3 hzk HF
        clear htk
        obtain ⟨tx, p0, p1, p2⟩ := tk
        dsimp only at t0 t1 t2 t3 hzk
        have HPk := hidd (HP.out (wr.alloc (.cells #[.string (bs tx), .int .i64 p0, .int .i64 p1, .int .i64 p2] 63)) (tx, p0, p1, p2) (HBt.out.alloc _) hzk)
        unfold tokV at HPk
        dsimp only at HPk
        cases hp : p (tx, p0, p1, p2)
        · rw [hp] at HPk HF
          clear hp
          go_upto_region 9 with (go_at_fn g; refine HPk.out.mono ?_; rintro e w2 ⟨rfl, hb2⟩)
          have HB2 := hidd hb2
          have HO2 : Hid (w2.ownsRow base 63 4 (.slice (some ⟨G, 0, none⟩) m.length cap) m.length (toksCells m)) := own4_below (HOm.out.alloc _) hb2
          have hbox : w2.heap[wr.heap.size]? = some (.cells #[.string (bs tx), .int .i64 p0, .int .i64 p1, .int .i64 p2] 63) := blko (heap_alloc_new wr _) hb2
          have g0 : w2.cell? ⟨wr.heap.size, 0, none⟩ = some (.string (bs tx)) := blkc hbox 0
          have g1 : w2.cell? ⟨wr.heap.size, 1, none⟩ = some (.int .i64 p0) := blkc hbox 1
          have g2 : w2.cell? ⟨wr.heap.size, 2, none⟩ = some (.int .i64 p1) := blkc hbox 2
          have g3 : w2.cell? ⟨wr.heap.size, 3, none⟩ = some (.int .i64 p2) := blkc hbox 3
          have him : i < m.length := by omega
          obtain ⟨s0, s1, s2, s3⟩ := own4_cells HO2.out i him
          have f0 := own4_frozen HO2.out (i * 4)
          have f1 := own4_frozen HO2.out (i * 4 + 1)
          have f2 := own4_frozen HO2.out (i * 4 + 2)
          have f3 := own4_frozen HO2.out (i * 4 + 3)
          clear t0 t1 t2 t3 hb2 hbox
          go_wp2_with fail
          go_roundw
          case rel =>
            refine ⟨i + 1, j + 1, m.set i (tx, p0, p1, p2), by omega, by omega, by go_num, by go_num, by rw [List.length_set]; exact HMl.out, ?_, ?_, ?_, ?_⟩
            · rw [HF.out, ← HMt.out, List.take_succ_eq_append_getElem (by rw [List.length_set]; exact him), List.take_set_of_le (Nat.le_refl _), List.getElem_set_self]
              rfl
            · rw [List.drop_set_of_lt (by omega)]
              have := congrArg (List.drop 1) HMd.out
              simpa [List.drop_drop] using this
            · rw [List.length_set]
              exact own4_tokset HO2.out i (tx, p0, p1, p2) him
            · exact (((((HBt.out.alloc _).trans (But.of_below (X := fun b => G = b) HB2.out) (fun _ _ h => h) (fun _ _ h => h)).set G _ _ rfl).set G _ _ rfl).set G _ _ rfl).set G _ _ rfl
          case measure => simp [intOf]; omega
        · rw [hp] at HPk HF
          clear hp
          go_wp2_with (go_at_fn g; refine HPk.out.mono ?_; rintro e w2 ⟨rfl, hb2⟩)
          go_roundw
          case rel =>
            refine ⟨i, j + 1, m, by omega, by omega, rfl, by go_num, HMl.out, ?_, ?_, own4_below (HOm.out.alloc _) hb2, (HBt.out.alloc _).trans (But.of_below (X := fun b => G = b) hb2) (fun _ _ h => h) (fun _ _ h => h)⟩
            · rw [HF.out, HMt.out]; simp
            · have := congrArg (List.drop 1) HMd.out
              simpa [List.drop_drop] using this
          case measure => simp [intOf]; omega
      · have hjn : j = l.length := by omega
        have hcap := own4_cap HO.out
        have HR : Hid (m.take i = l.filter fun x => !p x) := by show _ = _; rw [HMt.out, List.take_of_length_le (by omega)]
        go_upto_region 11 with fail
        have HC : Hid ((Builtin.clear_ #[42] 0 #[.slice (some ⟨G, i * 4, none⟩) (l.length - i) (cap - i)]).run Tryz.prog wr = .ok (.tuple #[]) (wr.setCells G (i * 4) (Builtin.zeroCells (Value.agg #[.string ⟨#[]⟩, .int .i64 0, .int .i64 0, .int .i64 0]).cells (l.length - i)).toList)) := by
          have hs4 : (Value.agg #[.string ⟨#[]⟩, .int .i64 0, .int .i64 0, .int .i64 0]).cells.size = 4 := rfl
          refine run_clear_row wr _ 63 _ _ Tryz.underlying42 Tryz.zeroValue63 ?_ G (i * 4) (l.length - i) (cap - i) (by omega) (by rw [hs4]; omega) ?_ ?_
          · intro u hu
            have hu' : u ∈ #[Value.string ⟨#[]⟩, .int .i64 0, .int .i64 0, .int .i64 0] := hu
            simp at hu'
            rcases hu' with rfl | rfl | rfl | rfl <;> rfl
          · intro q hq
            rw [hs4] at hq
            have hml := HMl.out
            rw [HOm.out.cellAt (i * 4 + q) (by omega), List.getElem?_eq_getElem (by rw [toksCells_len]; omega)]
            rfl
          · intro q hq
            exact own4_frozen HOm.out _
        go_wp2_with (rw [HC.out]; dsimp only [Result.andThen])
        go_ret
        have hlen : (l.filter fun x => !p x).length = i := by rw [← HR.out, List.length_take]; have := HMl.out; omega
        refine ⟨_, rfl, ?_, rfl, but_setCells G rfl _ _ _ HBt.out⟩
        rw [hlen, ← HR.out, ← toksCells_take]
        exact own4_cells_set (n := 0) _ _ _ (Nat.le_refl _) (own4_cut HOm.out (by have := HMl.out; omega))
end Go.Proofs.YtgoklapafidpkaaGreatDoor

namespace Go.Proofs.YtgoklapafidpkaaGreatDoor
open Go Go.RowKit
set_option linter.unusedVariables false
set_option linter.unusedSimpArgs false
set_option maxRecDepth 100000

/-- The step that changes every text. -/
def mapTx (T : List UInt8 → List UInt8) (l : List Tk) : List Tk := l.map fun x => (T x.1, x.2)
theorem mapTx_len (T : List UInt8 → List UInt8) (l : List Tk) : (mapTx T l).length = l.length := by simp [mapTx]
theorem mapTx_step (T : List UInt8 → List UInt8) (l : List Tk) (k : Nat) (h : k < l.length) : (mapTx T (l.take k) ++ l.drop k).set k (T (l.getD k tk0).1, (l.getD k tk0).2) = mapTx T (l.take (k + 1)) ++ l.drop (k + 1) := by
  have hl : (mapTx T (l.take k)).length = k := by rw [mapTx_len, List.length_take]; omega
  rw [List.set_append_right _ _ (by omega), hl, Nat.sub_self, List.drop_eq_getElem_cons h, List.set_cons_zero, List.take_succ_eq_append_getElem h, List.getD_eq_getElem?_getD, List.getElem?_eq_getElem h, Option.getD_some]
  simp only [mapTx, List.map_append, List.map_cons, List.map_nil, List.append_assoc, List.singleton_append]
theorem mapTx_at (T : List UInt8 → List UInt8) (l : List Tk) (k : Nat) (h : k < l.length) : (mapTx T (l.take k) ++ l.drop k).getD k tk0 = l.getD k tk0 := by
  have hl : (mapTx T (l.take k)).length = k := by rw [mapTx_len, List.length_take]; omega
  rw [List.getD_eq_getElem?_getD, List.getElem?_append_right (by omega), hl, Nat.sub_self, List.getElem?_drop, Nat.add_zero, ← List.getD_eq_getElem?_getD]
set_option maxHeartbeats 8000000 in
theorem eachText1_any (h : FuncId) (T : List UInt8 → List UInt8) (Q : List UInt8 → Prop) (base B : Nat) (v : Value) (l : List Tk) (w : World) (hown : w.ownsRow base 63 4 v l.length (toksCells l)) (hn : l.length ≤ 1048576) (hq : ∀ k, k < l.length → Q (l.getD k tk0).1)
    (hB : w.heap[B]? = some (.cells #[.func (.func h) #[] #[]] 169)) (hBv : v.ownBlock ≠ some B)
    (eg : ∀ args w, (callFunc h args).run Tryz.prog w = .ok (.enter h args) w)
    (hC : ∀ (W : World) (t : List UInt8), But (fun b => v.ownBlock = some b) w W → Q t → Calls Tryz.prog h #[.string (bs t)] W fun e w' => e = .returned (.string (bs (T t))) ∧ Below W.heap.size W w') :
    Calls Tryz.prog 182 #[v, .pointer (some ⟨B, 0, none⟩)] w fun e w' => e = .returned (.tuple #[v, .int .i64 0]) ∧ w'.ownsRow base 63 4 v (mapTx T l).length (toksCells (mapTx T l)) ∧ But (fun b => v.ownBlock = some b) w w' := by
  have HC := hidd hC
  have HO := hidd hown
  have HQ := hidd hq
  have HB := hidd hB
  have hBl : B < w.heap.size := (Array.getElem?_eq_some_iff.1 hB).1
  clear hC hq hB
  rcases own4_cases hown with ⟨rfl, hz⟩ | ⟨G, cap, rfl, hbG, hGl⟩
  · have HL : Hid (mapTx T l = [] ∧ l = []) := by
      have : l = [] := List.length_eq_zero_iff.1 hz
      show _ ∧ _
      rw [this]; exact ⟨rfl, rfl⟩
    clear hown
    go_enter Tryz.func182, Tryz.ntmps182
    go_wp2_with fail
    go_loopw [8] (fun i wx => i = .int .i64 0 ∧ wx = w) (fun _ _ => 0)
    case atStart => exact ⟨rfl, rfl⟩
    case round =>
      obtain ⟨rfl, rfl⟩ := hrel
      go_wp2_with fail
      go_ret2
      rw [HL.out.1]
      exact ⟨rfl, World.ownsRow_nil _ _ _ _, But.refl _ _⟩
  have hne : G ≠ B := fun e => hBv (by rw [e]; rfl)
  clear hBv hown
  have HX : Hid ((fun b => (Value.slice (some ⟨G, 0, none⟩) l.length cap).ownBlock = some b) = fun b => G = b) := by
    show _ = _; funext b; simp [Value.ownBlock]
  rw [HX.out] at HC ⊢
  clear HX
  go_enter Tryz.func182, Tryz.ntmps182
  go_wp2_with fail
  go_loopw [8] (fun i wx => ∃ k : Nat, k ≤ l.length ∧ i = .int .i64 k ∧ wx.ownsRow base 63 4 (.slice (some ⟨G, 0, none⟩) l.length cap) l.length (toksCells (mapTx T (l.take k) ++ l.drop k)) ∧ But (fun b => G = b) w wx) (fun i _ => l.length - (intOf i).toNat)
  case atStart => exact ⟨0, by omega, rfl, HO.out, But.refl _ _⟩
  case round =>
    obtain ⟨k, hk, rfl, hown, hbt⟩ := hrel
    have HOk := hidd hown
    have HBt := hidd hbt
    clear hown hbt
    by_cases hlt : k < l.length
    · have hml : (mapTx T (l.take k) ++ l.drop k).length = l.length := by rw [List.length_append, mapTx_len, List.length_take, List.length_drop]; omega
      have HOl : Hid (wr.ownsRow base 63 4 (.slice (some ⟨G, 0, none⟩) (mapTx T (l.take k) ++ l.drop k).length cap) (mapTx T (l.take k) ++ l.drop k).length (toksCells (mapTx T (l.take k) ++ l.drop k))) := by rw [hml]; exact HOk.out
      obtain ⟨t0, _, _, _⟩ := own4_cells HOl.out k (by omega)
      have hf := own4_frozen HOl.out (k * 4)
      rw [mapTx_at T l k hlt] at t0
      have HS := hidd (mapTx_step T l k hlt)
      have HAt := hidd (mapTx_at T l k hlt)
      have HQk := hidd (HQ.out k hlt)
      have HML := hidd hml
      clear hml
      obtain ⟨tk, htk⟩ : ∃ tk, l.getD k tk0 = tk := ⟨_, rfl⟩
      rw [htk] at t0 HS HQk HAt
      clear htk
      obtain ⟨tx, pl⟩ := tk
      dsimp only at t0 HS HQk HAt
      have b0 : wr.cell? ⟨B, 0, none⟩ = some (.func (.func h) #[] #[]) := blkc ((HBt.out.block B hBl hne).trans HB.out) 0
      have hBr : B < wr.heap.size := Nat.lt_of_lt_of_le hBl HBt.out.size
      have hGr : G < wr.heap.size := Nat.lt_of_lt_of_le hGl HBt.out.size
      have HCk := hidd (HC.out wr.drew tx (HBt.out.trans (But.of_below (X := fun b => G = b) (below_drewN (Below.refl _ wr) 1)) (fun _ _ h => h) (fun _ _ h => h)) HQk.out)
      go_upto_region 4 with fail
      go_region_with (go_at_fn h; refine HCk.out.mono ?_; rintro e w2 ⟨rfl, hb2⟩; have HB2 : Hid (Below wr.heap.size wr w2) := Below.trans (below_drewN (Below.refl _ wr) 1) hb2; have s0 := (HB2.out.cell (p := ⟨G, k * 4, none⟩) hGr).trans t0; have s1 := (HB2.out.cell (p := ⟨B, 0, none⟩) hBr).trans b0; have s2 := own4_frozen (own4_below HOl.out HB2.out) (k * 4); clear hb2)
      all_goals
        go_wp2_with fail
        go_roundw
        case rel =>
          refine ⟨k + 1, by omega, by go_num, ?_, (HBt.out.trans (But.of_below (X := fun b => G = b) HB2.out) (fun _ _ h => h) (fun _ _ h => h)).set G _ _ rfl⟩
          have h9 := own4_text (own4_below HOl.out HB2.out) k (T tx) (by rw [HML.out]; exact hlt)
          rw [HAt.out, HS.out, HML.out] at h9
          exact h9
        case measure => simp [intOf]; omega
    · have HL : Hid (mapTx T (l.take k) ++ l.drop k = mapTx T l) := by show _ = _; rw [List.take_of_length_le (by omega), List.drop_of_length_le (by omega), List.append_nil]
      go_wp2_with fail
      go_ret2
      rw [mapTx_len, ← HL.out]
      exact ⟨rfl, HOk.out, HBt.out⟩
end Go.Proofs.YtgoklapafidpkaaGreatDoor

namespace Go.Proofs.YtgoklapafidpkaaGreatDoor
open Go Go.RowKit
set_option linter.unusedVariables false
set_option maxRecDepth 100000

/-- A row of tokens that the steps may write: one of X's blocks, or a block that is newer than wc. -/
def OwnX (wc : World) (X : Nat → Prop) (W : World) (v : Value) (l : List Tk) : Prop :=
  W.ownsRow 0 63 4 v l.length (toksCells l) ∧ ∀ b, v.ownBlock = some b → X b ∨ wc.heap.size ≤ b
/-- What a step of the chain does. -/
def StepC (g : FuncId) (bd lb : Array Value) (wc : World) (X : Nat → Prop) (P : List Tk → Prop) (G : List Tk → List Tk × Int) : Prop :=
  ∀ (W : World) (v : Value) (l : List Tk), But X wc W → OwnX wc X W v l → P l → Calls Tryz.prog g (bd ++ #[v] ++ lb) W fun e w' => ∃ v', e = .returned (.tuple #[v', .int .i64 (G l).2]) ∧ OwnX wc X w' v' (G l).1 ∧ But X wc w'
def thenG (G H : List Tk → List Tk × Int) (l : List Tk) : List Tk × Int := if (G l).2 = 0 then H (G l).1 else ([], (G l).2)
/-- A chain of steps. -/
inductive ChainC (wc : World) (X : Nat → Prop) : List Value → (List Tk → Prop) → (List Tk → List Tk × Int) → Prop
  | nil (P : List Tk → Prop) : ChainC wc X [] P fun l => (l, 0)
  | cons (g : FuncId) (bd lb : Array Value) (fs : List Value) (P P' : List Tk → Prop) (G H : List Tk → List Tk × Int) (eg : ∀ args w, (callFunc g args).run Tryz.prog w = .ok (.enter g args) w) (hs : StepC g bd lb wc X P G) (hp : ∀ l, P l → (G l).2 = 0 → P' (G l).1) (hr : ChainC wc X fs P' H) : ChainC wc X (.func (.func g) bd lb :: fs) P (thenG G H)
/-- A row of steps in memory that the steps don't write. -/
def HoldFn (wc : World) (X : Nat → Prop) (a : Option Addr) (fs : List Value) : Prop :=
  fs = [] ∨ ∃ b, a = some ⟨b, 0, none⟩ ∧ b < wc.heap.size ∧ ¬ X b ∧ ∀ k, k < fs.length → wc.cell? ⟨b, k, none⟩ = some (fs.getD k (.bool false))
set_option maxHeartbeats 8000000 in
theorem runSteps_any (wc : World) (X : Nat → Prop) (fs : List Value) (P : List Tk → Prop) (H : List Tk → List Tk × Int) (a : Option Addr) (c : Nat) (hF : HoldFn wc X a fs) (hn : fs.length ≤ 1000) (hC : ChainC wc X fs P H) (v : Value) (l : List Tk) (w : World) (hb : But X wc w) (ho : OwnX wc X w v l) (hP : P l) :
    Calls Tryz.prog 147 #[.slice a fs.length c, v] w fun e w' => ∃ v', e = .returned (.tuple #[v', .int .i64 (H l).2]) ∧ OwnX wc X w' v' (H l).1 ∧ But X wc w' := by
  have HF := hidd hF
  have HS : Hid (∃ (P' : List Tk → Prop) (H' : List Tk → List Tk × Int), ChainC wc X (fs.drop 0) P' H' ∧ P' l ∧ H' l = H l) := ⟨P, H, hC, hP, rfl⟩
  have HB := hidd hb
  have HO := hidd ho
  clear hF hC hb ho hP
  go_enter Tryz.func147, Tryz.ntmps147
  go_wp2_with fail
  go_loopw [1, 6, 11] (fun v' cd i wx => ∃ (k : Nat) (l' : List Tk), k ≤ fs.length ∧ i = .int .i64 k ∧ cd = .int .i64 0 ∧ (∃ (P' : List Tk → Prop) (H' : List Tk → List Tk × Int), ChainC wc X (fs.drop k) P' H' ∧ P' l' ∧ H' l' = H l) ∧ OwnX wc X wx v' l' ∧ But X wc wx) (fun _ _ i _ => fs.length - (intOf i).toNat)
  case atStart => exact ⟨0, l, by omega, rfl, rfl, HS.out, HO.out, HB.out⟩
  case round =>
    obtain ⟨k, l', hk, rfl, rfl, hs, ho, hb⟩ := hrel
    obtain ⟨P', H', hC, hP, hH⟩ := hs
    have HCx := hidd hC
    have HPx := hidd hP
    have HHx := hidd hH
    have HOx := hidd ho
    have HBx := hidd hb
    clear hC hP hH ho hb HS
    by_cases hlt : k < fs.length
    · obtain ⟨b, rfl, hbl, hXb, hcell⟩ := HF.out.resolve_left (fun h => by rw [h] at hlt; simp at hlt)
      have q0 := (HBx.out.cell (p := ⟨b, k, none⟩) hbl hXb).trans (hcell k hlt)
      clear hcell
      have hd := HCx.out
      rw [List.drop_eq_getElem_cons hlt] at hd
      have he : fs.getD k (.bool false) = fs[k] := by simp [hlt]
      rw [he] at q0
      clear he
      generalize fs[k] = f at *
      cases hd with
      | cons g bd lb _ _ P2 G H2 eg hs hp hr =>
        have HSt := hidd (hs wr u1 l' HBx.out HOx.out HPx.out)
        have HPn := hidd (hp l' HPx.out)
        have HRn := hidd hr
        have HHn : Hid (thenG G H2 l' = H l) := HHx.out
        clear hs hp hr HCx HHx
        by_cases hc : (G l').2 = 0
        · have HC0 := hidd hc
          have HHm : Hid (H2 (G l').1 = H l) := by show _ = _; rw [← HHn.out, thenG, if_pos hc]
          rw [hc] at HSt
          clear hc HHn
          generalize (G l').1 = m at *
          go_wp2_with (go_at_fn g; refine HSt.out.mono ?_; rintro e w2 ⟨v2, rfl, ho2, hb2⟩)
          go_roundw
          case rel => exact ⟨k + 1, m, by omega, by go_num, rfl, ⟨P2, H2, HRn.out, HPn.out HC0.out, HHm.out⟩, ho2, hb2⟩
          case measure => simp [intOf]; omega
        · have HR : Hid (H l = ([], (G l').2)) := by show _ = _; rw [← HHn.out, thenG, if_neg hc]
          have hcn : ((G l').2 != 0) = true := by rw [bne_iff_ne]; exact hc
          clear hc HHn HPn
          generalize (G l').2 = cd at *
          go_wp2_with (go_at_fn g; refine HSt.out.mono ?_; rintro e w2 ⟨v2, rfl, ho2, hb2⟩)
          go_ret2
          rw [HR.out]
          exact ⟨_, rfl, ⟨World.ownsRow_nil _ _ _ _, fun b e => by cases e⟩, hb2⟩
    · have HE : Hid (H l = (l', 0)) := by
        show _ = _
        have hd := HCx.out
        rw [List.drop_of_length_le (by omega)] at hd
        rw [← HHx.out]
        cases hd
        rfl
      go_wp2_with fail
      go_ret2
      rw [HE.out]
      exact ⟨_, rfl, HOx.out, HBx.out⟩
end Go.Proofs.YtgoklapafidpkaaGreatDoor

namespace Go.Proofs.YtgoklapafidpkaaGreatDoor
open Go Go.RowKit

set_option maxHeartbeats 400000 in
theorem charOK_any (r : Int) (w : World) : Calls Tryz.prog 159 #[.int .i64 r] w fun e w' => e = .returned (.bool (chr r)) ∧ w' = w := by
  have hc : chr r = decide (0 ≤ r ∧ r ≤ 1114111 ∧ (r < 55296 ∨ 57343 < r)) := rfl
  by_cases h1 : 0 ≤ r
  · by_cases h2 : r ≤ 1114111
    · by_cases h3 : r < 55296
      · have H : Hid (chr r = true) := by show _ = _; rw [chr_iff]; omega
        clear hc
        go_enter Tryz.func159, Tryz.ntmps159
        go_wp2
        go_ret
        rw [H.out]
        exact ⟨rfl, rfl⟩
      · by_cases h4 : 57343 < r
        · have H : Hid (chr r = true) := by show _ = _; rw [chr_iff]; omega
          clear hc
          go_enter Tryz.func159, Tryz.ntmps159
          go_wp2
          go_ret
          rw [H.out]
          exact ⟨rfl, rfl⟩
        · have H : Hid (chr r = false) := by show _ = _; rw [chr_not]; omega
          clear hc
          go_enter Tryz.func159, Tryz.ntmps159
          go_wp2
          go_ret
          rw [H.out]
          exact ⟨rfl, rfl⟩
    · have H : Hid (chr r = false) := by show _ = _; rw [chr_not]; omega
      clear hc
      go_enter Tryz.func159, Tryz.ntmps159
      go_wp2
      go_ret
      rw [H.out]
      exact ⟨rfl, rfl⟩
  · have H : Hid (chr r = false) := by show _ = _; rw [chr_not]; omega
    clear hc
    go_enter Tryz.func159, Tryz.ntmps159
    go_wp2
    go_ret
    rw [H.out]
    exact ⟨rfl, rfl⟩
set_option maxHeartbeats 400000 in
theorem bytes_one (r : Int) (w : World) (h0 : 0 ≤ r) (h1 : r < 128) :
    Calls Tryz.prog 122 #[.int .i64 r] w fun e w' => e = .returned (.slice (some ⟨w.heap.size, 0, none⟩) 1 1) ∧ w' = w.alloc (.cells #[.int .u8 r] 5) := by
  go_enter Tryz.func122, Tryz.ntmps122
  go_wp2
  go_ret
  exact ⟨rfl, rfl⟩
set_option maxHeartbeats 400000 in
theorem bytes_two (r : Int) (w : World) (h0 : 128 ≤ r) (h1 : r < 2048) :
    Calls Tryz.prog 122 #[.int .i64 r] w fun e w' => e = .returned (.slice (some ⟨w.heap.size, 0, none⟩) 2 2) ∧ w' = w.alloc (.cells #[.int .u8 (192 + r / 64), .int .u8 (128 + r % 64)] 5) := by
  go_enter Tryz.func122, Tryz.ntmps122
  go_wp2
  go_ret
  exact ⟨rfl, rfl⟩
set_option maxHeartbeats 400000 in
theorem bytes_three (r : Int) (w : World) (h0 : 2048 ≤ r) (h1 : r < 65536) :
    Calls Tryz.prog 122 #[.int .i64 r] w fun e w' => e = .returned (.slice (some ⟨w.heap.size, 0, none⟩) 3 3) ∧ w' = w.alloc (.cells #[.int .u8 (224 + r / 4096), .int .u8 (128 + r / 64 % 64), .int .u8 (128 + r % 64)] 5) := by
  go_enter Tryz.func122, Tryz.ntmps122
  go_wp2
  go_ret
  exact ⟨rfl, rfl⟩
set_option maxHeartbeats 400000 in
theorem bytes_four (r : Int) (w : World) (h0 : 65536 ≤ r) (h1 : r ≤ 1114111) :
    Calls Tryz.prog 122 #[.int .i64 r] w fun e w' => e = .returned (.slice (some ⟨w.heap.size, 0, none⟩) 4 4) ∧ w' = w.alloc (.cells #[.int .u8 (240 + r / 262144), .int .u8 (128 + r / 4096 % 64), .int .u8 (128 + r / 64 % 64), .int .u8 (128 + r % 64)] 5) := by
  go_enter Tryz.func122, Tryz.ntmps122
  go_wp2
  go_ret
  exact ⟨rfl, rfl⟩
theorem bytes_any (r : Int) (w : World) (h : chr r = true) :
    Calls Tryz.prog 122 #[.int .i64 r] w fun e w' => e = .returned (.slice (some ⟨w.heap.size, 0, none⟩) (Lib.runeCells r).length (Lib.runeCells r).length) ∧ w' = w.alloc (.cells (Lib.runeCells r).toArray 5) := by
  rw [chr_iff] at h
  unfold Lib.runeCells
  by_cases h1 : r < 128
  · rw [Lib.encodeRuneZ_one h.1 (by omega)]; exact bytes_one r w h.1 h1
  · by_cases h2 : r < 2048
    · rw [Lib.encodeRuneZ_two (by omega) (by omega)]; exact bytes_two r w (by omega) h2
    · by_cases h3 : r < 65536
      · rw [Lib.encodeRuneZ_three (by omega)]; exact bytes_three r w (by omega) h3
      · rw [Lib.encodeRuneZ_four (by omega) (by omega)]; exact bytes_four r w (by omega) (by omega)
end Go.Proofs.YtgoklapafidpkaaGreatDoor
