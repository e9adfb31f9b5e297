import Derived.Test.YtionicjnoogpjaaGreatDoorAnalyzJ04
import Derived.Test.YtionicjnoogpjaaGreatDoorAnalyzJ00
import Derived.Test.YtionicjnoogpjaaGreatDoorAnalyzJ13
import Derived.Test.YtionicjnoogpjaaGreatDoorAnalyzJ07
import Derived.BigCall
import Derived.Test.YtionicjnoogpjaaGreatDoorAnalyzJ08
import Derived.Test.YtionicjnoogpjaaGreatDoorAnalyzJ06
import Derived.Shelf.Abstract
import Derived.Deep.CutBlock
import Derived.Deep.RegionHeld3
namespace Go.Proofs.YtionicjnoogpjaaGreatDoor
open Go Go.RowKit
set_option linter.unusedVariables false

set_option maxHeartbeats 4000000 in
set_option maxRecDepth 1000000 in
theorem implFoldText_any (s : ByteArray) (w : World) (hs : s.size ≤ 1048576) (hT : Tabs w) :
    Calls Tryz.prog 121 #[.string s] w fun e w' => e = .returned (.tuple #[.string ⟨(foldText s).toArray⟩, .int .i64 (decCode s)]) ∧ Below w.heap.size w w' := by
  have HT := hidd hT
  clear hT
  by_cases hc : decCode s = 0
  · have HD := hidd (dec_ok s hc)
    have hsz := (dec_ok s hc).2
    have HC := hidd hc
    have HX : Hid (foldText s = encs ((runes s).map foldZ)) := by show _ = _; rw [foldText, if_pos hc]; rfl
    clear hc
    go_enter Tryz.func121, Tryz.ntmps121
    go_wp2_with fail
    refine (textCode_any s _ hs HT.out).mono ?_
    rintro e w1 ⟨rfl, hb1⟩
    rw [HC.out]
    go_wp2_with fail
    have hz1 := hb1.size
    refine (Tryz.Builder_Grow_fresh w1.heap.size w1.heap.size s.size _ (Nat.le_refl _) (by exact heap_alloc_new _ _) (by simp) (by omega)).mono ?_
    rintro e w2 ⟨rfl, hB2, hb2⟩
    have hbel2 : Below w.heap.size w w2 := (hb1.alloc hb1.size _).trans (hb2.mono hz1)
    have hI2 : Lib.IsBuilderF 170 5 w1.heap.size w1.heap.size [] w2 := Lib.IsBuilderF.of (Or.inr hB2)
    have hz2 : w1.heap.size < w2.heap.size := hB2.lt
    clear hB2 hb2 hb1
    generalize w1.heap.size = B at *
    have hit0 := hidd (World.iter_heap w2 s 0)
    have hb3 : Below w.heap.size w (w2.iter s 0) := hbel2.alloc hbel2.size _
    have hI3 : Lib.IsBuilderF 170 5 B B [] (w2.iter s 0) := hI2.alloc _
    have hz3 : w.heap.size ≤ w2.heap.size := hbel2.size
    go_wp2
    generalize w2.iter s 0 = w3 at hit0 hb3 hI3 ⊢
    generalize w2.heap.size = I at *
    clear hbel2 hI2
    go_loopw [] (fun wr => ∃ (p f : Nat) (acc : List Int), Lib.IsBuilderF 170 5 B B (Lib.byteCells (encs (acc.map foldZ))) wr ∧ wr.heap[I]? = some (.stringIter s p) ∧ Below w.heap.size w wr ∧ acc ++ runesFrom s f p = runes s ∧ s.size ≤ p + f ∧ vFrom s p = true) (fun wr => s.size - wr.iterPos I)
    case atStart => exact ⟨0, s.size, [], hI3, hit0.out, hb3, rfl, by omega, by rw [vFrom_zero]; exact HD.out.1⟩
    case round =>
      obtain ⟨p, f, acc, hI, hit, hbel, hacc, hf, hv⟩ := hrel
      have hlen : acc.length ≤ s.size := by have := congrArg List.length hacc; rw [List.length_append] at this; have := runes_le s; omega
      have hel := encs_le (acc.map foldZ)
      rw [List.length_map] at hel
      clear hI3 hit0 hb3
      have hIlt : I < wr.heap.size := (Array.getElem?_eq_some_iff.1 hit).1
      by_cases hlt : p < s.size
      · have hnx : ∀ ty, (Instr.next (.pointer (some ⟨I, 0, none⟩)) true ty).run Tryz.prog wr = _ := fun ty => Lib.run_next_any_at wr I s p ty hit hlt
        have hw := width_le s p hlt
        have hr := rune_le s p
        have hg := good_of s p hlt hv
        obtain ⟨hf0, hf1, _⟩ := foldZ_bd _ (rune_chr s p hg)
        have hI2 := hI.iterAt hit (p + (Utf8.decode s p).2)
        have hit2 := Lib.iterAt_heap wr I s p (p + (Utf8.decode s p).2) hit
        have hbel2 := Lib.below_iterAt hbel (k := I) hz3 s (p + (Utf8.decode s p).2)
        have hzw : B ≤ (wr.iterAt I s (p + (Utf8.decode s p).2)).heap.size := by rw [Lib.iterAt_size]; omega
        have Hst : Hid (acc ++ [((Utf8.decode s p).1 : Int)] ++ runesFrom s (f - 1) (p + (Utf8.decode s p).2) = runes s) := by
          show _ = _
          obtain ⟨g, rfl⟩ : ∃ g, f = g + 1 := ⟨f - 1, by omega⟩
          rw [runesFrom_step s g p hlt] at hacc
          rw [← hacc]
          simp
        have Hv2 : Hid (vFrom s (p + (Utf8.decode s p).2) = true) := by show _ = _; rw [vFrom_good s p hlt hg]; exact hv
        have Hpos := hidd (iterPos_of hit)
        have HI2 := hidd hI2
        have Hit2 := hidd hit2
        have HB2 := hidd hbel2
        clear hacc hI hit2 hbel2 hbel hI2 hv hg
        generalize (Utf8.decode s p).1 = r at *
        generalize (Utf8.decode s p).2 = n at *
        generalize wr.iterAt I s (p + n) = wi at *
        go_wp2_with fail
        refine (implFold_any _ _).mono ?_
        rintro e w4 ⟨rfl, rfl⟩
        generalize hfz : foldZ (r : Int) = fz at *
        have Hfz := hidd hfz
        clear hfz
        go_wp2_with fail
        refine (Tryz.Builder_WriteRune_k B B _ _ (by omega) (by omega) _ HI2.out (by rw [Lib.byteCells_length]; omega) hzw).mono ?_
        rintro e w5 ⟨rfl, h1, b1, k1⟩
        have R : Hid (Lib.IsBuilderF 170 5 B B (Lib.byteCells (encs ((acc ++ [(r : Int)]).map foldZ))) w5 ∧ w5.heap[I]? = some (.stringIter s (p + n)) ∧ Below w.heap.size w w5) := by
          refine ⟨?_, k1.iter Hit2.out (by omega), HB2.out.trans (b1.mono hz1)⟩
          rw [List.map_append, List.map_cons, List.map_nil, Hfz.out, encs_snoc, Lib.byteCells_append, Lib.byteCells_encodeRune]
          exact Or.inr h1
        clear h1 b1 k1 HI2 Hit2 HB2
        go_wp2
        go_roundw
        case rel => exact ⟨p + n, f - 1, acc ++ [(r : Int)], R.out.1, R.out.2.1, R.out.2.2, Hst.out, by omega, Hv2.out⟩
        case measure => rw [iterPos_of R.out.2.1, Hpos.out]; omega
      · have hnx : ∀ ty, (Instr.next (.pointer (some ⟨I, 0, none⟩)) true ty).run Tryz.prog wr = _ := fun ty => Lib.run_next_end_at wr I s p ty hit hlt
        have HL2 : Hid (runes s = acc) := by show _ = _; rw [← hacc, runesFrom_end s f p hlt, List.append_nil]
        have HI := hidd hI
        clear hacc hit hI
        go_wp2_with fail
        refine (Tryz.Builder_String_any_k B B (encs (acc.map foldZ)) _ HI.out (by omega)).mono ?_
        rintro e w5 ⟨rfl, _, b1, _⟩
        go_wp2
        go_ret2
        rw [HX.out, HL2.out, HC.out]
        exact ⟨rfl, hbel.trans (b1.mono hz1)⟩
  · have hcn : (decCode s != 0) = true := by rw [bne_iff_ne]; exact hc
    have HX : Hid (foldText s = []) := by show _ = _; rw [foldText, if_neg hc]
    clear hc
    go_enter Tryz.func121, Tryz.ntmps121
    go_wp2_with fail
    refine (textCode_any s _ hs HT.out).mono ?_
    rintro e w1 ⟨rfl, hb1⟩
    go_wp2
    go_ret2
    rw [HX.out]
    exact ⟨rfl, hb1⟩
end Go.Proofs.YtionicjnoogpjaaGreatDoor

namespace Go.Proofs.YtionicjnoogpjaaGreatDoor
open Go Go.RowKit
set_option linter.unusedVariables false

/-- A token, as a value. -/
def tokV (x : Tk) : Value := .agg #[.string (bs x.1), .int .i64 x.2.1, .int .i64 x.2.2.1, .int .i64 x.2.2.2]
/-- A function that asks tokens. -/
def PredC (g : FuncId) (lb : Array Value) (p : Tk → Bool) (wb : World) (X : Nat → Prop) : Prop :=
  ∀ (W : World) (x : Tk), But X wb W → x.1.length ≤ 1048576 → Calls Tryz.prog g (#[tokV x] ++ lb) W fun e w' => e = .returned (.bool (p x)) ∧ Below W.heap.size W w'
theorem PredC.but {g : FuncId} {lb : Array Value} {p : Tk → Bool} {wb W : World} {X : Nat → Prop} (h : PredC g lb p wb X) (hb : But X wb W) : PredC g lb p W X :=
  fun W' x hW hx => h W' x (hb.trans hW (fun _ _ h => h) (fun _ _ h => h)) hx
theorem contains_any (a : Option Addr) (c : Nat) (l : List (List UInt8)) (x : List UInt8) (w : World) (hn : l.length ≤ 1048576) (h : HoldS w a l) :
    Calls Tryz.prog 123 #[.slice a l.length c, .string (bs x)] w fun e w' => e = .returned (.bool (hasT l x)) ∧ w' = w := by
  rcases h with h | ⟨b, off, rfl, hb, hc⟩
  · subst h
    exact (Tryz.slices_Contains_string_empty a c (bs x) w).mono fun e w' h => by
      obtain ⟨rfl, rfl⟩ := h
      exact ⟨rfl, rfl⟩
  · have hcell : ∀ j, j < (l.map fun t => bs t).length → w.cell? ⟨b, off + j, none⟩ = some (.string ((l.map fun t => bs t).getD j ByteArray.empty)) := by
      intro j hj
      rw [List.length_map] at hj
      rw [hc j hj]
      simp [hj]
    refine (Tryz.slices_Contains_string b off l.length c (l.map fun t => bs t) (bs x) w (by simp) (by omega) hcell).mono fun e w' h => ?_
    obtain ⟨rfl, rfl⟩ := h
    refine ⟨?_, rfl⟩
    have e1 : (l.map fun t => bs t).take l.length = l.map fun t => bs t := List.take_of_length_le (by simp)
    rw [e1]
    congr 2
    rw [Bool.eq_iff_iff, Lib.containsS_iff, hasT, List.any_eq_true]
    constructor
    · intro h
      obtain ⟨t, ht, e⟩ := List.mem_map.1 h
      exact ⟨t, ht, by rw [beq_iff_eq]; exact (by simpa [bs] using congrArg (fun z => z.data.toList) e)⟩
    · rintro ⟨t, ht, e⟩
      rw [beq_iff_eq] at e
      exact List.mem_map.2 ⟨t, ht, by rw [e]⟩
set_option maxHeartbeats 4000000 in
theorem isLong_any (x : Tk) (w : World) (hx : x.1.length ≤ 1048576) :
    Calls Tryz.prog 130 #[tokV x] w fun e w' => e = .returned (.bool (decide (64 < x.1.length))) ∧ Below w.heap.size w w' := by
  obtain ⟨t, p0, p1, p2⟩ := x
  have hz : (bs t).size = t.length := bs_size t
  show Calls Tryz.prog 130 #[.agg #[.string (bs t), .int .i64 p0, .int .i64 p1, .int .i64 p2]] w _
  go_enter Tryz.func130, Tryz.ntmps130
  go_wp2_with fail
  go_returns
  refine ⟨?_, (Below.refl _ _).alloc (Nat.le_refl _) _⟩
  show Ending.returned (Value.bool (decide (64 < (t.length : Int)))) = _
  congr 2
  rw [decide_eq_decide]
  omega
set_option maxHeartbeats 4000000 in
theorem isStop_any (fo st ph : Bool) (aS : Option Addr) (cS : Nat) (vY : Value) (lo hi : Int) (stops : List (List UInt8)) (B : Nat) (x : Tk) (w : World) (hn : stops.length ≤ 1048576) (hS : HoldS w aS stops)
    (hB : w.heap[B]? = some (.cells #[.bool fo, .bool st, .bool ph, .slice aS stops.length cS, vY, .int .i64 lo, .int .i64 hi] 26)) :
    Calls Tryz.prog 122 #[tokV x, .pointer (some ⟨B, 0, none⟩)] w fun e w' => e = .returned (.bool (hasT stops x.1)) ∧ Below w.heap.size w w' := by
  obtain ⟨t, p0, p1, p2⟩ := x
  have HS := hidd hS
  have hbl : B < w.heap.size := (Array.getElem?_eq_some_iff.1 hB).1
  have HB : Hid (Below w.heap.size w (w.alloc (.cells #[.string (bs t), .int .i64 p0, .int .i64 p1, .int .i64 p2] 35))) := (Below.refl _ _).alloc (Nat.le_refl _) _
  have q3 : (w.alloc (.cells #[.string (bs t), .int .i64 p0, .int .i64 p1, .int .i64 p2] 35)).cell? ⟨B, 3, none⟩ = some (.slice aS stops.length cS) := blkc (blko hB HB.out) 3
  clear hS hB
  show Calls Tryz.prog 122 #[.agg #[.string (bs t), .int .i64 p0, .int .i64 p1, .int .i64 p2], .pointer (some ⟨B, 0, none⟩)] w _
  go_enter Tryz.func122, Tryz.ntmps122
  go_wp2_with fail
  refine (contains_any aS cS stops t _ hn (HS.out.below HB.out)).mono ?_
  rintro e w' ⟨rfl, hw⟩
  obtain rfl := hw.symm
  go_wp2_with fail
  go_returns
  exact ⟨rfl, HB.out⟩
set_option maxHeartbeats 4000000 in
theorem foldWord_any (t : List UInt8) (w : World) (hd : decCode (bs t) = 0) (hT : Tabs w) :
    Calls Tryz.prog 80 #[.string (bs t)] w fun e w' => e = .returned (.string (bs (foldL t))) ∧ Below w.heap.size w w' := by
  go_enter Tryz.func80, Tryz.ntmps80
  go_wp2_with fail
  refine (implFoldText_any (bs t) _ (by have := (dec_ok _ hd).2; omega) hT).mono ?_
  rintro e w1 ⟨rfl, hb1⟩
  have HF : Hid ((⟨(foldText (bs t)).toArray⟩ : ByteArray) = bs (foldL t)) := by show _ = _; rw [foldText, if_pos hd]; rfl
  rw [HF.out]
  clear HF
  go_wp2_with fail
  go_returns
  exact ⟨rfl, hb1⟩
end Go.Proofs.YtionicjnoogpjaaGreatDoor

namespace Go.Proofs.YtionicjnoogpjaaGreatDoor
open Go Go.RowKit
set_option linter.unusedVariables false
set_option maxRecDepth 100000

/-- The place of the first token that the function takes; -1 if none. -/
def idxP (p : Tk → Bool) (l : List Tk) : Int := if l.any p then ((l.findIdx p : Nat) : Int) else -1
set_option maxHeartbeats 8000000 in
theorem indexFunc_any (g : FuncId) (lb : Array Value) (p : Tk → Bool) (base : Nat) (v : Value) (l : List Tk) (w : World) (hown : w.ownsRow base 35 4 v l.length (toksCells l)) (hn : l.length ≤ 1048576) (hsz : ∀ k, k < l.length → (l.getD k tk0).1.length ≤ 1048576)
    (eg : ∀ args w, (callFunc g args).run Tryz.prog w = .ok (.enter g args) w) (hP : PredC g lb p w (fun b => v.ownBlock = some b)) :
    Calls Tryz.prog 149 #[v, .func (.func g) #[] lb] w fun e w' => e = .returned (.int .i64 (idxP p l)) ∧ Below w.heap.size w w' := by
  obtain ⟨a, c, rfl, hH, _⟩ := holdT_row hown
  have HH := hidd hH
  have HP := hidd hP
  have HZ := hidd hsz
  clear hH hP hsz hown
  go_enter Tryz.func149, Tryz.ntmps149
  go_wp2_with fail
  go_loopw [8] (fun i wx => ∃ k : Nat, k ≤ l.length ∧ i = .int .i64 k ∧ (∀ j, j < k → p (l.getD j tk0) = false) ∧ Below w.heap.size w wx) (fun i _ => l.length - (intOf i).toNat)
  case atStart => exact ⟨0, by omega, rfl, fun j hj => absurd hj (by omega), Below.refl _ _⟩
  case round =>
    obtain ⟨k, hk, rfl, hno, hbx⟩ := hrel
    have HN := hidd hno
    have HB := hidd hbx
    clear hno hbx
    by_cases hlt : k < l.length
    · have hzk := HZ.out k hlt
      have HPk := hidd (HP.out wr (l.getD k tk0) (But.of_below HB.out) hzk)
      have hany : ∀ j (hj : j < l.length), l.getD j tk0 = l[j] := fun j hj => by simp [hj]
      have HA := hidd hany
      obtain ⟨b, off, rfl, hbl, hc⟩ := (HH.out.below HB.out).resolve_left (fun h => by rw [h] at hlt; simp at hlt)
      obtain ⟨t0, t1, t2, t3⟩ := hc k hlt
      clear hc hany
      obtain ⟨tk, htk⟩ : ∃ tk, l.getD k tk0 = tk := ⟨_, rfl⟩
      have HTk := hidd htk
      rw [htk] at t0 t1 t2 t3 HPk hzk
      clear htk
      obtain ⟨tx, p0, p1, p2⟩ := tk
      dsimp only at t0 t1 t2 t3
      unfold tokV at HPk
      dsimp only at HPk
      cases hp : p (tx, p0, p1, p2)
      · have HPn : Hid (∀ j, j < k + 1 → p (l.getD j tk0) = false) := fun j hj => by
          by_cases h : j < k
          · exact HN.out j h
          · have : j = k := by omega
            subst this
            rw [HTk.out]; exact hp
        rw [hp] at HPk
        clear hp
        go_wp2_with (go_at_fn g; refine HPk.out.mono ?_; rintro e w2 ⟨rfl, hb2⟩)
        go_roundw
        case rel => exact ⟨k + 1, by omega, by go_num, HPn.out, HB.out.trans (hb2.mono HB.out.size)⟩
        case measure => simp [intOf]; omega
      · have HR : Hid (idxP p l = (k : Int)) := by
          show _ = _
          have h1 : l.any p = true := List.any_eq_true.2 ⟨l[k], List.getElem_mem hlt, by rw [← HA.out k hlt, HTk.out]; exact hp⟩
          have h2 : l.findIdx p = k := by
            rw [List.findIdx_eq hlt]
            refine ⟨by rw [← HA.out k hlt, HTk.out]; exact hp, fun j hj => ?_⟩
            rw [← HA.out j (by omega)]; exact HN.out j hj
          rw [idxP, if_pos h1, h2]
        rw [hp] at HPk
        clear hp
        go_wp2_with (go_at_fn g; refine HPk.out.mono ?_; rintro e w2 ⟨rfl, hb2⟩)
        go_ret
        rw [HR.out]
        exact ⟨rfl, HB.out.trans (hb2.mono HB.out.size)⟩
    · have HR : Hid (idxP p l = -1) := by
        show _ = _
        have h1 : ¬ l.any p = true := by
          intro h
          obtain ⟨x, hx, hp⟩ := List.any_eq_true.1 h
          obtain ⟨j, hj, e⟩ := List.mem_iff_getElem.1 hx
          have := HN.out j (by omega)
          rw [List.getD_eq_getElem?_getD, List.getElem?_eq_getElem hj, Option.getD_some, e, hp] at this
          cases this
        rw [idxP, if_neg h1]
      go_wp2_with fail
      go_ret
      rw [HR.out]
      exact ⟨rfl, HB.out⟩
/-- clear over a part of a row. -/
theorem run_clear_row (w : World) (t e ty : TypeId) (z : Value) (ht : Tryz.prog.underlying t = some (.slice e)) (hv : ∀ w, (zeroValue e).run Tryz.prog w = .ok z w) (h1 : ∀ u ∈ z.cells, u.oneCell' = true) (b o n c : Nat) (hn : 0 < n) (hz : 0 < z.cells.size)
    (hc : ∀ j, j < n * z.cells.size → (w.cell? ⟨b, o + j, none⟩).isSome = true) (hf : ∀ j, j < n * z.cells.size → w.frozen? ⟨b, o + j, none⟩ = false) :
    (Builtin.clear_ #[t] ty #[.slice (some ⟨b, o, none⟩) n c]).run Tryz.prog w = .ok (.tuple #[]) (w.setCells b o (Builtin.zeroCells z.cells n).toList) := by
  have hl : (Builtin.zeroCells z.cells n).toList.length = n * z.cells.size := by simp [Builtin.zeroCells]
  have hst := run_storeCells_cells (P := Tryz.prog) b o (Builtin.zeroCells z.cells n).toList 0 w (by rw [hl]; simpa using hc) (by rw [hl]; simpa using hf) (by
    intro v hv'
    simp only [Builtin.zeroCells, Array.toList_map, List.mem_map] at hv'
    obtain ⟨i, _, rfl⟩ := hv'
    have hlt : i % z.cells.size < z.cells.size := Nat.mod_lt _ hz
    rw [getElem!_pos z.cells _ hlt]
    exact h1 _ (Array.getElem_mem hlt))
  simp only [Nat.add_zero] at hst
  obtain ⟨m, rfl⟩ : ∃ m, n = m + 1 := ⟨n - 1, by omega⟩
  simp [Builtin.clear_, run_underlying ht, hv, hst]
/-- What clear leaves of a row's head. -/
theorem own4_cells_set {base e g cap n i : Nat} {xs : List Value} : ∀ (vs : List Value) (o : Nat) (w : World), i * 4 ≤ o → w.ownsRow base e 4 (.slice (some ⟨g, 0, none⟩) i cap) i xs → (w.setCells g o vs).ownsRow base e 4 (.slice (some ⟨g, 0, none⟩) i cap) i xs
  | [], _, _, _, h => h
  | v :: r, o, w, ho, h => by
    rw [World.setCells]
    refine own4_cells_set (n := n) r (o + 1) _ (by omega) ?_
    refine ⟨h.1, ?_⟩
    rcases h.2 with ⟨h', _⟩ | ⟨g', cap', cur, h1, h2, h3, h4, h5, h6, h7⟩
    · cases h'
    · simp only [Value.slice.injEq, Option.some.injEq, Addr.mk.injEq, and_true, true_and] at h1
      obtain ⟨rfl, rfl⟩ := h1
      refine Or.inr ⟨g, cap, cur.setIfInBounds o v, rfl, h2, blk_setk h3 o v, h4, h5, by rw [Array.size_setIfInBounds]; exact h6, ?_⟩
      rw [Array.toList_setIfInBounds, List.take_set_of_le ho, h7]
theorem but_setCells {X : Nat → Prop} {a : World} (g : Nat) (hg : X g) : ∀ (vs : List Value) (o : Nat) (w : World), But X a w → But X a (w.setCells g o vs)
  | [], _, _, h => h
  | v :: r, o, w, h => by
    rw [World.setCells]
    exact but_setCells g hg r (o + 1) _ (h.set g o v hg)
end Go.Proofs.YtionicjnoogpjaaGreatDoor

namespace Go.Proofs.YtionicjnoogpjaaGreatDoor
open Go Go.RowKit
set_option linter.unusedVariables false
set_option maxRecDepth 100000

theorem filt_snoc (p : Tk → Bool) (l : List Tk) (j : Nat) (h : j < l.length) : (l.take (j + 1)).filter (fun x => !p x) = (l.take j).filter (fun x => !p x) ++ (if p (l.getD j tk0) then [] else [l.getD j tk0]) := by
  rw [List.take_succ_eq_append_getElem h, List.filter_append, List.getD_eq_getElem?_getD, List.getElem?_eq_getElem h, Option.getD_some]
  cases hp : p l[j] <;> simp [hp]
theorem idxP_spec (p : Tk → Bool) (l : List Tk) : (idxP p l = -1 ∧ l.filter (fun x => !p x) = l) ∨ ∃ i : Nat, i < l.length ∧ idxP p l = (i : Int) ∧ (l.take (i + 1)).filter (fun x => !p x) = l.take i := by
  unfold idxP
  by_cases h : l.any p = true
  · rw [if_pos h]
    refine Or.inr ⟨l.findIdx p, List.findIdx_lt_length.2 (by simpa using h), rfl, ?_⟩
    have hlt : l.findIdx p < l.length := List.findIdx_lt_length.2 (by simpa using h)
    rw [filt_snoc p l _ hlt]
    have h1 : p (l.getD (l.findIdx p) tk0) = true := by
      rw [List.getD_eq_getElem?_getD, List.getElem?_eq_getElem hlt, Option.getD_some]
      exact List.findIdx_getElem (w := hlt)
    rw [h1, if_pos rfl, List.append_nil, List.filter_eq_self]
    intro x hx
    obtain ⟨j, hj, e⟩ := List.mem_iff_getElem.1 hx
    rw [List.length_take] at hj
    rw [List.getElem_take] at e
    have := List.not_of_lt_findIdx (p := p) (xs := l) (i := j) (by omega)
    rw [← e]
    simpa using this
  · rw [if_neg h]
    refine Or.inl ⟨rfl, List.filter_eq_self.2 fun x hx => ?_⟩
    cases hp : p x
    · rfl
    · exact absurd (List.any_eq_true.2 ⟨x, hx, hp⟩) h
set_option maxHeartbeats 16000000 in
theorem deleteFunc_any (g : FuncId) (lb : Array Value) (p : Tk → Bool) (base : Nat) (v : Value) (l : List Tk) (w : World) (hown : w.ownsRow base 35 4 v l.length (toksCells l)) (hn : l.length ≤ 1048576) (hsz : ∀ k, k < l.length → (l.getD k tk0).1.length ≤ 1048576)
    (eg : ∀ args w, (callFunc g args).run Tryz.prog w = .ok (.enter g args) w) (hP : PredC g lb p w (fun b => v.ownBlock = some b)) :
    Calls Tryz.prog 124 #[v, .func (.func g) #[] lb] w fun e w' => ∃ v', e = .returned v' ∧ w'.ownsRow base 35 4 v' (l.filter fun x => !p x).length (toksCells (l.filter fun x => !p x)) ∧ v'.ownBlock = v.ownBlock ∧ But (fun b => v.ownBlock = some b) w w' := by
  have HI := hidd (indexFunc_any g lb p base v l w hown hn hsz eg hP)
  rcases idxP_spec p l with ⟨h1, h2⟩ | ⟨i0, hi0, h1, h2⟩
  · rw [h1] at HI
    have HO := hidd hown
    have H2 := hidd h2
    clear hown hP hsz h1 h2
    go_enter Tryz.func124, Tryz.ntmps124
    go_wp2_with fail
    refine HI.out.mono ?_
    rintro e w1 ⟨rfl, hb1⟩
    go_wp2_with fail
    go_ret
    rw [H2.out]
    exact ⟨_, rfl, own4_below HO.out hb1, rfl, But.of_below hb1⟩
  · rw [h1] at HI
    rcases own4_cases hown with ⟨_, hz⟩ | ⟨G, cap, rfl, hbG, hGl⟩
    · omega
    have HX : Hid ((fun b => (Value.slice (some ⟨G, 0, none⟩) l.length cap).ownBlock = some b) = fun b => G = b) := by
      show _ = _; funext b; simp [Value.ownBlock]
    rw [HX.out] at hP ⊢
    clear HX
    have HO := hidd hown
    have H2 := hidd h2
    have HP := hidd hP
    have HZ := hidd hsz
    clear hown hP hsz h1 h2
    go_enter Tryz.func124, Tryz.ntmps124
    go_wp2_with fail
    refine HI.out.mono ?_
    rintro e w1 ⟨rfl, hb1⟩
    have HB1 := hidd hb1
    clear hb1 HI
    have hne : ((i0 : Int) == -1) = false := by rw [beq_eq_false_iff_ne]; omega
    go_wp2_with fail
    go_loopw [5, 6] (fun vi vj wx => ∃ (i j : Nat) (m : List Tk), i < j ∧ j ≤ l.length ∧ vi = .int .i64 i ∧ vj = .int .i64 j ∧ m.length = l.length ∧ m.take i = (l.take j).filter (fun x => !p x) ∧ m.drop j = l.drop j ∧ wx.ownsRow base 35 4 (.slice (some ⟨G, 0, none⟩) m.length cap) m.length (toksCells m) ∧ But (fun b => G = b) w wx) (fun _ vj _ => l.length - (intOf vj).toNat)
    case atStart => exact ⟨i0, i0 + 1, l, by omega, by omega, rfl, by go_num, rfl, H2.out.symm, rfl, own4_below HO.out HB1.out, But.of_below HB1.out⟩
    case round =>
      obtain ⟨i, j, m, hij, hj, rfl, rfl, hml, hmt, hmd, hown, hbt⟩ := hrel
      have HOm := hidd hown
      have HBt := hidd hbt
      have HMt := hidd hmt
      have HMd := hidd hmd
      have HMl := hidd hml
      clear hown hbt hmt hmd hml
      by_cases hlt : j < l.length
      · have hjm : j < m.length := by have := HMl.out; omega
        obtain ⟨t0, t1, t2, t3⟩ := own4_cells HOm.out j hjm
        have HJ : Hid (m.getD j tk0 = l.getD j tk0) := by
          show _ = _
          have := congrArg (fun x => x.getD 0 tk0) HMd.out
          simpa using this
        have hzk := HZ.out j hlt
        have HF := hidd (filt_snoc p l j hlt)
        rw [HJ.out] at t0 t1 t2 t3
        obtain ⟨tk, htk⟩ : ∃ tk, l.getD j tk0 = tk := ⟨_, rfl⟩
        have HTk := hidd htk
        rw [htk] at t0 t1 t2 t3 hzk HF
        clear htk
        obtain ⟨tx, p0, p1, p2⟩ := tk
        dsimp only at t0 t1 t2 t3 hzk
        have HPk := hidd (HP.out (wr.alloc (.cells #[.string (bs tx), .int .i64 p0, .int .i64 p1, .int .i64 p2] 35)) (tx, p0, p1, p2) (HBt.out.alloc _) hzk)
        unfold tokV at HPk
        dsimp only at HPk
        cases hp : p (tx, p0, p1, p2)
        · rw [hp] at HPk HF
          clear hp
          go_upto_region 9 with (go_at_fn g; refine HPk.out.mono ?_; rintro e w2 ⟨rfl, hb2⟩)
          have HB2 := hidd hb2
          have HO2 : Hid (w2.ownsRow base 35 4 (.slice (some ⟨G, 0, none⟩) m.length cap) m.length (toksCells m)) := own4_below (HOm.out.alloc _) hb2
          have hbox : w2.heap[wr.heap.size]? = some (.cells #[.string (bs tx), .int .i64 p0, .int .i64 p1, .int .i64 p2] 35) := blko (heap_alloc_new wr _) hb2
          have g0 : w2.cell? ⟨wr.heap.size, 0, none⟩ = some (.string (bs tx)) := blkc hbox 0
          have g1 : w2.cell? ⟨wr.heap.size, 1, none⟩ = some (.int .i64 p0) := blkc hbox 1
          have g2 : w2.cell? ⟨wr.heap.size, 2, none⟩ = some (.int .i64 p1) := blkc hbox 2
          have g3 : w2.cell? ⟨wr.heap.size, 3, none⟩ = some (.int .i64 p2) := blkc hbox 3
          have him : i < m.length := by omega
          obtain ⟨s0, s1, s2, s3⟩ := own4_cells HO2.out i him
          have f0 := own4_frozen HO2.out (i * 4)
          have f1 := own4_frozen HO2.out (i * 4 + 1)
          have f2 := own4_frozen HO2.out (i * 4 + 2)
          have f3 := own4_frozen HO2.out (i * 4 + 3)
          clear t0 t1 t2 t3 hb2 hbox
          go_wp2_with fail
          go_roundw
          case rel =>
            refine ⟨i + 1, j + 1, m.set i (tx, p0, p1, p2), by omega, by omega, by go_num, by go_num, by rw [List.length_set]; exact HMl.out, ?_, ?_, ?_, ?_⟩
            · rw [HF.out, ← HMt.out, List.take_succ_eq_append_getElem (by rw [List.length_set]; exact him), List.take_set_of_le (Nat.le_refl _), List.getElem_set_self]
              rfl
            · rw [List.drop_set_of_lt (by omega)]
              have := congrArg (List.drop 1) HMd.out
              simpa [List.drop_drop] using this
            · rw [List.length_set]
              exact own4_tokset HO2.out i (tx, p0, p1, p2) him
            · exact (((((HBt.out.alloc _).trans (But.of_below (X := fun b => G = b) HB2.out) (fun _ _ h => h) (fun _ _ h => h)).set G _ _ rfl).set G _ _ rfl).set G _ _ rfl).set G _ _ rfl
          case measure => simp [intOf]; omega
        · rw [hp] at HPk HF
          clear hp
          go_wp2_with (go_at_fn g; refine HPk.out.mono ?_; rintro e w2 ⟨rfl, hb2⟩)
          go_roundw
          case rel =>
            refine ⟨i, j + 1, m, by omega, by omega, rfl, by go_num, HMl.out, ?_, ?_, own4_below (HOm.out.alloc _) hb2, (HBt.out.alloc _).trans (But.of_below (X := fun b => G = b) hb2) (fun _ _ h => h) (fun _ _ h => h)⟩
            · rw [HF.out, HMt.out]; simp
            · have := congrArg (List.drop 1) HMd.out
              simpa [List.drop_drop] using this
          case measure => simp [intOf]; omega
      · have hjn : j = l.length := by omega
        have hcap := own4_cap HO.out
        have HR : Hid (m.take i = l.filter fun x => !p x) := by show _ = _; rw [HMt.out, List.take_of_length_le (by omega)]
        go_upto_region 11 with fail
        have HC : Hid ((Builtin.clear_ #[29] 0 #[.slice (some ⟨G, i * 4, none⟩) (l.length - i) (cap - i)]).run Tryz.prog wr = .ok (.tuple #[]) (wr.setCells G (i * 4) (Builtin.zeroCells (Value.agg #[.string ⟨#[]⟩, .int .i64 0, .int .i64 0, .int .i64 0]).cells (l.length - i)).toList)) := by
          have hs4 : (Value.agg #[.string ⟨#[]⟩, .int .i64 0, .int .i64 0, .int .i64 0]).cells.size = 4 := rfl
          refine run_clear_row wr _ 35 _ _ Tryz.underlying29 Tryz.zeroValue35 ?_ G (i * 4) (l.length - i) (cap - i) (by omega) (by rw [hs4]; omega) ?_ ?_
          · intro u hu
            have hu' : u ∈ #[Value.string ⟨#[]⟩, .int .i64 0, .int .i64 0, .int .i64 0] := hu
            simp at hu'
            rcases hu' with rfl | rfl | rfl | rfl <;> rfl
          · intro q hq
            rw [hs4] at hq
            have hml := HMl.out
            rw [HOm.out.cellAt (i * 4 + q) (by omega), List.getElem?_eq_getElem (by rw [toksCells_len]; omega)]
            rfl
          · intro q hq
            exact own4_frozen HOm.out _
        go_wp2_with (rw [HC.out]; dsimp only [Result.andThen])
        go_ret
        have hlen : (l.filter fun x => !p x).length = i := by rw [← HR.out, List.length_take]; have := HMl.out; omega
        refine ⟨_, rfl, ?_, rfl, but_setCells G rfl _ _ _ HBt.out⟩
        rw [hlen, ← HR.out, ← toksCells_take]
        exact own4_cells_set (n := 0) _ _ _ (Nat.le_refl _) (own4_cut HOm.out (by have := HMl.out; omega))
end Go.Proofs.YtionicjnoogpjaaGreatDoor

namespace Go.Proofs.YtionicjnoogpjaaGreatDoor
open Go Go.RowKit
set_option linter.unusedVariables false
set_option linter.unusedSimpArgs false
set_option maxRecDepth 100000

/-- The step that changes every text. -/
def mapTx (T : List UInt8 → List UInt8) (l : List Tk) : List Tk := l.map fun x => (T x.1, x.2)
theorem mapTx_len (T : List UInt8 → List UInt8) (l : List Tk) : (mapTx T l).length = l.length := by simp [mapTx]
theorem mapTx_step (T : List UInt8 → List UInt8) (l : List Tk) (k : Nat) (h : k < l.length) : (mapTx T (l.take k) ++ l.drop k).set k (T (l.getD k tk0).1, (l.getD k tk0).2) = mapTx T (l.take (k + 1)) ++ l.drop (k + 1) := by
  have hl : (mapTx T (l.take k)).length = k := by rw [mapTx_len, List.length_take]; omega
  rw [List.set_append_right _ _ (by omega), hl, Nat.sub_self, List.drop_eq_getElem_cons h, List.set_cons_zero, List.take_succ_eq_append_getElem h, List.getD_eq_getElem?_getD, List.getElem?_eq_getElem h, Option.getD_some]
  simp only [mapTx, List.map_append, List.map_cons, List.map_nil, List.append_assoc, List.singleton_append]
theorem mapTx_at (T : List UInt8 → List UInt8) (l : List Tk) (k : Nat) (h : k < l.length) : (mapTx T (l.take k) ++ l.drop k).getD k tk0 = l.getD k tk0 := by
  have hl : (mapTx T (l.take k)).length = k := by rw [mapTx_len, List.length_take]; omega
  rw [List.getD_eq_getElem?_getD, List.getElem?_append_right (by omega), hl, Nat.sub_self, List.getElem?_drop, Nat.add_zero, ← List.getD_eq_getElem?_getD]
set_option maxHeartbeats 8000000 in
theorem eachText1_any (h : FuncId) (T : List UInt8 → List UInt8) (Q : List UInt8 → Prop) (base B : Nat) (v : Value) (l : List Tk) (w : World) (hown : w.ownsRow base 35 4 v l.length (toksCells l)) (hn : l.length ≤ 1048576) (hq : ∀ k, k < l.length → Q (l.getD k tk0).1)
    (hB : w.heap[B]? = some (.cells #[.func (.func h) #[] #[]] 66)) (hBv : v.ownBlock ≠ some B)
    (eg : ∀ args w, (callFunc h args).run Tryz.prog w = .ok (.enter h args) w)
    (hC : ∀ (W : World) (t : List UInt8), But (fun b => v.ownBlock = some b) w W → Q t → Calls Tryz.prog h #[.string (bs t)] W fun e w' => e = .returned (.string (bs (T t))) ∧ Below W.heap.size W w') :
    Calls Tryz.prog 120 #[v, .pointer (some ⟨B, 0, none⟩)] w fun e w' => e = .returned (.tuple #[v, .int .i64 0]) ∧ w'.ownsRow base 35 4 v (mapTx T l).length (toksCells (mapTx T l)) ∧ But (fun b => v.ownBlock = some b) w w' := by
  have HC := hidd hC
  have HO := hidd hown
  have HQ := hidd hq
  have HB := hidd hB
  have hBl : B < w.heap.size := (Array.getElem?_eq_some_iff.1 hB).1
  clear hC hq hB
  rcases own4_cases hown with ⟨rfl, hz⟩ | ⟨G, cap, rfl, hbG, hGl⟩
  · have HL : Hid (mapTx T l = [] ∧ l = []) := by
      have : l = [] := List.length_eq_zero_iff.1 hz
      show _ ∧ _
      rw [this]; exact ⟨rfl, rfl⟩
    clear hown
    go_enter Tryz.func120, Tryz.ntmps120
    go_wp2_with fail
    go_loopw [8] (fun i wx => i = .int .i64 0 ∧ wx = w) (fun _ _ => 0)
    case atStart => exact ⟨rfl, rfl⟩
    case round =>
      obtain ⟨rfl, rfl⟩ := hrel
      go_wp2_with fail
      go_ret2
      rw [HL.out.1]
      exact ⟨rfl, World.ownsRow_nil _ _ _ _, But.refl _ _⟩
  have hne : G ≠ B := fun e => hBv (by rw [e]; rfl)
  clear hBv hown
  have HX : Hid ((fun b => (Value.slice (some ⟨G, 0, none⟩) l.length cap).ownBlock = some b) = fun b => G = b) := by
    show _ = _; funext b; simp [Value.ownBlock]
  rw [HX.out] at HC ⊢
  clear HX
  go_enter Tryz.func120, Tryz.ntmps120
  go_wp2_with fail
  go_loopw [8] (fun i wx => ∃ k : Nat, k ≤ l.length ∧ i = .int .i64 k ∧ wx.ownsRow base 35 4 (.slice (some ⟨G, 0, none⟩) l.length cap) l.length (toksCells (mapTx T (l.take k) ++ l.drop k)) ∧ But (fun b => G = b) w wx) (fun i _ => l.length - (intOf i).toNat)
  case atStart => exact ⟨0, by omega, rfl, HO.out, But.refl _ _⟩
  case round =>
    obtain ⟨k, hk, rfl, hown, hbt⟩ := hrel
    have HOk := hidd hown
    have HBt := hidd hbt
    clear hown hbt
    by_cases hlt : k < l.length
    · have hml : (mapTx T (l.take k) ++ l.drop k).length = l.length := by rw [List.length_append, mapTx_len, List.length_take, List.length_drop]; omega
      have HOl : Hid (wr.ownsRow base 35 4 (.slice (some ⟨G, 0, none⟩) (mapTx T (l.take k) ++ l.drop k).length cap) (mapTx T (l.take k) ++ l.drop k).length (toksCells (mapTx T (l.take k) ++ l.drop k))) := by rw [hml]; exact HOk.out
      obtain ⟨t0, _, _, _⟩ := own4_cells HOl.out k (by omega)
      have hf := own4_frozen HOl.out (k * 4)
      rw [mapTx_at T l k hlt] at t0
      have HS := hidd (mapTx_step T l k hlt)
      have HAt := hidd (mapTx_at T l k hlt)
      have HQk := hidd (HQ.out k hlt)
      have HML := hidd hml
      clear hml
      obtain ⟨tk, htk⟩ : ∃ tk, l.getD k tk0 = tk := ⟨_, rfl⟩
      rw [htk] at t0 HS HQk HAt
      clear htk
      obtain ⟨tx, pl⟩ := tk
      dsimp only at t0 HS HQk HAt
      have b0 : wr.cell? ⟨B, 0, none⟩ = some (.func (.func h) #[] #[]) := blkc ((HBt.out.block B hBl hne).trans HB.out) 0
      have hBr : B < wr.heap.size := Nat.lt_of_lt_of_le hBl HBt.out.size
      have hGr : G < wr.heap.size := Nat.lt_of_lt_of_le hGl HBt.out.size
      have HCk := hidd (HC.out wr.drew tx (HBt.out.trans (But.of_below (X := fun b => G = b) (below_drewN (Below.refl _ wr) 1)) (fun _ _ h => h) (fun _ _ h => h)) HQk.out)
      go_upto_region 4 with fail
      go_region_with (go_at_fn h; refine HCk.out.mono ?_; rintro e w2 ⟨rfl, hb2⟩; have HB2 : Hid (Below wr.heap.size wr w2) := Below.trans (below_drewN (Below.refl _ wr) 1) hb2; have s0 := (HB2.out.cell (p := ⟨G, k * 4, none⟩) hGr).trans t0; have s1 := (HB2.out.cell (p := ⟨B, 0, none⟩) hBr).trans b0; have s2 := own4_frozen (own4_below HOl.out HB2.out) (k * 4); clear hb2)
      all_goals
        go_wp2_with fail
        go_roundw
        case rel =>
          refine ⟨k + 1, by omega, by go_num, ?_, (HBt.out.trans (But.of_below (X := fun b => G = b) HB2.out) (fun _ _ h => h) (fun _ _ h => h)).set G _ _ rfl⟩
          have h9 := own4_text (own4_below HOl.out HB2.out) k (T tx) (by rw [HML.out]; exact hlt)
          rw [HAt.out, HS.out, HML.out] at h9
          exact h9
        case measure => simp [intOf]; omega
    · have HL : Hid (mapTx T (l.take k) ++ l.drop k = mapTx T l) := by show _ = _; rw [List.take_of_length_le (by omega), List.drop_of_length_le (by omega), List.append_nil]
      go_wp2_with fail
      go_ret2
      rw [mapTx_len, ← HL.out]
      exact ⟨rfl, HOk.out, HBt.out⟩
end Go.Proofs.YtionicjnoogpjaaGreatDoor
