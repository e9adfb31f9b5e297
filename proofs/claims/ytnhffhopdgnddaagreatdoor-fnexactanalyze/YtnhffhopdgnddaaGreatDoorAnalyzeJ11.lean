import Derived.Test.YtnhffhopdgnddaaGreatDoorAnalyzeJ05
import Derived.Test.YtnhffhopdgnddaaGreatDoorAnalyzeJ08
import Derived.Test.YtnhffhopdgnddaaGreatDoorAnalyzeJ01
import Derived.Test.YtnhffhopdgnddaaGreatDoorAnalyzeJ10
import Derived.Test.YtnhffhopdgnddaaGreatDoorAnalyzeJ07
import Derived.BigCall
import Derived.Shelf.Abstract
import Derived.Deep.CutBlock
namespace Go.Proofs
open Go.Shelf
def Tryz.lays168_ren : Go.Shelf.Ren := ⟨fun | 168 => 102 | 240 => 116 | 242 => 118 | 276 => 124 | 278 => 126 | n => n, fun | 0 => 0 | 3 => 3 | 4 => 4 | 5 => 5 | 9 => 9 | 20 => 20 | 21 => 21 | 37 => 22 | 46 => 122 | 51 => 144 | 70 => 126 | 72 => 128 | 75 => 131 | 80 => 87 | 164 => 142 | n => n, fun | n => n⟩
theorem Tryz.lays168 : Go.Proofs.Lays.n168 Tryz.prog Tryz.lays168_ren := {
  mixed := by kernel_rfl
  f168 := Tryz.func102.trans (congrArg some (by kernel_rfl))
  f240 := Tryz.func116.trans (congrArg some (by kernel_rfl))
  f242 := Tryz.func118.trans (congrArg some (by kernel_rfl))
  f276 := Tryz.func124.trans (congrArg some (by kernel_rfl))
  f278 := Tryz.func126.trans (congrArg some (by kernel_rfl))
  t0 := Tryz.underlying0
  a0 := Tryz.isAgg0
  z0 := Tryz.sizeOf0
  v0 := Tryz.zeroValue0
  t3 := Tryz.underlying3
  a3 := Tryz.isAgg3
  z3 := Tryz.sizeOf3
  v3 := Tryz.zeroValue3
  t4 := Tryz.underlying4
  a4 := Tryz.isAgg4
  z4 := Tryz.sizeOf4
  v4 := Tryz.zeroValue4
  t5 := Tryz.underlying5
  a5 := Tryz.isAgg5
  z5 := Tryz.sizeOf5
  v5 := Tryz.zeroValue5
  t9 := Tryz.underlying9
  a9 := Tryz.isAgg9
  z9 := Tryz.sizeOf9
  v9 := Tryz.zeroValue9
  t20 := Tryz.underlying20
  a20 := Tryz.isAgg20
  z20 := Tryz.sizeOf20
  v20 := Tryz.zeroValue20
  t21 := Tryz.underlying21
  a21 := Tryz.isAgg21
  z21 := Tryz.sizeOf21
  v21 := Tryz.zeroValue21
  t37 := Tryz.underlying22
  a37 := Tryz.isAgg22
  z37 := Tryz.sizeOf22
  v37 := Tryz.zeroValue22
  t46 := Tryz.underlying122
  a46 := Tryz.isAgg122
  z46 := Tryz.sizeOf122
  v46 := Tryz.zeroValue122
  t51 := Tryz.underlying144
  a51 := Tryz.isAgg144
  z51 := Tryz.sizeOf144
  v51 := Tryz.zeroValue144
  t70 := Tryz.underlying126
  a70 := Tryz.isAgg126
  z70 := Tryz.sizeOf126
  v70 := Tryz.zeroValue126
  t72 := Tryz.underlying128
  a72 := Tryz.isAgg128
  z72 := Tryz.sizeOf128
  v72 := Tryz.zeroValue128
  t75 := Tryz.underlying131
  a75 := Tryz.isAgg131
  z75 := Tryz.sizeOf131
  v75 := Tryz.zeroValue131
  t164 := Tryz.underlying142
  a164 := Tryz.isAgg142
  z164 := Tryz.sizeOf142
  v164 := Tryz.zeroValue142 }
theorem Tryz.Builder_Extra_168 : Builder.Extra Tryz.prog Tryz.lays168_ren := {
  sizeBuilder := by kernel_rfl
  liesBuilder := by kernel_rfl
  t5 := Tryz.underlying5
  a5 := Tryz.isAgg5
  z5 := Tryz.sizeOf5
  v5 := Tryz.zeroValue5
  infoByte := by kernel_rfl
  cellsByte := by kernel_rfl
  sizeByte := by kernel_rfl
  neB5 := by decide }
theorem Tryz.Builder_WriteRune_k (B b : Nat) (bs : List Value) (r : Int) (hr0 : -2147483648 ≤ r) (hr1 : r ≤ 2147483647) (w : World) (h : Lib.IsBuilderF 128 5 B b bs w) (hlen : bs.length + 4 ≤ 140737488355328) (hBw : B ≤ w.heap.size) :
    Calls Tryz.prog 102 #[.pointer (some ⟨b, 0, none⟩), .int .i32 r] w fun e w' => e = .returned (.tuple #[.int .i64 (Lib.runeCells r).length, .nilIface]) ∧ (Lib.BuilderAtF 128 5 B b (.pointer (some ⟨b, 0, none⟩)) (bs ++ Lib.runeCells r) w' ∧ Go.RowKit.Below B w w' ∧ Lib.OthersKept 5 (some b) w w') :=
  Any.Builder_WriteRune_k Tryz.lays168 Tryz.Builder_Extra_168 B b bs r hr0 hr1 w h hlen hBw
end Go.Proofs

namespace Go.Proofs.YtnhffhopdgnddaaGreatDoor
open Go Go.RowKit
set_option linter.unusedVariables false

set_option maxHeartbeats 4000000 in
set_option maxRecDepth 1000000 in
theorem implFoldText_any (s : ByteArray) (w : World) (hs : s.size ≤ 1048576) (hT : Tabs w) :
    Calls Tryz.prog 89 #[.string s] w fun e w' => e = .returned (.tuple #[.string ⟨(foldText s).toArray⟩, .int .i64 (decCode s)]) ∧ Below w.heap.size w w' := by
  have HT := hidd hT
  clear hT
  by_cases hc : decCode s = 0
  · have HD := hidd (dec_ok s hc)
    have hsz := (dec_ok s hc).2
    have HC := hidd hc
    have HX : Hid (foldText s = encs ((runes s).map foldZ)) := by show _ = _; rw [foldText, if_pos hc]; rfl
    clear hc
    go_enter Tryz.func89, Tryz.ntmps89
    go_wp2_with fail
    refine (textCode_any s _ hs HT.out).mono ?_
    rintro e w1 ⟨rfl, hb1⟩
    rw [HC.out]
    go_wp2_with fail
    have hz1 := hb1.size
    refine (Tryz.Builder_Grow_fresh w1.heap.size w1.heap.size s.size _ (Nat.le_refl _) (by exact heap_alloc_new _ _) (by simp) (by omega)).mono ?_
    rintro e w2 ⟨rfl, hB2, hb2⟩
    have hbel2 : Below w.heap.size w w2 := (hb1.alloc hb1.size _).trans (hb2.mono hz1)
    have hI2 : Lib.IsBuilderF 128 5 w1.heap.size w1.heap.size [] w2 := Lib.IsBuilderF.of (Or.inr hB2)
    have hz2 : w1.heap.size < w2.heap.size := hB2.lt
    clear hB2 hb2 hb1
    generalize w1.heap.size = B at *
    have hit0 := hidd (World.iter_heap w2 s 0)
    have hb3 : Below w.heap.size w (w2.iter s 0) := hbel2.alloc hbel2.size _
    have hI3 : Lib.IsBuilderF 128 5 B B [] (w2.iter s 0) := hI2.alloc _
    have hz3 : w.heap.size ≤ w2.heap.size := hbel2.size
    go_wp2
    generalize w2.iter s 0 = w3 at hit0 hb3 hI3 ⊢
    generalize w2.heap.size = I at *
    clear hbel2 hI2
    go_loopw [] (fun wr => ∃ (p f : Nat) (acc : List Int), Lib.IsBuilderF 128 5 B B (Lib.byteCells (encs (acc.map foldZ))) wr ∧ wr.heap[I]? = some (.stringIter s p) ∧ Below w.heap.size w wr ∧ acc ++ runesFrom s f p = runes s ∧ s.size ≤ p + f ∧ vFrom s p = true) (fun wr => s.size - wr.iterPos I)
    case atStart => exact ⟨0, s.size, [], hI3, hit0.out, hb3, rfl, by omega, by rw [vFrom_zero]; exact HD.out.1⟩
    case round =>
      obtain ⟨p, f, acc, hI, hit, hbel, hacc, hf, hv⟩ := hrel
      have hlen : acc.length ≤ s.size := by have := congrArg List.length hacc; rw [List.length_append] at this; have := runes_le s; omega
      have hel := encs_le (acc.map foldZ)
      rw [List.length_map] at hel
      clear hI3 hit0 hb3
      have hIlt : I < wr.heap.size := (Array.getElem?_eq_some_iff.1 hit).1
      by_cases hlt : p < s.size
      · have hnx : ∀ ty, (Instr.next (.pointer (some ⟨I, 0, none⟩)) true ty).run Tryz.prog wr = _ := fun ty => Lib.run_next_any_at wr I s p ty hit hlt
        have hw := width_le s p hlt
        have hr := rune_le s p
        have hg := good_of s p hlt hv
        obtain ⟨hf0, hf1, _⟩ := foldZ_bd _ (rune_chr s p hg)
        have hI2 := hI.iterAt hit (p + (Utf8.decode s p).2)
        have hit2 := Lib.iterAt_heap wr I s p (p + (Utf8.decode s p).2) hit
        have hbel2 := Lib.below_iterAt hbel (k := I) hz3 s (p + (Utf8.decode s p).2)
        have hzw : B ≤ (wr.iterAt I s (p + (Utf8.decode s p).2)).heap.size := by rw [Lib.iterAt_size]; omega
        have Hst : Hid (acc ++ [((Utf8.decode s p).1 : Int)] ++ runesFrom s (f - 1) (p + (Utf8.decode s p).2) = runes s) := by
          show _ = _
          obtain ⟨g, rfl⟩ : ∃ g, f = g + 1 := ⟨f - 1, by omega⟩
          rw [runesFrom_step s g p hlt] at hacc
          rw [← hacc]
          simp
        have Hv2 : Hid (vFrom s (p + (Utf8.decode s p).2) = true) := by show _ = _; rw [vFrom_good s p hlt hg]; exact hv
        have Hpos := hidd (iterPos_of hit)
        have HI2 := hidd hI2
        have Hit2 := hidd hit2
        have HB2 := hidd hbel2
        clear hacc hI hit2 hbel2 hbel hI2 hv hg
        generalize (Utf8.decode s p).1 = r at *
        generalize (Utf8.decode s p).2 = n at *
        generalize wr.iterAt I s (p + n) = wi at *
        go_wp2_with fail
        refine (implFold_any _ _).mono ?_
        rintro e w4 ⟨rfl, rfl⟩
        generalize hfz : foldZ (r : Int) = fz at *
        have Hfz := hidd hfz
        clear hfz
        go_wp2_with fail
        refine (Tryz.Builder_WriteRune_k B B _ _ (by omega) (by omega) _ HI2.out (by rw [Lib.byteCells_length]; omega) hzw).mono ?_
        rintro e w5 ⟨rfl, h1, b1, k1⟩
        have R : Hid (Lib.IsBuilderF 128 5 B B (Lib.byteCells (encs ((acc ++ [(r : Int)]).map foldZ))) w5 ∧ w5.heap[I]? = some (.stringIter s (p + n)) ∧ Below w.heap.size w w5) := by
          refine ⟨?_, k1.iter Hit2.out (by omega), HB2.out.trans (b1.mono hz1)⟩
          rw [List.map_append, List.map_cons, List.map_nil, Hfz.out, encs_snoc, Lib.byteCells_append, Lib.byteCells_encodeRune]
          exact Or.inr h1
        clear h1 b1 k1 HI2 Hit2 HB2
        go_wp2
        go_roundw
        case rel => exact ⟨p + n, f - 1, acc ++ [(r : Int)], R.out.1, R.out.2.1, R.out.2.2, Hst.out, by omega, Hv2.out⟩
        case measure => rw [iterPos_of R.out.2.1, Hpos.out]; omega
      · have hnx : ∀ ty, (Instr.next (.pointer (some ⟨I, 0, none⟩)) true ty).run Tryz.prog wr = _ := fun ty => Lib.run_next_end_at wr I s p ty hit hlt
        have HL2 : Hid (runes s = acc) := by show _ = _; rw [← hacc, runesFrom_end s f p hlt, List.append_nil]
        have HI := hidd hI
        clear hacc hit hI
        go_wp2_with fail
        refine (Tryz.Builder_String_any_k B B (encs (acc.map foldZ)) _ HI.out (by omega)).mono ?_
        rintro e w5 ⟨rfl, _, b1, _⟩
        go_wp2
        go_ret2
        rw [HX.out, HL2.out, HC.out]
        exact ⟨rfl, hbel.trans (b1.mono hz1)⟩
  · have hcn : (decCode s != 0) = true := by rw [bne_iff_ne]; exact hc
    have HX : Hid (foldText s = []) := by show _ = _; rw [foldText, if_neg hc]
    clear hc
    go_enter Tryz.func89, Tryz.ntmps89
    go_wp2_with fail
    refine (textCode_any s _ hs HT.out).mono ?_
    rintro e w1 ⟨rfl, hb1⟩
    go_wp2
    go_ret2
    rw [HX.out]
    exact ⟨rfl, hb1⟩
end Go.Proofs.YtnhffhopdgnddaaGreatDoor

namespace Go.Proofs.YtnhffhopdgnddaaGreatDoor
open Go Go.RowKit
set_option linter.unusedVariables false

/-- A token, as a value. -/
def tokV (x : Tk) : Value := .agg #[.string (bs x.1), .int .i64 x.2.1, .int .i64 x.2.2.1, .int .i64 x.2.2.2]
/-- A function that asks tokens. -/
def PredC (g : FuncId) (lb : Array Value) (p : Tk → Bool) (wb : World) (X : Nat → Prop) : Prop :=
  ∀ (W : World) (x : Tk), But X wb W → x.1.length ≤ 1048576 → Calls Tryz.prog g (#[tokV x] ++ lb) W fun e w' => e = .returned (.bool (p x)) ∧ Below W.heap.size W w'
theorem PredC.but {g : FuncId} {lb : Array Value} {p : Tk → Bool} {wb W : World} {X : Nat → Prop} (h : PredC g lb p wb X) (hb : But X wb W) : PredC g lb p W X :=
  fun W' x hW hx => h W' x (hb.trans hW (fun _ _ h => h) (fun _ _ h => h)) hx

theorem contains_any (a : Option Addr) (c : Nat) (l : List (List UInt8)) (x : List UInt8) (w : World) (hn : l.length ≤ 1048576) (h : HoldS w a l) :
    Calls Tryz.prog 91 #[.slice a l.length c, .string (bs x)] w fun e w' => e = .returned (.bool (hasT l x)) ∧ w' = w := by
  rcases h with h | ⟨b, off, rfl, hb, hc⟩
  · subst h
    exact (Tryz.slices_Contains_string_empty a c (bs x) w).mono fun e w' h => by
      obtain ⟨rfl, rfl⟩ := h
      exact ⟨rfl, rfl⟩
  · have hcell : ∀ j, j < (l.map fun t => bs t).length → w.cell? ⟨b, off + j, none⟩ = some (.string ((l.map fun t => bs t).getD j ByteArray.empty)) := by
      intro j hj
      rw [List.length_map] at hj
      rw [hc j hj]
      simp [hj]
    refine (Tryz.slices_Contains_string b off l.length c (l.map fun t => bs t) (bs x) w (by simp) (by omega) hcell).mono fun e w' h => ?_
    obtain ⟨rfl, rfl⟩ := h
    refine ⟨?_, rfl⟩
    have e1 : (l.map fun t => bs t).take l.length = l.map fun t => bs t := List.take_of_length_le (by simp)
    rw [e1]
    congr 2
    rw [Bool.eq_iff_iff, Lib.containsS_iff, hasT, List.any_eq_true]
    constructor
    · intro h
      obtain ⟨t, ht, e⟩ := List.mem_map.1 h
      exact ⟨t, ht, by rw [beq_iff_eq]; exact (by simpa [bs] using congrArg (fun z => z.data.toList) e)⟩
    · rintro ⟨t, ht, e⟩
      rw [beq_iff_eq] at e
      exact List.mem_map.2 ⟨t, ht, by rw [e]⟩

set_option maxHeartbeats 4000000 in
theorem isLong_any (x : Tk) (w : World) (hx : x.1.length ≤ 1048576) :
    Calls Tryz.prog 98 #[tokV x] w fun e w' => e = .returned (.bool (decide (64 < x.1.length))) ∧ Below w.heap.size w w' := by
  obtain ⟨t, p0, p1, p2⟩ := x
  have hz : (bs t).size = t.length := bs_size t
  show Calls Tryz.prog 98 #[.agg #[.string (bs t), .int .i64 p0, .int .i64 p1, .int .i64 p2]] w _
  go_enter Tryz.func98, Tryz.ntmps98
  go_wp2_with fail
  go_returns
  refine ⟨?_, (Below.refl _ _).alloc (Nat.le_refl _) _⟩
  show Ending.returned (Value.bool (decide (64 < (t.length : Int)))) = _
  congr 2
  rw [decide_eq_decide]
  omega

set_option maxHeartbeats 4000000 in
theorem isStop_any (fo st ph : Bool) (aS : Option Addr) (cS : Nat) (vY : Value) (lo hi : Int) (stops : List (List UInt8)) (B : Nat) (x : Tk) (w : World) (hn : stops.length ≤ 1048576) (hS : HoldS w aS stops)
    (hB : w.heap[B]? = some (.cells #[.bool fo, .bool st, .bool ph, .slice aS stops.length cS, vY, .int .i64 lo, .int .i64 hi] 26)) :
    Calls Tryz.prog 90 #[tokV x, .pointer (some ⟨B, 0, none⟩)] w fun e w' => e = .returned (.bool (hasT stops x.1)) ∧ Below w.heap.size w w' := by
  obtain ⟨t, p0, p1, p2⟩ := x
  have HS := hidd hS
  have hbl : B < w.heap.size := (Array.getElem?_eq_some_iff.1 hB).1
  have HB : Hid (Below w.heap.size w (w.alloc (.cells #[.string (bs t), .int .i64 p0, .int .i64 p1, .int .i64 p2] 35))) := (Below.refl _ _).alloc (Nat.le_refl _) _
  have q3 : (w.alloc (.cells #[.string (bs t), .int .i64 p0, .int .i64 p1, .int .i64 p2] 35)).cell? ⟨B, 3, none⟩ = some (.slice aS stops.length cS) := blkc (blko hB HB.out) 3
  clear hS hB
  show Calls Tryz.prog 90 #[.agg #[.string (bs t), .int .i64 p0, .int .i64 p1, .int .i64 p2], .pointer (some ⟨B, 0, none⟩)] w _
  go_enter Tryz.func90, Tryz.ntmps90
  go_wp2_with fail
  refine (contains_any aS cS stops t _ hn (HS.out.below HB.out)).mono ?_
  rintro e w' ⟨rfl, hw⟩
  obtain rfl := hw.symm
  go_wp2_with fail
  go_returns
  exact ⟨rfl, HB.out⟩

set_option maxHeartbeats 4000000 in
theorem foldWord_any (t : List UInt8) (w : World) (hd : decCode (bs t) = 0) (hT : Tabs w) :
    Calls Tryz.prog 66 #[.string (bs t)] w fun e w' => e = .returned (.string (bs (foldL t))) ∧ Below w.heap.size w w' := by
  go_enter Tryz.func66, Tryz.ntmps66
  go_wp2_with fail
  refine (implFoldText_any (bs t) _ (by have := (dec_ok _ hd).2; omega) hT).mono ?_
  rintro e w1 ⟨rfl, hb1⟩
  have HF : Hid ((⟨(foldText (bs t)).toArray⟩ : ByteArray) = bs (foldL t)) := by show _ = _; rw [foldText, if_pos hd]; rfl
  rw [HF.out]
  clear HF
  go_wp2_with fail
  go_returns
  exact ⟨rfl, hb1⟩
end Go.Proofs.YtnhffhopdgnddaaGreatDoor

namespace Go.Proofs.YtnhffhopdgnddaaGreatDoor
open Go Go.RowKit
set_option linter.unusedVariables false
set_option maxRecDepth 100000

/-- The place of the first token that the function takes; -1 if none. -/
def idxP (p : Tk → Bool) (l : List Tk) : Int := if l.any p then ((l.findIdx p : Nat) : Int) else -1

set_option maxHeartbeats 8000000 in
theorem indexFunc_any (g : FuncId) (lb : Array Value) (p : Tk → Bool) (base : Nat) (v : Value) (l : List Tk) (w : World) (hown : w.ownsRow base 35 4 v l.length (toksCells l)) (hn : l.length ≤ 1048576) (hsz : ∀ k, k < l.length → (l.getD k tk0).1.length ≤ 1048576)
    (eg : ∀ args w, (callFunc g args).run Tryz.prog w = .ok (.enter g args) w) (hP : PredC g lb p w (fun b => v.ownBlock = some b)) :
    Calls Tryz.prog 106 #[v, .func (.func g) #[] lb] w fun e w' => e = .returned (.int .i64 (idxP p l)) ∧ Below w.heap.size w w' := by
  obtain ⟨a, c, rfl, hH, _⟩ := holdT_row hown
  have HH := hidd hH
  have HP := hidd hP
  have HZ := hidd hsz
  clear hH hP hsz hown
  go_enter Tryz.func106, Tryz.ntmps106
  go_wp2_with fail
  go_loopw [8] (fun i wx => ∃ k : Nat, k ≤ l.length ∧ i = .int .i64 k ∧ (∀ j, j < k → p (l.getD j tk0) = false) ∧ Below w.heap.size w wx) (fun i _ => l.length - (intOf i).toNat)
  case atStart => exact ⟨0, by omega, rfl, fun j hj => absurd hj (by omega), Below.refl _ _⟩
  case round =>
    obtain ⟨k, hk, rfl, hno, hbx⟩ := hrel
    have HN := hidd hno
    have HB := hidd hbx
    clear hno hbx
    by_cases hlt : k < l.length
    · have hzk := HZ.out k hlt
      have HPk := hidd (HP.out wr (l.getD k tk0) (But.of_below HB.out) hzk)
      have hany : ∀ j (hj : j < l.length), l.getD j tk0 = l[j] := fun j hj => by simp [hj]
      have HA := hidd hany
      obtain ⟨b, off, rfl, hbl, hc⟩ := (HH.out.below HB.out).resolve_left (fun h => by rw [h] at hlt; simp at hlt)
      obtain ⟨t0, t1, t2, t3⟩ := hc k hlt
      clear hc hany
      obtain ⟨tk, htk⟩ : ∃ tk, l.getD k tk0 = tk := ⟨_, rfl⟩
      have HTk := hidd htk
      rw [htk] at t0 t1 t2 t3 HPk hzk
      clear htk
      obtain ⟨tx, p0, p1, p2⟩ := tk
      dsimp only at t0 t1 t2 t3
      unfold tokV at HPk
      dsimp only at HPk
      cases hp : p (tx, p0, p1, p2)
      · have HPn : Hid (∀ j, j < k + 1 → p (l.getD j tk0) = false) := fun j hj => by
          by_cases h : j < k
          · exact HN.out j h
          · have : j = k := by omega
            subst this
            rw [HTk.out]; exact hp
        rw [hp] at HPk
        clear hp
        go_wp2_with (go_at_fn g; refine HPk.out.mono ?_; rintro e w2 ⟨rfl, hb2⟩)
        go_roundw
        case rel => exact ⟨k + 1, by omega, by go_num, HPn.out, HB.out.trans (hb2.mono HB.out.size)⟩
        case measure => simp [intOf]; omega
      · have HR : Hid (idxP p l = (k : Int)) := by
          show _ = _
          have h1 : l.any p = true := List.any_eq_true.2 ⟨l[k], List.getElem_mem hlt, by rw [← HA.out k hlt, HTk.out]; exact hp⟩
          have h2 : l.findIdx p = k := by
            rw [List.findIdx_eq hlt]
            refine ⟨by rw [← HA.out k hlt, HTk.out]; exact hp, fun j hj => ?_⟩
            rw [← HA.out j (by omega)]; exact HN.out j hj
          rw [idxP, if_pos h1, h2]
        rw [hp] at HPk
        clear hp
        go_wp2_with (go_at_fn g; refine HPk.out.mono ?_; rintro e w2 ⟨rfl, hb2⟩)
        go_ret
        rw [HR.out]
        exact ⟨rfl, HB.out.trans (hb2.mono HB.out.size)⟩
    · have HR : Hid (idxP p l = -1) := by
        show _ = _
        have h1 : ¬ l.any p = true := by
          intro h
          obtain ⟨x, hx, hp⟩ := List.any_eq_true.1 h
          obtain ⟨j, hj, e⟩ := List.mem_iff_getElem.1 hx
          have := HN.out j (by omega)
          rw [List.getD_eq_getElem?_getD, List.getElem?_eq_getElem hj, Option.getD_some, e, hp] at this
          cases this
        rw [idxP, if_neg h1]
      go_wp2_with fail
      go_ret
      rw [HR.out]
      exact ⟨rfl, HB.out⟩

/-- clear over a part of a row. -/
theorem run_clear_row (w : World) (t e ty : TypeId) (z : Value) (ht : Tryz.prog.underlying t = some (.slice e)) (hv : ∀ w, (zeroValue e).run Tryz.prog w = .ok z w) (h1 : ∀ u ∈ z.cells, u.oneCell' = true) (b o n c : Nat) (hn : 0 < n) (hz : 0 < z.cells.size)
    (hc : ∀ j, j < n * z.cells.size → (w.cell? ⟨b, o + j, none⟩).isSome = true) (hf : ∀ j, j < n * z.cells.size → w.frozen? ⟨b, o + j, none⟩ = false) :
    (Builtin.clear_ #[t] ty #[.slice (some ⟨b, o, none⟩) n c]).run Tryz.prog w = .ok (.tuple #[]) (w.setCells b o (Builtin.zeroCells z.cells n).toList) := by
  have hl : (Builtin.zeroCells z.cells n).toList.length = n * z.cells.size := by simp [Builtin.zeroCells]
  have hst := run_storeCells_cells (P := Tryz.prog) b o (Builtin.zeroCells z.cells n).toList 0 w (by rw [hl]; simpa using hc) (by rw [hl]; simpa using hf) (by
    intro v hv'
    simp only [Builtin.zeroCells, Array.toList_map, List.mem_map] at hv'
    obtain ⟨i, _, rfl⟩ := hv'
    have hlt : i % z.cells.size < z.cells.size := Nat.mod_lt _ hz
    rw [getElem!_pos z.cells _ hlt]
    exact h1 _ (Array.getElem_mem hlt))
  simp only [Nat.add_zero] at hst
  obtain ⟨m, rfl⟩ : ∃ m, n = m + 1 := ⟨n - 1, by omega⟩
  simp [Builtin.clear_, run_underlying ht, hv, hst]
/-- What clear leaves of a row's head. -/
theorem own4_cells_set {base e g cap n i : Nat} {xs : List Value} : ∀ (vs : List Value) (o : Nat) (w : World), i * 4 ≤ o → w.ownsRow base e 4 (.slice (some ⟨g, 0, none⟩) i cap) i xs → (w.setCells g o vs).ownsRow base e 4 (.slice (some ⟨g, 0, none⟩) i cap) i xs
  | [], _, _, _, h => h
  | v :: r, o, w, ho, h => by
    rw [World.setCells]
    refine own4_cells_set (n := n) r (o + 1) _ (by omega) ?_
    refine ⟨h.1, ?_⟩
    rcases h.2 with ⟨h', _⟩ | ⟨g', cap', cur, h1, h2, h3, h4, h5, h6, h7⟩
    · cases h'
    · simp only [Value.slice.injEq, Option.some.injEq, Addr.mk.injEq, and_true, true_and] at h1
      obtain ⟨rfl, rfl⟩ := h1
      refine Or.inr ⟨g, cap, cur.setIfInBounds o v, rfl, h2, blk_setk h3 o v, h4, h5, by rw [Array.size_setIfInBounds]; exact h6, ?_⟩
      rw [Array.toList_setIfInBounds, List.take_set_of_le ho, h7]
theorem but_setCells {X : Nat → Prop} {a : World} (g : Nat) (hg : X g) : ∀ (vs : List Value) (o : Nat) (w : World), But X a w → But X a (w.setCells g o vs)
  | [], _, _, h => h
  | v :: r, o, w, h => by
    rw [World.setCells]
    exact but_setCells g hg r (o + 1) _ (h.set g o v hg)
end Go.Proofs.YtnhffhopdgnddaaGreatDoor
