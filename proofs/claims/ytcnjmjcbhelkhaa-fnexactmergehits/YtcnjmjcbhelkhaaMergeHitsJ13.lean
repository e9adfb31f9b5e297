import Derived.Test.YtcnjmjcbhelkhaaMergeHitsJ12
import Derived.Ground.NamesProg
import Derived.Shelf.Unicode.ValidAny
import Derived.Shelf.Small.Wraps
import Derived.Shelf.LaysM
import Derived.Shelf.Strconv.Clone
import Derived.Test.YtcnjmjcbhelkhaaProg
import Derived.Test.YtcnjmjcbhelkhaaMergeHitsJ04
import Derived.Test.YtcnjmjcbhelkhaaMergeHitsJ06
import Derived.Laws.AppendOwn
import Derived.Handy
import Derived.Lib.LazyBuf
namespace Go.Proofs.Ytcnjmjcbhelkhaa
open Go Go.RowKit Go.Shelf
set_option linter.unusedVariables false
set_option maxRecDepth 100000
set_option linter.unusedSimpArgs false

/-! impl.order.mergeCode. -/
theorem oddK_flat (m : Nat) (L : List (List Fd)) : L.flatten.any (oddF m) = oddK m L := by
  unfold oddK
  rw [List.any_flatten]
  rfl
theorem oddK_no {m : Nat} {L : List (List Fd)} (h : oddK m L = false) : ∀ i f, f ∈ L.getD i [] → f.2.2.length = m := fun i f hf => by
  unfold oddK at h
  rw [List.any_eq_false] at h
  by_cases hi : i < L.length
  · have h1 := h (L.getD i []) (by simp [hi])
    simp only [Bool.not_eq_true] at h1
    rw [List.any_eq_false] at h1
    have h2 := h1 f hf
    simpa using h2
  · rw [List.getD_eq_getElem?_getD, List.getElem?_eq_none (by omega)] at hf
    simp at hf
theorem getD_memF {l : List Fd} {i : Nat} (h : i < l.length) : l.getD i fd0 ∈ l := by simp [h]
set_option maxHeartbeats 8000000 in
theorem mcode_any (w : World) (sa : Option Addr) (sc : Nat) (ks : List (Tx × Bool)) (la : Option Addr) (lc : Nat) (L : List (List Fd)) (size : Int) (hS : HoldSK w sa ks) (hL : HoldFF w la L) (hkn : ks.length ≤ 1048576) (hLn : L.length ≤ 1048576) (hln : ∀ i, i < L.length → (L.getD i []).length ≤ 1048576) :
    Calls Try.prog 22 #[.slice sa ks.length sc, .slice la L.length lc, .int .i64 size] w fun e w' => e = .returned (.int .i64 (mhC (dsOf ks) L size)) ∧ Below w.heap.size w w' := by
  have HS := hidd hS
  have HL := hidd hL
  have HLn := hidd hln
  have HLn0 := hidd hLn
  obtain ⟨N, hN⟩ : ∃ N, L.length = N := ⟨_, rfl⟩
  have HN := hidd hN
  obtain ⟨kn, hkn2⟩ : ∃ n, ks.length = n := ⟨_, rfl⟩
  have HKn := hidd hkn2
  have HDs : Hid ((dsOf ks).length = kn) := by show _ = _; rw [dsOf, List.length_map, hkn2]
  have hbB : Below w.heap.size w (w.alloc (.cells #[.slice sa kn sc] 52)) := (Below.refl _ _).alloc (Nat.le_refl _) _
  have HB := hidd hbB
  have HBx : Hid ((w.alloc (.cells #[.slice sa kn sc] 52)).cell? ⟨w.heap.size, 0, none⟩ = some (.slice sa kn sc)) := blkc (heap_alloc_new w _) 0
  rw [hN] at hLn ⊢
  rw [hkn2] at hkn ⊢
  clear hS hL hln hN hkn2 hbB
  go_enter Try.func22, Try.ntmps22
  by_cases h1 : N > 16
  · have HC : Hid (mhC (dsOf ks) L size = 11) := by show _ = _; rw [mhC, if_pos (by rw [HN.out]; exact h1)]
    have h1z : (N : Int) > 16 := by omega
    go_wp2_with fail
    go_ret
    exact ⟨by rw [HC.out]; rfl, HB.out⟩
  · have h1z : ¬ (N : Int) > 16 := by omega
    obtain ⟨W, hW⟩ : ∃ W, w.alloc (.cells #[.slice sa kn sc] 52) = W := ⟨_, rfl⟩
    rw [hW] at HB HBx
    have HP1 : Hid (PredL 32 #[] (fun l => decide (l.length > 4096)) W L) := fun W' i ra rc _ _ _ => (isLong_any W' ra _ rc).mono fun e w' ⟨h1, h2⟩ => ⟨h1, by rw [h2]; exact Below.refl _ _⟩
    have HC1 := hidd (containsLL_any 32 #[] (fun l => decide (l.length > 4096)) W la lc L (HL.out.below HB.out) HLn0.out (enters_of Try.func32 (by kernel_rfl) rfl) HP1.out)
    rw [HN.out] at HC1
    have HA : Hid (mhC (dsOf ks) L size = if (L.any fun l => decide (l.length > 4096)) = true then 2 else if size < 0 ∨ size > 1000 ∨ (dsOf ks).length > 4 ∨ oddK (dsOf ks).length L = true then 12 else if (L.any (badS (dsOf ks))) = true then 17 else 0) := by show _ = _; rw [mhC, if_neg (by rw [HN.out]; exact h1)]
    have HLen : Hid ((L.any fun l => decide (l.length > 4096)) = false → ∀ i, i < L.length → (L.getD i []).length ≤ 4096) := fun h i hi => by
      rw [List.any_eq_false] at h
      have := h (L.getD i []) (by simp [hi])
      simpa using this
    generalize (L.any fun l => decide (l.length > 4096)) = r1 at *
    go_wp2_with fail
    refine HC1.out.mono ?_
    rintro e w1 ⟨rfl, hb1⟩
    have HB1 := hidd (HB.out.trans (hb1.mono HB.out.size))
    have HBx1 : Hid (w1.cell? ⟨w.heap.size, 0, none⟩ = some (.slice sa kn sc)) := (hb1.cell (p := ⟨w.heap.size, 0, none⟩) (cell_lt HBx.out)).trans HBx.out
    clear hb1 HC1 HP1 HB HBx hW W
    cases r1 with
    | true =>
      have HC : Hid (mhC (dsOf ks) L size = 2) := by show _ = _; rw [HA.out, if_pos rfl]
      go_wp2_with fail
      go_ret
      exact ⟨by rw [HC.out]; rfl, HB1.out⟩
    | false =>
      have HLn2 := hidd (HLen.out rfl)
      have HA2 : Hid (mhC (dsOf ks) L size = if size < 0 ∨ size > 1000 ∨ (dsOf ks).length > 4 ∨ oddK (dsOf ks).length L = true then 12 else if (L.any (badS (dsOf ks))) = true then 17 else 0) := by show _ = _; rw [HA.out, if_neg (by simp)]
      have HW : Hid (∀ W : World, Calls Try.prog 38 #[.int .i64 size, .int .i64 0, .int .i64 1000] W fun e w' => e = .returned (.bool (decide (0 ≤ size) && decide (size ≤ 1000))) ∧ w' = W) := fun W => within_any size 0 1000 W
      clear HA HLen
      by_cases h2 : size < 0 ∨ size > 1000
      · have HC : Hid (mhC (dsOf ks) L size = 12) := by show _ = _; rw [HA2.out, if_pos (by rcases h2 with h | h; exact Or.inl h; exact Or.inr (Or.inl h))]
        have hwb : (decide (0 ≤ size) && decide (size ≤ 1000)) = false := by rcases h2 with h | h <;> simp <;> omega
        rw [hwb] at HW
        clear hwb h2
        go_wp2_with fail
        refine (HW.out _).mono ?_
        rintro e w2 ⟨rfl, hw2⟩
        obtain rfl := hw2.symm
        go_wp2_with fail
        go_ret
        exact ⟨by rw [HC.out]; rfl, HB1.out⟩
      · have hwb : (decide (0 ≤ size) && decide (size ≤ 1000)) = true := by simp; omega
        rw [hwb] at HW
        by_cases h3 : kn > 4
        · have HC : Hid (mhC (dsOf ks) L size = 12) := by show _ = _; rw [HA2.out, if_pos (Or.inr (Or.inr (Or.inl (by rw [HDs.out]; exact h3))))]
          have h3z : (kn : Int) > 4 := by omega
          have hbx := HBx1.out
          clear hwb h2
          go_wp2_with fail
          refine (HW.out _).mono ?_
          rintro e w2 ⟨rfl, hw2⟩
          obtain rfl := hw2.symm
          go_wp2_with fail
          go_ret
          exact ⟨by rw [HC.out]; rfl, HB1.out⟩
        · have h3z : ¬ (kn : Int) > 4 := by omega
          have hbx := HBx1.out
          have HCat := hidd (concat_any w1 la lc L (HL.out.below HB1.out) (by rw [HN.out]; omega) HLn2.out)
          rw [HN.out] at HCat
          clear hwb
          go_wp2_with fail
          refine (HW.out _).mono ?_
          rintro e w2 ⟨rfl, hw2⟩
          obtain rfl := hw2.symm
          go_wp2_with fail
          refine HCat.out.mono ?_
          rintro e w3 ⟨v3, xs3, rfl, ho3, hc3, hb3⟩
          have HBx3 : Hid (w3.cell? ⟨w.heap.size, 0, none⟩ = some (.slice sa kn sc)) := (hb3.cell (p := ⟨w.heap.size, 0, none⟩) (cell_lt HBx1.out)).trans HBx1.out
          have hfl : L.flatten.length ≤ 1048576 := by
            have := flat_le (L := L) (by rw [HN.out]; omega) HLn2.out L.length (Nat.le_refl _)
            rw [List.take_length] at this
            have := HN.out
            omega
          have HCF := hidd (containsFd_any w3 _ w.heap.size kn sa sc v3 L.flatten xs3 ho3 hc3 hfl HBx3.out)
          have HB3 := hidd (HB1.out.trans (hb3.mono HB1.out.size))
          have HOd : Hid (L.flatten.any (oddF kn) = oddK (dsOf ks).length L) := by show _ = _; rw [HDs.out]; exact oddK_flat kn L
          rw [HOd.out] at HCF
          have hv3 : ∃ a n c, v3 = .slice a n c := by
            rcases ho3.2 with ⟨h1, h2⟩ | ⟨g, cap, cur, h1, _⟩
            · exact ⟨none, 0, 0, h1⟩
            · exact ⟨_, _, _, h1⟩
          obtain ⟨va, vn, vc, rfl⟩ := hv3
          have HKl := hidd (oddK_no (m := (dsOf ks).length) (L := L))
          have HA3 : Hid (mhC (dsOf ks) L size = if oddK (dsOf ks).length L = true then 12 else if (L.any (badS (dsOf ks))) = true then 17 else 0) := by
            show _ = _
            rw [HA2.out]
            by_cases e : oddK (dsOf ks).length L = true
            · rw [if_pos (Or.inr (Or.inr (Or.inr e))), if_pos e]
            · rw [if_neg e, if_neg]
              rintro (h | h | h | h)
              · exact h2 (Or.inl h)
              · exact h2 (Or.inr h)
              · rw [HDs.out] at h; omega
              · exact e h
          generalize oddK (dsOf ks).length L = r2 at *
          clear ho3 hc3 hb3 hfl HCat HOd HA2 h2 HBx1
          go_wp2_with fail
          refine HCF.out.mono ?_
          rintro e w4 ⟨rfl, hb4⟩
          have HB4 := hidd (HB3.out.trans (hb4.mono HB3.out.size))
          have HBx4 : Hid (w4.cell? ⟨w.heap.size, 0, none⟩ = some (.slice sa kn sc)) := (hb4.cell (p := ⟨w.heap.size, 0, none⟩) (cell_lt HBx3.out)).trans HBx3.out
          clear hb4 HCF HBx3 HB3
          cases r2 with
          | true =>
            have HC : Hid (mhC (dsOf ks) L size = 12) := by show _ = _; rw [HA3.out, if_pos rfl]
            go_wp2_with fail
            go_ret
            exact ⟨by rw [HC.out]; rfl, HB4.out⟩
          | false =>
            have HK2 := hidd (HKl.out rfl)
            have HA4 : Hid (mhC (dsOf ks) L size = if (L.any (badS (dsOf ks))) = true then 17 else 0) := by show _ = _; rw [HA3.out, if_neg (by simp)]
            have HP3 : Hid (PredL 34 #[.pointer (some ⟨w.heap.size, 0, none⟩)] (badS (dsOf ks)) w4 L) := fun W' i ra rc hi hb hfd => by
              refine isUnsorted_any W' w.heap.size ra rc (L.getD i []) ks sa sc ?_ hfd (by have := HLn2.out i hi; omega) (by rw [HKn.out]; omega) (HS.out.below (HB4.out.trans (hb.mono HB4.out.size))) (fun j hj => ?_)
              · rw [HKn.out]; exact (hb.cell (p := ⟨w.heap.size, 0, none⟩) (cell_lt HBx4.out)).trans HBx4.out
              · have := HK2.out i _ (getD_memF hj); rw [this, HDs.out, HKn.out]
            have HC3 := hidd (containsLL_any 34 #[.pointer (some ⟨w.heap.size, 0, none⟩)] (badS (dsOf ks)) w4 la lc L (HL.out.below HB4.out) HLn0.out (enters_of Try.func34 (by kernel_rfl) rfl) HP3.out)
            rw [HN.out] at HC3
            generalize L.any (badS (dsOf ks)) = r3 at *
            clear HP3 HK2 HKl HA3
            go_wp2_with fail
            refine HC3.out.mono ?_
            rintro e w5 ⟨rfl, hb5⟩
            have HB5 := hidd (HB4.out.trans (hb5.mono HB4.out.size))
            clear hb5 HC3
            cases r3 with
            | true =>
              have HC : Hid (mhC (dsOf ks) L size = 17) := by show _ = _; rw [HA4.out, if_pos rfl]
              go_wp2_with fail
              go_ret
              exact ⟨by rw [HC.out]; rfl, HB5.out⟩
            | false =>
              have HC : Hid (mhC (dsOf ks) L size = 0) := by show _ = _; rw [HA4.out, if_neg (by simp)]
              go_wp2_with fail
              go_ret
              exact ⟨by rw [HC.out]; rfl, HB5.out⟩
end Go.Proofs.Ytcnjmjcbhelkhaa

namespace Go.Proofs
open Go.Shelf
open Go.RowKit in
open Go.RowKit in
def Try.laysM316_ren : Go.Shelf.Ren := ⟨fun | 316 => 62 | n => n, fun | 9 => 9 | 3 => 3 | 4 => 4 | 37 => 89 | 0 => 0 | 127 => 111 | 5 => 5 | n => n, fun | n => n⟩
theorem Try.laysM316 : Go.Proofs.LaysM.n316 Try.prog Try.laysM316_ren := {
  mixed := by kernel_rfl
  f316 := Try.func62.trans (congrArg some (by kernel_rfl))
  t0 := Try.underlying0
  a0 := Try.isAgg0
  z0 := Try.sizeOf0
  v0 := Try.zeroValue0
  t3 := Try.underlying3
  a3 := Try.isAgg3
  z3 := Try.sizeOf3
  v3 := Try.zeroValue3
  t4 := Try.underlying4
  a4 := Try.isAgg4
  z4 := Try.sizeOf4
  v4 := Try.zeroValue4
  t9 := Try.underlying9
  a9 := Try.isAgg9
  z9 := Try.sizeOf9
  v9 := Try.zeroValue9
  t37 := Try.underlying89
  a37 := Try.isAgg89
  z37 := Try.sizeOf89
  v37 := Try.zeroValue89
  t127 := Try.underlying111
  a127 := Try.isAgg111
  z127 := Try.sizeOf111
  v127 := Try.zeroValue111
  t5 := Try.underlying5
  a5 := Try.isAgg5
  z5 := Try.sizeOf5
  v5 := Try.zeroValue5
  i0 := by kernel_rfl
  i3 := by kernel_rfl
  i4 := by kernel_rfl
  i5 := by kernel_rfl
  i9 := by kernel_rfl
  i37 := by kernel_rfl
  i127 := by kernel_rfl }
open Go.RowKit in
theorem Try.stringslite_Clone (s : ByteArray) (w : World) (hlim : s.size ≤ 281474976710656) :
    Calls Try.prog 62 #[.string s] w fun e w' => e = .returned (.string s) ∧ Below w.heap.size w w' := Any.stringslite_Clone Try.laysM316 s w hlim
end Go.Proofs

namespace Go.Proofs.Ytcnjmjcbhelkhaa
open Go Go.RowKit
set_option linter.unusedVariables false
set_option maxRecDepth 100000
set_option linter.unusedSimpArgs false

/-! A hit copied. -/
theorem Try.infoIntM : (Try.prog.info? 3).map (fun i => (i.zero, i.size, i.bytes)) = some (some (.int .i64 0), 1, 8) := by kernel_rfl
def mkI (z : Int) : Value := .int .i64 z
theorem cloneM_any (s : ByteArray) (w : World) (hs : s.size ≤ 1048576) :
    Calls Try.prog 47 #[.string s] w fun e w' => e = .returned (.string s) ∧ Below w.heap.size w w' := by
  go_enter Try.func47, Try.ntmps47
  go_wp2_with fail
  refine (Try.stringslite_Clone s _ (by omega)).mono ?_
  rintro e w1 ⟨rfl, hb⟩
  go_wp2
  go_ret
  exact ⟨rfl, hb⟩
theorem HoldZ.news {w : World} {a : Option Addr} {l : List Int} (h : HoldZ w a l) (hne : l ≠ []) : ∃ b off, a = some ⟨b, off, none⟩ ∧ ∀ j u, (l.map mkI)[j]? = some u → w.cell? ((⟨b, off, none⟩ : Addr).add j) = some u := by
  rcases h with h | ⟨b, off, ha, hbl, h⟩
  · exact absurd h hne
  · refine ⟨b, off, ha, fun j u hj => ?_⟩
    rw [List.getElem?_map] at hj
    by_cases hj2 : j < l.length
    · rw [List.getElem?_eq_getElem hj2] at hj
      simp only [Option.map_some, Option.some.injEq] at hj
      rw [Go.WideShapes.add_plain, h j hj2, ← hj]
      simp [hj2, mkI]
    · rw [List.getElem?_eq_none (by omega)] at hj
      cases hj
/-- append of numbers, be they none. -/
theorem wpList_append_iz {w : World} {ops : Array Oper} {rest : List Oper} {o : Oper} {a : Act} {Q : Exit → Act → World → Prop} (hgd : o.guard = none) (s x : Operand)
    (ho : o.op = .call { callee := .builtin .append, args := #[s, x], argTypes := #[45, 45] })
    (base : Nat) (v : Value) (n : Nat) (xs : List Value) (hs : a.eval s = v) (hown : w.ownsRow base 3 1 v n xs)
    (ra : Option Addr) (rc : Nat) (L : List Int) (hx : a.eval x = .slice ra L.length rc) (hL : HoldZ w ra L) (h63 : n + L.length ≤ 2000000) (hbase : base ≤ w.heap.size)
    (h : ∀ v' w', w'.ownsRow base 3 1 v' (n + L.length) (xs ++ L.map mkI) → w.grownBy w' v.ownBlock → wpList Try.prog ops Q rest (a.put o.dst v') w') : wpList Try.prog ops Q (o :: rest) a w := by
  obtain ⟨i0, hi0, hz0, hz1, hz2⟩ := info_parts Try.infoIntM
  by_cases hne : L = []
  · subst hne
    have hr : ∀ ty, (Builtin.append_ #[45, 45] ty #[v, .slice ra 0 rc]).run Try.prog w = .ok v w := by
      intro ty
      rcases hown.2 with ⟨rfl, h0⟩ | ⟨g, cap, cur, rfl, _, _, hc, _⟩
      · cases ra <;> simp [Builtin.append_, run_underlying Try.underlying45, sizeOf, typeInfo, hi0, Builtin.lenOf, Builtin.firstCells, loadCells, loadCellsFrom, storeCells]
      · cases ra <;> simp [Builtin.append_, run_underlying Try.underlying45, sizeOf, typeInfo, hi0, Builtin.lenOf, Builtin.firstCells, loadCells, loadCellsFrom, storeCells, hc]
    refine wpList_plain hgd fun K hK => ?_
    unfold Oper.wp execOp
    simp only [List.length_nil] at hx
    simp only [ho, resolve, invoke, builtin, Sem.run_bind, Sem.run_pure, Result.andThen_ok, List.map_toArray, List.map_cons, List.map_nil, hs, hx, hr]
    exact hK _ _ (h v w (by simpa using hown) (grown_refl _ _))
  · obtain ⟨b, off, rfl, h2⟩ := hL.news hne
    exact wpList_append_own w hgd s x 45 ho base 3 i0 _ 1 8 Try.underlying45 hi0 hz0 hz1 hz2 rfl (by decide) v n xs hs hown ⟨b, off, none⟩ L.length rc (L.map mkI) hx (by simp) h2 (fun u hu => by obtain ⟨z, _, rfl⟩ := List.mem_map.1 hu; rfl) (by unfold maxLen; omega) (by omega) hbase fun v' w' k1 k2 _ => h v' w' k1 k2
set_option maxHeartbeats 4000000 in
theorem cloneI_any (w : World) (ra : Option Addr) (rc : Nat) (L : List Int) (hL : HoldZ w ra L) (hn : L.length ≤ 1048576) :
    Calls Try.prog 48 #[.slice ra L.length rc] w fun e w' => ∃ v, e = .returned v ∧ w'.ownsRow w.heap.size 3 1 v L.length (L.map mkI) ∧ Below w.heap.size w w' := by
  have HL := hidd hL
  have HO := hidd (own_empty w 3)
  have HZ0 : Hid (HoldZ (w.alloc (.cells #[] 3)) ra L) := hL.below ((Below.refl _ _).alloc (Nat.le_refl _) _)
  obtain ⟨n, hnn⟩ : ∃ n, L.length = n := ⟨_, rfl⟩
  have HN := hidd hnn
  rw [hnn] at hn ⊢
  clear hL hnn
  go_enter Try.func48, Try.ntmps48
  cases ra with
  | none =>
    have hn0 : n = 0 := by
      rcases HL.out with h | ⟨b, off, ha, _⟩
      · have := HN.out; rw [h] at this; simp at this; omega
      · cases ha
    have HL0 : Hid (L = []) := by have := HN.out; rw [hn0] at this; exact List.length_eq_zero_iff.1 this
    subst hn0
    have hq : ∀ W, (binOp .eql 45 (.slice none 0 rc) (.slice none 0 0)).run Try.prog W = .ok (.bool true) W := fun W => by apply Lib.run_eql_slice_nil; exact Try.underlying45
    go_wp2_with fail
    go_ret
    refine ⟨_, rfl, ?_, Below.refl _ _⟩
    rw [HL0.out]
    exact World.ownsRow_nil _ _ _ _
  | some ad =>
    have hq : ∀ W, (binOp .eql 45 (.slice (some ad) n rc) (.slice none 0 0)).run Try.prog W = .ok (.bool false) W := fun W => by apply Lib.run_eql_slice_nil; exact Try.underlying45
    go_wp2_with (at_builtin; refine wpList_append_iz rfl _ _ rfl w.heap.size _ _ _ rfl HO.out (some ad) rc L (by rw [HN.out]; rfl) HZ0.out (by rw [HN.out]; omega) (by simp) ?_)
    intro v' w' k1 k2
    have HK1 : Hid (w'.ownsRow w.heap.size 3 1 v' n (L.map mkI)) := by first | (rw [Nat.zero_add, HN.out] at k1; exact k1) | (rw [HN.out] at k1; exact k1)
    have HK2 : Hid (Below w.heap.size w w') := ((Below.refl _ _).alloc (Nat.le_refl _) _).grown k2 (by simp) (fun q hq => by have : some w.heap.size = some q := hq; injection this; omega)
    clear k1 k2
    obtain ⟨av, nv, cv, rfl⟩ : ∃ a n c, v' = .slice a n c := by
      rcases HK1.out.2 with ⟨h1, h2⟩ | ⟨g, cap, cur, h1, _⟩
      · exact ⟨none, 0, 0, h1⟩
      · exact ⟨_, _, _, h1⟩
    go_wp2_with fail
    go_ret
    exact ⟨_, rfl, HK1.out, HK2.out⟩
theorem exec_buildFd (W : World) (ρ : Operand → Value) (o : Oper) (x y t : Operand) (ho : o.op = .build 47 #[(0, x), (1, y), (2, t)]) (s : ByteArray) (z : Int) (a : Option Addr) (n c : Nat) (hx : ρ x = .string s) (hy : ρ y = .int .i64 z) (ht : ρ t = .slice a n c) :
    (execOp ρ o).run Try.prog W = .ok (.value (.agg #[.string s, .int .i64 z, .slice a n c])) W := by
  unfold execOp
  simp only [ho, hx, hy, ht, Sem.run_bind, Sem.run_pure, Result.andThen_ok]
  go_simp
theorem exec_storeFd (W : World) (ρ : Operand → Value) (o : Oper) (x y : Operand) (ho : o.op = .store 47 x y) (b : Nat) (s : ByteArray) (z : Int) (a : Option Addr) (n c : Nat) (u0 u1 u2 : Value) (hx : ρ x = .pointer (some ⟨b, 0, none⟩)) (hy : ρ y = .agg #[.string s, .int .i64 z, .slice a n c])
    (hb : W.heap[b]? = some (.cells #[u0, u1, u2] 47)) : (execOp ρ o).run Try.prog W = .ok .skip (((W.setCell ⟨b, 0, none⟩ (.string s)).setCell ⟨b, 1, none⟩ (.int .i64 z)).setCell ⟨b, 2, none⟩ (.slice a n c)) := by
  have h0 : W.cell? ⟨b, 0, none⟩ = some u0 := blkc hb 0
  have h1 : W.cell? ⟨b, 1, none⟩ = some u1 := blkc hb 1
  have h2 : W.cell? ⟨b, 2, none⟩ = some u2 := blkc hb 2
  have f0 := blkf hb 0
  have f1 := blkf hb 1
  have f2 := blkf hb 2
  clear hb
  unfold execOp
  simp only [ho, Instr.storeAt, Instr.sureAddr, hx, hy, Sem.run_bind, Sem.run_pure, Result.andThen_ok]
  go_simp
set_option maxHeartbeats 4000000 in
theorem copied_any (w : World) (f : Fd) (ra : Option Addr) (rc : Nat) (hL : HoldZ w ra f.2.2) (hn : f.2.2.length ≤ 1048576) (hi : f.1.length ≤ 1048576) :
    Calls Try.prog 24 #[.agg #[.string (bs f.1), .int .i64 f.2.1, .slice ra f.2.2.length rc]] w fun e w' => ∃ a n c, e = .returned (.agg #[.string (bs f.1), .int .i64 f.2.1, .slice a n c]) ∧ w'.ownsRow w.heap.size 3 1 (.slice a n c) f.2.2.length (f.2.2.map mkI) ∧ Below w.heap.size w w' := by
  have HS : Hid (∀ W, Calls Try.prog 47 #[.string (bs f.1)] W fun e w' => e = .returned (.string (bs f.1)) ∧ Below W.heap.size W w') := fun W => cloneM_any _ W (by rw [bs_size]; exact hi)
  have HI : Hid (∀ W, Below w.heap.size w W → Calls Try.prog 48 #[.slice ra f.2.2.length rc] W fun e w' => ∃ a n c, e = .returned (.slice a n c) ∧ w'.ownsRow W.heap.size 3 1 (.slice a n c) f.2.2.length (f.2.2.map mkI) ∧ Below W.heap.size W w') := fun W hW => (cloneI_any W ra rc f.2.2 (hL.below hW) hn).mono fun e w' ⟨v, h1, h2, h3⟩ => by
    rcases h2.2 with ⟨q1, q2⟩ | ⟨g, cap, cur, q1, _⟩
    · subst q1; exact ⟨none, 0, 0, h1, h2, h3⟩
    · subst q1; exact ⟨_, _, _, h1, h2, h3⟩
  have hb2 := box_two w (.cells #[.string (bs f.1), .int .i64 f.2.1, .slice ra f.2.2.length rc] 47) (.cells #[.string ⟨#[]⟩, .int .i64 0, .slice none 0 0] 47)
  have HB : Hid (Below w.heap.size w ((w.alloc (.cells #[.string (bs f.1), .int .i64 f.2.1, .slice ra f.2.2.length rc] 47)).alloc (.cells #[.string ⟨#[]⟩, .int .i64 0, .slice none 0 0] 47))) := ((Below.refl _ _).alloc (Nat.le_refl _) _).alloc (by simp) _
  have HX := hidd hb2
  clear hL hn hi hb2
  generalize f.2.2.length = n at *
  generalize bs f.1 = x at *
  generalize f.2.1 = z at *
  generalize f.2.2.map mkI = cs at *
  go_enter Try.func24, Try.ntmps24
  go_wp2_with fail
  obtain ⟨W, hW⟩ : ∃ W, (w.alloc (.cells #[.string x, .int .i64 z, .slice ra n rc] 47)).alloc (.cells #[.string ⟨#[]⟩, .int .i64 0, .slice none 0 0] 47) = W := ⟨_, rfl⟩
  rw [hW] at HB HX ⊢
  have hsz : W.heap.size = w.heap.size + 1 + 1 := by rw [← hW]; simp
  have HSz := hidd hsz
  clear hW hsz
  have x0 : W.cell? ⟨w.heap.size, 0, none⟩ = some (.string x) := blkc HX.out.1 0
  have x1 : W.cell? ⟨w.heap.size, 1, none⟩ = some (.int .i64 z) := blkc HX.out.1 1
  have x2 : W.cell? ⟨w.heap.size, 2, none⟩ = some (.slice ra n rc) := blkc HX.out.1 2
  refine wp_region_held_drew (S := fun V => V.cell? ⟨w.heap.size, 0, none⟩ = some (.string x) ∧ V.cell? ⟨w.heap.size, 1, none⟩ = some (.int .i64 z) ∧ V.cell? ⟨w.heap.size, 2, none⟩ = some (.slice ra n rc)) (by kernel_rfl) ?_ (fun hHeld => ?_)
  · exact ⟨x0, x1, x2⟩
  refine tkX 0 (h := ?_)
  refine tkX 1 (h := ?_)
  refine tkX 3 (h := ?_)
  refine tkX 4 (h := ?_)
  refine tkX 5 (h := ?_)
  simp only [Act.put, List.getElem_toArray, List.getElem_cons_succ, List.getElem_cons_zero, List.setIfInBounds_toArray, List.set_cons_zero, List.set_cons_succ]
  refine tkX 6 (h := ?_)
  simp only [Act.put, List.getElem_toArray, List.getElem_cons_succ, List.getElem_cons_zero, List.setIfInBounds_toArray, List.set_cons_zero, List.set_cons_succ]
  clear hHeld
  refine wpAnyH_one 2 (by kernel_rfl) ?_
  refine wpOp_call 47 #[.string x] rfl (by kernel_rfl) (rbx_call1 _ _ _ _ _ _ rfl _ (by kernel_rfl) (Try.call47 _ _)) ?_
  refine (HS.out _).mono ?_
  rintro e w1 ⟨rfl, hb1⟩
  have hbd : Below W.heap.size W w1 := (Below.refl _ _).drew.trans hb1
  have HB1 : Hid (Below W.heap.size W w1) := hbd
  have HBw1 : Hid (Below w.heap.size w w1) := HB.out.trans (hbd.mono HB.out.size)
  have hl1 : w.heap.size < W.heap.size := by have := HSz.out; omega
  have hl2 : w.heap.size + 1 < W.heap.size := by have := HSz.out; omega
  have y0 := (hbd.cell (p := ⟨w.heap.size, 0, none⟩) hl1).trans x0
  have y1 := (hbd.cell (p := ⟨w.heap.size, 1, none⟩) hl1).trans x1
  have y2 := (hbd.cell (p := ⟨w.heap.size, 2, none⟩) hl1).trans x2
  refine ⟨⟨y0, y1, y2⟩, ?_⟩
  try simp only [Act.put, List.getElem_toArray, List.getElem_cons_succ, List.getElem_cons_zero, List.setIfInBounds_toArray, List.set_cons_zero, List.set_cons_succ]
  refine wpAnyH_one 7 (by kernel_rfl) ?_
  refine wpOp_call 48 #[.slice ra n rc] rfl (by kernel_rfl) (rbx_call1 _ _ _ _ _ _ rfl _ (by kernel_rfl) (Try.call48 _ _)) ?_
  refine (HI.out _ HBw1.out).mono ?_
  rintro e w2 ⟨a2, n2, c2, rfl, ho2, hb2⟩
  have hl1' : w.heap.size < w1.heap.size := Nat.lt_of_lt_of_le hl1 hbd.size
  have z0 := (hb2.cell (p := ⟨w.heap.size, 0, none⟩) hl1').trans y0
  have z1 := (hb2.cell (p := ⟨w.heap.size, 1, none⟩) hl1').trans y1
  have z2 := (hb2.cell (p := ⟨w.heap.size, 2, none⟩) hl1').trans y2
  refine ⟨⟨z0, z1, z2⟩, ?_⟩
  try simp only [Act.put, List.getElem_toArray, List.getElem_cons_succ, List.getElem_cons_zero, List.setIfInBounds_toArray, List.set_cons_zero, List.set_cons_succ]
  refine wpAnyH_one 8 (by kernel_rfl) ?_
  refine wpOp_val (.agg #[.string x, .int .i64 z, .slice a2 n2 c2]) _ rfl (by kernel_rfl) (exec_buildFd _ _ _ _ _ _ rfl x z a2 n2 c2 (by kernel_rfl) (by kernel_rfl) (by kernel_rfl)) ?_
  refine ⟨⟨z0, z1, z2⟩, ?_⟩
  try simp only [Act.put, List.getElem_toArray, List.getElem_cons_succ, List.getElem_cons_zero, List.setIfInBounds_toArray, List.set_cons_zero, List.set_cons_succ]
  have hbx1 := blko HX.out.2 hbd
  have hbx2 := blko hbx1 hb2
  have hst := exec_storeFd w2
  refine wpAnyH_one 9 (by kernel_rfl) ?_
  refine wpOp_skip _ rfl (by kernel_rfl) (exec_storeFd w2 _ _ _ _ rfl (w.heap.size + 1) x z a2 n2 c2 _ _ _ (by kernel_rfl) (by kernel_rfl) hbx2) ?_
  have hne : ¬ w.heap.size = w.heap.size + 1 := by omega
  refine ⟨⟨?_, ?_, ?_⟩, ?_⟩
  · rw [← z0]; exact World.cell?_of_block (by simp only [heap_set_other _ _ _ _ _ hne])
  · rw [← z1]; exact World.cell?_of_block (by simp only [heap_set_other _ _ _ _ _ hne])
  · rw [← z2]; exact World.cell?_of_block (by simp only [heap_set_other _ _ _ _ _ hne])
  try simp only [Act.put, List.getElem_toArray, List.getElem_cons_succ, List.getElem_cons_zero, List.setIfInBounds_toArray, List.set_cons_zero, List.set_cons_succ]
  refine wpAnyH_done (by kernel_rfl) ?_ _
  have hfin := blk_setk (blk_setk (blk_setk hbx2 0 (.string x)) 1 (.int .i64 z)) 2 (.slice a2 n2 c2)
  simp only [List.setIfInBounds_toArray, List.set_cons_zero, List.set_cons_succ] at hfin
  have HF := hidd hfin
  have r0 := blkc hfin 0
  have r1 := blkc hfin 1
  have r2 := blkc hfin 2
  simp only [List.getElem?_toArray, List.getElem?_cons_zero, List.getElem?_cons_succ] at r0 r1 r2
  have HO2 := hidd ho2
  have HB2 := hidd hb2
  have HL3 := hidd hl1
  clear hfin ho2 hb2 hbd hb1 hst x0 x1 x2 y0 y1 y2 z0 z1 z2 hbx1 hbx2 hl1 hl2 hl1'
  have HFin : Hid ((((w2.setCell ⟨w.heap.size + 1, 0, none⟩ (.string x)).setCell ⟨w.heap.size + 1, 1, none⟩ (.int .i64 z)).setCell ⟨w.heap.size + 1, 2, none⟩ (.slice a2 n2 c2)).ownsRow w.heap.size 3 1 (.slice a2 n2 c2) n cs ∧ Below w.heap.size w (((w2.setCell ⟨w.heap.size + 1, 0, none⟩ (.string x)).setCell ⟨w.heap.size + 1, 1, none⟩ (.int .i64 z)).setCell ⟨w.heap.size + 1, 2, none⟩ (.slice a2 n2 c2))) := by
    have hw1 := HB1.out.size
    have hs1 := HSz.out
    have hbw := HBw1.out.trans (HB2.out.mono HBw1.out.size)
    refine ⟨own_congr (own_mono HO2.out (by omega)) fun b hb => ?_, ?_⟩
    · have hge := (HO2.out.lt b hb).1
      have hne2 : b ≠ w.heap.size + 1 := by omega
      rw [heap_set_other _ _ _ _ _ hne2, heap_set_other _ _ _ _ _ hne2, heap_set_other _ _ _ _ _ hne2]
    · exact ((hbw.setCell (p := ⟨w.heap.size + 1, 0, none⟩) (by show _ ≤ w.heap.size + 1; omega) _).setCell (p := ⟨w.heap.size + 1, 1, none⟩) (by show _ ≤ w.heap.size + 1; omega) _).setCell (p := ⟨w.heap.size + 1, 2, none⟩) (by show _ ≤ w.heap.size + 1; omega) _
  clear HF HO2 HB2
  generalize ((w2.setCell ⟨w.heap.size + 1, 0, none⟩ (.string x)).setCell ⟨w.heap.size + 1, 1, none⟩ (.int .i64 z)).setCell ⟨w.heap.size + 1, 2, none⟩ (.slice a2 n2 c2) = W9 at *
  go_wp2_with fail
  refine bodyPost_ret (v := .agg #[.string x, .int .i64 z, .slice a2 n2 c2]) (by simp [results, Try.results24, go_sem, r0, r1, r2]) rfl ?_
  exact ⟨a2, n2, c2, rfl, HFin.out.1, HFin.out.2⟩
end Go.Proofs.Ytcnjmjcbhelkhaa
