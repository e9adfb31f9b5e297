import Derived.Ground.NamesProg
import Derived.Shelf.Unicode.ValidAny
import Derived.Shelf.Small.Bits
import Derived.Shelf.Small.Wraps
import Derived.Shelf.Utf8.RuneCount
import Derived.Shelf.Strconv.Itoa0
import Derived.Shelf.Sort.Plain
import Derived.Ground.Names2Prog
import Derived.Shelf.Slices.CompactI
import Derived.Shelf.Slices.In.SortNone
import Derived.Test.YtmnfioghhdgciaaDoorProg
import Derived.Test.YtmnfioghhdgciaaDoorWildJ18
import Derived.Test.YtmnfioghhdgciaaDoorWildJ16
import Derived.Lib.BitFns
import Derived.Lib.ItoaNum
import Derived.Ground.Names7Prog
import Derived.Shelf.Spec.TrailingZeros
import Derived.Lib.TrailingZeros
namespace Go.Proofs
open Go.Shelf
def Tryd.laysValid_ren : Go.Shelf.Ren := ⟨fun | 196 => 31 | 259 => 49 | n => n, fun | 9 => 9 | 4 => 4 | 3 => 3 | 5 => 5 | 12 => 12 | 119 => 94 | 0 => 0 | 46 => 65 | 139 => 97 | 138 => 96 | 53 => 43 | n => n, fun | 3 => 0 | 4 => 1 | n => n⟩
theorem Tryd.laysValid : Go.Proofs.Lays.n196 Tryd.prog Tryd.laysValid_ren := {
  mixed := by kernel_rfl
  f196 := Tryd.func31.trans (congrArg some (by kernel_rfl))
  f259 := Tryd.func49.trans (congrArg some (by kernel_rfl))
  t0 := Tryd.underlying0
  a0 := Tryd.isAgg0
  z0 := Tryd.sizeOf0
  v0 := Tryd.zeroValue0
  t3 := Tryd.underlying3
  a3 := Tryd.isAgg3
  z3 := Tryd.sizeOf3
  v3 := Tryd.zeroValue3
  t4 := Tryd.underlying4
  a4 := Tryd.isAgg4
  z4 := Tryd.sizeOf4
  v4 := Tryd.zeroValue4
  t5 := Tryd.underlying5
  a5 := Tryd.isAgg5
  z5 := Tryd.sizeOf5
  v5 := Tryd.zeroValue5
  t9 := Tryd.underlying9
  a9 := Tryd.isAgg9
  z9 := Tryd.sizeOf9
  v9 := Tryd.zeroValue9
  t12 := Tryd.underlying12
  a12 := Tryd.isAgg12
  z12 := Tryd.sizeOf12
  v12 := Tryd.zeroValue12
  t46 := Tryd.underlying65
  a46 := Tryd.isAgg65
  z46 := Tryd.sizeOf65
  v46 := Tryd.zeroValue65
  t53 := Tryd.underlying43
  a53 := Tryd.isAgg43
  z53 := Tryd.sizeOf43
  v53 := Tryd.zeroValue43
  t119 := Tryd.underlying94
  a119 := Tryd.isAgg94
  z119 := Tryd.sizeOf94
  t138 := Tryd.underlying96
  a138 := Tryd.isAgg96
  z138 := Tryd.sizeOf96
  v138 := Tryd.zeroValue96
  t139 := Tryd.underlying97
  a139 := Tryd.isAgg97
  z139 := Tryd.sizeOf97
  v139 := Tryd.zeroValue97
  g3 := by kernel_rfl
  g4 := by kernel_rfl }
open Go.RowKit in
def Tryd.lays195_ren : Go.Shelf.Ren := ⟨fun | 195 => 17 | n => n, fun | 9 => 9 | 3 => 3 | 0 => 0 | 4 => 4 | n => n, fun | n => n⟩
theorem Tryd.lays195 : Go.Proofs.Lays.n195 Tryd.prog Tryd.lays195_ren := {
  mixed := by kernel_rfl
  f195 := Tryd.func17.trans (congrArg some (by kernel_rfl))
  t0 := Tryd.underlying0
  a0 := Tryd.isAgg0
  z0 := Tryd.sizeOf0
  v0 := Tryd.zeroValue0
  t3 := Tryd.underlying3
  a3 := Tryd.isAgg3
  z3 := Tryd.sizeOf3
  v3 := Tryd.zeroValue3
  t4 := Tryd.underlying4
  a4 := Tryd.isAgg4
  z4 := Tryd.sizeOf4
  v4 := Tryd.zeroValue4
  t9 := Tryd.underlying9
  a9 := Tryd.isAgg9
  z9 := Tryd.sizeOf9
  v9 := Tryd.zeroValue9 }
open Go.RowKit in
theorem Tryd.utf8_RuneCountInString (s : ByteArray) (w : World) (hs : s.size < 9223372036854775807) :
    Calls Tryd.prog 17 #[.string s] w fun e w' => e = .returned (.int .i64 (Lib.runeCount s)) ∧ ∃ pos, w' = w.iter s pos := Any.utf8_RuneCountInString Tryd.lays195 s w hs
def Tryd.lays129_ren : Go.Shelf.Ren := ⟨fun | 129 => 33 | n => n, fun | 53 => 43 | 3 => 3 | 4 => 4 | 46 => 65 | 5 => 5 | 9 => 9 | n => n, fun | n => n⟩
theorem Tryd.lays129 : Go.Proofs.Lays.n129 Tryd.prog Tryd.lays129_ren := {
  mixed := by kernel_rfl
  f129 := Tryd.func33.trans (congrArg some (by kernel_rfl))
  t3 := Tryd.underlying3
  a3 := Tryd.isAgg3
  z3 := Tryd.sizeOf3
  v3 := Tryd.zeroValue3
  t4 := Tryd.underlying4
  a4 := Tryd.isAgg4
  z4 := Tryd.sizeOf4
  v4 := Tryd.zeroValue4
  t5 := Tryd.underlying5
  a5 := Tryd.isAgg5
  z5 := Tryd.sizeOf5
  v5 := Tryd.zeroValue5
  t9 := Tryd.underlying9
  a9 := Tryd.isAgg9
  z9 := Tryd.sizeOf9
  v9 := Tryd.zeroValue9
  t46 := Tryd.underlying65
  a46 := Tryd.isAgg65
  z46 := Tryd.sizeOf65
  v46 := Tryd.zeroValue65
  t53 := Tryd.underlying43
  a53 := Tryd.isAgg43
  z53 := Tryd.sizeOf43
  v53 := Tryd.zeroValue43 }
theorem Tryd.bits_Len64 (x : Int) (w : World) (h0 : 0 ≤ x) (h1 : x ≤ 18446744073709551615) :
    Calls Tryd.prog 33 #[.int .u64 x] w fun e w' => e = .returned (.int .i64 (Lib.bitLen x.toNat)) ∧ w' = w := Any.bits_Len64 Tryd.lays129 x w h0 h1
def Tryd.lays189_ren : Go.Shelf.Ren := ⟨fun | 189 => 64 | 125 => 75 | 257 => 74 | 128 => 87 | 129 => 33 | 294 => 78 | 295 => 79 | 296 => 80 | 297 => 81 | 298 => 82 | 299 => 83 | 216 => 84 | 300 => 85 | 301 => 86 | 328 => 88 | 329 => 89 | 330 => 90 | 331 => 91 | 332 => 92 | 215 => 93 | 343 => 94 | n => n, fun | 28 => 30 | 3 => 3 | 46 => 65 | 0 => 0 | 51 => 150 | 53 => 43 | 4 => 4 | 183 => 144 | 182 => 143 | 131 => 130 | 5 => 5 | 9 => 9 | 218 => 151 | 222 => 155 | 228 => 157 | 229 => 88 | n => n, fun | n => n⟩
theorem Tryd.lays189 : Go.Proofs.Lays.n189 Tryd.prog Tryd.lays189_ren := {
  mixed := by kernel_rfl
  f125 := Tryd.func75.trans (congrArg some (by kernel_rfl))
  f128 := Tryd.func87.trans (congrArg some (by kernel_rfl))
  f129 := Tryd.func33.trans (congrArg some (by kernel_rfl))
  f189 := Tryd.func64.trans (congrArg some (by kernel_rfl))
  f215 := Tryd.func93.trans (congrArg some (by kernel_rfl))
  f216 := Tryd.func84.trans (congrArg some (by kernel_rfl))
  f257 := Tryd.func74.trans (congrArg some (by kernel_rfl))
  f294 := Tryd.func78.trans (congrArg some (by kernel_rfl))
  f295 := Tryd.func79.trans (congrArg some (by kernel_rfl))
  f296 := Tryd.func80.trans (congrArg some (by kernel_rfl))
  f297 := Tryd.func81.trans (congrArg some (by kernel_rfl))
  f298 := Tryd.func82.trans (congrArg some (by kernel_rfl))
  f299 := Tryd.func83.trans (congrArg some (by kernel_rfl))
  f300 := Tryd.func85.trans (congrArg some (by kernel_rfl))
  f301 := Tryd.func86.trans (congrArg some (by kernel_rfl))
  f328 := Tryd.func88.trans (congrArg some (by kernel_rfl))
  f329 := Tryd.func89.trans (congrArg some (by kernel_rfl))
  f330 := Tryd.func90.trans (congrArg some (by kernel_rfl))
  f331 := Tryd.func91.trans (congrArg some (by kernel_rfl))
  f332 := Tryd.func92.trans (congrArg some (by kernel_rfl))
  f343 := Tryd.func94.trans (congrArg some (by kernel_rfl))
  t0 := Tryd.underlying0
  a0 := Tryd.isAgg0
  z0 := Tryd.sizeOf0
  v0 := Tryd.zeroValue0
  t3 := Tryd.underlying3
  a3 := Tryd.isAgg3
  z3 := Tryd.sizeOf3
  v3 := Tryd.zeroValue3
  t4 := Tryd.underlying4
  a4 := Tryd.isAgg4
  z4 := Tryd.sizeOf4
  v4 := Tryd.zeroValue4
  t5 := Tryd.underlying5
  a5 := Tryd.isAgg5
  z5 := Tryd.sizeOf5
  v5 := Tryd.zeroValue5
  t9 := Tryd.underlying9
  a9 := Tryd.isAgg9
  z9 := Tryd.sizeOf9
  v9 := Tryd.zeroValue9
  t28 := Tryd.underlying30
  a28 := Tryd.isAgg30
  z28 := Tryd.sizeOf30
  v28 := Tryd.zeroValue30
  t46 := Tryd.underlying65
  a46 := Tryd.isAgg65
  z46 := Tryd.sizeOf65
  v46 := Tryd.zeroValue65
  t51 := Tryd.underlying150
  a51 := Tryd.isAgg150
  z51 := Tryd.sizeOf150
  v51 := Tryd.zeroValue150
  t53 := Tryd.underlying43
  a53 := Tryd.isAgg43
  z53 := Tryd.sizeOf43
  v53 := Tryd.zeroValue43
  t131 := Tryd.underlying130
  a131 := Tryd.isAgg130
  z131 := Tryd.sizeOf130
  v131 := Tryd.zeroValue130
  t182 := Tryd.underlying143
  a182 := Tryd.isAgg143
  z182 := Tryd.sizeOf143
  v182 := Tryd.zeroValue143
  t183 := Tryd.underlying144
  a183 := Tryd.isAgg144
  z183 := Tryd.sizeOf144
  v183 := Tryd.zeroValue144
  t218 := Tryd.underlying151
  a218 := Tryd.isAgg151
  z218 := Tryd.sizeOf151
  v218 := Tryd.zeroValue151
  t222 := Tryd.underlying155
  a222 := Tryd.isAgg155
  z222 := Tryd.sizeOf155
  v222 := Tryd.zeroValue155
  t228 := Tryd.underlying157
  a228 := Tryd.isAgg157
  z228 := Tryd.sizeOf157
  v228 := Tryd.zeroValue157
  t229 := Tryd.underlying88
  a229 := Tryd.isAgg88
  z229 := Tryd.sizeOf88
  v229 := Tryd.zeroValue88 }
open Go.Sort Go.RowKit in
theorem Tryd.slices_Sort_int (blk off cap : Nat) (zs : List Int) (w : World) (hH : Holds (Value.int .i64) w blk off zs.toArray) (hblk : blk < w.heap.size) (hsz : zs.length < 4611686018427387904) :
    Calls Tryd.prog 64 #[.slice (some ⟨blk, off, none⟩) zs.length cap] w fun e w' =>
      e = .returned (.tuple #[]) ∧ ∃ n os, w' = grow (putRow (Value.int .i64) (Sort.ahead w n) blk off (zs.mergeSort fun x y => decide (x ≤ y)).toArray) os := Any.slices_Sort_int Tryd.lays189 blk off cap zs w hH hblk hsz
def Tryd.laysNm220_ren : Go.Shelf.Ren := ⟨fun | 20 => 42 | n => n, fun | 22 => 30 | 3 => 3 | 4 => 4 | 0 => 0 | n => n, fun | n => n⟩
theorem Tryd.laysNm220 : Go.Proofs.Lays2.n20 Tryd.prog Tryd.laysNm220_ren := {
  mixed := by kernel_rfl
  f20 := Tryd.func42.trans (congrArg some (by kernel_rfl))
  t0 := Tryd.underlying0
  a0 := Tryd.isAgg0
  z0 := Tryd.sizeOf0
  v0 := Tryd.zeroValue0
  t3 := Tryd.underlying3
  a3 := Tryd.isAgg3
  z3 := Tryd.sizeOf3
  v3 := Tryd.zeroValue3
  t4 := Tryd.underlying4
  a4 := Tryd.isAgg4
  z4 := Tryd.sizeOf4
  v4 := Tryd.zeroValue4
  t22 := Tryd.underlying30
  a22 := Tryd.isAgg30
  z22 := Tryd.sizeOf30
  v22 := Tryd.zeroValue30
  i3 := by kernel_rfl }
open Go.RowKit Go.Lib Go.Sort in
open Go.RowKit Go.Lib Go.Sort in
theorem Tryd.slices_Compact_int (blk off cap : Nat) (zs : List Int) (w : World) (hH : Holds (Value.int .i64) w blk off zs.toArray) (hsz : zs.length ≤ 9223372036854775807) (hcap : zs.length ≤ cap) :
    Calls Tryd.prog 42 #[.slice (some ⟨blk, off, none⟩) zs.length cap] w fun e w' => e = .returned (.slice (some ⟨blk, off, none⟩) (Lib.compact zs).length cap) ∧ ∃ q, w' = putRow (Value.int .i64) (Sort.ahead w q) blk off (Lib.compact zs ++ List.replicate (zs.length - (Lib.compact zs).length) 0).toArray := Any.slices_Compact_int Tryd.laysNm220 blk off cap zs w hH hsz hcap
open Go.RowKit Go.Lib Go.Sort in
theorem Tryd.slices_Compact_int_empty (a : Option Addr) (cap : Nat) (w : World) :
    Calls Tryd.prog 42 #[.slice a 0 cap] w fun e w' => e = .returned (.slice a 0 cap) ∧ w' = w := Any.slices_Compact_int_empty Tryd.laysNm220 a cap w
open Go.RowKit Go.Sort in
theorem Tryd.slices_Sort_int_none (p : Option Addr) (cap : Nat) (w : World) :
    Calls Tryd.prog 64 #[.slice p 0 cap] w fun e w' => e = .returned (.tuple #[]) ∧ w' = w := Any.slices_Sort_int_none Tryd.lays189 p cap w
end Go.Proofs

namespace Go.Proofs.YtmnfioghhdgciaaDoor
open Go Go.RowKit
set_option linter.unusedVariables false
set_option linter.unusedSimpArgs false
set_option maxRecDepth 100000

/-! A pattern's steps, loops and covers in memory; impl.asksLess, wildcard.anys, final, pruned. -/
def HoldU (w : World) (v : Value) (C : Nat → Nat) (n : Nat) : Prop :=
  ∃ ad cap, v = .slice ad n cap ∧ (n = 0 ∨ ∃ g off, ad = some ⟨g, off, none⟩ ∧ g < w.heap.size ∧ ∀ t, t < n → w.cell? ⟨g, off + t, none⟩ = some (.int .u64 (C t : Nat)))
theorem HoldU.below {w w' : World} {v : Value} {C : Nat → Nat} {n : Nat} (h : HoldU w v C n) (hb : Below w.heap.size w w') : HoldU w' v C n := by
  obtain ⟨ad, cap, rfl, h | ⟨g, off, rfl, hg, hc⟩⟩ := h
  · exact ⟨ad, cap, rfl, Or.inl h⟩
  · exact ⟨_, cap, rfl, Or.inr ⟨g, off, rfl, Nat.lt_of_lt_of_le hg hb.size, fun t ht => (hb.cell (p := ⟨g, off + t, none⟩) hg).trans (hc t ht)⟩⟩
abbrev wcV (vs : Value) (L : Nat) (vc : Value) : Array Value := #[vs, .int .u64 (L : Int), vc]
def AskPost (A B : List Int) (w : World) (e : Ending) (w' : World) : Prop := (∃ b : Bool, e = .returned (.bool b) ∧ (b = true ↔ ∀ i, i < A.length → A.getD i 0 = -2 ∨ A.getD i 0 = B.getD i 0)) ∧ w' = w
set_option maxHeartbeats 2000000 in
theorem asks_any (A B : List Int) (va vb : Value) (w : World) (hn : A.length ≤ B.length) (hm : B.length ≤ 1000) (ha : HoldI w va A) (hb : HoldI w vb B) :
    Calls Tryd.prog 51 #[va, vb] w (AskPost A B w) := by
  obtain ⟨aa, ca, rfl, haa⟩ := ha
  obtain ⟨ab, cb, rfl, hab⟩ := hb
  have HA := hidd haa
  have HB := hidd hab
  clear haa hab
  go_enter Tryd.func51, Tryd.ntmps51
  go_wp2
  go_loop [9] (fun i => ∃ k : Nat, k ≤ A.length ∧ i = .int .i64 (k : Int) ∧ ∀ i, i < k → A.getD i 0 = -2 ∨ A.getD i 0 = B.getD i 0) (fun i => A.length - (intOf i).toNat)
  case atStart => exact ⟨0, Nat.zero_le _, rfl, fun i hi => absurd hi (by omega)⟩
  case round =>
    obtain ⟨k, hk, rfl, hall⟩ := hrel
    have HAll := hidd hall
    clear hall
    by_cases hlt : k < A.length
    · have hkz : (k : Int) < (A.length : Int) := by omega
      have hkb : (k : Int) < (B.length : Int) := by omega
      obtain ⟨g, off, rfl, hg, hcells⟩ := HA.out.resolve_left (fun e => by rw [e] at hlt; simp at hlt)
      obtain ⟨g2, off2, rfl, hg2, hcells2⟩ := HB.out.resolve_left (fun e => by rw [e] at hn; simp at hn; rw [hn] at hlt; simp at hlt)
      have c1 := hcells k hlt
      have c2 := hcells2 k (by omega)
      clear hcells hcells2
      obtain ⟨z, hz⟩ : ∃ z, A.getD k 0 = z := ⟨_, rfl⟩
      obtain ⟨y, hy⟩ : ∃ y, B.getD k 0 = y := ⟨_, rfl⟩
      rw [hz] at c1
      rw [hy] at c2
      have HZ := hidd hz
      have HY := hidd hy
      clear hz hy
      by_cases h1 : z = -2
      · have hb1 : (z != -2) = false := by simp [h1]
        have HN : Hid (∀ i, i < k + 1 → A.getD i 0 = -2 ∨ A.getD i 0 = B.getD i 0) := fun i hi => by
          by_cases e : i = k
          · rw [e, HZ.out]; exact Or.inl h1
          · exact HAll.out i (by omega)
        clear h1
        go_wp2
        exact ⟨⟨k + 1, by omega, by go_num, HN.out⟩, by simp [intOf]; omega⟩
      · have hb1 : (z != -2) = true := by simp [h1]
        by_cases h2 : z = y
        · have hb2 : (z != y) = false := by simp [h2]
          have HN : Hid (∀ i, i < k + 1 → A.getD i 0 = -2 ∨ A.getD i 0 = B.getD i 0) := fun i hi => by
            by_cases e : i = k
            · rw [e, HZ.out, HY.out]; exact Or.inr h2
            · exact HAll.out i (by omega)
          clear h1 h2
          go_wp2
          exact ⟨⟨k + 1, by omega, by go_num, HN.out⟩, by simp [intOf]; omega⟩
        · have hb2 : (z != y) = true := by simp [h2]
          have HN : Hid (¬ ∀ i, i < A.length → A.getD i 0 = -2 ∨ A.getD i 0 = B.getD i 0) := fun hh => by
            have := hh k hlt
            rw [HZ.out, HY.out] at this
            rcases this with h | h
            · exact h1 h
            · exact h2 h
          clear h1 h2
          go_wp2
          go_ret
          exact ⟨⟨false, rfl, ⟨fun h => by (cases h), fun h => absurd h HN.out⟩⟩, rfl⟩
    · have hkz : ¬ (k : Int) < (A.length : Int) := by omega
      obtain rfl : k = A.length := by omega
      go_wp2
      go_ret
      exact ⟨⟨true, rfl, ⟨fun _ => HAll.out, fun _ => rfl⟩⟩, rfl⟩
set_option maxHeartbeats 2000000 in
theorem anys_any (vs vc : Value) (L : Nat) (T : List Int) (w : World) (hl : T.length ≤ 1000) (h : HoldI w vs T) :
    Calls Tryd.prog 20 #[.agg (wcV vs L vc)] w fun e w' => e = .returned (.int .i64 (T.count (-2) : Nat)) ∧ Below w.heap.size w w' := by
  obtain ⟨ad, cap, rfl, hc⟩ := h
  have hbox : (w.alloc (.cells (wcV (.slice ad T.length cap) L vc) 46)).heap[w.heap.size]? = some (.cells (wcV (.slice ad T.length cap) L vc) 46) := heap_alloc_new _ _
  have hbel : Below w.heap.size w (w.alloc (.cells (wcV (.slice ad T.length cap) L vc) 46)) := (Below.refl _ _).alloc (Nat.le_refl _) _
  have b0 := blkc hbox 0
  have HC := hidd hc
  clear hc
  go_enter Tryd.func20, Tryd.ntmps20
  go_upto_region 1 with fail
  generalize w.alloc (.cells (wcV (.slice ad T.length cap) L vc) 46) = W at *
  have HB := hidd hbel
  clear hbox hbel
  go_wp2_with fail
  go_loop [3, 9] (fun c i => ∃ k : Nat, k ≤ T.length ∧ i = .int .i64 (k : Int) ∧ c = .int .i64 (((T.take k).count (-2) : Nat) : Int)) (fun _ i => T.length - (intOf i).toNat)
  case atStart => exact ⟨0, Nat.zero_le _, rfl, by simp⟩
  case round =>
    obtain ⟨k, hk, rfl, rfl⟩ := hrel
    have hcnt : (T.take k).count (-2) ≤ 1000 := Nat.le_trans List.count_le_length (by rw [List.length_take]; omega)
    by_cases hlt : k < T.length
    · have hkz : (k : Int) < (T.length : Int) := by omega
      obtain ⟨g, off, rfl, hg, hcells⟩ := HC.out.resolve_left (fun e => by rw [e] at hlt; simp at hlt)
      have c1 := (HB.out.cell (p := ⟨g, off + k, none⟩) hg).trans (hcells k hlt)
      have HN : Hid ((T.take (k + 1)).count (-2) = (T.take k).count (-2) + if T.getD k 0 = -2 then 1 else 0) := by
        show _ = _
        rw [List.take_succ_eq_append_getElem hlt, List.count_append, List.count_singleton, List.getD_eq_getElem?_getD, List.getElem?_eq_getElem hlt]
        congr 1
        simp
      clear hcells
      generalize (T.take k).count (-2) = n at *
      generalize T.getD k 0 = z at *
      by_cases hz : z = -2
      · have hzb : (z == -2) = true := by simp [hz]
        have HE : Hid ((T.take (k + 1)).count (-2) = n + 1) := by show _ = _; rw [HN.out, if_pos hz]
        clear hz HN
        go_wp2
        exact ⟨⟨k + 1, by omega, by go_num, by rw [HE.out]; go_num⟩, by simp [intOf]; omega⟩
      · have hzb : (z == -2) = false := by simp [hz]
        have HE : Hid ((T.take (k + 1)).count (-2) = n) := by show _ = _; rw [HN.out, if_neg hz]; rfl
        clear hz HN
        go_wp2
        exact ⟨⟨k + 1, by omega, by go_num, by rw [HE.out]⟩, by simp [intOf]; omega⟩
    · have hkz : ¬ (k : Int) < (T.length : Int) := by omega
      obtain rfl : k = T.length := by omega
      rw [List.take_length]
      go_wp2
      go_ret
      exact ⟨rfl, HB.out⟩
theorem two_boxes (w : World) (A B : Obj) : ((w.alloc A).alloc B).heap[w.heap.size]? = some A ∧ ((w.alloc A).alloc B).heap[w.heap.size + 1]? = some B ∧ Below w.heap.size w ((w.alloc A).alloc B) ∧ ((w.alloc A).alloc B).heap.size = w.heap.size + 2 := by
  have hz1 : (w.alloc A).heap.size = w.heap.size + 1 := by simp
  refine ⟨?_, ?_, ((Below.refl _ _).alloc (Nat.le_refl _) _).alloc (by rw [hz1]; omega) _, by simp⟩
  · rw [Below.heap_alloc _ _ _ (by rw [hz1]; omega)]; exact heap_alloc_new w _
  · rw [← hz1]; exact heap_alloc_new _ _
set_option maxHeartbeats 2000000 in
theorem finalW_any (vs vc : Value) (L x : Nat) (T : List Int) (w : World) (hl : T.length ≤ 30) (hx : x < 2147483648) (h : HoldI w vs T) :
    Calls Tryd.prog 23 #[.agg (wcV vs L vc), .agg (plV x)] w fun e w' => e = .returned (.bool (x.testBit T.length)) ∧ Below w.heap.size w w' := by
  obtain ⟨ad, cap, rfl, hc⟩ := h
  obtain ⟨s1, s2, s3, -⟩ := two_boxes w (.cells (wcV (.slice ad T.length cap) L vc) 46) (.cells (plV x) 51)
  clear hc
  go_enter Tryd.func23, Tryd.ntmps23
  go_upto_region 1 with fail
  generalize (w.alloc (.cells (wcV (.slice ad T.length cap) L vc) 46)).alloc (.cells (plV x) 51) = W at *
  have a0 := blkc s1 0
  have b0 := blkc s2 0
  have HB := hidd s3
  clear s1 s2 s3
  have hdiv : ((x / 2 ^ T.length : Nat) : Int) = (x : Int) / 2 ^ T.length := by norm_cast
  have hDx : x / 2 ^ T.length ≤ x := Nat.div_le_self _ _
  have HT := hidd (testB x T.length)
  obtain ⟨D, hD⟩ : ∃ D : Nat, x / 2 ^ T.length = D := ⟨_, rfl⟩
  rw [hD] at hdiv hDx HT
  clear hD
  have hdiv' := hdiv.symm
  clear hdiv
  have han := u64_and_nat D 1 (by omega) (by omega)
  have HT2 : Hid ((bits .and .u64 (D : Int) 1 == 1) = x.testBit T.length) := by
    show _ = _
    rw [← HT.out, show bits .and .u64 (D : Int) 1 = ((D &&& 1 : Nat) : Int) from han]
    generalize D &&& 1 = q
    by_cases e : q = 1
    · subst e; rfl
    · rw [beq_eq_false_iff_ne.2 e, beq_eq_false_iff_ne.2 (by omega)]
  clear han HT
  go_wp2_with fail
  go_ret
  exact ⟨by rw [← HT2.out]; rfl, HB.out⟩
end Go.Proofs.YtmnfioghhdgciaaDoor

namespace Go.Proofs
open Go.Shelf
def Tryd.laysTz_ren : Go.Shelf.Ren := ⟨fun | 29 => 50 | n => n, fun | 22 => 43 | 3 => 3 | 4 => 4 | 25 => 65 | 54 => 128 | 0 => 0 | 5 => 5 | n => n, fun | 1 => 2 | n => n⟩
theorem Tryd.laysTz : Go.Proofs.Lays7.n29 Tryd.prog Tryd.laysTz_ren := {
  mixed := by kernel_rfl
  f29 := Tryd.func50.trans (congrArg some (by kernel_rfl))
  t0 := Tryd.underlying0
  a0 := Tryd.isAgg0
  z0 := Tryd.sizeOf0
  v0 := Tryd.zeroValue0
  i0 := by kernel_rfl
  t3 := Tryd.underlying3
  a3 := Tryd.isAgg3
  z3 := Tryd.sizeOf3
  v3 := Tryd.zeroValue3
  i3 := by kernel_rfl
  t4 := Tryd.underlying4
  a4 := Tryd.isAgg4
  z4 := Tryd.sizeOf4
  v4 := Tryd.zeroValue4
  i4 := by kernel_rfl
  t5 := Tryd.underlying5
  a5 := Tryd.isAgg5
  z5 := Tryd.sizeOf5
  v5 := Tryd.zeroValue5
  i5 := by kernel_rfl
  t22 := Tryd.underlying43
  a22 := Tryd.isAgg43
  z22 := Tryd.sizeOf43
  v22 := Tryd.zeroValue43
  i22 := by kernel_rfl
  t25 := Tryd.underlying65
  a25 := Tryd.isAgg65
  z25 := Tryd.sizeOf65
  v25 := Tryd.zeroValue65
  i25 := by kernel_rfl
  t54 := Tryd.underlying128
  a54 := Tryd.isAgg128
  z54 := Tryd.sizeOf128
  g1 := by kernel_rfl }
end Go.Proofs

namespace Go.Proofs.YtmnfioghhdgciaaDoor
open Go Go.RowKit
set_option linter.unusedVariables false
set_option linter.unusedSimpArgs false
set_option maxRecDepth 100000

/-! impl.wildcard.coversOf. -/
theorem ctz_bits {x : Nat} (h0 : x ≠ 0) (hx : x < 2 ^ 64) : x.testBit (Lib.ctz 64 x) = true ∧ ∀ i, i < Lib.ctz 64 x → x.testBit i = false := by
  obtain ⟨m, hm, hk⟩ := Lib.ctzFrom_spec 64 x (by omega) hx
  have e : Lib.ctz 64 x = Lib.ctzFrom 64 x := by unfold Lib.ctz; rw [if_neg h0]
  rw [e]
  generalize Lib.ctzFrom 64 x = k at *
  subst hm
  constructor
  · rw [Nat.testBit_eq_decide_div_mod_eq, Nat.mul_div_cancel_left _ (Nat.two_pow_pos k)]
    simp
  · intro i hi
    rw [Nat.testBit_eq_decide_div_mod_eq]
    have e2 : 2 ^ k * (2 * m + 1) = 2 ^ i * (2 * (2 ^ (k - i - 1) * (2 * m + 1))) := by
      rw [← Nat.mul_assoc (2 ^ i), ← Nat.pow_succ, ← Nat.mul_assoc, ← Nat.pow_add]
      congr 2
      omega
    rw [e2, Nat.mul_div_cancel_left _ (Nat.two_pow_pos i), Nat.mul_mod_right]
    rfl
/-- Whether a place further on asks for nothing more, up to e. -/
def askB (T : List Int) (p e q : Nat) : Prop := ∀ i, q + i < e → T.getD (q + i) 0 = -2 ∨ T.getD (q + i) 0 = T.getD (p + i) 0
noncomputable def covB (T : List Int) (p e : Nat) (q : Nat) : Bool := @decide (p < q ∧ q < e ∧ askB T p e q) (Classical.propDecidable _)
theorem covB_iff {T : List Int} {p e q : Nat} : covB T p e q = true ↔ p < q ∧ q < e ∧ askB T p e q := by
  unfold covB
  exact @decide_eq_true_iff _ (Classical.propDecidable _)
theorem bset_none {f : Nat → Bool} : ∀ (k : Nat), (∀ i, i < k → f i = false) → bset f k = 0
  | 0, _ => rfl
  | k + 1, h => by simp only [bset]; rw [bset_none k (fun i hi => h i (by omega)), h k (by omega)]; rfl
theorem cov_bits {T : List Int} {L p e : Nat} (hlp : L.testBit p = false) (h1 : p < e) (h2 : e ≤ T.length) (h3 : L.testBit e = true) (h4 : ∀ i, p < i → i < e → L.testBit i = false) (q : Nat) : (bset (covB T p e) e).testBit q = true ↔ Cov T L.testBit p q := by
  rw [bset_bit, Bool.and_eq_true, decide_eq_true_eq, covB_iff]
  constructor
  · rintro ⟨_, g1, g2, g3⟩
    exact ⟨hlp, g1, e, g2, h2, h3, h4, g3⟩
  · rintro ⟨_, g1, e', g2, g3, g4, g5, g6⟩
    have : e' = e := by
      rcases Nat.lt_trichotomy e' e with h | h | h
      · have := h4 e' (by omega) h
        rw [g4] at this; cases this
      · exact h
      · have := g5 e h1 h
        rw [h3] at this; cases this
    subst this
    exact ⟨g2, g1, g2, g6⟩
theorem part_hold {w : World} {g cap : Nat} {T : List Int} (hc : ∀ t, t < T.length → w.cell? ⟨g, t, none⟩ = some (.int .i64 (T.getD t 0))) (hg : g < w.heap.size) {a e c' : Nat} (hae : a < e) (he : e ≤ T.length) : HoldI w (.slice (some ⟨g, a, none⟩) (e - a) c') ((T.drop a).take (e - a)) := by
  have hl : ((T.drop a).take (e - a)).length = e - a := by simp; omega
  refine ⟨_, c', by rw [hl], Or.inr ⟨g, a, rfl, hg, fun t ht => ?_⟩⟩
  rw [hl] at ht
  rw [hc (a + t) (by omega)]
  congr 2
  rw [List.getD_eq_getElem?_getD, List.getD_eq_getElem?_getD, List.getElem?_take, if_pos ht, List.getElem?_drop]
theorem part_at {T : List Int} {a e i : Nat} (hi : i < e - a) : ((T.drop a).take (e - a)).getD i 0 = T.getD (a + i) 0 := by
  rw [List.getD_eq_getElem?_getD, List.getD_eq_getElem?_getD, List.getElem?_take, if_pos hi, List.getElem?_drop]
theorem tab_below {g : Nat} {tab : List Nat} {w W : World} (h : TabAt g tab w) (hb : Below w.heap.size w W) : TabAt g tab W := fun j hj => by
  have h1 := h j hj
  rw [← h1]
  refine hb.cell (p := ⟨g, j, none⟩) ?_
  cases hx : w.heap[g]? with
  | some o => exact (Array.getElem?_eq_some_iff.1 hx).1
  | none => simp [World.cell?, hx] at h1
def CvPost (T : List Int) (L p : Nat) (w : World) (e : Ending) (w' : World) : Prop := ∃ c : Nat, e = .returned (.int .u64 (c : Int)) ∧ c < 2147483648 ∧ (∀ q, c.testBit q = true ↔ Cov T L.testBit p q) ∧ Below w.heap.size w w'
set_option maxHeartbeats 4000000 in
theorem covers_any (g cap L p : Nat) (vc : Value) (T : List Int) (w : World) (hn : T.length ≤ 30) (hcap : T.length ≤ cap) (hL : ∀ l, L.testBit l = true → l ≤ T.length) (hL2 : L < 2147483648) (hp : p < T.length) (hg : g < w.heap.size) (hc : ∀ t, t < T.length → w.cell? ⟨g, t, none⟩ = some (.int .i64 (T.getD t 0))) (hvc : ∃ ad m c, vc = .slice ad m c) (hT : TabAt (Tryd.laysTz_ren.g 1) Lib.deBruijn64tab w) :
    Calls Tryd.prog 32 #[.agg (wcV (.slice (some ⟨g, 0, none⟩) T.length cap) L vc), .int .i64 (p : Int)] w (CvPost T L p w) := by
  obtain ⟨adc, mc, cc, rfl⟩ := hvc
  have s1 := heap_alloc_new w (.cells (wcV (.slice (some ⟨g, 0, none⟩) T.length cap) L (.slice adc mc cc)) 46)
  have s2 : Below w.heap.size w (w.alloc (.cells (wcV (.slice (some ⟨g, 0, none⟩) T.length cap) L (.slice adc mc cc)) 46)) := (Below.refl _ _).alloc (Nat.le_refl _) _
  have HCl : Hid (∀ t, t < T.length → w.cell? ⟨g, t, none⟩ = some (.int .i64 (T.getD t 0))) := hc
  have HTb := hidd hT
  have HLl := hidd hL
  clear hc hT hL
  go_enter Tryd.func32, Tryd.ntmps32
  go_upto_region 1 with fail
  generalize w.alloc (.cells (wcV (.slice (some ⟨g, 0, none⟩) T.length cap) L (.slice adc mc cc)) 46) = W at *
  have a0 := blkc s1 0
  have a1 := blkc s1 1
  have HB := hidd s2
  have hwW : w.heap.size < W.heap.size := (Array.getElem?_eq_some_iff.1 s1).1
  have HCW : Hid (∀ t, t < T.length → W.cell? ⟨g, t, none⟩ = some (.int .i64 (T.getD t 0))) := fun t ht => (HB.out.cell (p := ⟨g, t, none⟩) hg).trans (HCl.out t ht)
  have hgW : g < W.heap.size := Nat.lt_of_lt_of_le hg HB.out.size
  have HTW : Hid (TabAt (Tryd.laysTz_ren.g 1) Lib.deBruijn64tab W) := tab_below HTb.out HB.out
  clear s1 s2 HCl HTb
  have hdiv : ((L / 2 ^ (p + 1) : Nat) : Int) = (L : Int) / 2 ^ (p + 1) := by norm_cast
  have hDx : L / 2 ^ (p + 1) ≤ L := Nat.div_le_self _ _
  have hpt : ((p : Int) + 1).toNat = p + 1 := by omega
  have hbit : ∀ i, (L / 2 ^ (p + 1)).testBit i = L.testBit (p + 1 + i) := fun i => by rw [← Nat.shiftRight_eq_div_pow, Nat.testBit_shiftRight]
  have HBt := hidd hbit
  clear hbit
  obtain ⟨D, hD⟩ : ∃ D : Nat, L / 2 ^ (p + 1) = D := ⟨_, rfl⟩
  rw [hD] at hdiv hDx HBt
  clear hD
  have hdiv' := hdiv.symm
  clear hdiv
  by_cases hD0 : D = 0
  · subst hD0
    have HFin : Hid (CvPost T L p w (.returned (.int .u64 0)) W) := by
      refine ⟨0, rfl, by omega, fun q => ⟨fun h => by simp at h, ?_⟩, HB.out⟩
      rintro ⟨_, g1, e, g2, g3, g4, _⟩
      have := HBt.out (e - (p + 1))
      rw [show p + 1 + (e - (p + 1)) = e by omega, g4] at this
      simp at this
    go_wp2_with fail
    go_ret
    exact HFin.out
  · have hD0b : ((D : Int) == 0) = false := by simp; omega
    have hd2 : ((L / 2 ^ p : Nat) : Int) = (L : Int) / 2 ^ p := by norm_cast
    have HT := hidd (testB L p)
    have hEx : L / 2 ^ p ≤ L := Nat.div_le_self _ _
    obtain ⟨E, hE⟩ : ∃ E : Nat, L / 2 ^ p = E := ⟨_, rfl⟩
    rw [hE] at hd2 hEx HT
    clear hE
    have hd2' := hd2.symm
    have han := u64_and_nat E 1 (by omega) (by omega)
    have HT2 : Hid ((bits .and .u64 (E : Int) 1 == 1) = L.testBit p) := by
      show _ = _
      rw [← HT.out, show bits .and .u64 (E : Int) 1 = ((E &&& 1 : Nat) : Int) from han]
      generalize E &&& 1 = q
      by_cases e : q = 1
      · subst e; rfl
      · rw [beq_eq_false_iff_ne.2 e, beq_eq_false_iff_ne.2 (by omega)]
    clear han HT hd2
    cases hlp : L.testBit p with
    | true =>
      have hbb : (bits .and .u64 (E : Int) 1 == 1) = true := by rw [HT2.out, hlp]
      have HFin : Hid (CvPost T L p w (.returned (.int .u64 0)) W) := by
        refine ⟨0, rfl, by omega, fun q => ⟨fun h => by simp at h, ?_⟩, HB.out⟩
        rintro ⟨g1, _⟩
        rw [hlp] at g1; cases g1
      clear HT2
      go_wp2_with fail
      go_ret
      exact HFin.out
    | false =>
      have hbb : (bits .and .u64 (E : Int) 1 == 1) = false := by rw [HT2.out, hlp]
      clear HT2
      obtain ⟨k, hk⟩ : ∃ k, Lib.ctz 64 D = k := ⟨_, rfl⟩
      have HTz := hidd (Any7.bits_TrailingZeros64 Tryd.laysTz D (by omega) W (fun _ => HTW.out))
      rw [hk] at HTz
      obtain ⟨hk1, hk2⟩ := ctz_bits (x := D) hD0 (by omega)
      rw [hk] at hk1 hk2
      rw [HBt.out] at hk1
      have he := HLl.out _ hk1
      have HFr : Hid (∀ q, (bset (covB T p (p + 1 + k)) (p + 1 + k)).testBit q = true ↔ Cov T L.testBit p q) := cov_bits hlp (by omega) he hk1 (fun i h1 h2 => by
        have := hk2 (i - (p + 1)) (by omega)
        rw [HBt.out, show p + 1 + (i - (p + 1)) = i by omega] at this
        exact this)
      clear hk hk2 hlp HBt HLl hk1
      go_wp2_with fail
      refine HTz.out.mono ?_
      rintro e w2 ⟨rfl, rfl⟩
      obtain ⟨e, he'⟩ : ∃ e, p + 1 + k = e := ⟨_, rfl⟩
      rw [he'] at he HFr
      have hez : (p : Int) + 1 + (k : Int) = (e : Int) := by omega
      have HK : Hid (∀ (q : Nat) (W' : World), p < q → q < e → Below w2.heap.size w2 W' → Calls Tryd.prog 51 #[.slice (some ⟨g, q, none⟩) (e - q) (cap - q), .slice (some ⟨g, p, none⟩) (e - p) (cap - p)] W' fun r w' => r = .returned (.bool (covB T p e q)) ∧ w' = W') := by
        intro q W' h1 h2 hW
        have hc' : ∀ t, t < T.length → W'.cell? ⟨g, t, none⟩ = some (.int .i64 (T.getD t 0)) := fun t ht => (hW.cell (p := ⟨g, t, none⟩) hgW).trans (HCW.out t ht)
        have hg' : g < W'.heap.size := Nat.lt_of_lt_of_le hgW hW.size
        refine (asks_any ((T.drop q).take (e - q)) ((T.drop p).take (e - p)) _ _ W' (by simp; omega) (by simp; omega) (part_hold (cap := cap) hc' hg' (by omega) he) (part_hold (cap := cap) hc' hg' (by omega) he)).mono ?_
        rintro r w' ⟨⟨b, rfl, hb⟩, rfl⟩
        refine ⟨?_, rfl⟩
        congr 2
        rw [Bool.eq_iff_iff, hb, covB_iff]
        have hl : ((T.drop q).take (e - q)).length = e - q := by simp; omega
        rw [hl]
        constructor
        · intro hh
          refine ⟨h1, h2, fun i hi => ?_⟩
          have := hh i (by omega)
          rw [part_at (by omega), part_at (by omega)] at this
          exact this
        · rintro ⟨_, _, hh⟩ i hi
          rw [part_at hi, part_at (by omega)]
          exact hh i (by omega)
      have HZ : Hid (bset (covB T p e) (p + 1) = 0) := bset_none _ fun i hi => by
        rw [Bool.eq_false_iff]
        intro hc
        have := (covB_iff.1 hc).1
        omega
      have hpe : p < e := by omega
      go_wp2_with fail
      try rw [hez]
      clear he' hez HTz HTW hbb hD0 hD0b hdiv' hd2' hEx hDx HCW
      go_loopw [7, 8] (fun cv i wx => ∃ q : Nat, p < q ∧ q ≤ e ∧ i = .int .i64 (q : Int) ∧ cv = .int .u64 ((bset (covB T p e) q : Nat) : Int) ∧ Below w2.heap.size w2 wx) (fun _ i _ => e - (intOf i).toNat)
      case atStart => exact ⟨p + 1, by omega, by omega, by go_num, by rw [HZ.out]; rfl, Below.refl _ _⟩
      case round =>
        obtain ⟨q, hq1, hq2, rfl, rfl, hbq⟩ := hrel
        have HBq := hidd hbq
        have hbs : bset (covB T p e) q < 2147483648 := Nat.lt_of_lt_of_le (bset_lt _ _) (pow31 (Nat.le_refl q) (by omega))
        clear hbq
        by_cases hlt : q < e
        · have hqz : (q : Int) < (e : Int) := by omega
          have HKq : Hid (∀ W', Below w2.heap.size w2 W' → Calls Tryd.prog 51 #[.slice (some ⟨g, q, none⟩) (e - q) (cap - q), .slice (some ⟨g, p, none⟩) (e - p) (cap - p)] W' fun r w' => r = .returned (.bool (covB T p e q)) ∧ w' = W') := fun W' hW => HK.out q W' hq1 hlt hW
          have HN : Hid (bset (covB T p e) (q + 1) = bset (covB T p e) q + if covB T p e q = true then 2 ^ q else 0) := rfl
          have hP := pow31 (show q ≤ q by omega) (by omega)
          have HO := hidd (bset_or (covB T p e) q)
          generalize bset (covB T p e) q = B at *
          generalize covB T p e q = bb at *
          have b1 : (q : Int) ≤ (e : Int) := by omega
          have b2 : (e : Int) ≤ (cap : Int) := by omega
          have b3 : (p : Int) ≤ (e : Int) := by omega
          have t1 : ((e : Int) - (q : Int)).toNat = e - q := by omega
          have t2 : ((cap : Int) - (q : Int)).toNat = cap - q := by omega
          have t3 : ((e : Int) - (p : Int)).toNat = e - p := by omega
          have t4 : ((cap : Int) - (p : Int)).toNat = cap - p := by omega
          have n1 : q ≤ e := by omega
          have n2 : e ≤ cap := by omega
          have n3 : p ≤ e := by omega
          have hcq : ¬ cap = q := by omega
          have hcp : ¬ cap = p := by omega
          have A0 : wr.cell? ⟨w.heap.size, 0, none⟩ = some (.slice (some ⟨g, 0, none⟩) T.length cap) := (HBq.out.cell (p := ⟨w.heap.size, 0, none⟩) hwW).trans a0
          have HKr : Hid (∀ W', Below wr.heap.size wr W' → Calls Tryd.prog 51 #[.slice (some ⟨g, q, none⟩) (e - q) (cap - q), .slice (some ⟨g, p, none⟩) (e - p) (cap - p)] W' fun r w' => r = .returned (.bool bb) ∧ w' = W') := fun W' hW => HKq.out W' (HBq.out.trans (hW.mono HBq.out.size))
          clear HKq a0 a1
          go_wp2_with fail
          go_quiet ((go_at_call 51; refine Calls.quiet_of_same (HKr.out _ ⟨rfl, rfl, rfl, Nat.le_refl _, fun _ _ => rfl⟩)))
          have HBb : Hid (bset (covB T p e) (q + 1) = if bb = true then B ||| 2 ^ q else B) := by
            show _ = _
            rw [HN.out, HO.out]
            cases bb <;> simp
          have hPz : ((2 ^ q : Nat) : Int) = (2 : Int) ^ q := by norm_cast
          obtain ⟨Q, hQ⟩ : ∃ Q : Nat, 2 ^ q = Q := ⟨_, rfl⟩
          rw [hQ] at HBb hP hPz
          have hPz' := hPz.symm
          have hor := u64_or_nat B Q (by omega) (by omega)
          clear hQ hPz HN HO HKr A0
          cases bb with
          | true =>
            go_wp2_with fail
            go_roundw
            case rel => exact ⟨q + 1, by omega, by omega, by go_num, by rw [HBb.out]; rfl, HBq.out.trans ⟨rfl, rfl, rfl, Nat.le_refl _, fun _ _ => rfl⟩⟩
            case measure => simp [intOf]; omega
          | false =>
            go_wp2_with fail
            go_roundw
            case rel => exact ⟨q + 1, by omega, by omega, by go_num, by rw [HBb.out]; rfl, HBq.out.trans ⟨rfl, rfl, rfl, Nat.le_refl _, fun _ _ => rfl⟩⟩
            case measure => simp [intOf]; omega
        · have hqz : ¬ (q : Int) < (e : Int) := by omega
          obtain rfl : q = e := by omega
          have HFin : Hid (CvPost T L p w (.returned (.int .u64 ((bset (covB T p q) q : Nat) : Int))) wr) := ⟨_, rfl, hbs, HFr.out, HB.out.trans (HBq.out.mono HB.out.size)⟩
          clear HFr HK HZ
          go_wp2_with fail
          go_ret
          exact HFin.out
end Go.Proofs.YtmnfioghhdgciaaDoor
