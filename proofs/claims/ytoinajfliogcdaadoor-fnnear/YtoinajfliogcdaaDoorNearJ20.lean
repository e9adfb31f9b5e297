import Derived.Ground.NamesProg
import Derived.Shelf.Unicode.ValidAny
import Derived.Shelf.Utf8.RuneCount
import Derived.Shelf.Sort.Plain
import Derived.Ground.Names2Prog
import Derived.Shelf.Slices.CompactI
import Derived.Shelf.Slices.In.SortNone
import Derived.Test.YtoinajfliogcdaaDoorProg
import Derived.Test.YtoinajfliogcdaaDoorNearJ00
import Derived.Lib.ValidLaws
import Derived.Lib.Strings
import Derived.WalkLawsBesides
namespace Go.Proofs
open Go.Shelf
def Tryd.laysValid_ren : Go.Shelf.Ren := ⟨fun | 196 => 93 | 259 => 126 | n => n, fun | 9 => 9 | 4 => 4 | 3 => 3 | 5 => 5 | 12 => 12 | 119 => 183 | 0 => 0 | 46 => 124 | 139 => 186 | 138 => 185 | 53 => 69 | n => n, fun | 3 => 0 | 4 => 1 | n => n⟩
theorem Tryd.laysValid : Go.Proofs.Lays.n196 Tryd.prog Tryd.laysValid_ren := {
 mixed := by kernel_rfl
 f196 := Tryd.func93.trans (congrArg some (by kernel_rfl))
 f259 := Tryd.func126.trans (congrArg some (by kernel_rfl))
 t0 := Tryd.underlying0
 a0 := Tryd.isAgg0
 z0 := Tryd.sizeOf0
 v0 := Tryd.zeroValue0
 t3 := Tryd.underlying3
 a3 := Tryd.isAgg3
 z3 := Tryd.sizeOf3
 v3 := Tryd.zeroValue3
 t4 := Tryd.underlying4
 a4 := Tryd.isAgg4
 z4 := Tryd.sizeOf4
 v4 := Tryd.zeroValue4
 t5 := Tryd.underlying5
 a5 := Tryd.isAgg5
 z5 := Tryd.sizeOf5
 v5 := Tryd.zeroValue5
 t9 := Tryd.underlying9
 a9 := Tryd.isAgg9
 z9 := Tryd.sizeOf9
 v9 := Tryd.zeroValue9
 t12 := Tryd.underlying12
 a12 := Tryd.isAgg12
 z12 := Tryd.sizeOf12
 v12 := Tryd.zeroValue12
 t46 := Tryd.underlying124
 a46 := Tryd.isAgg124
 z46 := Tryd.sizeOf124
 v46 := Tryd.zeroValue124
 t53 := Tryd.underlying69
 a53 := Tryd.isAgg69
 z53 := Tryd.sizeOf69
 v53 := Tryd.zeroValue69
 t119 := Tryd.underlying183
 a119 := Tryd.isAgg183
 z119 := Tryd.sizeOf183
 t138 := Tryd.underlying185
 a138 := Tryd.isAgg185
 z138 := Tryd.sizeOf185
 v138 := Tryd.zeroValue185
 t139 := Tryd.underlying186
 a139 := Tryd.isAgg186
 z139 := Tryd.sizeOf186
 v139 := Tryd.zeroValue186
 g3 := by kernel_rfl
 g4 := by kernel_rfl }
def Tryd.lays195_ren : Go.Shelf.Ren := ⟨fun | 195 => 66 | n => n, fun | 9 => 9 | 3 => 3 | 0 => 0 | 4 => 4 | n => n, fun | n => n⟩
theorem Tryd.lays195 : Go.Proofs.Lays.n195 Tryd.prog Tryd.lays195_ren := {
 mixed := by kernel_rfl
 f195 := Tryd.func66.trans (congrArg some (by kernel_rfl))
 t0 := Tryd.underlying0
 a0 := Tryd.isAgg0
 z0 := Tryd.sizeOf0
 v0 := Tryd.zeroValue0
 t3 := Tryd.underlying3
 a3 := Tryd.isAgg3
 z3 := Tryd.sizeOf3
 v3 := Tryd.zeroValue3
 t4 := Tryd.underlying4
 a4 := Tryd.isAgg4
 z4 := Tryd.sizeOf4
 v4 := Tryd.zeroValue4
 t9 := Tryd.underlying9
 a9 := Tryd.isAgg9
 z9 := Tryd.sizeOf9
 v9 := Tryd.zeroValue9 }
open Go.RowKit in
theorem Tryd.utf8_RuneCountInString (s : ByteArray) (w : World) (hs : s.size < 9223372036854775807) :
  Calls Tryd.prog 66 #[.string s] w fun e w' => e = .returned (.int .i64 (Lib.runeCount s)) ∧ ∃ pos, w' = w.iter s pos := Any.utf8_RuneCountInString Tryd.lays195 s w hs
def Tryd.lays189_ren : Go.Shelf.Ren := ⟨fun | 189 => 123 | 125 => 143 | 257 => 142 | 128 => 158 | 129 => 105 | 294 => 149 | 295 => 150 | 296 => 151 | 297 => 152 | 298 => 153 | 299 => 154 | 216 => 155 | 300 => 156 | 301 => 157 | 328 => 159 | 329 => 160 | 330 => 161 | 331 => 162 | 332 => 163 | 215 => 144 | 343 => 164 | n => n, fun | 28 => 30 | 3 => 3 | 46 => 124 | 0 => 0 | 51 => 235 | 53 => 69 | 4 => 4 | 183 => 229 | 182 => 228 | 131 => 187 | 5 => 5 | 9 => 9 | 218 => 237 | 222 => 240 | 228 => 242 | 229 => 36 | n => n, fun | n => n⟩
theorem Tryd.lays189 : Go.Proofs.Lays.n189 Tryd.prog Tryd.lays189_ren := {
 mixed := by kernel_rfl
 f125 := Tryd.func143.trans (congrArg some (by kernel_rfl))
 f128 := Tryd.func158.trans (congrArg some (by kernel_rfl))
 f129 := Tryd.func105.trans (congrArg some (by kernel_rfl))
 f189 := Tryd.func123.trans (congrArg some (by kernel_rfl))
 f215 := Tryd.func144.trans (congrArg some (by kernel_rfl))
 f216 := Tryd.func155.trans (congrArg some (by kernel_rfl))
 f257 := Tryd.func142.trans (congrArg some (by kernel_rfl))
 f294 := Tryd.func149.trans (congrArg some (by kernel_rfl))
 f295 := Tryd.func150.trans (congrArg some (by kernel_rfl))
 f296 := Tryd.func151.trans (congrArg some (by kernel_rfl))
 f297 := Tryd.func152.trans (congrArg some (by kernel_rfl))
 f298 := Tryd.func153.trans (congrArg some (by kernel_rfl))
 f299 := Tryd.func154.trans (congrArg some (by kernel_rfl))
 f300 := Tryd.func156.trans (congrArg some (by kernel_rfl))
 f301 := Tryd.func157.trans (congrArg some (by kernel_rfl))
 f328 := Tryd.func159.trans (congrArg some (by kernel_rfl))
 f329 := Tryd.func160.trans (congrArg some (by kernel_rfl))
 f330 := Tryd.func161.trans (congrArg some (by kernel_rfl))
 f331 := Tryd.func162.trans (congrArg some (by kernel_rfl))
 f332 := Tryd.func163.trans (congrArg some (by kernel_rfl))
 f343 := Tryd.func164.trans (congrArg some (by kernel_rfl))
 t0 := Tryd.underlying0
 a0 := Tryd.isAgg0
 z0 := Tryd.sizeOf0
 v0 := Tryd.zeroValue0
 t3 := Tryd.underlying3
 a3 := Tryd.isAgg3
 z3 := Tryd.sizeOf3
 v3 := Tryd.zeroValue3
 t4 := Tryd.underlying4
 a4 := Tryd.isAgg4
 z4 := Tryd.sizeOf4
 v4 := Tryd.zeroValue4
 t5 := Tryd.underlying5
 a5 := Tryd.isAgg5
 z5 := Tryd.sizeOf5
 v5 := Tryd.zeroValue5
 t9 := Tryd.underlying9
 a9 := Tryd.isAgg9
 z9 := Tryd.sizeOf9
 v9 := Tryd.zeroValue9
 t28 := Tryd.underlying30
 a28 := Tryd.isAgg30
 z28 := Tryd.sizeOf30
 v28 := Tryd.zeroValue30
 t46 := Tryd.underlying124
 a46 := Tryd.isAgg124
 z46 := Tryd.sizeOf124
 v46 := Tryd.zeroValue124
 t51 := Tryd.underlying235
 a51 := Tryd.isAgg235
 z51 := Tryd.sizeOf235
 v51 := Tryd.zeroValue235
 t53 := Tryd.underlying69
 a53 := Tryd.isAgg69
 z53 := Tryd.sizeOf69
 v53 := Tryd.zeroValue69
 t131 := Tryd.underlying187
 a131 := Tryd.isAgg187
 z131 := Tryd.sizeOf187
 v131 := Tryd.zeroValue187
 t182 := Tryd.underlying228
 a182 := Tryd.isAgg228
 z182 := Tryd.sizeOf228
 v182 := Tryd.zeroValue228
 t183 := Tryd.underlying229
 a183 := Tryd.isAgg229
 z183 := Tryd.sizeOf229
 v183 := Tryd.zeroValue229
 t218 := Tryd.underlying237
 a218 := Tryd.isAgg237
 z218 := Tryd.sizeOf237
 v218 := Tryd.zeroValue237
 t222 := Tryd.underlying240
 a222 := Tryd.isAgg240
 z222 := Tryd.sizeOf240
 v222 := Tryd.zeroValue240
 t228 := Tryd.underlying242
 a228 := Tryd.isAgg242
 z228 := Tryd.sizeOf242
 v228 := Tryd.zeroValue242
 t229 := Tryd.underlying36
 a229 := Tryd.isAgg36
 z229 := Tryd.sizeOf36
 v229 := Tryd.zeroValue36 }
open Go.Sort Go.RowKit in
theorem Tryd.slices_Sort_int (blk off cap : Nat) (zs : List Int) (w : World) (hH : Holds (Value.int .i64) w blk off zs.toArray) (hblk : blk < w.heap.size) (hsz : zs.length < 4611686018427387904) :
  Calls Tryd.prog 123 #[.slice (some ⟨blk, off, none⟩) zs.length cap] w fun e w' =>
   e = .returned (.tuple #[]) ∧ ∃ n os, w' = grow (putRow (Value.int .i64) (Sort.ahead w n) blk off (zs.mergeSort fun x y => decide (x ≤ y)).toArray) os := Any.slices_Sort_int Tryd.lays189 blk off cap zs w hH hblk hsz
def Tryd.laysNm220_ren : Go.Shelf.Ren := ⟨fun | 20 => 88 | n => n, fun | 22 => 30 | 3 => 3 | 4 => 4 | 0 => 0 | n => n, fun | n => n⟩
theorem Tryd.laysNm220 : Go.Proofs.Lays2.n20 Tryd.prog Tryd.laysNm220_ren := {
 mixed := by kernel_rfl
 f20 := Tryd.func88.trans (congrArg some (by kernel_rfl))
 t0 := Tryd.underlying0
 a0 := Tryd.isAgg0
 z0 := Tryd.sizeOf0
 v0 := Tryd.zeroValue0
 t3 := Tryd.underlying3
 a3 := Tryd.isAgg3
 z3 := Tryd.sizeOf3
 v3 := Tryd.zeroValue3
 t4 := Tryd.underlying4
 a4 := Tryd.isAgg4
 z4 := Tryd.sizeOf4
 v4 := Tryd.zeroValue4
 t22 := Tryd.underlying30
 a22 := Tryd.isAgg30
 z22 := Tryd.sizeOf30
 v22 := Tryd.zeroValue30
 i3 := by kernel_rfl }
open Go.RowKit Go.Lib Go.Sort in
open Go.RowKit Go.Lib Go.Sort in
theorem Tryd.slices_Compact_int (blk off cap : Nat) (zs : List Int) (w : World) (hH : Holds (Value.int .i64) w blk off zs.toArray) (hsz : zs.length ≤ 9223372036854775807) (hcap : zs.length ≤ cap) :
  Calls Tryd.prog 88 #[.slice (some ⟨blk, off, none⟩) zs.length cap] w fun e w' => e = .returned (.slice (some ⟨blk, off, none⟩) (Lib.compact zs).length cap) ∧ ∃ q, w' = putRow (Value.int .i64) (Sort.ahead w q) blk off (Lib.compact zs ++ List.replicate (zs.length - (Lib.compact zs).length) 0).toArray := Any.slices_Compact_int Tryd.laysNm220 blk off cap zs w hH hsz hcap
open Go.RowKit Go.Lib Go.Sort in
theorem Tryd.slices_Compact_int_empty (a : Option Addr) (cap : Nat) (w : World) :
  Calls Tryd.prog 88 #[.slice a 0 cap] w fun e w' => e = .returned (.slice a 0 cap) ∧ w' = w := Any.slices_Compact_int_empty Tryd.laysNm220 a cap w
open Go.RowKit Go.Sort in
theorem Tryd.slices_Sort_int_none (p : Option Addr) (cap : Nat) (w : World) :
  Calls Tryd.prog 123 #[.slice p 0 cap] w fun e w' => e = .returned (.tuple #[]) ∧ w' = w := Any.slices_Sort_int_none Tryd.lays189 p cap w
end Go.Proofs

namespace Go.Proofs.YtoinajfliogcdaaDoor
open Go

def bad (s : ByteArray) (p : Nat) : Prop := (Utf8.decode s p).1 = 65533 ∧ (Utf8.decode s p).2 = 1
instance (s : ByteArray) (p : Nat) : Decidable (bad s p) := inferInstanceAs (Decidable (_ ∧ _))
def byteAt (s : ByteArray) (p : Nat) : Int := ((s.get! p).toNat : Int)
theorem byteAt_bd (s : ByteArray) (p : Nat) : 0 ≤ byteAt s p ∧ byteAt s p ≤ 255 := by
 have := (s.get! p).toNat_lt
 unfold byteAt
 omega
theorem byteAt_get (s : ByteArray) (p : Nat) (h : p < s.size) : ((s[p]'h).toNat : Int) = byteAt s p := by
 have e : s.get! p = s[p]'h := by
  simp [ByteArray.get!, getElem!_pos, h]
  rfl
 rw [byteAt, e]
def atC (s : ByteArray) (p : Nat) : Int := if bad s p then 0 else ((Utf8.decode s p).1 : Int)
def atW (s : ByteArray) (p : Nat) : Int := if bad s p then 0 else ((Utf8.decode s p).2 : Int)
def vAt (s : ByteArray) (p : Nat) (v0 : Int) : Nat → Int
 | 0 => v0
 | k + 1 => if k = 0 then v0 else vAt s p v0 k * 64 + byteAt s (p + k) - 128
theorem vAt_one (s : ByteArray) (p : Nat) (v0 : Int) : vAt s p v0 1 = v0 := rfl
theorem vAt_step (s : ByteArray) (p : Nat) (v0 : Int) (k : Nat) (h : 1 ≤ k) : vAt s p v0 (k + 1) = vAt s p v0 k * 64 + byteAt s (p + k) - 128 := by
 show (if k = 0 then _ else _) = _
 rw [if_neg (by omega)]
def contTo (s : ByteArray) (p k : Nat) : Prop := ∀ j, 1 ≤ j → j < k → 128 ≤ byteAt s (p + j) ∧ byteAt s (p + j) ≤ 191
theorem contTo_one (s : ByteArray) (p : Nat) : contTo s p 1 := fun j h1 h2 => by omega
theorem contTo_step (s : ByteArray) (p k : Nat) (h : contTo s p k) (h1 : 128 ≤ byteAt s (p + k)) (h2 : byteAt s (p + k) ≤ 191) : contTo s p (k + 1) := fun j a b => by
 by_cases e : j = k
 ·subst e; exact ⟨h1, h2⟩
 ·exact h j a (by omega)
theorem vAt_bd (s : ByteArray) (p : Nat) (v0 : Int) (h0 : 0 ≤ v0) (h1 : v0 ≤ 31) (k : Nat) (hk : 1 ≤ k) (hk4 : k ≤ 4) (hc : contTo s p k) : 0 ≤ vAt s p v0 k ∧ vAt s p v0 k ≤ 8388607 := by
 have e1 := vAt_one s p v0
 have e2 : vAt s p v0 2 = vAt s p v0 1 * 64 + byteAt s (p + 1) - 128 := vAt_step s p v0 1 (by omega)
 have e3 : vAt s p v0 3 = vAt s p v0 2 * 64 + byteAt s (p + 2) - 128 := vAt_step s p v0 2 (by omega)
 have e4 : vAt s p v0 4 = vAt s p v0 3 * 64 + byteAt s (p + 3) - 128 := vAt_step s p v0 3 (by omega)
 rcases (show k = 1 ∨ k = 2 ∨ k = 3 ∨ k = 4 by omega) with rfl | rfl | rfl | rfl
 ·omega
 ·have := hc 1 (by omega) (by omega); omega
 ·have := hc 1 (by omega) (by omega); have := hc 2 (by omega) (by omega); omega
 ·have := hc 1 (by omega) (by omega); have := hc 2 (by omega) (by omega); have := hc 3 (by omega) (by omega); omega
theorem vAt2_lt (s : ByteArray) (p : Nat) (v0 : Int) (h : v0 ≤ 31) (hc : contTo s p 2) : vAt s p v0 2 < 2048 := by
 have e2 : vAt s p v0 2 = vAt s p v0 1 * 64 + byteAt s (p + 1) - 128 := vAt_step s p v0 1 (by omega)
 have c1 := hc 1 (by omega) (by omega)
 rw [vAt_one] at e2
 omega
theorem vAt3_lt (s : ByteArray) (p : Nat) (v0 : Int) (h : v0 ≤ 15) (hc : contTo s p 3) : vAt s p v0 3 < 65536 := by
 have e2 : vAt s p v0 2 = vAt s p v0 1 * 64 + byteAt s (p + 1) - 128 := vAt_step s p v0 1 (by omega)
 have e3 : vAt s p v0 3 = vAt s p v0 2 * 64 + byteAt s (p + 2) - 128 := vAt_step s p v0 2 (by omega)
 have c1 := hc 1 (by omega) (by omega)
 have c2 := hc 2 (by omega) (by omega)
 rw [vAt_one] at e2
 omega
theorem decode_bytes (s : ByteArray) (p : Nat) : Utf8.decode s p = Lib.decodeN (s.size - p) (s.get! p).toNat (s.get! (p + 1)).toNat (s.get! (p + 2)).toNat (s.get! (p + 3)).toNat := Lib.decode_at s p
theorem bad_iff (s : ByteArray) (p : Nat) : bad s p ↔ Utf8.decode s p = (65533, 1) := by
 unfold bad
 constructor
 ·intro h; exact Prod.ext h.1 h.2
 ·intro h; rw [h]; exact ⟨rfl, rfl⟩
theorem at_of_bad (s : ByteArray) (p : Nat) (h : Utf8.decode s p = (65533, 1)) : atC s p = 0 ∧ atW s p = 0 := by
 have hb := (bad_iff s p).2 h
 unfold atC atW
 rw [if_pos hb, if_pos hb]; exact ⟨rfl, rfl⟩
theorem at_of_good (s : ByteArray) (p r n : Nat) (h : Utf8.decode s p = (r, n)) (hn : ¬ (r = 65533 ∧ n = 1)) : atC s p = r ∧ atW s p = n := by
 have hb : ¬ bad s p := by rw [bad_iff, h]; intro e; cases e; exact hn ⟨rfl, rfl⟩
 unfold atC atW
 rw [if_neg hb, if_neg hb, h]; exact ⟨rfl, rfl⟩
theorem at_1 (s : ByteArray) (p : Nat) (h : byteAt s p < 128) : atC s p = byteAt s p ∧ atW s p = 1 := by
 unfold byteAt at *
 have e : Utf8.decode s p = ((s.get! p).toNat, 1) := by
  rw [decode_bytes]; unfold Lib.decodeN; rw [if_pos (by omega)]
 exact at_of_good s p _ 1 e (by omega)
set_option maxHeartbeats 1000000 in
theorem at_low (s : ByteArray) (p : Nat) (h : 128 ≤ byteAt s p) (h2 : byteAt s p < 192) : atC s p = 0 ∧ atW s p = 0 := by
 unfold byteAt at *
 apply at_of_bad
 rw [decode_bytes]; unfold Lib.decodeN
 rw [if_neg (by omega), if_neg (by omega), if_neg (by omega), if_neg (by omega)]
set_option maxHeartbeats 1000000 in
theorem at_cut (s : ByteArray) (p n : Nat) (h : (n = 2 ∧ 192 ≤ byteAt s p ∧ byteAt s p < 224) ∨ (n = 3 ∧ 224 ≤ byteAt s p ∧ byteAt s p < 240) ∨ (n = 4 ∧ 240 ≤ byteAt s p))
  (hbad : s.size < p + n ∨ ∃ j, 1 ≤ j ∧ j < n ∧ (byteAt s (p + j) < 128 ∨ 191 < byteAt s (p + j))) : atC s p = 0 ∧ atW s p = 0 := by
 apply at_of_bad
 have b0 := byteAt_bd s p
 have b1 := byteAt_bd s (p + 1)
 have b2 := byteAt_bd s (p + 2)
 have b3 := byteAt_bd s (p + 3)
 have key : (n = 2 → s.size < p + 2 ∨ byteAt s (p + 1) < 128 ∨ 191 < byteAt s (p + 1)) ∧ (n = 3 → s.size < p + 3 ∨ byteAt s (p + 1) < 128 ∨ 191 < byteAt s (p + 1) ∨ byteAt s (p + 2) < 128 ∨ 191 < byteAt s (p + 2)) ∧
   (n = 4 → s.size < p + 4 ∨ byteAt s (p + 1) < 128 ∨ 191 < byteAt s (p + 1) ∨ byteAt s (p + 2) < 128 ∨ 191 < byteAt s (p + 2) ∨ byteAt s (p + 3) < 128 ∨ 191 < byteAt s (p + 3)) := by
  rcases hbad with hb | ⟨j, j1, j2, hj⟩
  ·exact ⟨fun e => by omega, fun e => by omega, fun e => by omega⟩
  ·rcases (show j = 1 ∨ j = 2 ∨ j = 3 by omega) with rfl | rfl | rfl
   ·exact ⟨fun e => by omega, fun e => by omega, fun e => by omega⟩
   ·exact ⟨fun e => by omega, fun e => by omega, fun e => by omega⟩
   ·exact ⟨fun e => by omega, fun e => by omega, fun e => by omega⟩
 clear hbad
 unfold byteAt at *
 rw [decode_bytes]; unfold Lib.decodeN
 rw [if_neg (by omega), if_neg (by omega), if_neg (by omega), if_neg (by omega)]
theorem at_2 (s : ByteArray) (p : Nat) (h : 192 ≤ byteAt s p) (h2 : byteAt s p < 224) (hs : p + 2 ≤ s.size) (hc : contTo s p 2) :
  (128 ≤ vAt s p (byteAt s p - 192) 2 → atC s p = vAt s p (byteAt s p - 192) 2 ∧ atW s p = 2) ∧ (vAt s p (byteAt s p - 192) 2 < 128 → atC s p = 0 ∧ atW s p = 0) := by
 have e2 : vAt s p (byteAt s p - 192) 2 = vAt s p (byteAt s p - 192) 1 * 64 + byteAt s (p + 1) - 128 := vAt_step _ _ _ 1 (by omega)
 rw [vAt_one] at e2
 have c1 := hc 1 (by omega) (by omega)
 rw [e2]
 unfold byteAt at *
 have ed : Utf8.decode s p = if (s.get! p).toNat % 32 * 64 + (s.get! (p + 1)).toNat % 64 ≥ 128 then ((s.get! p).toNat % 32 * 64 + (s.get! (p + 1)).toNat % 64, 2) else (65533, 1) := by
  rw [decode_bytes]; unfold Lib.decodeN
  rw [if_neg (by omega), if_pos (by omega)]
 constructor
 ·intro hv
  rw [if_pos (by omega)] at ed
  have := at_of_good s p _ 2 ed (by omega)
  omega
 ·intro hv
  rw [if_neg (by omega)] at ed
  exact at_of_bad s p ed
theorem at_3 (s : ByteArray) (p : Nat) (h : 224 ≤ byteAt s p) (h2 : byteAt s p < 240) (hs : p + 3 ≤ s.size) (hc : contTo s p 3) :
  (2048 ≤ vAt s p (byteAt s p - 224) 3 ∧ chr (vAt s p (byteAt s p - 224) 3) = true → atC s p = vAt s p (byteAt s p - 224) 3 ∧ atW s p = 3) ∧ (¬ (2048 ≤ vAt s p (byteAt s p - 224) 3 ∧ chr (vAt s p (byteAt s p - 224) 3) = true) → atC s p = 0 ∧ atW s p = 0) := by
 have e2 : vAt s p (byteAt s p - 224) 2 = vAt s p (byteAt s p - 224) 1 * 64 + byteAt s (p + 1) - 128 := vAt_step _ _ _ 1 (by omega)
 have e3 : vAt s p (byteAt s p - 224) 3 = vAt s p (byteAt s p - 224) 2 * 64 + byteAt s (p + 2) - 128 := vAt_step _ _ _ 2 (by omega)
 rw [vAt_one] at e2
 rw [e2] at e3
 have c1 := hc 1 (by omega) (by omega)
 have c2 := hc 2 (by omega) (by omega)
 rw [e3, chr_iff]
 unfold byteAt at *
 have ed : Utf8.decode s p = if (s.get! p).toNat % 16 * 4096 + (s.get! (p + 1)).toNat % 64 * 64 + (s.get! (p + 2)).toNat % 64 ≥ 2048 ∧ ((s.get! p).toNat % 16 * 4096 + (s.get! (p + 1)).toNat % 64 * 64 + (s.get! (p + 2)).toNat % 64 < 55296 ∨ (57344 ≤ (s.get! p).toNat % 16 * 4096 + (s.get! (p + 1)).toNat % 64 * 64 + (s.get! (p + 2)).toNat % 64 ∧ (s.get! p).toNat % 16 * 4096 + (s.get! (p + 1)).toNat % 64 * 64 + (s.get! (p + 2)).toNat % 64 ≤ 1114111)) then ((s.get! p).toNat % 16 * 4096 + (s.get! (p + 1)).toNat % 64 * 64 + (s.get! (p + 2)).toNat % 64, 3) else (65533, 1) := by
  rw [decode_bytes]; unfold Lib.decodeN
  rw [if_neg (by omega), if_neg (by omega), if_pos (by omega)]
 constructor
 ·intro hv
  rw [if_pos (by omega)] at ed
  have := at_of_good s p _ 3 ed (by omega)
  omega
 ·intro hv
  rw [if_neg (by omega)] at ed
  exact at_of_bad s p ed
theorem at_4 (s : ByteArray) (p : Nat) (h : 240 ≤ byteAt s p) (hs : p + 4 ≤ s.size) (hc : contTo s p 4) :
  (65536 ≤ vAt s p (byteAt s p - 240) 4 ∧ chr (vAt s p (byteAt s p - 240) 4) = true → atC s p = vAt s p (byteAt s p - 240) 4 ∧ atW s p = 4) ∧ (¬ (65536 ≤ vAt s p (byteAt s p - 240) 4 ∧ chr (vAt s p (byteAt s p - 240) 4) = true) → atC s p = 0 ∧ atW s p = 0) := by
 have e2 : vAt s p (byteAt s p - 240) 2 = vAt s p (byteAt s p - 240) 1 * 64 + byteAt s (p + 1) - 128 := vAt_step _ _ _ 1 (by omega)
 have e3 : vAt s p (byteAt s p - 240) 3 = vAt s p (byteAt s p - 240) 2 * 64 + byteAt s (p + 2) - 128 := vAt_step _ _ _ 2 (by omega)
 have e4 : vAt s p (byteAt s p - 240) 4 = vAt s p (byteAt s p - 240) 3 * 64 + byteAt s (p + 3) - 128 := vAt_step _ _ _ 3 (by omega)
 rw [vAt_one] at e2
 rw [e2] at e3
 rw [e3] at e4
 have c1 := hc 1 (by omega) (by omega)
 have c2 := hc 2 (by omega) (by omega)
 have c3 := hc 3 (by omega) (by omega)
 have bd := byteAt_bd s p
 rw [e4, chr_iff]
 unfold byteAt at *
 by_cases h8 : (s.get! p).toNat < 248
 ·have ed : Utf8.decode s p = if (s.get! p).toNat % 8 * 262144 + (s.get! (p + 1)).toNat % 64 * 4096 + (s.get! (p + 2)).toNat % 64 * 64 + (s.get! (p + 3)).toNat % 64 ≥ 65536 ∧ ((s.get! p).toNat % 8 * 262144 + (s.get! (p + 1)).toNat % 64 * 4096 + (s.get! (p + 2)).toNat % 64 * 64 + (s.get! (p + 3)).toNat % 64 < 55296 ∨ (57344 ≤ (s.get! p).toNat % 8 * 262144 + (s.get! (p + 1)).toNat % 64 * 4096 + (s.get! (p + 2)).toNat % 64 * 64 + (s.get! (p + 3)).toNat % 64 ∧ (s.get! p).toNat % 8 * 262144 + (s.get! (p + 1)).toNat % 64 * 4096 + (s.get! (p + 2)).toNat % 64 * 64 + (s.get! (p + 3)).toNat % 64 ≤ 1114111)) then ((s.get! p).toNat % 8 * 262144 + (s.get! (p + 1)).toNat % 64 * 4096 + (s.get! (p + 2)).toNat % 64 * 64 + (s.get! (p + 3)).toNat % 64, 4) else (65533, 1) := by
   rw [decode_bytes]; unfold Lib.decodeN
   rw [if_neg (by omega), if_neg (by omega), if_neg (by omega), if_pos (by omega)]
  constructor
  ·intro hv
   rw [if_pos (by omega)] at ed
   have := at_of_good s p _ 4 ed (by omega)
   omega
  ·intro hv
   rw [if_neg (by omega)] at ed
   exact at_of_bad s p ed
 ·have ed : Utf8.decode s p = (65533, 1) := by
   rw [decode_bytes]; unfold Lib.decodeN
   rw [if_neg (by omega), if_neg (by omega), if_neg (by omega), if_neg (by omega)]
  exact ⟨fun hv => by exfalso; omega, fun _ => at_of_bad s p ed⟩
end Go.Proofs.YtoinajfliogcdaaDoor

namespace Go.Proofs.YtoinajfliogcdaaDoor
open Go

def runesFrom (s : ByteArray) : Nat → Nat → List Int
 | 0, _ => []
 | f + 1, p => if p < s.size then ((Utf8.decode s p).1 : Int) :: runesFrom s f (p + (Utf8.decode s p).2) else []
def runes (s : ByteArray) : List Int := runesFrom s s.size 0
def vFrom (s : ByteArray) (p : Nat) : Bool := Lib.validD (s.data.toList.drop p)
def validB (s : ByteArray) : Bool := Lib.validD s.data.toList
theorem data_len (s : ByteArray) : s.data.toList.length = s.size := (Lib.size_eq s).symm
theorem vFrom_zero (s : ByteArray) : vFrom s 0 = validB s := by simp [vFrom, validB]
theorem vFrom_end (s : ByteArray) (p : Nat) (h : ¬ p < s.size) : vFrom s p = true := by
 have : s.data.toList.drop p = [] := List.drop_of_length_le (by rw [data_len]; omega)
 rw [vFrom, this]; rfl
theorem vFrom_step (s : ByteArray) (p : Nat) (h : p < s.size) : vFrom s p = if bad s p then false else vFrom s (p + (Utf8.decode s p).2) := by
 have hne : s.data.toList.drop p ≠ [] := by
  intro e
  have := congrArg List.length e
  rw [List.length_drop, data_len] at this
  simp at this
  omega
 rw [vFrom, Lib.validD_step _ hne, Lib.decodeL_drop, List.drop_drop]
 rfl
theorem vFrom_bad (s : ByteArray) (p : Nat) (h : p < s.size) (hb : bad s p) : vFrom s p = false := by rw [vFrom_step s p h, if_pos hb]
theorem vFrom_good (s : ByteArray) (p : Nat) (h : p < s.size) (hb : ¬ bad s p) : vFrom s (p + (Utf8.decode s p).2) = vFrom s p := by rw [vFrom_step s p h, if_neg hb]
theorem width_le (s : ByteArray) (p : Nat) (h : p < s.size) : 1 ≤ (Utf8.decode s p).2 ∧ p + (Utf8.decode s p).2 ≤ s.size := by
 have hne : s.data.toList.drop p ≠ [] := by
  intro e
  have := congrArg List.length e
  rw [List.length_drop, data_len] at this
  simp at this
  omega
 have h1 := Lib.decodeL_width (s.data.toList.drop p)
 have h2 := Lib.decodeL_le (s.data.toList.drop p) hne
 rw [Lib.decodeL_drop] at h1 h2
 rw [List.length_drop, data_len] at h2
 omega
theorem rune_le (s : ByteArray) (p : Nat) : (Utf8.decode s p).1 ≤ 1114111 := by
 have := Lib.decodeL_rune (s.data.toList.drop p)
 rw [Lib.decodeL_drop] at this
 exact this
theorem runesFrom_end (s : ByteArray) (f p : Nat) (h : ¬ p < s.size) : runesFrom s f p = [] := by
 cases f with
 | zero => rfl
 | succ f => simp [runesFrom, h]
theorem runesFrom_step (s : ByteArray) (f p : Nat) (h : p < s.size) : runesFrom s (f + 1) p = ((Utf8.decode s p).1 : Int) :: runesFrom s f (p + (Utf8.decode s p).2) := by
 simp [runesFrom, h]
theorem runesFrom_le (s : ByteArray) : ∀ f p, (runesFrom s f p).length ≤ f
 | 0, _ => by simp [runesFrom]
 | f + 1, p => by
  by_cases h : p < s.size
  ·rw [runesFrom_step s f p h, List.length_cons]; have := runesFrom_le s f (p + (Utf8.decode s p).2); omega
  ·rw [runesFrom_end s _ p h]; simp
theorem runes_le (s : ByteArray) : (runes s).length ≤ s.size := runesFrom_le s _ _
theorem atW_good (s : ByteArray) (p : Nat) (hb : ¬ bad s p) : atW s p = ((Utf8.decode s p).2 : Int) := by rw [atW, if_neg hb]
theorem atC_good (s : ByteArray) (p : Nat) (hb : ¬ bad s p) : atC s p = ((Utf8.decode s p).1 : Int) := by rw [atC, if_neg hb]
theorem atW_bad (s : ByteArray) (p : Nat) (hb : bad s p) : atW s p = 0 := by rw [atW, if_pos hb]
def decL (s : ByteArray) : List Int := if validB s = true then runes s else []
def decList (s : ByteArray) : List Int := if 65536 < s.size then [] else decL s
def decCode (s : ByteArray) : Int := if 65536 < s.size then 2 else if validB s = true then 0 else 3
end Go.Proofs.YtoinajfliogcdaaDoor

namespace Go.Proofs.YtoinajfliogcdaaDoor
open Go Go.RowKit
set_option linter.unusedVariables false

def Tabs (w : World) : Prop := Lib.Utf8Tabs (Tryd.laysValid_ren.g 3) (Tryd.laysValid_ren.g 4) w
theorem Tabs.below {w w' : World} (h : Tabs w) (hb : Below w.heap.size w w') : Tabs w' := Utf8Tabs_below h hb
theorem valid_any (s : ByteArray) (w : World) (hs : s.size ≤ 1048576) (hT : Tabs w) :
  Calls Tryd.prog 93 #[.string s] w fun e w' => e = .returned (.bool (validB s)) ∧ Below w.heap.size w w' :=
 Any.utf8_ValidString Tryd.laysValid s w (by omega) hT
end Go.Proofs.YtoinajfliogcdaaDoor

namespace Go.Proofs.YtoinajfliogcdaaDoor
open Go Go.RowKit
set_option linter.unusedVariables false

set_option maxHeartbeats 1000000 in
theorem textCode_any (s : ByteArray) (w : World) (hs : s.size ≤ 1048576) (hT : Tabs w) :
  Calls Tryd.prog 50 #[.string s] w fun e w' => e = .returned (.int .i64 (decCode s)) ∧ Below w.heap.size w w' := by
 have HT := hidd hT
 clear hT
 by_cases hlong : 65536 < s.size
 ·have HC : Hid (decCode s = 2) := by show _ = _; rw [decCode, if_pos hlong]
  have hlz : (65536 : Int) < (s.size : Int) := by omega
  go_enter Tryd.func50, Tryd.ntmps50
  go_wp2
  go_ret
  rw [HC.out]
  exact ⟨rfl, Below.refl _ _⟩
 ·have hlz : ¬ (65536 : Int) < (s.size : Int) := by omega
  by_cases hv : validB s = true
  ·have HC : Hid (decCode s = 0) := by show _ = _; rw [decCode, if_neg hlong, if_pos hv]
   go_enter Tryd.func50, Tryd.ntmps50
   go_wp2_with fail
   refine (valid_any s _ hs HT.out).mono ?_
   rintro e w1 ⟨rfl, hb1⟩
   go_wp2
   go_ret
   rw [HC.out]
   exact ⟨rfl, hb1⟩
  ·have hv' : validB s = false := by simpa using hv
   have HC : Hid (decCode s = 3) := by show _ = _; rw [decCode, if_neg hlong, if_neg hv]
   clear hv
   go_enter Tryd.func50, Tryd.ntmps50
   go_wp2_with fail
   refine (valid_any s _ hs HT.out).mono ?_
   rintro e w1 ⟨rfl, hb1⟩
   go_wp2
   go_ret
   rw [HC.out]
   exact ⟨rfl, hb1⟩
end Go.Proofs.YtoinajfliogcdaaDoor
