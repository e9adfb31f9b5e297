import Derived.Test.YtcnjmjcbhelkhaaMergeHitsJ17
import Derived.Test.YtcnjmjcbhelkhaaMergeHitsJ00
import Derived.WalkLawsBesides
import Derived.BigQuiet
import Derived.Deep.QuietTactic
import Derived.Test.YtcnjmjcbhelkhaaProg
import Derived.WalkSpells
namespace Go.Proofs.Ytcnjmjcbhelkhaa
open Go Go.RowKit
set_option linter.unusedVariables false
set_option maxRecDepth 100000
set_option linter.unusedSimpArgs false

/-! The law's comparisons, of what is equal. -/
set_option maxHeartbeats 1000000 in
theorem eqNz_any (a1 a2 : Option Addr) (c1 c2 : Nat) (l : List Int) (w : World) (hn : l.length ≤ 1048576) (h1 : HoldZ w a1 l) (h2 : HoldZ w a2 l) :
    Calls Try.prog 49 #[.slice a1 l.length c1, .slice a2 l.length c2] w fun e w' => e = .returned (.bool true) ∧ Below w.heap.size w w' := by
  have H1 := hidd h1
  have H2 := hidd h2
  clear h1 h2
  go_enter Try.func49, Try.ntmps49
  go_wp2
  go_loopw [5] (fun i wr => ∃ k : Nat, k ≤ l.length ∧ i = .int .i64 k ∧ Below w.heap.size w wr) (fun i _ => l.length - (intOf i).toNat)
  case atStart => exact ⟨0, Nat.zero_le _, rfl, Below.refl _ _⟩
  case round =>
    obtain ⟨k, hk, rfl, hbel⟩ := hrel
    have HB := hidd hbel
    by_cases hlt : k < l.length
    · obtain ⟨b1, o1, rfl, hb1, hc1⟩ := (H1.out.below hbel).resolve_left (fun h => by rw [h] at hlt; simp at hlt)
      obtain ⟨b2, o2, rfl, hb2, hc2⟩ := (H2.out.below hbel).resolve_left (fun h => by rw [h] at hlt; simp at hlt)
      have g1 := hc1 k hlt
      have g2 := hc2 k hlt
      clear hc1 hc2 hbel
      generalize l.getD k 0 = t at g1 g2
      go_wp2
      go_quiet (fail)
      go_wp2
      go_roundw
      case rel => exact ⟨k + 1, by omega, by go_num, below_drewN HB.out _⟩
      case measure => simp [intOf]; omega
    · clear hbel
      go_wp2
      go_ret
      exact ⟨rfl, HB.out⟩
set_option maxHeartbeats 2000000 in
theorem eqFound_any (f : Tx) (z : Int) (n1 n2 : Option Addr) (d1 d2 : Nat) (nz : List Int) (w : World) (hnl : nz.length ≤ 1048576) (h3 : HoldZ w n1 nz) (h4 : HoldZ w n2 nz) :
    Calls Try.prog 25 #[.agg #[.string (bs f), .int .i64 z, .slice n1 nz.length d1], .agg #[.string (bs f), .int .i64 z, .slice n2 nz.length d2]] w fun e w' => e = .returned (.bool true) ∧ Below w.heap.size w w' := by
  have HBa : Hid (Below w.heap.size w ((w.alloc (.cells #[.string (bs f), .int .i64 z, .slice n1 nz.length d1] 47)).alloc (.cells #[.string (bs f), .int .i64 z, .slice n2 nz.length d2] 47))) := ((Below.refl _ _).alloc (Nat.le_refl _) _).alloc (by simp) _
  have HE2 := hidd (fun W (hW : Below w.heap.size w W) => eqNz_any n1 n2 d1 d2 nz W hnl (h3.below hW) (h4.below hW))
  clear h3 h4
  go_enter Try.func25, Try.ntmps25
  go_wp2_with fail
  refine (HE2.out _ HBa.out).mono ?_
  rintro e w4 ⟨rfl, hb4⟩
  have HB4 := hidd (HBa.out.trans (hb4.mono HBa.out.size))
  clear hb4 HE2
  dsimp only
  go_wp2_with fail
  go_ret
  exact ⟨rfl, HB4.out⟩
set_option maxHeartbeats 2000000 in
theorem eqSortKey_any (f : Tx) (d : Bool) (w : World) :
    Calls Try.prog 26 #[.agg #[.string (bs f), .bool d], .agg #[.string (bs f), .bool d]] w fun e w' => e = .returned (.bool true) ∧ Below w.heap.size w w' := by
  have HBa : Hid (Below w.heap.size w ((w.alloc (.cells #[.string (bs f), .bool d] 50)).alloc (.cells #[.string (bs f), .bool d] 50))) := ((Below.refl _ _).alloc (Nat.le_refl _) _).alloc (by simp) _
  go_enter Try.func26, Try.ntmps26
  go_wp2_with fail
  go_ret
  exact ⟨rfl, HBa.out⟩
set_option maxHeartbeats 4000000 in
theorem eqFoundS_any (a1 a2 : Option Addr) (c1 c2 : Nat) (V : List Fd) (w : World) (hn : V.length ≤ 1048576) (hA : ∀ i, (V.getD i fd0).2.2.length ≤ 1048576) (h1 : HoldFd w a1 V) (h2 : HoldFd w a2 V) :
    Calls Try.prog 10 #[.slice a1 V.length c1, .slice a2 V.length c2] w fun e w' => e = .returned (.bool true) ∧ Below w.heap.size w w' := by
  have H1 := hidd h1
  have H2 := hidd h2
  have HA := hidd hA
  clear h1 h2 hA
  go_enter Try.func10, Try.ntmps10
  go_wp2_with fail
  go_loopw [5] (fun iv wr => ∃ k : Nat, k ≤ V.length ∧ iv = .int .i64 (k : Int) ∧ Below w.heap.size w wr) (fun iv _ => V.length - (intOf iv).toNat)
  case atStart => exact ⟨0, Nat.zero_le _, rfl, Below.refl _ _⟩
  case round =>
    obtain ⟨k, hk, rfl, hbel⟩ := hrel
    have HB := hidd hbel
    clear hbel
    by_cases hlt : k < V.length
    · have hkz : (k : Int) < (V.length : Int) := by omega
      obtain ⟨b1, o1, rfl, hb1, hc1⟩ := (H1.out.below HB.out).resolve_left (fun h => by rw [h] at hlt; simp at hlt)
      obtain ⟨b2, o2, rfl, hb2, hc2⟩ := (H2.out.below HB.out).resolve_left (fun h => by rw [h] at hlt; simp at hlt)
      obtain ⟨x0, x1, mi, di, x2, hxz⟩ := hc1 k hlt
      obtain ⟨y0, y1, mj, dj, y2, hyz⟩ := hc2 k hlt
      clear hc1 hc2
      have hal := HA.out k
      generalize V.getD k fd0 = s at *
      obtain ⟨f, z, nz⟩ := s
      dsimp only at x0 x1 x2 y0 y1 y2 hxz hyz hal
      have hbd := below_drewN (Below.refl wr.heap.size wr) 1
      have HC : Hid (Calls Try.prog 25 #[.agg #[.string (bs f), .int .i64 z, .slice mi nz.length di], .agg #[.string (bs f), .int .i64 z, .slice mj nz.length dj]] wr.drew fun e w' => e = .returned (.bool true) ∧ Below wr.drew.heap.size wr.drew w') := eqFound_any f z mi mj di dj nz wr.drew hal (hxz.below hbd) (hyz.below hbd)
      clear hxz hyz hal hbd
      go_wp2_with fail
      go_region_with (go_at_call 25; refine HC.out.mono ?_; rintro e' w3 ⟨rfl, hb3⟩)
      all_goals
        go_wp2_with fail
        go_roundw
        · exact ⟨k + 1, by omega, by go_num, HB.out.trans ((below_drewN (Below.refl _ _) 1).trans hb3 |>.mono HB.out.size)⟩
        · simp [intOf]; omega
    · have hkz : ¬ (k : Int) < (V.length : Int) := by omega
      go_wp2_with fail
      go_ret
      exact ⟨rfl, HB.out⟩
set_option maxHeartbeats 4000000 in
theorem eqFoundSS_any (a1 a2 : Option Addr) (c1 c2 : Nat) (V : List (List Fd)) (w : World) (hn : V.length ≤ 1048576) (hA : ∀ i, (V.getD i []).length ≤ 1048576 ∧ ∀ j, ((V.getD i []).getD j fd0).2.2.length ≤ 1048576) (h1 : HoldFF w a1 V) (h2 : HoldFF w a2 V) :
    Calls Try.prog 11 #[.slice a1 V.length c1, .slice a2 V.length c2] w fun e w' => e = .returned (.bool true) ∧ Below w.heap.size w w' := by
  have H1 := hidd h1
  have H2 := hidd h2
  have HA := hidd hA
  clear h1 h2 hA
  go_enter Try.func11, Try.ntmps11
  go_wp2_with fail
  go_loopw [5] (fun iv wr => ∃ k : Nat, k ≤ V.length ∧ iv = .int .i64 (k : Int) ∧ Below w.heap.size w wr) (fun iv _ => V.length - (intOf iv).toNat)
  case atStart => exact ⟨0, Nat.zero_le _, rfl, Below.refl _ _⟩
  case round =>
    obtain ⟨k, hk, rfl, hbel⟩ := hrel
    have HB := hidd hbel
    clear hbel
    by_cases hlt : k < V.length
    · have hkz : (k : Int) < (V.length : Int) := by omega
      obtain ⟨b1, o1, rfl, hb1, hc1⟩ := (H1.out.below HB.out).resolve_left (fun h => by rw [h] at hlt; simp at hlt)
      obtain ⟨b2, o2, rfl, hb2, hc2⟩ := (H2.out.below HB.out).resolve_left (fun h => by rw [h] at hlt; simp at hlt)
      obtain ⟨mi, di, x0, _, hxz⟩ := hc1 k hlt
      obtain ⟨mj, dj, y0, _, hyz⟩ := hc2 k hlt
      clear hc1 hc2
      have hal := HA.out k
      generalize V.getD k [] = s at *
      have hbd := below_drewN (Below.refl wr.heap.size wr) 1
      have HC : Hid (Calls Try.prog 10 #[.slice mi s.length di, .slice mj s.length dj] wr.drew fun e w' => e = .returned (.bool true) ∧ Below wr.drew.heap.size wr.drew w') := eqFoundS_any mi mj di dj s wr.drew hal.1 hal.2 (hxz.below hbd) (hyz.below hbd)
      clear hxz hyz hal hbd
      go_wp2_with fail
      go_region_with (go_at_call 10; refine HC.out.mono ?_; rintro e' w3 ⟨rfl, hb3⟩)
      all_goals
        go_wp2_with fail
        go_roundw
        · exact ⟨k + 1, by omega, by go_num, HB.out.trans ((below_drewN (Below.refl _ _) 1).trans hb3 |>.mono HB.out.size)⟩
        · simp [intOf]; omega
    · have hkz : ¬ (k : Int) < (V.length : Int) := by omega
      go_wp2_with fail
      go_ret
      exact ⟨rfl, HB.out⟩
set_option maxHeartbeats 4000000 in
theorem eqSortKeyS_any (a1 a2 : Option Addr) (c1 c2 : Nat) (V : List (Tx × Bool)) (w : World) (hn : V.length ≤ 1048576)  (h1 : HoldSK w a1 V) (h2 : HoldSK w a2 V) :
    Calls Try.prog 12 #[.slice a1 V.length c1, .slice a2 V.length c2] w fun e w' => e = .returned (.bool true) ∧ Below w.heap.size w w' := by
  have H1 := hidd h1
  have H2 := hidd h2
  clear h1 h2
  go_enter Try.func12, Try.ntmps12
  go_wp2_with fail
  go_loopw [5] (fun iv wr => ∃ k : Nat, k ≤ V.length ∧ iv = .int .i64 (k : Int) ∧ Below w.heap.size w wr) (fun iv _ => V.length - (intOf iv).toNat)
  case atStart => exact ⟨0, Nat.zero_le _, rfl, Below.refl _ _⟩
  case round =>
    obtain ⟨k, hk, rfl, hbel⟩ := hrel
    have HB := hidd hbel
    clear hbel
    by_cases hlt : k < V.length
    · have hkz : (k : Int) < (V.length : Int) := by omega
      obtain ⟨b1, o1, rfl, hb1, hc1⟩ := (H1.out.below HB.out).resolve_left (fun h => by rw [h] at hlt; simp at hlt)
      obtain ⟨b2, o2, rfl, hb2, hc2⟩ := (H2.out.below HB.out).resolve_left (fun h => by rw [h] at hlt; simp at hlt)
      obtain ⟨x0, x1⟩ := hc1 k hlt
      obtain ⟨y0, y1⟩ := hc2 k hlt
      clear hc1 hc2
      generalize V.getD k ([], false) = s at *
      obtain ⟨f, d⟩ := s
      dsimp only at x0 x1 y0 y1
      have HC : Hid (Calls Try.prog 26 #[.agg #[.string (bs f), .bool d], .agg #[.string (bs f), .bool d]] wr.drew fun e w' => e = .returned (.bool true) ∧ Below wr.drew.heap.size wr.drew w') := eqSortKey_any f d wr.drew
      go_wp2_with fail
      go_region_with (go_at_call 26; refine HC.out.mono ?_; rintro e' w3 ⟨rfl, hb3⟩)
      all_goals
        go_wp2_with fail
        go_roundw
        · exact ⟨k + 1, by omega, by go_num, HB.out.trans ((below_drewN (Below.refl _ _) 1).trans hb3 |>.mono HB.out.size)⟩
        · simp [intOf]; omega
    · have hkz : ¬ (k : Int) < (V.length : Int) := by omega
      go_wp2_with fail
      go_ret
      exact ⟨rfl, HB.out⟩
end Go.Proofs.Ytcnjmjcbhelkhaa

namespace Go.Proofs.Ytcnjmjcbhelkhaa
open Go Go.RowKit
set_option linter.unusedVariables false

/-- The digits of a number, behind what is there. -/
def mkD : Nat → Nat → List UInt8 → List UInt8
  | 0, _, out => out
  | f + 1, k, out => if k = 0 then out else mkD f (k / 10) ((48 + UInt8.ofNat (k % 10)) :: out)
def mkText (k : Int) : ByteArray := if k ≤ 0 then ⟨#[109, 48]⟩ else ⟨(109 :: mkD k.toNat k.toNat []).toArray⟩
theorem mkD_zero (f : Nat) (out : List UInt8) : mkD f 0 out = out := by cases f <;> simp [mkD]
theorem ba_cons (b : UInt8) (l : List UInt8) : (⟨#[b]⟩ : ByteArray) ++ ⟨l.toArray⟩ = ⟨(b :: l).toArray⟩ := by
  apply ByteArray.ext
  simp
theorem digit_nat (n : Nat) : ((48 + UInt8.ofNat (n % 10)).toNat : Int) = 48 + (n : Int) % 10 := by
  have h : n % 10 < 10 := Nat.mod_lt _ (by omega)
  rw [UInt8.toNat_add, UInt8.toNat_ofNat']
  have e : (48 : UInt8).toNat = 48 := rfl
  rw [e]
  omega
set_option maxHeartbeats 1000000 in
theorem markText_any (k : Int) (w : World) (h0 : 1 ≤ k) (h1 : k ≤ 4398046511104) :
    Calls Try.prog 27 #[.int .i64 k] w fun e w' => e = .returned (.string (mkText k)) ∧ Below w.heap.size w w' := by
  have HT : Hid (mkText k = ⟨(109 :: mkD k.toNat k.toNat []).toArray⟩) := by show _ = _; rw [mkText, if_neg (by omega)]
  obtain ⟨K, rfl⟩ := Int.eq_ofNat_of_zero_le (by omega : 0 ≤ k)
  rw [Int.toNat_natCast] at HT
  obtain ⟨A, hA⟩ : ∃ A, A = mkD K K [] := ⟨_, rfl⟩
  rw [← hA] at HT
  have HS : Hid (mkD K K [] = A) := hA.symm
  clear hA
  go_enter Try.func27, Try.ntmps27
  go_wp2
  go_loopw [0, 3] (fun kv ov wr => ∃ (n f : Nat) (out : List UInt8), n ≤ K ∧ n ≤ f ∧ out.length + f ≤ K ∧ kv = .int .i64 (n : Int) ∧ ov = .string ⟨out.toArray⟩ ∧ mkD f n out = A ∧ Below w.heap.size w wr) (fun kv _ _ => (intOf kv).toNat)
  case atStart => exact ⟨K, K, [], Nat.le_refl _, Nat.le_refl _, by simp, rfl, rfl, HS.out, Below.refl _ _⟩
  case round =>
    obtain ⟨n, f, out, hn, hnf, hof, rfl, rfl, hd, hbel⟩ := hrel
    by_cases hp : 0 < n
    · obtain ⟨g, rfl⟩ : ∃ g, f = g + 1 := ⟨f - 1, by omega⟩
      have Hd : Hid (mkD g (n / 10) ((48 + UInt8.ofNat (n % 10)) :: out) = A) := by show _ = _; rw [mkD, if_neg (by omega)] at hd; exact hd
      clear hd
      have hcv : ∀ (wx : World), (convert 89 9 (.slice (some ⟨wr.heap.size, 0, none⟩) 1 1)).run Try.prog (wr.alloc (.cells #[.int .u8 (48 + (n : Int) % 10)] 5)) = .ok (.string ⟨#[48 + UInt8.ofNat (n % 10)]⟩) (wr.alloc (.cells #[.int .u8 (48 + (n : Int) % 10)] 5)) := fun wx => by
        refine run_convert_bytes_back _ 89 9 5 ⟨wr.heap.size, 0, none⟩ 1 [48 + UInt8.ofNat (n % 10)] Try.underlying89 Try.underlying5 Try.underlying9 fun j hj => ?_
        obtain rfl : j = 0 := by simpa using hj
        rw [add_head, World.cell?_alloc_at (hn := rfl)]
        have hd := digit_nat n
        simp only [List.getElem_cons_zero]
        rw [hd]
        simp
      have hcv1 := hcv wr
      clear hcv
      go_wp2
      go_roundw
      case rel => exact ⟨n / 10, g, (48 + UInt8.ofNat (n % 10)) :: out, by omega, by omega, by rw [List.length_cons]; omega, by go_num, by rw [ba_cons], Hd.out, hbel.alloc hbel.size _⟩
      case measure => simp [intOf]; omega
    · have HN : Hid (n = 0) := by show n = 0; omega
      have HA : Hid (A = out) := by show _ = _; rw [← hd, HN.out, mkD_zero]
      clear hd
      go_wp2
      go_ret
      rw [HT.out, HA.out, ← ba_cons]
      exact ⟨rfl, hbel⟩
end Go.Proofs.Ytcnjmjcbhelkhaa

namespace Go.Proofs.Ytcnjmjcbhelkhaa
open Go Go.RowKit
set_option linter.unusedVariables false
set_option maxRecDepth 100000
set_option linter.unusedSimpArgs false

/-! The law's marks over its copies. -/
/-- What writing over the blocks from lo to hi leaves: the others, every block's type and size, the sort values' rows, the rows' rows. -/
structure Fw (lo hi : Nat) (w w' : World) : Prop where
  os : w'.os = w.os
  tape : w'.tape = w.tape
  output : w'.output = w.output
  size : w.heap.size ≤ w'.heap.size
  out : ∀ b, (b < lo ∨ hi ≤ b) → b < w.heap.size → w'.heap[b]? = w.heap[b]?
  shp : ∀ (b : Nat) (cur : Array Value) (t : TypeId), w.heap[b]? = some (Obj.cells cur t) → ∃ cur', w'.heap[b]? = some (Obj.cells cur' t) ∧ cur'.size = cur.size ∧ (t = 47 → ∀ j : Nat, cur'[j * 3 + 2]? = cur[j * 3 + 2]?) ∧ (t = 26 → cur' = cur)
theorem Fw.refl (lo hi : Nat) (w : World) : Fw lo hi w w := ⟨rfl, rfl, rfl, Nat.le_refl _, fun _ _ _ => rfl, fun b cur t h => ⟨cur, h, rfl, fun _ _ => rfl, fun _ => rfl⟩⟩
theorem Fw.trans {lo hi : Nat} {a b c : World} (h : Fw lo hi a b) (k : Fw lo hi b c) : Fw lo hi a c := by
  refine ⟨k.os.trans h.os, k.tape.trans h.tape, k.output.trans h.output, Nat.le_trans h.size k.size, fun x hx hl => (k.out x hx (Nat.lt_of_lt_of_le hl h.size)).trans (h.out x hx hl), fun x cur t hc => ?_⟩
  obtain ⟨c1, h1, h2, h3, h4⟩ := h.shp x cur t hc
  obtain ⟨c2, k1, k2, k3, k4⟩ := k.shp x c1 t h1
  exact ⟨c2, k1, k2.trans h2, fun e j => (k3 e j).trans (h3 e j), fun e => (k4 e).trans (h4 e)⟩
theorem Fw.of {lo hi : Nat} {w w' : World} (h : Below w.heap.size w w') : Fw lo hi w w' := ⟨h.os, h.tape, h.output, h.size, fun b _ hb => h.block b hb, fun b cur t hc => ⟨cur, blko hc h, rfl, fun _ _ => rfl, fun _ => rfl⟩⟩
theorem Fw.set {lo hi b i : Nat} {w : World} {cur : Array Value} {t : TypeId} (u : Value) (hb : w.heap[b]? = some (Obj.cells cur t)) (h1 : lo ≤ b) (h2 : b < hi) (ht : t ≠ 26) (hi' : t = 47 → i % 3 ≠ 2) : Fw lo hi w (w.setCell ⟨b, i, none⟩ u) := by
  refine ⟨rfl, rfl, rfl, by simp, fun x hx _ => heap_set_other w b i u x (by omega), fun x c t' hc => ?_⟩
  by_cases e : x = b
  · subst e
    rw [hb] at hc
    injection hc with hc
    injection hc with e1 e2
    subst e1 e2
    refine ⟨_, blk_setk hb i u, by simp, fun e j => ?_, fun e => absurd e ht⟩
    rw [Array.getElem?_setIfInBounds_ne (by have := hi' e; omega)]
  · exact ⟨c, (heap_set_other w b i u x e).trans hc, rfl, fun _ _ => rfl, fun _ => rfl⟩
def RowN (w : World) (g n : Nat) (ty : TypeId) : Prop := ∃ cur, w.heap[g]? = some (Obj.cells cur ty) ∧ n ≤ cur.size
theorem RowN.fw {lo hi g n : Nat} {w w' : World} {ty : TypeId} (h : RowN w g n ty) (hf : Fw lo hi w w') : RowN w' g n ty := by
  obtain ⟨cur, h1, h2⟩ := h
  obtain ⟨c1, k1, k2, _⟩ := hf.shp g cur ty h1
  exact ⟨c1, k1, by omega⟩
theorem RowN.cell {W : World} {b n : Nat} {ty : TypeId} (h : RowN W b n ty) {j : Nat} (hj : j < n) : (∃ u, W.cell? ⟨b, j, none⟩ = some u) ∧ W.frozen? ⟨b, j, none⟩ = false := by
  obtain ⟨cur, h1, h2⟩ := h
  refine ⟨⟨cur[j]'(by omega), ?_⟩, blkf h1 j⟩
  rw [blkc h1 j]
  exact Array.getElem?_eq_getElem (by omega)
set_option maxHeartbeats 2000000 in
theorem markNz_any (lo hi b n c : Nat) (k : Nat) (w : World) (h1 : lo ≤ b) (h2 : b < hi) (hn : n ≤ 1048576) (hk : k ≤ 3298534883328) (hr : RowN w b n 3) :
    Calls Try.prog 28 #[.slice (some ⟨b, 0, none⟩) n c, .int .i64 (k : Int)] w fun e w' => e = .returned (.int .i64 ((k + n : Nat) : Int)) ∧ Fw lo hi w w' := by
  have HR := hidd hr
  clear hr
  go_enter Try.func28, Try.ntmps28
  go_wp2
  go_loopw [1, 5] (fun kv iv wr => ∃ i : Nat, i ≤ n ∧ iv = .int .i64 (i : Int) ∧ kv = .int .i64 ((k + i : Nat) : Int) ∧ Fw lo hi w wr) (fun _ iv _ => n - (intOf iv).toNat)
  case atStart => exact ⟨0, Nat.zero_le _, rfl, by simp, Fw.refl _ _ _⟩
  case round =>
    obtain ⟨i, hi, rfl, rfl, hfz⟩ := hrel
    have HF := hidd hfz
    clear hfz
    by_cases hlt : i < n
    · have hltz : (i : Int) < (n : Int) := by omega
      obtain ⟨K, hK⟩ : ∃ K, k + i = K := ⟨_, rfl⟩
      have HK := hidd hK
      have hKl : K ≤ 3298535931904 := by omega
      try rw [hK]
      clear hK
      have hr2 := HR.out.fw HF.out
      obtain ⟨⟨u0, q0⟩, f0⟩ := hr2.cell hlt
      obtain ⟨cur, hc, hcs⟩ := hr2
      have HS := hidd (Fw.set (i := i) (.int .i64 (K : Int)) hc h1 h2 (by decide) (fun e => absurd e (by decide)))
      clear hc
      go_wp2_with fail
      go_roundw
      case rel =>
        refine ⟨i + 1, by omega, by go_num, ?_, HF.out.trans HS.out⟩
        have := HK.out
        first | (congr 1; omega) | go_num
      case measure => simp [intOf]; omega
    · have hltz : ¬ (i : Int) < (n : Int) := by omega
      obtain rfl : i = n := by omega
      go_wp2
      go_ret
      exact ⟨rfl, HF.out⟩
end Go.Proofs.Ytcnjmjcbhelkhaa
