import Derived.Test.YtpdiaddgialanaaGreatDoorLogJ13
import Derived.Test.YtpdiaddgialanaaGreatDoorProg
import Derived.Test.YtpdiaddgialanaaGreatDoorLogJ00
import Derived.Maps.AppendAt
import Derived.Lib.BufferWrite
import Derived.WalkLawsBesides
import Derived.Laws.BitsAllLaws
import Derived.BigQuiet
import Derived.Deep.QuietTactic
import Derived.Test.YtpdiaddgialanaaGreatDoorLogJ01
import Derived.Deep.AppendLies
import Derived.Deep.RegionLaw
import Derived.Deep.CutBlock
import Derived.Deep.RegionHeld3
import Derived.Deep.DeepCutAuto
namespace Go.Proofs.YtpdiaddgialanaaGreatDoor
open Go
set_option linter.unusedVariables false

/-- The number that v stands for. -/
def sgn (v : Nat) : Int := if v % 2 = 1 then -(((v + 1) / 2 : Nat) : Int) else ((v / 2 : Nat) : Int)
/-- Reading a document's bytes, in plain words: what was read and what is left; none where they do not go on. -/
def rdN (most : Nat) (bs : List UInt8) : Option (Nat × List UInt8) := match getL bs with
  | none => none
  | some (v, s) => if v ≤ most then some (v, bs.drop s) else none
def rdT (bs : List UInt8) : Option (List UInt8 × List UInt8) := match rdN 65536 bs with
  | none => none
  | some (n, r) => if n ≤ r.length then some (r.take n, r.drop n) else none
def rdTs : Nat → List UInt8 → Option (List (List UInt8) × List UInt8)
  | 0, bs => some ([], bs)
  | k + 1, bs => match rdT bs with
    | none => none
    | some (t, r) => match rdTs k r with
      | none => none
      | some (ts, r') => some (t :: ts, r')
def rdZs : Nat → List UInt8 → Option (List Int × List UInt8)
  | 0, bs => some ([], bs)
  | k + 1, bs => match rdN 2000000000000 bs with
    | none => none
    | some (v, r) => match rdZs k r with
      | none => none
      | some (zs, r') => some (sgn v :: zs, r')
def rdV (bs : List UInt8) : Option ((List UInt8 × List (List UInt8) × List Int) × List UInt8) := match rdT bs with
  | none => none
  | some (f, r1) => match rdN 4096 r1 with
    | none => none
    | some (n, r2) => match rdTs n r2 with
      | none => none
      | some (tx, r3) => match rdN 4096 r3 with
        | none => none
        | some (m, r4) => match rdZs m r4 with
          | none => none
          | some (zs, r5) => some ((f, tx, zs), r5)
def rdVs : Nat → List UInt8 → Option (List (List UInt8 × List (List UInt8) × List Int) × List UInt8)
  | 0, bs => some ([], bs)
  | k + 1, bs => match rdV bs with
    | none => none
    | some (v, r) => match rdVs k r with
      | none => none
      | some (vs, r') => some (v :: vs, r')
def rdD (bs : List UInt8) : Option ((List UInt8 × List (List UInt8 × List (List UInt8) × List Int)) × List UInt8) := match rdT bs with
  | none => none
  | some (i, r1) => match rdN 4096 r1 with
    | none => none
    | some (n, r2) => match rdVs n r2 with
      | none => none
      | some (V, r3) => some ((i, V), r3)
/-- The document that these bytes are. -/
def readO (bs : List UInt8) : Option (List UInt8 × List (List UInt8 × List (List UInt8) × List Int)) := match rdD bs with
  | some (d, []) => some d
  | _ => none
theorem rdN_len {most : Nat} {bs : List UInt8} {v : Nat} {r : List UInt8} (h : rdN most bs = some (v, r)) : r.length < bs.length ∧ v ≤ most := by
  unfold rdN at h
  cases hg : getL bs with
  | none => rw [hg] at h; simp at h
  | some p =>
    obtain ⟨v', s⟩ := p
    rw [hg] at h
    have hs := getL_le hg
    simp only at h
    split at h
    · rename_i hle
      simp only [Option.some.injEq, Prod.mk.injEq] at h
      obtain ⟨rfl, rfl⟩ := h
      exact ⟨by rw [List.length_drop]; omega, hle⟩
    · simp at h
theorem rdT_len {bs t r : List UInt8} (h : rdT bs = some (t, r)) : r.length + t.length < bs.length ∧ t.length ≤ 65536 := by
  unfold rdT at h
  cases hg : rdN 65536 bs with
  | none => rw [hg] at h; simp at h
  | some p =>
    obtain ⟨n, r'⟩ := p
    rw [hg] at h
    have hs := rdN_len hg
    simp only at h
    split at h
    · rename_i hle
      simp only [Option.some.injEq, Prod.mk.injEq] at h
      obtain ⟨rfl, rfl⟩ := h
      simp only [List.length_drop, List.length_take]
      omega
    · simp at h
theorem rdTs_len : ∀ (k : Nat) {bs : List UInt8} {ts : List (List UInt8)} {r : List UInt8}, rdTs k bs = some (ts, r) → ts.length = k ∧ r.length ≤ bs.length ∧ ∀ t ∈ ts, t.length ≤ 65536
  | 0, bs, ts, r, h => by simp only [rdTs, Option.some.injEq, Prod.mk.injEq] at h; obtain ⟨rfl, rfl⟩ := h; simp
  | k + 1, bs, ts, r, h => by
    simp only [rdTs] at h
    cases h1 : rdT bs with
    | none => rw [h1] at h; simp at h
    | some p =>
      obtain ⟨t, r1⟩ := p
      rw [h1] at h
      simp only at h
      cases h2 : rdTs k r1 with
      | none => rw [h2] at h; simp at h
      | some q =>
        obtain ⟨ts', r2⟩ := q
        rw [h2] at h
        simp only [Option.some.injEq, Prod.mk.injEq] at h
        obtain ⟨rfl, rfl⟩ := h
        have a := rdT_len h1
        have b := rdTs_len k h2
        refine ⟨by simp [b.1], by omega, fun t' ht => ?_⟩
        rcases List.mem_cons.1 ht with rfl | ht
        · omega
        · exact b.2.2 t' ht
theorem rdZs_len : ∀ (k : Nat) {bs : List UInt8} {ts : List Int} {r : List UInt8}, rdZs k bs = some (ts, r) → ts.length = k ∧ r.length ≤ bs.length
  | 0, bs, ts, r, h => by simp only [rdZs, Option.some.injEq, Prod.mk.injEq] at h; obtain ⟨rfl, rfl⟩ := h; simp
  | k + 1, bs, ts, r, h => by
    simp only [rdZs] at h
    cases h1 : rdN 2000000000000 bs with
    | none => rw [h1] at h; simp at h
    | some p =>
      obtain ⟨t, r1⟩ := p
      rw [h1] at h
      simp only at h
      cases h2 : rdZs k r1 with
      | none => rw [h2] at h; simp at h
      | some q =>
        obtain ⟨ts', r2⟩ := q
        rw [h2] at h
        simp only [Option.some.injEq, Prod.mk.injEq] at h
        obtain ⟨rfl, rfl⟩ := h
        have a := rdN_len h1
        have b := rdZs_len k h2
        exact ⟨by simp [b.1], by omega⟩
end Go.Proofs.YtpdiaddgialanaaGreatDoor

namespace Go.Proofs.YtpdiaddgialanaaGreatDoor
open Go Go.RowKit
set_option linter.unusedVariables false
theorem Tryz.infoByte : (Tryz.prog.info? 5).map (fun i => (i.zero, i.size, i.bytes)) = some (some (.int .u8 0), 1, 1) := by kernel_rfl
/-- A row of one's own that has grown: what lay elsewhere lies as it lay; the row lies in the old block or in a new one. -/
def Grew (w w' : World) (v v' : Value) : Prop := w.grownBy w' v.ownBlock ∧ (v'.ownBlock = v.ownBlock ∨ ∃ k, v'.ownBlock = some k ∧ w.heap.size ≤ k)
theorem Grew.refl (w : World) (v : Value) : Grew w w v v := ⟨grown_refl _ _, Or.inl rfl⟩
theorem Grew.trans {a b c : World} {u v x : Value} (h : Grew a b u v) (k : Grew b c v x) : Grew a c u x := by
  obtain ⟨h1, h2⟩ := h
  obtain ⟨k1, k2⟩ := k
  refine ⟨⟨k1.os.trans h1.os, k1.tape.trans h1.tape, k1.output.trans h1.output, Nat.le_trans h1.size k1.size, fun i hi hne => ?_⟩, ?_⟩
  · refine (k1.block i (Nat.lt_of_lt_of_le hi h1.size) ?_).trans (h1.block i hi hne)
    rcases h2 with e | ⟨k, e, hk⟩
    · rw [e]; exact hne
    · rw [e]; intro e2; cases e2; omega
  · rcases k2 with e | ⟨k, e, hk⟩
    · rw [e]
      rcases h2 with e2 | ⟨k', e2, hk'⟩
      · exact Or.inl e2
      · exact Or.inr ⟨k', e2, hk'⟩
    · exact Or.inr ⟨k, e, Nat.le_trans h1.size hk⟩
theorem Grew.alloc {a b : World} {u v : Value} (h : Grew a b u v) (o : Obj) : Grew a (b.alloc o) u v :=
  ⟨⟨h.1.os, h.1.tape, h.1.output, by have := h.1.size; simp; omega, fun i hi hne => by rw [Below.heap_alloc _ _ _ (Nat.lt_of_lt_of_le hi h.1.size)]; exact h.1.block i hi hne⟩, h.2⟩
theorem Grew.below {a b : World} {u v : Value} {base e n : Nat} {xs : List Value} (h : Grew a b u v) (hb : base ≤ a.heap.size) (ho : a.ownsRow base e 1 u n xs) : Below base a b :=
  (Below.refl _ _).grown h.1 hb (own_block ho)
theorem Grew.of {w w1 w' : World} {v v' : Value} (h1 : Grew w w1 v v) (hg : w1.grownBy w' v.ownBlock) (ha : v'.ownBlock = v.ownBlock ∨ v'.ownBlock = some w1.heap.size) : Grew w w' v v' := by
  refine h1.trans ⟨hg, ?_⟩
  rcases ha with e | e
  · exact Or.inl e
  · exact Or.inr ⟨_, e, Nat.le_refl _⟩
theorem byte_cell1 (x : Nat) (h : x < 256) : Lib.byteCells [UInt8.ofNat x] = [Value.int .u8 (x : Int)] := by
  simp [Lib.byteCells]; omega
theorem byteCells_at (l : List UInt8) (j : Nat) (h : j < l.length) : (Lib.byteCells l)[j]? = some (.int .u8 ((l.getD j 0).toNat : Int)) := by
  simp [Lib.byteCells, h]
/-- A slice of bytes as it lies in a world. -/
def BytesAt (w : World) (b off : Nat) (bs : List UInt8) : Prop := ∀ t, t < bs.length → w.cell? ⟨b, off + t, none⟩ = some (.int .u8 ((bs.getD t 0).toNat : Int))
theorem BytesAt.below {w w' : World} {b off : Nat} {bs : List UInt8} (h : BytesAt w b off bs) (hb : Below w.heap.size w w') : BytesAt w' b off bs :=
  fun t ht => (hb.cell (p := ⟨b, off + t, none⟩) (cell_lt (h t ht))).trans (h t ht)
theorem own_bytes {w : World} {base e g n cap : Nat} {l : List UInt8} (h : w.ownsRow base e 1 (.slice (some ⟨g, 0, none⟩) n cap) n (Lib.byteCells l)) (hl : l.length = n) : BytesAt w g 0 l := by
  intro t ht
  rw [Nat.zero_add, h.cellAt t (by omega)]
  exact byteCells_at l t ht
end Go.Proofs.YtpdiaddgialanaaGreatDoor

namespace Go.Proofs.YtpdiaddgialanaaGreatDoor
open Go Go.RowKit
set_option linter.unusedVariables false

set_option maxHeartbeats 1000000 in
set_option maxRecDepth 100000 in
theorem appendInt_any (base n : Nat) (v : Value) (l : List UInt8) (x : Nat) (w : World) (hx : x < 4611686018427387904) (hl : l.length = n) (hn : n ≤ 1099511627776) (hb : base ≤ w.heap.size) (h : w.ownsRow base 5 1 v n (Lib.byteCells l)) :
    Calls Tryz.prog 40 #[v, .int .i64 (x : Int)] w fun e w' => ∃ v', e = .returned v' ∧ w'.ownsRow base 5 1 v' (n + (putL x).length) (Lib.byteCells (l ++ putL x)) ∧ Grew w w' v v' ∧ v' ≠ .slice none 0 0 := by
  obtain ⟨i0, hi, hz0, hz1, hz2⟩ := info_parts Tryz.infoByte
  have HO := hidd h
  clear h
  go_enter Tryz.func40, Tryz.ntmps40
  go_wp2
  go_loopw [0, 5] (fun u r wr => ∃ (y : Nat) (q : List UInt8), y ≤ x ∧ r = .int .u64 (y : Int) ∧ q ++ putL y = l ++ putL x ∧ wr.ownsRow base 5 1 u q.length (Lib.byteCells q) ∧ Grew w wr v u) (fun _ r _ => (intOf r).toNat)
  case atStart => exact ⟨x, l, Nat.le_refl _, by go_num, rfl, by rw [hl]; exact HO.out, Grew.refl _ _⟩
  case round =>
    obtain ⟨y, q, hy, rfl, hq, hown, hg⟩ := hrel
    have HO2 := hidd hown
    have HG := hidd hg
    have Hq := hidd hq
    have hlen : q.length ≤ n + 9 := by
      have := congrArg List.length hq
      rw [List.length_append, List.length_append] at this
      have := putL_length9 x hx
      have := putL_pos y
      omega
    clear hown hg hq
    by_cases hlt : y < 128
    · have hlz : ¬ (127 : Int) < (y : Int) := by omega
      go_wp2_with (at_builtin; refine wpList_append_own_at _ rfl _ _ 22 rfl base 5 i0 (.int .u8 0) 1 1 Tryz.underlying22 hi hz0 hz1 hz2 rfl (by decide) _ _ _ rfl (HO2.out.alloc _) ⟨wr.heap.size, 0, none⟩ 1 1 [.int .u8 (y : Int)] rfl rfl ?c1 ?c2 ?c3 ?c4 ?c5 ?_)
      try case c1 =>
        intro j u hj
        match j, hj with
        | 0, hj => simp at hj; subst hj; simp [Addr.add]
      case c2 => first | rfl | (intro u hu; simp at hu; subst hu; rfl)
      case c3 => unfold maxLen; omega
      case c4 => omega
      case c5 => have := HG.out.1.size; simp; omega
      intro v' w5 hown' hgrow hne hat
      have R : Hid (w5.ownsRow base 5 1 v' (n + (putL x).length) (Lib.byteCells (l ++ putL x)) ∧ Grew w w5 v v' ∧ v' ≠ .slice none 0 0) := by
        refine ⟨?_, HG.out.trans (((Grew.refl wr u0).alloc _).of hgrow (by simpa using hat)), ?_⟩
        · rw [← Hq.out, putL_small y hlt, Lib.byteCells_append, byte_cell1 y (by omega)]
          have e : n + (putL x).length = q.length + 1 := by
            have := congrArg List.length Hq.out
            rw [List.length_append, List.length_append, putL_small y hlt] at this
            simp at this; omega
          rw [e]; exact hown'
        · first | exact hne | (intro e; have := (hne.1 e).2; omega)
      clear hown' hgrow hat hne
      go_wp2
      go_ret
      exact ⟨_, rfl, R.out.1, R.out.2.1, R.out.2.2⟩
    · have hlz : (127 : Int) < (y : Int) := by omega
      obtain ⟨z, hz, hbz⟩ : ∃ z : Nat, z = 128 + y % 128 ∧ bits .or .u64 (bits .and .u64 (y : Int) 127) 128 = (z : Int) := by
        refine ⟨_, rfl, ?_⟩
        have h1 : bits .and .u64 (y : Int) 127 = ((y % 128 : Nat) : Int) := by
          have := u64_and_nat y 127 (by omega) (by omega)
          rw [nat_mask7] at this
          exact this
        have h2 : bits .or .u64 ((y % 128 : Nat) : Int) 128 = ((128 + y % 128 : Nat) : Int) := by
          have h3 := u64_or_nat (y % 128) 128 (by omega) (by omega)
          rw [Nat.or_comm, nat_join 7 128 (y % 128) (by decide) (by omega)] at h3
          exact h3
        rw [h1, h2]
      have hz256 : z < 256 := by omega
      have Hz := hidd hz
      clear hz
      go_wp2_with (at_builtin; refine wpList_append_own_at _ rfl _ _ 22 rfl base 5 i0 (.int .u8 0) 1 1 Tryz.underlying22 hi hz0 hz1 hz2 rfl (by decide) _ _ _ rfl (HO2.out.alloc _) ⟨wr.heap.size, 0, none⟩ 1 1 [.int .u8 (z : Int)] rfl rfl ?d1 ?d2 ?d3 ?d4 ?d5 ?_)
      try case d1 =>
        intro j u hj
        match j, hj with
        | 0, hj => simp at hj; subst hj; simp [Addr.add]
      case d2 => first | rfl | (intro u hu; simp at hu; subst hu; rfl)
      case d3 => unfold maxLen; omega
      case d4 => omega
      case d5 => have := HG.out.1.size; simp; omega
      intro v' w5 hown' hgrow hne hat
      have R : Hid (w5.ownsRow base 5 1 v' (q ++ [UInt8.ofNat (128 + y % 128)]).length (Lib.byteCells (q ++ [UInt8.ofNat (128 + y % 128)])) ∧ Grew w w5 v v' ∧ (q ++ [UInt8.ofNat (128 + y % 128)]) ++ putL (y / 128) = l ++ putL x) := by
        refine ⟨?_, HG.out.trans (((Grew.refl wr u0).alloc _).of hgrow (by simpa using hat)), ?_⟩
        · rw [Lib.byteCells_append, byte_cell1 _ (by omega), List.length_append, ← Hz.out]
          exact hown'
        · rw [← Hq.out, putL_big y hlt]; simp
      clear hown' hgrow hat hne HG HO2 Hq
      go_wp2
      go_roundw
      case rel => exact ⟨y / 128, _, by omega, by go_num, R.out.2.2, R.out.1, R.out.2.1⟩
      case measure => simp [intOf]; omega
end Go.Proofs.YtpdiaddgialanaaGreatDoor

namespace Go.Proofs.YtpdiaddgialanaaGreatDoor
open Go Go.RowKit
set_option linter.unusedVariables false

set_option maxHeartbeats 1000000 in
set_option maxRecDepth 100000 in
theorem specPut_any (x : Nat) : ∀ (w : World), x < 4611686018427387904 →
    Calls Tryz.prog 46 #[.int .i64 (x : Int)] w fun e w' => ∃ g cap, e = .returned (.slice (some ⟨g, 0, none⟩) (putL x).length cap) ∧ w'.ownsRow w.heap.size 5 1 (.slice (some ⟨g, 0, none⟩) (putL x).length cap) (putL x).length (Lib.byteCells (putL x)) ∧ Below w.heap.size w w' := by
  obtain ⟨i0, hi, hz0, hz1, hz2⟩ := info_parts Tryz.infoByte
  induction x using Nat.strongRecOn with
  | _ x ih =>
    intro w hx
    by_cases hlt : x < 128
    · have hlz : (x : Int) < 128 := by omega
      have Hp := hidd (putL_small x hlt)
      clear ih
      go_enter Tryz.func46, Tryz.ntmps46
      go_wp2
      go_ret
      refine ⟨w.heap.size, 1, ?_, ?_, (Below.refl _ _).alloc (Nat.le_refl _) _⟩
      · rw [Hp.out]; rfl
      · rw [Hp.out, byte_cell1 x (by omega)]
        have := World.ownsRow_lit (base := w.heap.size) (e := 5) (size := 1) w #[.int .u8 (x : Int)] 1 (Nat.le_refl _) (by unfold maxLen; omega) (by simp)
        simpa using this
    · have hlz : ¬ (x : Int) < 128 := by omega
      have IH := hidd (ih (x / 128) (by omega))
      clear ih
      have Hp := hidd (putL_big x hlt)
      go_enter Tryz.func46, Tryz.ntmps46
      go_wp2_with fail
      refine (IH.out _ (by omega)).mono ?_
      rintro e w1 ⟨g, cap, rfl, ho, hbl⟩
      have hL : (w.alloc (.cells #[Value.int .u8 (128 + (x : Int) % 128)] 5)).ownsRow w.heap.size 5 1 (.slice (some ⟨w.heap.size, 0, none⟩) 1 1) 1 [.int .u8 (128 + (x : Int) % 128)] := by
        have := World.ownsRow_lit (base := w.heap.size) (e := 5) (size := 1) w #[.int .u8 (128 + (x : Int) % 128)] 1 (Nat.le_refl _) (by unfold maxLen; omega) (by simp)
        simpa using this
      have HL := hidd (own_below hL hbl)
      have HO := hidd ho
      have HB : Hid (Below w.heap.size w w1) := ((Below.refl _ _).alloc (Nat.le_refl _) _).trans (hbl.mono (by simp))
      have Hc : Hid (∀ j u, (Lib.byteCells (putL (x / 128)))[j]? = some u → w1.cell? ((⟨g, 0, none⟩ : Addr).add j) = some u) := by
        intro j u hj
        rw [add_head, ho.cellAt j (by have := (List.getElem?_eq_some_iff.1 hj).1; rw [Lib.byteCells_length] at this; omega)]
        exact hj
      have hp9 := putL_length9 (x / 128) (by omega)
      have hsz := HB.out.size
      clear hL ho hbl
      go_wp2_with (at_builtin; refine wpList_append_own_at _ rfl _ _ 22 rfl w.heap.size 5 i0 (.int .u8 0) 1 1 Tryz.underlying22 hi hz0 hz1 hz2 rfl (by decide) _ _ _ rfl HL.out ⟨g, 0, none⟩ (putL (x / 128)).length cap (Lib.byteCells (putL (x / 128))) rfl (by rw [Lib.byteCells_length, Nat.mul_one]) Hc.out (Lib.byteCells_one _) ?c3 ?c4 ?c5 ?_)
      case c3 => unfold maxLen; omega
      case c4 => omega
      case c5 => exact hsz
      intro v' w5 hown' hgrow hne hat
      have R : Hid (w5.ownsRow w.heap.size 5 1 v' (putL x).length (Lib.byteCells (putL x)) ∧ Below w.heap.size w w5) := by
        refine ⟨?_, HB.out.grown hgrow hsz (own_block HL.out)⟩
        have e1 : (putL x).length = 1 + (putL (x / 128)).length := by rw [Hp.out, List.length_cons]; omega
        have e2 : Lib.byteCells (putL x) = [.int .u8 (128 + (x : Int) % 128)] ++ Lib.byteCells (putL (x / 128)) := by
          rw [Hp.out]
          show Lib.byteCells ([UInt8.ofNat (128 + x % 128)] ++ putL (x / 128)) = _
          rw [Lib.byteCells_append, byte_cell1 _ (by omega)]
          simp
        rw [e1, e2]; exact hown'
      clear hown' hgrow hat HL HO HB Hc
      have hpos := putL_pos x
      rcases own_cases R.out.1 with ⟨rfl, h0⟩ | ⟨g2, cap2, rfl, _, _⟩
      · omega
      · go_wp2
        go_ret
        exact ⟨g2, cap2, rfl, R.out.1, R.out.2⟩
end Go.Proofs.YtpdiaddgialanaaGreatDoor

namespace Go.Proofs.YtpdiaddgialanaaGreatDoor
open Go Go.RowKit
set_option linter.unusedVariables false

theorem foldl_snoc (f : Nat → UInt8 → Nat) (h0 : Nat) (bs : List UInt8) (k : Nat) (h : k < bs.length) : (bs.take (k + 1)).foldl f h0 = f ((bs.take k).foldl f h0) (bs.getD k 0) := by
  have ht : bs.take (k + 1) = bs.take k ++ [bs.getD k 0] := by rw [List.take_succ_eq_append_getElem h]; simp [h]
  rw [ht, List.foldl_append]
  simp only [List.foldl_cons, List.foldl_nil]
theorem foldl_below (f : Nat → UInt8 → Nat) (n : Nat) (hf : ∀ h b, f h b < n) (bs : List UInt8) : ∀ h, h < n → bs.foldl f h < n := by
  induction bs with
  | nil => intro h hh; exact hh
  | cons x t ih => intro h hh; rw [List.foldl_cons]; exact ih _ (hf _ _)
def sumStep (h : Nat) (b : UInt8) : Nat := (h ^^^ b.toNat) * 16777619 % 4294967296
theorem sumStep_lt (h : Nat) (b : UInt8) : sumStep h b < 4294967296 := Nat.mod_lt _ (by omega)
def sumG (bs : List UInt8) : Nat := bs.foldl sumStep 2166136261
def sumL (bs : List UInt8) : Nat := if 1048576 < bs.length then 0 else sumG bs
theorem sumG_snoc (bs : List UInt8) (k : Nat) (h : k < bs.length) : sumG (bs.take (k + 1)) = sumStep (sumG (bs.take k)) (bs.getD k 0) := foldl_snoc sumStep _ bs k h
theorem sumG_lt (bs : List UInt8) : sumG bs < 4294967296 := foldl_below sumStep _ sumStep_lt bs _ (by omega)
theorem i64_xor_nat (a b : Nat) (ha : a < 4294967296) (hb : b < 4294967296) : bits .xor .i64 (a : Int) (b : Int) = ((a ^^^ b : Nat) : Int) := by
  have hx : a ^^^ b < 2 ^ 32 := Nat.xor_lt_two_pow (by omega) (by omega)
  show IntKind.i64.wrap ((BitVec.ofInt 64 (a : Int) ^^^ BitVec.ofInt 64 (b : Int)).toNat : Int) = _
  rw [BitVec.toNat_xor, ofInt_u64 a (by omega), ofInt_u64 b (by omega), IntKind.wrap_i64]
  omega
set_option maxHeartbeats 1000000 in
theorem specSum_any (b off cap : Nat) (bs : List UInt8) (w : World) (hc : BytesAt w b off bs) :
    Calls Tryz.prog 49 #[.slice (some ⟨b, off, none⟩) bs.length cap] w fun e w' => e = .returned (.int .i64 (sumL bs : Nat)) ∧ w' = w := by
  have Hc := hidd hc
  clear hc
  by_cases hlong : 1048576 < bs.length
  · have hlz : (1048576 : Int) < (bs.length : Int) := by omega
    have HE : Hid (sumL bs = 0) := by show _ = _; rw [sumL, if_pos hlong]
    go_enter Tryz.func49, Tryz.ntmps49
    go_wp2
    go_ret
    rw [HE.out]
    exact ⟨rfl, rfl⟩
  · have hlz : ¬ (1048576 : Int) < (bs.length : Int) := by omega
    have HE : Hid (sumL bs = sumG bs) := by show _ = _; rw [sumL, if_neg hlong]
    go_enter Tryz.func49, Tryz.ntmps49
    go_wp2
    go_loop [3, 4] (fun hv i => ∃ k : Nat, k ≤ bs.length ∧ i = .int .i64 k ∧ hv = .int .i64 ((sumG (bs.take k) : Nat) : Int)) (fun _ i => bs.length - (intOf i).toNat)
    case atStart => exact ⟨0, Nat.zero_le _, rfl, rfl⟩
    case round =>
      obtain ⟨k, hk, rfl, rfl⟩ := hrel
      by_cases hlt : k < bs.length
      · have g1 := Hc.out k hlt
        have hc256 : (bs.getD k 0).toNat < 256 := UInt8.toNat_lt _
        have Hs := hidd (sumG_snoc bs k hlt)
        have hlt32 := sumG_lt (bs.take k)
        generalize bs.getD k 0 = cb at *
        generalize sumG (bs.take k) = h at *
        obtain ⟨X, hX, hX32⟩ : ∃ X : Nat, bits .xor .i64 (h : Int) (cb.toNat : Int) = (X : Int) ∧ X < 4294967296 ∧ sumStep h cb = X * 16777619 % 4294967296 := by
          exact ⟨h ^^^ cb.toNat, i64_xor_nat h cb.toNat hlt32 (by omega), Nat.xor_lt_two_pow (n := 32) (by omega) (by omega), rfl⟩
        have HX := hidd hX32.2
        have hX1 := hX32.1
        clear hX32
        go_wp2
        go_round
        case rel => exact ⟨k + 1, by omega, by go_num, by rw [Hs.out, HX.out]; go_num⟩
        case measure => simp [intOf]; omega
      · have HK : Hid (bs.take k = bs) := by show _ = _; rw [List.take_of_length_le (by omega)]
        rw [HK.out]
        go_wp2
        go_ret
        rw [HE.out]
        exact ⟨rfl, rfl⟩
set_option maxHeartbeats 1000000 in
theorem implSum_any (b off cap : Nat) (bs : List UInt8) (w : World) (hc : BytesAt w b off bs) :
    Calls Tryz.prog 42 #[.slice (some ⟨b, off, none⟩) bs.length cap] w fun e w' => e = .returned (.int .i64 (sumL bs : Nat)) ∧ w' = w := by
  have Hc := hidd hc
  clear hc
  by_cases hlong : 1048576 < bs.length
  · have hlz : (1048576 : Int) < (bs.length : Int) := by omega
    have HE : Hid (sumL bs = 0) := by show _ = _; rw [sumL, if_pos hlong]
    go_enter Tryz.func42, Tryz.ntmps42
    go_wp2
    go_ret
    rw [HE.out]
    exact ⟨rfl, rfl⟩
  · have hlz : ¬ (1048576 : Int) < (bs.length : Int) := by omega
    have HE : Hid (sumL bs = sumG bs) := by show _ = _; rw [sumL, if_neg hlong]
    go_enter Tryz.func42, Tryz.ntmps42
    go_wp2
    go_loop [3, 11] (fun hv i => ∃ k : Nat, k ≤ bs.length ∧ i = .int .i64 k ∧ hv = .int .u32 ((sumG (bs.take k) : Nat) : Int)) (fun _ i => bs.length - (intOf i).toNat)
    case atStart => exact ⟨0, Nat.zero_le _, rfl, rfl⟩
    case round =>
      obtain ⟨k, hk, rfl, rfl⟩ := hrel
      by_cases hlt : k < bs.length
      · have g1 := Hc.out k hlt
        have hc256 : (bs.getD k 0).toNat < 256 := UInt8.toNat_lt _
        have Hs := hidd (sumG_snoc bs k hlt)
        have hlt32 := sumG_lt (bs.take k)
        generalize bs.getD k 0 = cb at *
        generalize sumG (bs.take k) = h at *
        obtain ⟨X, hX, hX32⟩ : ∃ X : Nat, bits .xor .u32 (h : Int) (cb.toNat : Int) = (X : Int) ∧ X < 4294967296 ∧ sumStep h cb = X * 16777619 % 4294967296 :=
          ⟨h ^^^ cb.toNat, u32_xor_nat h cb.toNat hlt32 (by omega), Nat.xor_lt_two_pow (n := 32) (by omega) (by omega), rfl⟩
        have HX := hidd hX32.2
        have hX1 := hX32.1
        clear hX32
        go_wp2
        go_round
        case rel => exact ⟨k + 1, by omega, by go_num, by rw [Hs.out, HX.out]; go_num⟩
        case measure => simp [intOf]; omega
      · have HK : Hid (bs.take k = bs) := by show _ = _; rw [List.take_of_length_le (by omega)]
        have hlt32 := sumG_lt bs
        rw [HK.out]
        go_wp2
        go_ret
        rw [HE.out]
        exact ⟨rfl, rfl⟩
end Go.Proofs.YtpdiaddgialanaaGreatDoor

namespace Go.Proofs.YtpdiaddgialanaaGreatDoor
open Go Go.RowKit
set_option linter.unusedVariables false
set_option linter.unusedSimpArgs false
set_option maxRecDepth 100000

/-! What a record's bytes want of memory: cut off the dictionaries' texts. -/
theorem bytes_news {W W' : World} {bh : Nat} {l : List UInt8} (h : BytesAt W bh 0 l) (hb : Below W.heap.size W W') : ∀ j u, (Lib.byteCells l)[j]? = some u → W'.cell? ((⟨bh, 0, none⟩ : Addr).add j) = some u := by
  intro j u hu
  have hj : j < l.length := by have := (List.getElem?_eq_some_iff.1 hu).1; simpa [Lib.byteCells] using this
  rw [byteCells_at l j hj] at hu
  have := h.below hb j hj
  rw [show (⟨bh, 0, none⟩ : Addr).add j = ⟨bh, 0 + j, none⟩ from by simp only [Addr.add]; split <;> simp_all, this]
  exact hu
theorem bytes_one (l : List UInt8) : ∀ u ∈ Lib.byteCells l, u.oneCell' = true := by
  intro u hu
  simp only [Lib.byteCells, List.mem_map] at hu
  obtain ⟨x, _, rfl⟩ := hu
  rfl
theorem own_form {w : World} {base e size n : Nat} {v : Value} {zs : List Value} (h : w.ownsRow base e size v n zs) : ∃ a c, v = .slice a n c := by
  rcases h.2 with ⟨rfl, h0⟩ | ⟨g, cap, cur, rfl, _⟩
  · exact ⟨none, 0, by rw [h0]⟩
  · exact ⟨_, _, rfl⟩
def four (n : Nat) : List UInt8 := [UInt8.ofNat (n / 16777216), UInt8.ofNat (n / 65536 % 256), UInt8.ofNat (n / 256 % 256), UInt8.ofNat (n % 256)]
theorem sumL_lt (bs : List UInt8) : sumL bs < 4294967296 := by
  unfold sumL
  split
  · omega
  · exact sumG_lt bs
set_option maxHeartbeats 2000000 in
theorem sumBytes_any (b off cap : Nat) (bs : List UInt8) (w : World) (hc : BytesAt w b off bs) (hb : b < w.heap.size) :
    Calls Tryz.prog 20 #[.slice (some ⟨b, off, none⟩) bs.length cap] w fun e w' => e = .returned (.agg #[.int .u8 ((sumL bs / 16777216 : Nat) : Int), .int .u8 ((sumL bs / 65536 % 256 : Nat) : Int), .int .u8 ((sumL bs / 256 % 256 : Nat) : Int), .int .u8 ((sumL bs % 256 : Nat) : Int)]) ∧ Below w.heap.size w w' := by
  have HBa := hidd ((Below.refl w.heap.size w).alloc (Nat.le_refl _) (.cells #[.int .u8 0, .int .u8 0, .int .u8 0, .int .u8 0] 54))
  have HS := hidd (fun (W : World) (hW : Below w.heap.size w W) => implSum_any b off cap bs W (hc.below hW))
  have hlt := sumL_lt bs
  obtain ⟨n, hn⟩ : ∃ n, sumL bs = n := ⟨_, rfl⟩
  rw [hn] at HS hlt
  have Hn := hidd hn
  clear hc hn
  go_enter Tryz.func20, Tryz.ntmps20
  go_wp2_with fail
  refine (HS.out _ HBa.out).mono ?_
  rintro e w1 ⟨rfl, rfl⟩
  dsimp only
  go_wp2_with fail
  refine bodyPost_ret (v := .agg #[.int .u8 ((n : Int) / 16777216), .int .u8 ((n : Int) / 65536 % 256), .int .u8 ((n : Int) / 256 % 256), .int .u8 ((n : Int) % 256)]) (by simp [results, Tryz.results20, go_sem, *]) rfl ?_
  refine ⟨?_, (Below.refl w.heap.size w).alloc (Nat.le_refl _) _⟩
  rw [Hn.out]
  congr 4
theorem four_cells {M : List UInt8} (n : Nat) (h : n < 4294967296) : Lib.byteCells (M ++ four n) = Lib.byteCells M ++ [.int .u8 ((n : Int) / 16777216), .int .u8 ((n : Int) / 65536 % 256), .int .u8 ((n : Int) / 256 % 256), .int .u8 ((n : Int) % 256)] := by
  have e1 : (UInt8.ofNat (n / 16777216)).toNat = n / 16777216 := by rw [UInt8.toNat_ofNat']; omega
  have e2 : (UInt8.ofNat (n / 65536 % 256)).toNat = n / 65536 % 256 := by rw [UInt8.toNat_ofNat']; omega
  have e3 : (UInt8.ofNat (n / 256 % 256)).toNat = n / 256 % 256 := by rw [UInt8.toNat_ofNat']; omega
  have e4 : (UInt8.ofNat (n % 256)).toNat = n % 256 := by rw [UInt8.toNat_ofNat']; omega
  simp only [Lib.byteCells, four, List.map_append, List.map_cons, List.map_nil, e1, e2, e3, e4]
  congr 1
theorem specFour_any (n : Nat) (h : n < 4294967296) (w : World) : Calls Tryz.prog 48 #[.int .i64 (n : Int)] w fun e w' => e = .returned (.slice (some ⟨w.heap.size, 0, none⟩) 4 4) ∧ w' = w.alloc (.cells #[.int .u8 ((n : Int) / 16777216), .int .u8 ((n : Int) / 65536 % 256), .int .u8 ((n : Int) / 256 % 256), .int .u8 ((n : Int) % 256)] 5) := by
  go_enter Tryz.func48, Tryz.ntmps48
  go_wp2
  go_ret
  exact ⟨rfl, rfl⟩
end Go.Proofs.YtpdiaddgialanaaGreatDoor
