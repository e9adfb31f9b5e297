import Derived.Test.YtpdiaddgialanaaGreatDoorLogJ01
import Derived.Test.YtpdiaddgialanaaGreatDoorLogJ14
import Derived.Test.YtpdiaddgialanaaGreatDoorLogJ16
namespace Go.Proofs.YtpdiaddgialanaaGreatDoor
open Go Go.RowKit
set_option linter.unusedVariables false
set_option maxRecDepth 100000

/-- A reader as it lies in a world: bs is what is left, sh that it came short. -/
structure RdrG (ty : TypeId) (w0 W : World) (B : Nat) (bs : List UInt8) (sh : Bool) : Prop where
  old : Below w0.heap.size w0 W
  new : w0.heap.size ≤ B
  box : ∃ v, W.heap[B]? = some (.cells #[v, .bool sh] ty) ∧ ((bs = [] ∧ ∃ a c, v = .slice a 0 c) ∨ ∃ b off c, v = .slice (some ⟨b, off, none⟩) bs.length c ∧ bs.length ≤ c ∧ b < w0.heap.size ∧ BytesAt w0 b off bs)
/-- What a call on the reader leaves as it was. -/
def RdFr (B : Nat) (W W' : World) : Prop := W.heap.size ≤ W'.heap.size ∧ ∀ b, b < W.heap.size → b ≠ B → W'.heap[b]? = W.heap[b]?
theorem RdFr.refl (B : Nat) (W : World) : RdFr B W W := ⟨Nat.le_refl _, fun _ _ _ => rfl⟩
theorem RdFr.trans {B : Nat} {W W' W'' : World} (h : RdFr B W W') (h' : RdFr B W' W'') : RdFr B W W'' := ⟨Nat.le_trans h.1 h'.1, fun b hb hne => (h'.2 b (Nat.lt_of_lt_of_le hb h.1) hne).trans (h.2 b hb hne)⟩
theorem RdFr.set (B k : Nat) (u : Value) (W : World) : RdFr B W (W.setCell ⟨B, k, none⟩ u) := ⟨by simp, fun b hb hne => heap_set_other W B k u b hne⟩
def numR (most : Nat) (bs : List UInt8) (sh : Bool) : Int × List UInt8 × Bool := match getL bs with
  | none => (0, [], true)
  | some (v, s) => if v ≤ most then ((v : Int), bs.drop s, sh) else (0, [], true)
set_option maxHeartbeats 1000000 in
theorem stop_any {ty : TypeId} {w0 W : World} {B : Nat} {bs : List UInt8} {sh : Bool} (h : RdrG ty w0 W B bs sh) :
    Calls Tryz.prog 64 #[.pointer (some ⟨B, 0, none⟩)] W fun e w' => e = .returned (.int .i64 0) ∧ RdrG ty w0 w' B [] true ∧ RdFr B W w' := by
  obtain ⟨v, hb, _⟩ := h.box
  have x0 := blkc hb 0
  have x1 := blkc hb 1
  have f0 := blkf hb 0
  have f1 := blkf hb 1
  have HP : Hid (RdrG ty w0 ((W.setCell ⟨B, 0, none⟩ (.slice none 0 0)).setCell ⟨B, 1, none⟩ (.bool true)) B [] true ∧ RdFr B W ((W.setCell ⟨B, 0, none⟩ (.slice none 0 0)).setCell ⟨B, 1, none⟩ (.bool true))) :=
    ⟨⟨(h.old.setCell (p := ⟨B, 0, none⟩) h.new _).setCell (p := ⟨B, 1, none⟩) h.new _, h.new, .slice none 0 0, blk_set2 hb, Or.inl ⟨rfl, none, 0, rfl⟩⟩, (RdFr.set B 0 _ W).trans (RdFr.set B 1 _ _)⟩
  clear h hb
  go_enter Tryz.func64, Tryz.ntmps64
  go_wp2
  go_ret
  exact ⟨rfl, HP.out⟩
theorem BytesAt.dropR {w : World} {b off : Nat} {bs : List UInt8} (h : BytesAt w b off bs) (k : Nat) : BytesAt w b (off + k) (bs.drop k) := by
  intro t ht
  rw [List.length_drop] at ht
  have := h (k + t) (by omega)
  rw [show off + k + t = off + (k + t) by omega, this]
  simp [List.getD_eq_getElem?_getD, List.getElem?_drop]
theorem RdrG.cut {ty : TypeId} {w0 W : World} {B : Nat} {bs : List UInt8} {sh : Bool} {b off c : Nat} (h : RdrG ty w0 W B bs sh) (hb : W.heap[B]? = some (.cells #[.slice (some ⟨b, off, none⟩) bs.length c, .bool sh] ty)) (hc : bs.length ≤ c) (hlt : b < w0.heap.size) (hB : BytesAt w0 b off bs) (k n : Nat) (hk : k + n = bs.length) (a' : Option Addr) (c' : Nat) (hq : n = 0 ∨ (a' = some ⟨b, off + k, none⟩ ∧ c' = c - k)) :
    RdrG ty w0 (W.setCell ⟨B, 0, none⟩ (.slice a' n c')) B (bs.drop k) sh ∧ RdFr B W (W.setCell ⟨B, 0, none⟩ (.slice a' n c')) := by
  refine ⟨⟨h.old.setCell (p := ⟨B, 0, none⟩) h.new _, h.new, .slice a' n c', (blk_setk hb 0 _).trans (by simp), ?_⟩, RdFr.set B 0 _ W⟩
  rcases hq with rfl | ⟨rfl, rfl⟩
  · exact Or.inl ⟨List.drop_of_length_le (by omega), a', c', rfl⟩
  · exact Or.inr ⟨b, off + k, c - k, by rw [List.length_drop, show bs.length - k = n by omega], by rw [List.length_drop]; omega, hlt, hB.dropR k⟩
theorem BytesAt.old {w0 W : World} {b off : Nat} {bs : List UInt8} (h : BytesAt w0 b off bs) (ho : Below w0.heap.size w0 W) (hlt : b < w0.heap.size) : BytesAt W b off bs :=
  fun t ht => (ho.cell (p := ⟨b, off + t, none⟩) hlt).trans (h t ht)
set_option maxHeartbeats 1000000 in
theorem number_any {ty : TypeId} {w0 W : World} {B most : Nat} {bs : List UInt8} {sh : Bool} (hn : bs.length ≤ 1048576) (hm : most ≤ 4611686018427387904) (h : RdrG ty w0 W B bs sh) :
    Calls Tryz.prog 51 #[.pointer (some ⟨B, 0, none⟩), .int .i64 (most : Int)] W fun e w' => e = .returned (.int .i64 (numR most bs sh).1) ∧ RdrG ty w0 w' B (numR most bs sh).2.1 (numR most bs sh).2.2 ∧ RdFr B W w' := by
  obtain ⟨v, hb, hv⟩ := h.box
  have HH := hidd h
  have hcall : ∃ a c, v = .slice a bs.length c ∧ Calls Tryz.prog 65 #[.slice a bs.length c] W (fun e w' => e = .returned (.tuple #[.int .i64 (getV bs), .int .i64 (getS bs)]) ∧ w' = W) := by
    rcases hv with ⟨rfl, a, c, e⟩ | ⟨b, off, c, e, hc, hlt, hB⟩
    · exact ⟨a, c, e, leadingInt_none a c W⟩
    · exact ⟨_, c, e, leadingInt_some b off c bs W hn (hB.old h.old hlt)⟩
  obtain ⟨a, c, rfl, hcall⟩ := hcall
  have HC := hidd hcall
  have x0 := blkc hb 0
  have f0 := blkf hb 0
  cases hg : getL bs with
  | none =>
    obtain ⟨e1, e2⟩ := getVS_none hg
    rw [e1, e2] at HC
    have HE : Hid (numR most bs sh = (0, [], true)) := by show _ = _; rw [numR, hg]
    clear h hb hv hcall hg e1 e2
    go_enter Tryz.func51, Tryz.ntmps51
    go_wp2_with fail
    refine HC.out.mono ?_
    rintro e w2 ⟨rfl, rfl⟩
    go_wp2_with fail
    refine (stop_any HH.out).mono ?_
    rintro e w3 ⟨rfl, h2, h3⟩
    have HP := hidd (And.intro h2 h3)
    clear h2 h3
    go_wp2_with fail
    go_ret
    rw [HE.out]
    exact ⟨rfl, HP.out⟩
  | some p =>
    obtain ⟨y, s⟩ := p
    obtain ⟨e1, e2⟩ := getVS_some hg
    rw [e1, e2] at HC
    obtain ⟨hs1, hs2, hs3⟩ := getL_le hg
    have hy := (getL_inv hg).2.1
    have hs0 : ((s : Int) == 0) = false := by simp; omega
    by_cases hle : y ≤ most
    · have hlez : ¬ (most : Int) < (y : Int) := by omega
      have HE : Hid (numR most bs sh = ((y : Int), bs.drop s, sh)) := by show _ = _; rw [numR, hg]; show (if y ≤ most then _ else _) = _; rw [if_pos hle]
      obtain ⟨b, off, c2, e3, hc, hlt, hB⟩ := hv.resolve_left (fun h => by have := congrArg List.length h.1; rw [List.length_nil] at this; omega)
      simp only [Value.slice.injEq, true_and] at e3
      obtain ⟨rfl, rfl⟩ := e3
      have HP := hidd (h.cut hb hc hlt hB s (bs.length - s) (by omega))
      have hsl : (s : Int) ≤ (bs.length : Int) := by omega
      clear h hb hv hcall hg e1 e2 hB
      go_enter Tryz.func51, Tryz.ntmps51
      go_wp2_with fail
      refine HC.out.mono ?_
      rintro e w2 ⟨rfl, rfl⟩
      go_wp2_with fail
      all_goals
        go_ret
        rw [HE.out]
        exact ⟨rfl, HP.out _ _ (by first | exact Or.inr ⟨rfl, rfl⟩ | (left; omega))⟩
    · have hlez : (most : Int) < (y : Int) := by omega
      have HE : Hid (numR most bs sh = (0, [], true)) := by show _ = _; rw [numR, hg]; show (if y ≤ most then _ else _) = _; rw [if_neg hle]
      clear h hb hv hcall hg e1 e2
      go_enter Tryz.func51, Tryz.ntmps51
      go_wp2_with fail
      refine HC.out.mono ?_
      rintro e w2 ⟨rfl, rfl⟩
      go_wp2_with fail
      refine (stop_any HH.out).mono ?_
      rintro e w3 ⟨rfl, h2, h3⟩
      have HP := hidd (And.intro h2 h3)
      clear h2 h3
      go_wp2_with fail
      go_ret
      rw [HE.out]
      exact ⟨rfl, HP.out⟩
theorem RdrG.keep {ty : TypeId} {w0 W W' : World} {B : Nat} {bs : List UInt8} {sh : Bool} (h : RdrG ty w0 W B bs sh) (ho : Below w0.heap.size w0 W') (hk : W'.heap[B]? = W.heap[B]?) : RdrG ty w0 W' B bs sh := by
  obtain ⟨v, hb, hv⟩ := h.box
  exact ⟨ho, h.new, v, hk.trans hb, hv⟩
theorem RdrG.lt {ty : TypeId} {w0 W : World} {B : Nat} {bs : List UInt8} {sh : Bool} (h : RdrG ty w0 W B bs sh) : B < W.heap.size := by
  obtain ⟨v, hb, _⟩ := h.box
  exact (Array.getElem?_eq_some_iff.1 hb).1
theorem RdrG.below {ty : TypeId} {w0 W W' : World} {B : Nat} {bs : List UInt8} {sh : Bool} (h : RdrG ty w0 W B bs sh) (hb : Below W.heap.size W W') : RdrG ty w0 W' B bs sh := h.keep (h.old.trans (hb.mono h.old.size)) (hb.block B h.lt)
theorem numR_rd {most : Nat} {bs : List UInt8} {v : Nat} {r : List UInt8} (h : rdN most bs = some (v, r)) (sh : Bool) : numR most bs sh = ((v : Int), r, sh) := by
  unfold rdN at h
  unfold numR
  cases hg : getL bs with
  | none => rw [hg] at h; simp at h
  | some p =>
    obtain ⟨v', s⟩ := p
    rw [hg] at h
    simp only at h ⊢
    split at h
    · rename_i hle
      simp only [Option.some.injEq, Prod.mk.injEq] at h
      obtain ⟨rfl, rfl⟩ := h
      rw [if_pos hle]
    · simp at h
theorem numR_no {most : Nat} {bs : List UInt8} (h : rdN most bs = none) (sh : Bool) : numR most bs sh = (0, [], true) := by
  unfold rdN at h
  unfold numR
  cases hg : getL bs with
  | none => rfl
  | some p =>
    obtain ⟨v', s⟩ := p
    rw [hg] at h
    simp only at h ⊢
    split at h
    · simp at h
    · rename_i hle
      rw [if_neg hle]
abbrev RdrAt := RdrG 154
end Go.Proofs.YtpdiaddgialanaaGreatDoor

namespace Go.Proofs.YtpdiaddgialanaaGreatDoor
open Go
set_option linter.unusedVariables false
set_option linter.unusedSimpArgs false

/-- The record with which the bytes begin, whatever its number. -/
def recN (bs : List UInt8) : Option (Rc × List UInt8) := match rdN 1048576 bs with
  | none => none
  | some (n, r) => if n + 4 ≤ r.length ∧ four (sumL (r.take n)) = (r.drop n).take 4 then (match partR (r.take n) with
      | none => none
      | some x => some (x, r.drop (n + 4)))
    else none
theorem nextR_no {bs : List UInt8} (h : recN bs = none) (seq : Nat) : nextR bs seq = none := by
  unfold recN at h
  unfold nextR
  cases h1 : rdN 1048576 bs with
  | none => rfl
  | some p =>
    obtain ⟨n, r⟩ := p
    rw [h1] at h
    simp only at h ⊢
    split at h
    · rename_i h2
      rw [if_pos h2]
      split at h
      · rename_i h3; rw [h3]
      · simp at h
    · rename_i h2
      rw [if_neg h2]
theorem nextR_yes {bs r : List UInt8} {x : Rc} (h : recN bs = some (x, r)) (seq : Nat) : nextR bs seq = if x.2.1 = (seq : Int) then some (x, r) else none := by
  unfold recN at h
  unfold nextR
  cases h1 : rdN 1048576 bs with
  | none => rw [h1] at h; simp at h
  | some p =>
    obtain ⟨n, r'⟩ := p
    rw [h1] at h
    simp only at h ⊢
    split at h
    · rename_i h2
      rw [if_pos h2]
      split at h
      · simp at h
      · rename_i x' h3
        simp only [Option.some.injEq, Prod.mk.injEq] at h
        obtain ⟨rfl, rfl⟩ := h
        rw [h3]
    · simp at h
def nxK : List UInt8 → Nat
  | [] => 0
  | x :: _ => x.toNat
def nxR : List UInt8 → List UInt8
  | [] => []
  | _ :: q => q
def nxS : List UInt8 → Bool
  | [] => true
  | _ :: _ => false
theorem nxR_len (p : List UInt8) : (nxR p).length ≤ p.length := by cases p <;> simp [nxR]
theorem readO_nil : readO [] = none := rfl
theorem numR_len (most : Nat) (bs : List UInt8) (sh : Bool) : (numR most bs sh).2.1.length ≤ bs.length := by
  unfold numR
  split
  · simp
  · split
    · simp
    · simp
theorem partR_put (p : List UInt8) (h : nxK p = 1) : partR p = match readO (numR 4611686018427387903 (nxR p) (nxS p)).2.1 with
    | none => none
    | some d => if rcOK (1, (numR 4611686018427387903 (nxR p) (nxS p)).1, [], d) then some (1, (numR 4611686018427387903 (nxR p) (nxS p)).1, [], d) else none := by
  cases p with
  | nil => simp [nxK] at h
  | cons k q =>
    simp only [nxK] at h
    simp only [nxR, nxS, partR]
    cases hg : getL q with
    | none => simp only [numR, hg, readO_nil]
    | some y =>
      obtain ⟨s, c⟩ := y
      have hi := (getL_inv hg).2.1
      have hs : s ≤ 4611686018427387903 := by omega
      simp only [numR, hg, if_pos hs, if_pos h]
      cases readO (List.drop c q) <;> rfl
theorem rcOK_zero (kd : Int) (id : List UInt8) (d : Dc) : rcOK (kd, 0, id, d) = false := by simp [rcOK, seqOK]
theorem partR_del (p : List UInt8) (h : nxK p ≠ 1) : partR p = if rcOK ((nxK p : Int), (numR 4611686018427387903 (nxR p) (nxS p)).1, (numR 4611686018427387903 (nxR p) (nxS p)).2.1, ([], [])) then some ((nxK p : Int), (numR 4611686018427387903 (nxR p) (nxS p)).1, (numR 4611686018427387903 (nxR p) (nxS p)).2.1, ([], [])) else none := by
  cases p with
  | nil => simp only [partR, nxK, nxR, nxS, numR, getL, getGo]; rw [rcOK_zero]; rfl
  | cons k q =>
    simp only [nxK] at h
    simp only [nxR, nxS, nxK, partR]
    cases hg : getL q with
    | none => simp only [numR, hg]; rw [rcOK_zero]; rfl
    | some y =>
      obtain ⟨s, c⟩ := y
      have hi := (getL_inv hg).2.1
      have hs : s ≤ 4611686018427387903 := by omega
      simp only [numR, hg, if_pos hs, if_neg h]
end Go.Proofs.YtpdiaddgialanaaGreatDoor

namespace Go.Proofs.YtpdiaddgialanaaGreatDoor
open Go
set_option linter.unusedVariables false

/-! What was written is read back, in plain words. -/
theorem rdN_to {most v : Nat} (r : List UInt8) (h : v ≤ most) (h2 : v < 4611686018427387904) : rdN most (putL v ++ r) = some (v, r) := by
  unfold rdN
  rw [getL_put v r h2]
  simp only
  rw [if_pos h, List.drop_left]
theorem rdT_to {t : List UInt8} (r : List UInt8) (h : t.length ≤ 65536) : rdT (txB t ++ r) = some (t, r) := by
  unfold rdT txB
  rw [List.append_assoc, rdN_to (t ++ r) h (by omega)]
  simp only
  rw [if_pos (by simp), List.take_left, List.drop_left]
theorem rdTs_to (r : List UInt8) : ∀ (ts : List (List UInt8)), ts.all txOK = true → rdTs ts.length (ts.flatMap txB ++ r) = some (ts, r)
  | [], _ => by simp [rdTs]
  | t :: ts, h => by
    simp only [List.all_cons, Bool.and_eq_true, txOK, decide_eq_true_eq] at h
    rw [List.flatMap_cons, List.append_assoc, List.length_cons, rdTs, rdT_to _ h.1]
    simp only
    rw [rdTs_to r ts h.2]
theorem sgn_to {n : Int} (h : nuOK n = true) : sgn (unS n) = n ∧ unS n ≤ 2000000000000 := by
  simp only [nuOK, decide_eq_true_eq] at h
  unfold sgn unS
  by_cases hn : n < 0
  · rw [if_pos hn]
    have e : (-2 * n - 1).toNat % 2 = 1 := by omega
    rw [if_pos e]
    omega
  · rw [if_neg hn]
    have e : ¬ (2 * n).toNat % 2 = 1 := by omega
    rw [if_neg e]
    omega
theorem rdZs_to (r : List UInt8) : ∀ (zs : List Int), zs.all nuOK = true → rdZs zs.length (zs.flatMap nuB ++ r) = some (zs, r)
  | [], _ => by simp [rdZs]
  | z :: zs, h => by
    simp only [List.all_cons, Bool.and_eq_true] at h
    have hs := sgn_to h.1
    rw [List.flatMap_cons, List.append_assoc, List.length_cons, rdZs, nuB, rdN_to _ hs.2 (by omega)]
    simp only
    rw [rdZs_to r zs h.2]
    simp only
    rw [hs.1]
theorem rdV_to (r : List UInt8) (v : Vl) (h : vlOK v = true) : rdV (vlB v ++ r) = some (v, r) := by
  obtain ⟨f, tx, zs⟩ := v
  simp only [vlOK, Bool.and_eq_true, decide_eq_true_eq] at h
  unfold rdV vlB
  simp only [List.append_assoc]
  rw [rdT_to _ h.1.1.1]
  simp only
  rw [rdN_to _ h.1.1.2.1 (by have := h.1.1.2.1; omega)]
  simp only
  rw [rdTs_to _ tx h.1.2]
  simp only
  rw [rdN_to _ h.1.1.2.2 (by have := h.1.1.2.2; omega)]
  simp only
  rw [rdZs_to r zs h.2]
theorem rdVs_to (r : List UInt8) : ∀ (vs : List Vl), vs.all vlOK = true → rdVs vs.length (vs.flatMap vlB ++ r) = some (vs, r)
  | [], _ => by simp [rdVs]
  | v :: vs, h => by
    simp only [List.all_cons, Bool.and_eq_true] at h
    rw [List.flatMap_cons, List.append_assoc, List.length_cons, rdVs, rdV_to _ v h.1]
    simp only
    rw [rdVs_to r vs h.2]
theorem readO_to (d : Dc) (h : dcOK d = true) : readO (dcB d) = some d := by
  obtain ⟨i, V⟩ := d
  simp only [dcOK, Bool.and_eq_true, decide_eq_true_eq] at h
  unfold readO rdD dcB
  rw [List.append_assoc, rdT_to _ h.1.1]
  simp only
  rw [rdN_to _ h.1.2 (by have := h.1.2; omega)]
  simp only
  have := rdVs_to [] V h.2
  rw [List.append_nil] at this
  rw [this]
/-- A record's part. -/
theorem partR_to (x : Rc) (h : rcOK x = true) : partR (rcPart x) = some x := by
  obtain ⟨kd, sq, id, did, V⟩ := x
  have h0 := h
  simp only [rcOK, Bool.and_eq_true, seqOK, decide_eq_true_eq] at h
  obtain ⟨⟨hs1, hs2⟩, hk⟩ := h
  have hsq : ((sq.toNat : Nat) : Int) = sq := by omega
  by_cases h1 : kd = 1
  · subst h1
    rw [if_pos rfl] at hk
    simp only [Bool.and_eq_true, decide_eq_true_eq] at hk
    have hid : id = [] := List.length_eq_zero_iff.1 hk.1.1
    subst hid
    unfold partR rcPart
    simp only [if_true]
    rw [getL_put sq.toNat _ (by omega)]
    simp only
    rw [if_pos (by decide), List.drop_left, readO_to _ hk.2]
    simp only
    rw [hsq, if_pos h0]
  · rw [if_neg h1] at hk
    simp only [Bool.and_eq_true, decide_eq_true_eq] at hk
    obtain ⟨⟨⟨h2, h3⟩, h4⟩, h5⟩ := hk
    subst h2
    have hd : did = [] := List.length_eq_zero_iff.1 h4
    have hV : V = [] := List.length_eq_zero_iff.1 h5
    subst hd hV
    unfold partR rcPart
    simp only [h1, if_false]
    rw [getL_put sq.toNat _ (by omega)]
    simp only
    rw [if_neg (by decide), List.drop_left, hsq]
    rw [show ((UInt8.ofNat (2 : Int).toNat).toNat : Int) = 2 from by decide, if_pos h0]
theorem four_len' (n : Nat) : (four n).length = 4 := rfl
/-- A whole record at the head. -/
theorem nextR_to (x : Rc) (rest : List UInt8) (seq : Nat) (h : rcOK x = true) (hl : (rcPart x).length ≤ 1048576) (hs : x.2.1 = (seq : Int)) : nextR (partB (rcPart x) ++ rest) seq = some (x, rest) := by
  unfold nextR partB
  rw [List.append_assoc, List.append_assoc, rdN_to _ hl (by omega)]
  simp only
  have h1 : ((rcPart x) ++ (four (sumL (rcPart x)) ++ rest)).take (rcPart x).length = rcPart x := List.take_left
  have h2 : ((rcPart x) ++ (four (sumL (rcPart x)) ++ rest)).drop (rcPart x).length = four (sumL (rcPart x)) ++ rest := List.drop_left
  have h3 : (four (sumL (rcPart x)) ++ rest).take 4 = four (sumL (rcPart x)) := List.take_left' (four_len' _)
  have h4 : ((rcPart x) ++ (four (sumL (rcPart x)) ++ rest)).drop ((rcPart x).length + 4) = rest := by
    rw [← List.drop_drop, h2]
    exact List.drop_left' (four_len' _)
  rw [h1, h2, h3, if_pos ⟨by simp [four_len'], rfl⟩, partR_to x h]
  simp only
  rw [if_pos hs, h4]
/-- A beginning of a number's bytes is none. -/
theorem getL_cut {v : Nat} {j : Nat} (hv : v < 4611686018427387904) (hj : j < (putL v).length) : getL ((putL v).take j) = none := by
  cases hg : getL ((putL v).take j) with
  | none => rfl
  | some p =>
    obtain ⟨v', n'⟩ := p
    exfalso
    have hi := getL_inv hg
    have hle := getL_le hg
    rw [List.length_take] at hle
    have e : (putL v).take j = putL v' ++ ((putL v).take j).drop n' := by rw [← hi.1, List.take_append_drop]
    have e2 : putL v = putL v' ++ (((putL v).take j).drop n' ++ (putL v).drop j) := by
      rw [← List.append_assoc, ← e, List.take_append_drop]
    have h1 := getL_put v' (((putL v).take j).drop n' ++ (putL v).drop j) hi.2.1
    rw [← e2] at h1
    have h2 := getL_put v [] hv
    rw [List.append_nil] at h2
    rw [h2] at h1
    simp only [Option.some.injEq, Prod.mk.injEq] at h1
    omega
/-- A beginning of a record's bytes is none. -/
theorem nextR_cut (x : Rc) (j : Nat) (seq : Nat) (hl : (rcPart x).length ≤ 1048576) (hj : j < (partB (rcPart x)).length) : nextR ((partB (rcPart x)).take j) seq = none := by
  unfold nextR
  by_cases hc : j < (putL (rcPart x).length).length
  · have e : (partB (rcPart x)).take j = (putL (rcPart x).length).take j := by
      unfold partB
      rw [List.append_assoc, List.take_append_of_le_length (by omega)]
    rw [e]
    unfold rdN
    rw [getL_cut (by omega) hc]
  · have e : (partB (rcPart x)).take j = putL (rcPart x).length ++ ((rcPart x) ++ four (sumL (rcPart x))).take (j - (putL (rcPart x).length).length) := by
      unfold partB
      rw [List.append_assoc, List.take_append]
      rw [List.take_of_length_le (by omega)]
    rw [e, rdN_to _ hl (by omega)]
    simp only
    rw [if_neg]
    intro h
    have h1 := h.1
    simp only [partB, List.length_append, four_len'] at hj
    rw [List.length_take] at h1
    omega
/-- The bytes of records, one behind the other, and where each ends. -/
inductive Logs : List Rc → List UInt8 → List Nat → Prop
  | nil : Logs [] [] [0]
  | snoc {R : List Rc} {B : List UInt8} {E : List Nat} {x : Rc} (h : Logs R B E) (hx : rcOK x = true) (hl : (rcPart x).length ≤ 1048576) (hs : x.2.1 = ((R.length + 1 : Nat) : Int)) : Logs (R ++ [x]) (B ++ partB (rcPart x)) (E ++ [B.length + (partB (rcPart x)).length])
theorem Logs.len {R : List Rc} {B : List UInt8} {E : List Nat} (h : Logs R B E) : E.length = R.length + 1 ∧ E.getLast? = some B.length := by
  induction h with
  | nil => exact ⟨rfl, rfl⟩
  | snoc h hx hl hs ih => exact ⟨by simp [ih.1], by simp⟩
/-- What is read of the first k records and what is behind them. -/
theorem Logs.run {R : List Rc} {B : List UInt8} {E : List Nat} (h : Logs R B E) : ∀ (rest : List UInt8), runK (B ++ rest) R.length = some (R, rest) := by
  induction h with
  | nil => intro rest; rfl
  | @snoc R B E x h hx hl hs ih =>
    intro rest
    have h1 := ih (partB (rcPart x) ++ rest)
    rw [← List.append_assoc] at h1
    exact runK_step h1 (nextR_to x rest (R.length + 1) hx hl hs)
theorem Logs.whole {R : List Rc} {B : List UInt8} {E : List Nat} (h : Logs R B E) : Ends B R [] := by
  have h1 := h.run []
  rw [List.append_nil] at h1
  exact ⟨h1, rfl⟩
/-- Cut at any place: the records that are whole. -/
theorem Logs.cut {R : List Rc} {B : List UInt8} {E : List Nat} (h : Logs R B E) : ∀ (cut : Nat), cut ≤ B.length → ∃ (k : Nat) (L : List Rc) (r : List UInt8) (e : Nat), Ends (B.take cut) L r ∧ L.length = k ∧ E[k]? = some e ∧ e + r.length = cut ∧ (∀ i a, i ≤ k → E[i]? = some a → a ≤ cut) ∧ ∀ a, E[k + 1]? = some a → cut < a := by
  induction h with
  | nil =>
    intro cut hc
    have : cut = 0 := by simpa using hc
    subst this
    exact ⟨0, [], [], 0, ⟨rfl, rfl⟩, rfl, rfl, rfl, fun i a hi ha => by
      have : i = 0 := by omega
      subst this
      simp at ha
      omega, fun a ha => by simp at ha⟩
  | @snoc R B E x h hx hl hs ih =>
    intro cut hc
    have hlen := h.len
    rw [List.length_append] at hc
    by_cases hlt : cut < B.length
    · obtain ⟨k, L, r, e, h1, h2, h3, h4, h5, h6⟩ := ih cut (by omega)
      have hkE : k < E.length := (List.getElem?_eq_some_iff.1 h3).1
      refine ⟨k, L, r, e, ?_, h2, ?_, h4, fun i a hi ha => ?_, fun a ha => ?_⟩
      · rw [List.take_append_of_le_length (by omega)]
        exact h1
      · rw [List.getElem?_append_left hkE]; exact h3
      · rw [List.getElem?_append_left (by omega)] at ha
        exact h5 i a hi ha
      · by_cases hk2 : k + 1 < E.length
        · rw [List.getElem?_append_left hk2] at ha
          exact h6 a ha
        · rw [List.getElem?_append_right (by omega)] at ha
          have : k + 1 - E.length = 0 := by omega
          rw [this] at ha
          simp at ha
          omega
    · have hE : E[R.length]? = some B.length := by
        have := hlen.2
        rw [List.getLast?_eq_getElem?, hlen.1] at this
        simpa using this
      have hmono : ∀ i a, E[i]? = some a → a ≤ B.length := fun i a ha => by
        have h0 := ih B.length (Nat.le_refl _)
        obtain ⟨k, L, r, e, h1, h2, h3, h4, h5, h6⟩ := h0
        have hw := h.whole
        rw [List.take_length] at h1
        obtain ⟨rfl, rfl⟩ := Ends.uniq h1 hw
        have hi : i < E.length := (List.getElem?_eq_some_iff.1 ha).1
        exact h5 i a (by omega) ha
      by_cases hfull : cut = B.length + (partB (rcPart x)).length
      · subst hfull
        have hw := (Logs.snoc h hx hl hs).whole
        refine ⟨R.length + 1, R ++ [x], [], B.length + (partB (rcPart x)).length, ?_, by simp, ?_, by simp, fun i a hi ha => ?_, fun a ha => ?_⟩
        · rw [List.take_of_length_le (by simp)]
          exact hw
        · rw [List.getElem?_append_right (by omega)]
          simp [hlen.1]
        · by_cases hi2 : i < E.length
          · rw [List.getElem?_append_left hi2] at ha
            have := hmono i a ha
            omega
          · rw [List.getElem?_append_right (by omega)] at ha
            have : i - E.length = 0 := by omega
            rw [this] at ha
            simp at ha
            omega
        · rw [List.getElem?_append_right (by omega)] at ha
          have : R.length + 1 + 1 - E.length = 1 := by omega
          rw [this] at ha
          simp at ha
      · refine ⟨R.length, R, (partB (rcPart x)).take (cut - B.length), B.length, ⟨?_, nextR_cut x _ _ hl (by omega)⟩, rfl, ?_, ?_, fun i a hi ha => ?_, fun a ha => ?_⟩
        · rw [List.take_append, List.take_of_length_le (by omega)]
          exact h.run _
        · rw [List.getElem?_append_left (by omega)]
          exact hE
        · rw [List.length_take]; omega
        · rw [List.getElem?_append_left (by omega)] at ha
          have := hmono i a ha
          omega
        · rw [List.getElem?_append_right (by omega)] at ha
          have : R.length + 1 - E.length = 0 := by omega
          rw [this] at ha
          simp at ha
          omega
end Go.Proofs.YtpdiaddgialanaaGreatDoor
