import Derived.Test.YtpdiaddgialanaaGreatDoorLogJ14
import Derived.Test.YtpdiaddgialanaaGreatDoorLogJ15
import Derived.Test.YtpdiaddgialanaaGreatDoorLogJ13
import Derived.Test.YtpdiaddgialanaaGreatDoorLogJ01
import Derived.Laws.ShiftsVar
namespace Go.Proofs.YtpdiaddgialanaaGreatDoor
open Go
set_option linter.unusedVariables false

/-! What is read is just what was written: the bytes behind a reading are those of what was read. -/
theorem rdN_back {most : Nat} {bs : List UInt8} {v : Nat} {r : List UInt8} (h : rdN most bs = some (v, r)) : bs = putL v ++ r ∧ v ≤ most ∧ v < 4611686018427387904 := by
  unfold rdN at h
  cases hg : getL bs with
  | none => rw [hg] at h; simp at h
  | some p =>
    obtain ⟨v', s⟩ := p
    rw [hg] at h
    have hs := getL_inv hg
    simp only at h
    split at h
    · rename_i hle
      simp only [Option.some.injEq, Prod.mk.injEq] at h
      obtain ⟨rfl, rfl⟩ := h
      exact ⟨by rw [← hs.1, List.take_append_drop], hle, hs.2.1⟩
    · simp at h
theorem rdT_back {bs t r : List UInt8} (h : rdT bs = some (t, r)) : bs = txB t ++ r ∧ t.length ≤ 65536 := by
  unfold rdT at h
  cases hg : rdN 65536 bs with
  | none => rw [hg] at h; simp at h
  | some p =>
    obtain ⟨n, r'⟩ := p
    rw [hg] at h
    have hs := rdN_back hg
    simp only at h
    split at h
    · rename_i hle
      simp only [Option.some.injEq, Prod.mk.injEq] at h
      obtain ⟨rfl, rfl⟩ := h
      have hl : (r'.take n).length = n := by rw [List.length_take]; omega
      refine ⟨?_, by omega⟩
      rw [txB, hl, List.append_assoc, List.take_append_drop]
      exact hs.1
    · simp at h
theorem rdTs_back : ∀ (k : Nat) {bs : List UInt8} {ts : List (List UInt8)} {r : List UInt8}, rdTs k bs = some (ts, r) → bs = ts.flatMap txB ++ r ∧ ts.length = k ∧ ∀ t ∈ ts, t.length ≤ 65536
  | 0, bs, ts, r, h => by simp only [rdTs, Option.some.injEq, Prod.mk.injEq] at h; obtain ⟨rfl, rfl⟩ := h; simp
  | k + 1, bs, ts, r, h => by
    simp only [rdTs] at h
    cases h1 : rdT bs with
    | none => rw [h1] at h; simp at h
    | some p =>
      obtain ⟨t, r1⟩ := p
      rw [h1] at h
      simp only at h
      cases h2 : rdTs k r1 with
      | none => rw [h2] at h; simp at h
      | some q =>
        obtain ⟨ts', r2⟩ := q
        rw [h2] at h
        simp only [Option.some.injEq, Prod.mk.injEq] at h
        obtain ⟨rfl, rfl⟩ := h
        have a := rdT_back h1
        have b := rdTs_back k h2
        refine ⟨by rw [a.1, b.1]; simp, by simp [b.2.1], fun t' ht => ?_⟩
        rcases List.mem_cons.1 ht with rfl | ht
        · exact a.2
        · exact b.2.2 t' ht
theorem sgn_back {v : Nat} (h : v ≤ 2000000000000) : unS (sgn v) = v ∧ nuOK (sgn v) = true := by
  unfold sgn unS nuOK
  by_cases h1 : v % 2 = 1
  · simp only [h1, if_true]
    refine ⟨?_, decide_eq_true ?_⟩
    · rw [if_pos (by omega)]; omega
    · omega
  · simp only [h1, if_false]
    refine ⟨?_, decide_eq_true ?_⟩
    · rw [if_neg (by omega)]; omega
    · omega
theorem rdZs_back : ∀ (k : Nat) {bs : List UInt8} {zs : List Int} {r : List UInt8}, rdZs k bs = some (zs, r) → bs = zs.flatMap nuB ++ r ∧ zs.length = k ∧ ∀ z ∈ zs, nuOK z = true
  | 0, bs, zs, r, h => by simp only [rdZs, Option.some.injEq, Prod.mk.injEq] at h; obtain ⟨rfl, rfl⟩ := h; simp
  | k + 1, bs, zs, r, h => by
    simp only [rdZs] at h
    cases h1 : rdN 2000000000000 bs with
    | none => rw [h1] at h; simp at h
    | some p =>
      obtain ⟨v, r1⟩ := p
      rw [h1] at h
      simp only at h
      cases h2 : rdZs k r1 with
      | none => rw [h2] at h; simp at h
      | some q =>
        obtain ⟨zs', r2⟩ := q
        rw [h2] at h
        simp only [Option.some.injEq, Prod.mk.injEq] at h
        obtain ⟨rfl, rfl⟩ := h
        have a := rdN_back h1
        have b := rdZs_back k h2
        have c := sgn_back a.2.1
        refine ⟨by rw [a.1, b.1, List.flatMap_cons, nuB, c.1]; simp, by simp [b.2.1], fun t' ht => ?_⟩
        rcases List.mem_cons.1 ht with rfl | ht
        · exact c.2
        · exact b.2.2 t' ht
theorem rdV_back {bs r : List UInt8} {v : Vl} (h : rdV bs = some (v, r)) : bs = vlB v ++ r ∧ vlOK v = true := by
  unfold rdV at h
  cases h1 : rdT bs with
  | none => rw [h1] at h; simp at h
  | some p1 =>
    obtain ⟨f, r1⟩ := p1
    rw [h1] at h; simp only at h
    cases h2 : rdN 4096 r1 with
    | none => rw [h2] at h; simp at h
    | some p2 =>
      obtain ⟨n, r2⟩ := p2
      rw [h2] at h; simp only at h
      cases h3 : rdTs n r2 with
      | none => rw [h3] at h; simp at h
      | some p3 =>
        obtain ⟨tx, r3⟩ := p3
        rw [h3] at h; simp only at h
        cases h4 : rdN 4096 r3 with
        | none => rw [h4] at h; simp at h
        | some p4 =>
          obtain ⟨m, r4⟩ := p4
          rw [h4] at h; simp only at h
          cases h5 : rdZs m r4 with
          | none => rw [h5] at h; simp at h
          | some p5 =>
            obtain ⟨zs, r5⟩ := p5
            rw [h5] at h
            simp only [Option.some.injEq, Prod.mk.injEq] at h
            obtain ⟨rfl, rfl⟩ := h
            have a1 := rdT_back h1
            have a2 := rdN_back h2
            have a3 := rdTs_back n h3
            have a4 := rdN_back h4
            have a5 := rdZs_back m h5
            refine ⟨?_, ?_⟩
            · rw [a1.1, a2.1, a3.1, a4.1, a5.1]
              simp [vlB, a3.2.1, a5.2.1]
            · simp only [vlOK, Bool.and_eq_true, decide_eq_true_eq, List.all_eq_true, txOK]
              exact ⟨⟨⟨a1.2, by omega, by omega⟩, fun t ht => a3.2.2 t ht⟩, fun z hz => a5.2.2 z hz⟩
theorem rdVs_back : ∀ (k : Nat) {bs r : List UInt8} {V : List Vl}, rdVs k bs = some (V, r) → bs = V.flatMap vlB ++ r ∧ V.length = k ∧ ∀ v ∈ V, vlOK v = true
  | 0, bs, r, V, h => by simp only [rdVs, Option.some.injEq, Prod.mk.injEq] at h; obtain ⟨rfl, rfl⟩ := h; simp
  | k + 1, bs, r, V, h => by
    simp only [rdVs] at h
    cases h1 : rdV bs with
    | none => rw [h1] at h; simp at h
    | some p =>
      obtain ⟨v, r1⟩ := p
      rw [h1] at h
      simp only at h
      cases h2 : rdVs k r1 with
      | none => rw [h2] at h; simp at h
      | some q =>
        obtain ⟨vs', r2⟩ := q
        rw [h2] at h
        simp only [Option.some.injEq, Prod.mk.injEq] at h
        obtain ⟨rfl, rfl⟩ := h
        have a := rdV_back h1
        have b := rdVs_back k h2
        refine ⟨by rw [a.1, b.1]; simp, by simp [b.2.1], fun t' ht => ?_⟩
        rcases List.mem_cons.1 ht with rfl | ht
        · exact a.2
        · exact b.2.2 t' ht
theorem rdD_back {bs r : List UInt8} {d : Dc} (h : rdD bs = some (d, r)) : bs = dcB d ++ r ∧ dcOK d = true := by
  unfold rdD at h
  cases h1 : rdT bs with
  | none => rw [h1] at h; simp at h
  | some p1 =>
    obtain ⟨i, r1⟩ := p1
    rw [h1] at h; simp only at h
    cases h2 : rdN 4096 r1 with
    | none => rw [h2] at h; simp at h
    | some p2 =>
      obtain ⟨n, r2⟩ := p2
      rw [h2] at h; simp only at h
      cases h3 : rdVs n r2 with
      | none => rw [h3] at h; simp at h
      | some p3 =>
        obtain ⟨V, r3⟩ := p3
        rw [h3] at h
        simp only [Option.some.injEq, Prod.mk.injEq] at h
        obtain ⟨rfl, rfl⟩ := h
        have a1 := rdT_back h1
        have a2 := rdN_back h2
        have a3 := rdVs_back n h3
        refine ⟨?_, ?_⟩
        · rw [a1.1, a2.1, a3.1]; simp [dcB, a3.2.1]
        · simp only [dcOK, Bool.and_eq_true, decide_eq_true_eq, List.all_eq_true]
          exact ⟨⟨a1.2, by omega⟩, a3.2.2⟩
/-! The next record of a log. -/
/-- The record that a part tells, if it is one. -/
def partR (p : List UInt8) : Option Rc := match p with
  | [] => none
  | k :: q => match getL q with
    | none => none
    | some (s, c) => if k.toNat = 1 then (match readO (q.drop c) with
        | none => none
        | some d => if rcOK (1, (s : Int), [], d) then some (1, (s : Int), [], d) else none)
      else if rcOK ((k.toNat : Int), (s : Int), q.drop c, ([], [])) then some ((k.toNat : Int), (s : Int), q.drop c, ([], [])) else none
/-- The record with which the bytes begin, and what is left. -/
def nextR (bs : List UInt8) (seq : Nat) : Option (Rc × List UInt8) := match rdN 1048576 bs with
  | none => none
  | some (n, r) => if n + 4 ≤ r.length ∧ four (sumL (r.take n)) = (r.drop n).take 4 then (match partR (r.take n) with
      | none => none
      | some x => if x.2.1 = (seq : Int) then some (x, r.drop (n + 4)) else none)
    else none
theorem nextR_len {bs r : List UInt8} {seq : Nat} {x : Rc} (h : nextR bs seq = some (x, r)) : r.length < bs.length := by
  unfold nextR at h
  cases h1 : rdN 1048576 bs with
  | none => rw [h1] at h; simp at h
  | some p =>
    obtain ⟨n, r1⟩ := p
    rw [h1] at h; simp only at h
    have := rdN_len h1
    split at h
    · split at h
      · simp at h
      · split at h
        · simp only [Option.some.injEq, Prod.mk.injEq] at h
          obtain ⟨_, rfl⟩ := h
          rw [List.length_drop]; omega
        · simp at h
    · simp at h
/-- The records so far, k of them, and what is left. -/
def runK (bs : List UInt8) : Nat → Option (List Rc × List UInt8)
  | 0 => some ([], bs)
  | k + 1 => match runK bs k with
    | none => none
    | some (L, r) => match nextR r (L.length + 1) with
      | none => none
      | some (x, r') => some (L ++ [x], r')
theorem runK_len {bs : List UInt8} : ∀ (k : Nat) {L : List Rc} {r : List UInt8}, runK bs k = some (L, r) → L.length = k ∧ r.length + k ≤ bs.length ∧ ∃ p, bs = p ++ r
  | 0, L, r, h => by simp only [runK, Option.some.injEq, Prod.mk.injEq] at h; obtain ⟨rfl, rfl⟩ := h; exact ⟨rfl, by omega, [], rfl⟩
  | k + 1, L, r, h => by
    simp only [runK] at h
    cases h1 : runK bs k with
    | none => rw [h1] at h; simp at h
    | some p =>
      obtain ⟨L', r'⟩ := p
      rw [h1] at h; simp only at h
      have a := runK_len k h1
      cases h2 : nextR r' (L'.length + 1) with
      | none => rw [h2] at h; simp at h
      | some q =>
        obtain ⟨x, r2⟩ := q
        rw [h2] at h
        simp only [Option.some.injEq, Prod.mk.injEq] at h
        obtain ⟨rfl, rfl⟩ := h
        have b := nextR_len h2
        refine ⟨by simp [a.1], by omega, ?_⟩
        obtain ⟨p, hp⟩ := a.2.2
        obtain ⟨p2, hp2⟩ : ∃ p2, r' = p2 ++ r2 := by
          unfold nextR at h2
          cases h3 : rdN 1048576 r' with
          | none => rw [h3] at h2; simp at h2
          | some p3 =>
            obtain ⟨n, r3⟩ := p3
            rw [h3] at h2; simp only at h2
            have c := (rdN_back h3).1
            split at h2
            · split at h2
              · simp at h2
              · split at h2
                · simp only [Option.some.injEq, Prod.mk.injEq] at h2
                  obtain ⟨_, rfl⟩ := h2
                  exact ⟨putL n ++ r3.take (n + 4), by rw [c, List.append_assoc, List.take_append_drop]⟩
                · simp at h2
            · simp at h2
        exact ⟨p ++ p2, by rw [hp, hp2, List.append_assoc]⟩
theorem runK_more {bs : List UInt8} {k : Nat} (h : runK bs k = none) : ∀ j, runK bs (k + j) = none
  | 0 => h
  | j + 1 => by rw [← Nat.add_assoc, runK, runK_more h j]
/-- Where there is no further record. -/
def Ends (bs : List UInt8) (L : List Rc) (r : List UInt8) : Prop := runK bs L.length = some (L, r) ∧ nextR r (L.length + 1) = none
theorem Ends.uniq {bs : List UInt8} {L L' : List Rc} {r r' : List UInt8} (h : Ends bs L r) (h' : Ends bs L' r') : L = L' ∧ r = r' := by
  have no : ∀ {L r}, Ends bs L r → runK bs (L.length + 1) = none := fun {L r} h => by rw [runK, h.1]; simp only; rw [h.2]
  have e : L.length = L'.length := by
    rcases Nat.lt_trichotomy L.length L'.length with hl | hl | hl
    · have := runK_more (no h) (L'.length - (L.length + 1))
      rw [show L.length + 1 + (L'.length - (L.length + 1)) = L'.length by omega, h'.1] at this
      simp at this
    · exact hl
    · have := runK_more (no h') (L.length - (L'.length + 1))
      rw [show L'.length + 1 + (L.length - (L'.length + 1)) = L.length by omega, h.1] at this
      simp at this
  have := h.1
  rw [e, h'.1] at this
  simp only [Option.some.injEq, Prod.mk.injEq] at this
  exact ⟨this.1.symm, this.2.symm⟩
theorem runK_step {bs : List UInt8} {L : List Rc} {r r' : List UInt8} {x : Rc} (h : runK bs L.length = some (L, r)) (hx : nextR r (L.length + 1) = some (x, r')) : runK bs (L ++ [x]).length = some (L ++ [x], r') := by
  rw [List.length_append, List.length_singleton, runK, h]
  simp only
  rw [hx]
end Go.Proofs.YtpdiaddgialanaaGreatDoor

namespace Go.Proofs.YtpdiaddgialanaaGreatDoor
open Go Go.RowKit
set_option linter.unusedVariables false

def getV (bs : List UInt8) : Int := match getL bs with | none => 0 | some (v, _) => (v : Int)
def getS (bs : List UInt8) : Int := match getL bs with | none => 0 | some (_, s) => (s : Int)
theorem getVS_none {bs : List UInt8} (h : getL bs = none) : getV bs = 0 ∧ getS bs = 0 := by simp [getV, getS, h]
theorem getVS_some {bs : List UInt8} {v s : Nat} (h : getL bs = some (v, s)) : getV bs = v ∧ getS bs = s := by simp [getV, getS, h]
theorem pow128_2 (k : Nat) : 128 ^ k = 2 ^ (7 * k) := by rw [Nat.pow_mul]
theorem lead_step (y k : Nat) (c : UInt8) (hy : y < 128 ^ k) (hk : k ≤ 8) : ∃ m s y2 : Nat, bits .and .u8 (c.toNat : Int) 127 = (m : Int) ∧ IntKind.u64.wrap (m : Int) = (m : Int) ∧ IntKind.u64.wrap ((m : Int) * 2 ^ (7 * k)) = (s : Int) ∧ bits .or .u64 (y : Int) (s : Int) = (y2 : Int) ∧
    m = c.toNat % 128 ∧ y2 = y + c.toNat % 128 * 128 ^ k ∧ y2 < 128 ^ (k + 1) ∧ y2 < 9223372036854775808 := by
  have hc : c.toNat < 256 := c.toNat_lt
  have hP : 128 ^ k ≤ 128 ^ 8 := Nat.pow_le_pow_right (by omega) hk
  have hP8 : (128 : Nat) ^ 8 = 72057594037927936 := by decide
  have hm : c.toNat % 128 < 128 := Nat.mod_lt _ (by omega)
  have hs : c.toNat % 128 * 128 ^ k ≤ 127 * 128 ^ k := Nat.mul_le_mul_right _ (by omega)
  have e2 : ((c.toNat % 128 : Nat) : Int) * 2 ^ (7 * k) = ((c.toNat % 128 * 128 ^ k : Nat) : Int) := by
    rw [pow128_2, Int.natCast_mul, Int.natCast_pow]; rfl
  refine ⟨c.toNat % 128, c.toNat % 128 * 128 ^ k, y + c.toNat % 128 * 128 ^ k, ?_, ?_, ?_, ?_, rfl, rfl, ?_, ?_⟩
  · have := u8_and_nat c.toNat 127 hc (by omega)
    rw [nat_mask7] at this; exact this
  · exact IntWalk.u64_in _ ⟨by omega, by omega⟩
  · rw [e2]; exact IntWalk.u64_in _ ⟨by omega, by omega⟩
  · rw [u64_or_nat y _ (by omega) (by omega), Nat.or_comm, nat_join (7 * k) _ y (by rw [pow128_2]; exact Nat.mul_mod_left _ _) (by rw [← pow128_2]; exact hy), Nat.add_comm]
  · rw [Nat.pow_succ]; omega
  · omega
set_option maxHeartbeats 1000000 in
set_option maxRecDepth 100000 in
theorem leadingInt_some (b off cap : Nat) (bs : List UInt8) (w : World) (hl : bs.length ≤ 1048576) (hc : BytesAt w b off bs) :
    Calls Tryz.prog 65 #[.slice (some ⟨b, off, none⟩) bs.length cap] w fun e w' => e = .returned (.tuple #[.int .i64 (getV bs), .int .i64 (getS bs)]) ∧ w' = w := by
  have Hc := hidd hc
  clear hc
  go_enter Tryz.func65, Tryz.ntmps65
  go_wp2
  go_loop [4, 10] (fun sv i => ∃ k y : Nat, k ≤ bs.length ∧ k ≤ 9 ∧ i = .int .i64 k ∧ sv = .int .u64 (y : Int) ∧ y < 128 ^ k ∧ (k = 9 → getL bs = none) ∧ (k < 9 → getL bs = getGo (bs.drop k) k y)) (fun _ i => bs.length - (intOf i).toNat)
  case atStart => exact ⟨0, 0, Nat.zero_le _, by omega, rfl, rfl, by omega, by omega, fun _ => rfl⟩
  case round =>
    obtain ⟨k, y, hk, hk9, rfl, rfl, hy, h9, hget⟩ := hrel
    by_cases hlt : k < bs.length
    · have g1 := Hc.out k hlt
      have hc256 : (bs.getD k 0).toNat < 256 := UInt8.toNat_lt _
      have Hd : Hid (bs.drop k = bs.getD k 0 :: bs.drop (k + 1)) := by show _ = _; rw [List.drop_eq_getElem_cons hlt]; simp [hlt]
      generalize hcc : bs.getD k 0 = cb at *
      clear hcc
      by_cases hk8 : k = 9
      · have HN := hidd (h9 hk8)
        subst hk8
        clear h9 hget
        go_wp2
        go_ret2
        obtain ⟨e1, e2⟩ := getVS_none HN.out
        rw [e1, e2]; exact ⟨rfl, rfl⟩
      · have HG := hidd (hget (by omega))
        clear h9 hget
        have hsh : ¬ (62 : Int) ≤ 7 * (k : Int) := by omega
        obtain ⟨m, sh, y2, hm1, hm2, hm3, hm4, hm, hy2, hy3, hy4⟩ := lead_step y k cb hy (by omega)
        have Hm := hidd hm
        have Hy2 := hidd hy2
        have Hy3 := hidd hy3
        have Hsome : Hid (¬ 128 ≤ cb.toNat → ¬ 4611686018427387903 < y2 → (k = 0 ∨ 0 < cb.toNat) → getL bs = some (y2, k + 1)) := by
          intro h1 h2 h3
          rw [HG.out, Hd.out, getGo, if_neg, if_pos (by omega), if_pos h3, hy2]
          rintro (h | ⟨rfl, h⟩)
          · omega
          · have : 64 * 128 ^ 8 ≤ cb.toNat % 128 * 128 ^ 8 := Nat.mul_le_mul_right _ (by omega)
            omega
        have Hnone : Hid (¬ 128 ≤ cb.toNat → (4611686018427387903 < y2 ∨ (cb.toNat = 0 ∧ 0 < k)) → getL bs = none) := by
          intro h1 h2
          rw [HG.out, Hd.out, getGo]
          rcases h2 with h2 | ⟨h2, h3⟩
          · rw [if_pos]
            refine Or.inr ?_
            by_cases h8 : k = 8
            · subst h8; exact ⟨rfl, by omega⟩
            · have hP : 128 ^ (k + 1) ≤ 128 ^ 8 := Nat.pow_le_pow_right (by omega) (by omega)
              omega
          · by_cases h8 : 9 ≤ k ∨ k = 8 ∧ 63 < cb.toNat
            · rw [if_pos h8]
            · rw [if_neg h8, if_pos (by omega), if_neg (by omega)]
        have Hnext : Hid (128 ≤ cb.toNat → (k + 1 = 9 → getL bs = none) ∧ (k + 1 < 9 → getL bs = getGo (bs.drop (k + 1)) (k + 1) y2)) := by
          intro h1
          constructor
          · intro h8; rw [HG.out, Hd.out, getGo, if_pos (Or.inr ⟨by omega, by omega⟩)]
          · intro h8; rw [HG.out, Hd.out, getGo, if_neg (by omega), if_neg (by omega), hy2]
        clear hm hy2 hy3 Hd HG hy
        by_cases hbig : 128 ≤ cb.toNat
        · have hbz : (127 : Int) < (cb.toNat : Int) := by omega
          go_wp2
          go_round
          case rel => exact ⟨k + 1, y2, by omega, by omega, by go_num, rfl, Hy3.out, (Hnext.out hbig).1, (Hnext.out hbig).2⟩
          case measure => simp [intOf]; omega
        · have hbz : ¬ (127 : Int) < (cb.toNat : Int) := by omega
          by_cases hmax : 4611686018427387903 < y2
          · have hmz : (4611686018427387903 : Int) < (y2 : Int) := by omega
            have HE := hidd (getVS_none (Hnone.out hbig (Or.inl hmax)))
            skip
            go_wp2
            go_ret2
            rw [HE.out.1, HE.out.2]
            exact ⟨rfl, rfl⟩
          · have hmz : ¬ (4611686018427387903 : Int) < (y2 : Int) := by omega
            by_cases hc0 : cb.toNat = 0
            · have hcz : (cb.toNat : Int) = 0 := by omega
              have hm0 : bits .and .u8 0 127 = (m : Int) := by rw [← hcz]; exact hm1
              clear hm1
              by_cases hk0 : k = 0
              · have hkz : ¬ (0 : Int) < (k : Int) := by omega
                have HE := hidd (getVS_some (Hsome.out hbig hmax (Or.inl hk0)))
                clear hk0
                clear hc0
                go_wp2
                go_ret2
                rw [HE.out.1, HE.out.2]
                exact ⟨by simp, rfl⟩
              · have hkz : (0 : Int) < (k : Int) := by omega
                have HE := hidd (getVS_none (Hnone.out hbig (Or.inr ⟨hc0, by omega⟩)))
                clear hc0
                go_wp2
                go_ret2
                rw [HE.out.1, HE.out.2]
                exact ⟨rfl, rfl⟩
            · have hcz : ¬ (cb.toNat : Int) = 0 := by omega
              have HE := hidd (getVS_some (Hsome.out hbig hmax (Or.inr (by omega))))
              clear hc0
              go_wp2
              go_ret2
              rw [HE.out.1, HE.out.2]
              exact ⟨by simp, rfl⟩
    · have HN : Hid (getL bs = none) := by
        show _ = _
        by_cases hk8 : k = 9
        · exact h9 hk8
        · rw [hget (by omega), List.drop_of_length_le (by omega)]; rfl
      have HE := hidd (getVS_none HN.out)
      clear h9 hget
      go_wp2
      go_ret2
      rw [HE.out.1, HE.out.2]
      exact ⟨rfl, rfl⟩
set_option maxHeartbeats 400000 in
set_option maxRecDepth 100000 in
theorem leadingInt_none (ao : Option Addr) (cap : Nat) (w : World) :
    Calls Tryz.prog 65 #[.slice ao 0 cap] w fun e w' => e = .returned (.tuple #[.int .i64 (getV []), .int .i64 (getS [])]) ∧ w' = w := by
  obtain ⟨e1, e2⟩ := getVS_none (bs := []) rfl
  rw [e1, e2]
  go_enter Tryz.func65, Tryz.ntmps65
  go_wp2
  refine wp_loop_rounds 1 ?_
  rw [rounds_succ]
  go_wp2
  go_ret2
  exact ⟨rfl, rfl⟩
end Go.Proofs.YtpdiaddgialanaaGreatDoor
