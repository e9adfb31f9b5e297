import Derived.Test.YtbkedgpligcicaaBuildDictJ14
import Derived.Test.YtbkedgpligcicaaBuildDictJ03
import Derived.Laws.ShiftsVar
import Derived.Test.YtbkedgpligcicaaBuildDictJ10
import Derived.RangeFuncNested
import Derived.RangeFuncBound
import Derived.RangeFuncCalls
import Derived.RangeFuncLeaves
import Derived.RangeFuncFrom
import Derived.Shelf.Abstract
import Derived.Shelf.RegionOpen
import Derived.WalkKit
import Derived.OwnWalkIn
import Derived.TacticsInMore
import Derived.LoopNIn
import Derived.LoopIn
import Derived.Test.YtbkedgpligcicaaBuildDictJ01
import Derived.Test.YtbkedgpligcicaaBuildDictJ05
import Derived.Test.YtbkedgpligcicaaBuildDictJ09
namespace Go.Proofs.Ytbkedgpligcicaa
open Go Go.RowKit
set_option linter.unusedVariables false

/-! Bytes and the dictionary that they tell of: there is at most one. -/
theorem getD_bare (S : List St) (i : Nat) : (S.map bareS).getD i st0 = bareS (S.getD i st0) := by
  simp only [List.getD_eq_getElem?_getD, List.getElem?_map]
  cases S[i]? with
  | none => rfl
  | some s => rfl
theorem langF_bare (S : List St) : ∀ (f i : Nat), langF (S.map bareS) f i = langF S f i := by
  intro f
  induction f with
  | zero => intro i; rfl
  | succ f ih =>
    intro i
    rw [langF, langF, getD_bare]
    show joinT (S.getD i st0).1 (((S.getD i st0).2.map bareA).map _) = _
    rw [List.map_map]
    congr 1
    exact List.map_congr_left fun a _ => by
      show (a.1.toNat, langF (S.map bareS) f a.2.1.toNat) = _
      rw [ih]
theorem IsDict.n1 {c : Int} {S : List St} {ts : List Tx} (h : IsDict (c, S) ts) : 1 ≤ S.length := by
  by_cases e : ts = []
  · subst e
    rw [(Prod.mk.inj (IsDict.none.1 h)).2]; exact Nat.le_refl 1
  · exact (h.checks e).n1
theorem IsDict.n2 {c : Int} {S : List St} {ts : List Tx} (h : IsDict (c, S) ts) : S.length ≤ 16384 := by
  by_cases e : ts = []
  · subst e
    rw [(Prod.mk.inj (IsDict.none.1 h)).2]; show 1 ≤ 16384; omega
  · exact (h.checks e).n2
theorem IsDict.fit {c : Int} {S : List St} {ts : List Tx} (h : IsDict (c, S) ts) : ∀ s ∈ S, FitS S.length s := by
  intro s hs
  obtain ⟨i, hi, rfl⟩ := List.getElem_of_mem hs
  have e : arcsAt S i = S[i].2 := by simp [arcsAt, hi]
  have h1 := h.small i hi
  rw [e] at h1
  refine ⟨h1.1, fun a ha => ?_⟩
  have h2 := h1.2 a ha
  unfold ArcIn at h2
  refine ⟨?_, ?_, ?_, ?_⟩ <;> omega
theorem FitS.le {n m : Nat} {s : St} (h : FitS n s) (hm : n ≤ m) : FitS m s := ⟨h.1, fun a ha => by
  have := h.2 a ha
  exact ⟨this.1, this.2.1, this.2.2.1, by have := this.2.2.2; omega⟩⟩
/-- What both readers tell of the bytes of a dictionary. -/
theorem IsDict.rdI {c : Int} {S : List St} {ts : List Tx} (h : IsDict (c, S) ts) : rdI (bytesD S) = some (S.map bareS) := rdI_put h.n2 fun s hs => (h.fit s hs).le h.n2
theorem IsDict.rdP {c : Int} {S : List St} {ts : List Tx} (h : IsDict (c, S) ts) : rdP (bytesD S) = some (S.map bareS) := rdP_put h.n1 h.n2 h.fit
/-- Two dictionaries that are told by the same states, Aheads aside, are one. -/
theorem IsDict.bareEq {d e : Int × List St} {ts us : List Tx} (h : IsDict d ts) (h' : IsDict e us) (hb : d.2.map bareS = e.2.map bareS) : d = e ∧ ts = us := by
  have e1 : ts = us := by
    rw [← h.langIs, ← h'.langIs, ← langF_bare d.2, ← langF_bare e.2, hb]
  subst e1
  exact ⟨h.fun h', rfl⟩
theorem IsDict.bytesEq {d e : Int × List St} {ts us : List Tx} (h : IsDict d ts) (h' : IsDict e us) (hb : bytesD d.2 = bytesD e.2) : d = e ∧ ts = us := by
  refine h.bareEq h' ?_
  have h1 := IsDict.rdI (c := d.1) (S := d.2) h
  have h2 := IsDict.rdI (c := e.1) (S := e.2) h'
  rw [hb, h2] at h1
  exact (Option.some.inj h1).symm

/-- What ReadDict tells: the one dictionary of these bytes, or that there is none. -/
noncomputable def readD (bs : List UInt8) : Option (Int × List St) := @dite _ (∃ d ts, IsDict d ts ∧ bytesD d.2 = bs) (Classical.propDecidable _) (fun h => some h.choose) (fun _ => none)
theorem readD_some {bs : List UInt8} {d : Int × List St} {ts : List Tx} (h : IsDict d ts) (hb : bytesD d.2 = bs) : readD bs = some d := by
  have hex : ∃ d ts, IsDict d ts ∧ bytesD d.2 = bs := ⟨d, ts, h, hb⟩
  unfold readD
  rw [dif_pos hex]
  obtain ⟨us, g1, g2⟩ := hex.choose_spec
  rw [(g1.bytesEq h (g2.trans hb.symm)).1]
theorem readD_none {bs : List UInt8} (h : ∀ d ts, IsDict d ts → bytesD d.2 ≠ bs) : readD bs = none := by
  unfold readD
  rw [dif_neg]
  rintro ⟨d, ts, h1, h2⟩
  exact h d ts h1 h2
/-- The spec's way: read, tell the terms, build anew, compare. -/
theorem readD_spec_none {bs : List UInt8} (h : rdP bs = none) : readD bs = none := readD_none fun d ts hd hb => by
  have := IsDict.rdP (c := d.1) (S := d.2) hd
  rw [hb, h] at this
  cases this
theorem readD_spec {bs : List UInt8} {S : List St} (h : rdP bs = some S) {d : Int × List St} {ts : List Tx} (hd : IsDict d ts) (hts : langF S 65 0 = ts) : readD bs = if bytesD d.2 = bs then some d else none := by
  by_cases hb : bytesD d.2 = bs
  · rw [if_pos hb]; exact readD_some hd hb
  · rw [if_neg hb]
    refine readD_none fun e us he hbe => ?_
    have h1 := IsDict.rdP (c := e.1) (S := e.2) he
    rw [hbe, h] at h1
    have h1 := Option.some.inj h1
    have e1 : ts = us := by rw [← hts, ← he.langIs, h1, langF_bare]
    subst e1
    have := hd.fun he
    subst this
    exact hb hbe
/-- When the terms that the states tell are no good terms, there is no dictionary. -/
theorem readD_spec_bad {bs : List UInt8} {S : List St} (h : rdP bs = some S) (hbad : ∀ d, ¬ IsDict d (langF S 65 0)) : readD bs = none := readD_none fun e us he hbe => by
  have h1 := IsDict.rdP (c := e.1) (S := e.2) he
  rw [hbe, h] at h1
  have h1 := Option.some.inj h1
  refine hbad e ?_
  rw [h1, langF_bare, he.langIs]
  exact he
/-- The program's way: read, check, tell the Aheads. -/
theorem readD_impl_none {bs : List UInt8} (h : rdI bs = none) : readD bs = none := readD_none fun d ts hd hb => by
  have := IsDict.rdI (c := d.1) (S := d.2) hd
  rw [hb, h] at this
  cases this
theorem readD_impl {bs : List UInt8} {S : List St} (h : rdI bs = some S) {d : Int × List St} {ts : List Tx} (hd : IsDict d ts) (hS : d.2.map bareS = S) : readD bs = some d := by
  refine readD_some hd ?_
  rw [← bytesD_bare, hS]
  exact (rdI_inv h).1
theorem readD_impl_bad {bs : List UInt8} {S : List St} (h : rdI bs = some S) (hbad : ∀ d ts, IsDict d ts → d.2.map bareS ≠ S) : readD bs = none := readD_none fun e us he hbe => by
  have h1 := IsDict.rdI (c := e.1) (S := e.2) he
  rw [hbe, h] at h1
  exact hbad e us he (Option.some.inj h1).symm
end Go.Proofs.Ytbkedgpligcicaa

namespace Go.Proofs.Ytbkedgpligcicaa
open Go Go.RowKit
set_option linter.unusedVariables false

def getV (bs : List UInt8) : Int := match getL bs with | none => 0 | some (v, _) => (v : Int)
def getS (bs : List UInt8) : Int := match getL bs with | none => 0 | some (_, s) => (s : Int)
theorem getVS_none {bs : List UInt8} (h : getL bs = none) : getV bs = 0 ∧ getS bs = 0 := by simp [getV, getS, h]
theorem getVS_some {bs : List UInt8} {v s : Nat} (h : getL bs = some (v, s)) : getV bs = v ∧ getS bs = s := by simp [getV, getS, h]

theorem pow128_2 (k : Nat) : 128 ^ k = 2 ^ (7 * k) := by rw [Nat.pow_mul]
theorem lead_step (y k : Nat) (c : UInt8) (hy : y < 128 ^ k) (hk : k ≤ 8) : ∃ m s y2 : Nat, bits .and .u8 (c.toNat : Int) 127 = (m : Int) ∧ IntKind.u64.wrap (m : Int) = (m : Int) ∧ IntKind.u64.wrap ((m : Int) * 2 ^ (7 * k)) = (s : Int) ∧ bits .or .u64 (y : Int) (s : Int) = (y2 : Int) ∧
    m = c.toNat % 128 ∧ y2 = y + c.toNat % 128 * 128 ^ k ∧ y2 < 128 ^ (k + 1) ∧ y2 < 9223372036854775808 := by
  have hc : c.toNat < 256 := c.toNat_lt
  have hP : 128 ^ k ≤ 128 ^ 8 := Nat.pow_le_pow_right (by omega) hk
  have hP8 : (128 : Nat) ^ 8 = 72057594037927936 := by decide
  have hm : c.toNat % 128 < 128 := Nat.mod_lt _ (by omega)
  have hs : c.toNat % 128 * 128 ^ k ≤ 127 * 128 ^ k := Nat.mul_le_mul_right _ (by omega)
  have e2 : ((c.toNat % 128 : Nat) : Int) * 2 ^ (7 * k) = ((c.toNat % 128 * 128 ^ k : Nat) : Int) := by
    rw [pow128_2, Int.natCast_mul, Int.natCast_pow]; rfl
  refine ⟨c.toNat % 128, c.toNat % 128 * 128 ^ k, y + c.toNat % 128 * 128 ^ k, ?_, ?_, ?_, ?_, rfl, rfl, ?_, ?_⟩
  · have := u8_and_nat c.toNat 127 hc (by omega)
    rw [nat_mask7] at this; exact this
  · exact IntWalk.u64_in _ ⟨by omega, by omega⟩
  · rw [e2]; exact IntWalk.u64_in _ ⟨by omega, by omega⟩
  · rw [u64_or_nat y _ (by omega) (by omega), Nat.or_comm, nat_join (7 * k) _ y (by rw [pow128_2]; exact Nat.mul_mod_left _ _) (by rw [← pow128_2]; exact hy), Nat.add_comm]
  · rw [Nat.pow_succ]; omega
  · omega

set_option maxHeartbeats 1000000 in
set_option maxRecDepth 100000 in
theorem leadingInt_some (b off cap : Nat) (bs : List UInt8) (w : World) (hl : bs.length ≤ 1048576) (hc : BytesAt w b off bs) :
    Calls Try.prog 100 #[.slice (some ⟨b, off, none⟩) bs.length cap] w fun e w' => e = .returned (.tuple #[.int .i64 (getV bs), .int .i64 (getS bs)]) ∧ w' = w := by
  have Hc := hidd hc
  clear hc
  go_enter Try.func100, Try.ntmps100
  go_wp2
  go_loop [4, 10] (fun sv i => ∃ k y : Nat, k ≤ bs.length ∧ k ≤ 9 ∧ i = .int .i64 k ∧ sv = .int .u64 (y : Int) ∧ y < 128 ^ k ∧ (k = 9 → getL bs = none) ∧ (k < 9 → getL bs = getGo (bs.drop k) k y)) (fun _ i => bs.length - (intOf i).toNat)
  case atStart => exact ⟨0, 0, Nat.zero_le _, by omega, rfl, rfl, by omega, by omega, fun _ => rfl⟩
  case round =>
    obtain ⟨k, y, hk, hk9, rfl, rfl, hy, h9, hget⟩ := hrel
    by_cases hlt : k < bs.length
    · have g1 := Hc.out k hlt
      have hc256 : (bs.getD k 0).toNat < 256 := UInt8.toNat_lt _
      have Hd : Hid (bs.drop k = bs.getD k 0 :: bs.drop (k + 1)) := by show _ = _; rw [List.drop_eq_getElem_cons hlt]; simp [hlt]
      generalize hcc : bs.getD k 0 = cb at *
      clear hcc
      by_cases hk8 : k = 9
      · have HN := hidd (h9 hk8)
        subst hk8
        clear h9 hget
        go_wp2
        go_ret2
        obtain ⟨e1, e2⟩ := getVS_none HN.out
        rw [e1, e2]; exact ⟨rfl, rfl⟩
      · have HG := hidd (hget (by omega))
        clear h9 hget
        have hsh : ¬ (62 : Int) ≤ 7 * (k : Int) := by omega
        obtain ⟨m, sh, y2, hm1, hm2, hm3, hm4, hm, hy2, hy3, hy4⟩ := lead_step y k cb hy (by omega)
        have Hm := hidd hm
        have Hy2 := hidd hy2
        have Hy3 := hidd hy3
        have Hsome : Hid (¬ 128 ≤ cb.toNat → ¬ 4611686018427387903 < y2 → (k = 0 ∨ 0 < cb.toNat) → getL bs = some (y2, k + 1)) := by
          intro h1 h2 h3
          rw [HG.out, Hd.out, getGo, if_neg, if_pos (by omega), if_pos h3, hy2]
          rintro (h | ⟨rfl, h⟩)
          · omega
          · have : 64 * 128 ^ 8 ≤ cb.toNat % 128 * 128 ^ 8 := Nat.mul_le_mul_right _ (by omega)
            omega
        have Hnone : Hid (¬ 128 ≤ cb.toNat → (4611686018427387903 < y2 ∨ (cb.toNat = 0 ∧ 0 < k)) → getL bs = none) := by
          intro h1 h2
          rw [HG.out, Hd.out, getGo]
          rcases h2 with h2 | ⟨h2, h3⟩
          · rw [if_pos]
            refine Or.inr ?_
            by_cases h8 : k = 8
            · subst h8; exact ⟨rfl, by omega⟩
            · have hP : 128 ^ (k + 1) ≤ 128 ^ 8 := Nat.pow_le_pow_right (by omega) (by omega)
              omega
          · by_cases h8 : 9 ≤ k ∨ k = 8 ∧ 63 < cb.toNat
            · rw [if_pos h8]
            · rw [if_neg h8, if_pos (by omega), if_neg (by omega)]
        have Hnext : Hid (128 ≤ cb.toNat → (k + 1 = 9 → getL bs = none) ∧ (k + 1 < 9 → getL bs = getGo (bs.drop (k + 1)) (k + 1) y2)) := by
          intro h1
          constructor
          · intro h8; rw [HG.out, Hd.out, getGo, if_pos (Or.inr ⟨by omega, by omega⟩)]
          · intro h8; rw [HG.out, Hd.out, getGo, if_neg (by omega), if_neg (by omega), hy2]
        clear hm hy2 hy3 Hd HG hy
        by_cases hbig : 128 ≤ cb.toNat
        · have hbz : (127 : Int) < (cb.toNat : Int) := by omega
          go_wp2
          go_round
          case rel => exact ⟨k + 1, y2, by omega, by omega, by go_num, rfl, Hy3.out, (Hnext.out hbig).1, (Hnext.out hbig).2⟩
          case measure => simp [intOf]; omega
        · have hbz : ¬ (127 : Int) < (cb.toNat : Int) := by omega
          by_cases hmax : 4611686018427387903 < y2
          · have hmz : (4611686018427387903 : Int) < (y2 : Int) := by omega
            have HE := hidd (getVS_none (Hnone.out hbig (Or.inl hmax)))
            skip
            go_wp2
            go_ret2
            rw [HE.out.1, HE.out.2]
            exact ⟨rfl, rfl⟩
          · have hmz : ¬ (4611686018427387903 : Int) < (y2 : Int) := by omega
            by_cases hc0 : cb.toNat = 0
            · have hcz : (cb.toNat : Int) = 0 := by omega
              have hm0 : bits .and .u8 0 127 = (m : Int) := by rw [← hcz]; exact hm1
              clear hm1
              by_cases hk0 : k = 0
              · have hkz : ¬ (0 : Int) < (k : Int) := by omega
                have HE := hidd (getVS_some (Hsome.out hbig hmax (Or.inl hk0)))
                clear hk0
                clear hc0
                go_wp2
                go_ret2
                rw [HE.out.1, HE.out.2]
                exact ⟨by simp, rfl⟩
              · have hkz : (0 : Int) < (k : Int) := by omega
                have HE := hidd (getVS_none (Hnone.out hbig (Or.inr ⟨hc0, by omega⟩)))
                clear hc0
                go_wp2
                go_ret2
                rw [HE.out.1, HE.out.2]
                exact ⟨rfl, rfl⟩
            · have hcz : ¬ (cb.toNat : Int) = 0 := by omega
              have HE := hidd (getVS_some (Hsome.out hbig hmax (Or.inr (by omega))))
              clear hc0
              go_wp2
              go_ret2
              rw [HE.out.1, HE.out.2]
              exact ⟨by simp, rfl⟩
    · have HN : Hid (getL bs = none) := by
        show _ = _
        by_cases hk8 : k = 9
        · exact h9 hk8
        · rw [hget (by omega), List.drop_of_length_le (by omega)]; rfl
      have HE := hidd (getVS_none HN.out)
      clear h9 hget
      go_wp2
      go_ret2
      rw [HE.out.1, HE.out.2]
      exact ⟨rfl, rfl⟩
set_option maxHeartbeats 400000 in
set_option maxRecDepth 100000 in
theorem leadingInt_none (ao : Option Addr) (cap : Nat) (w : World) :
    Calls Try.prog 100 #[.slice ao 0 cap] w fun e w' => e = .returned (.tuple #[.int .i64 (getV []), .int .i64 (getS [])]) ∧ w' = w := by
  obtain ⟨e1, e2⟩ := getVS_none (bs := []) rfl
  rw [e1, e2]
  go_enter Try.func100, Try.ntmps100
  go_wp2
  refine wp_loop_rounds 1 ?_
  rw [rounds_succ]
  go_wp2
  go_ret2
  exact ⟨rfl, rfl⟩
end Go.Proofs.Ytbkedgpligcicaa

namespace Go.Proofs.Ytbkedgpligcicaa
open Go Go.RowKit
set_option linter.unusedVariables false
set_option maxRecDepth 100000

/-- A reader as it lies in a world: bs is what is left, sh that it came short. -/
structure RdrAt (w0 W : World) (B : Nat) (bs : List UInt8) (sh : Bool) : Prop where
  old : Below w0.heap.size w0 W
  new : w0.heap.size ≤ B
  box : ∃ v, W.heap[B]? = some (.cells #[v, .bool sh] 143) ∧ ((bs = [] ∧ ∃ a c, v = .slice a 0 c) ∨ ∃ b off c, v = .slice (some ⟨b, off, none⟩) bs.length c ∧ bs.length ≤ c ∧ b < w0.heap.size ∧ BytesAt w0 b off bs)
/-- What a call on the reader leaves as it was. -/
def RdFr (B : Nat) (W W' : World) : Prop := W.heap.size ≤ W'.heap.size ∧ ∀ b, b < W.heap.size → b ≠ B → W'.heap[b]? = W.heap[b]?
theorem RdFr.refl (B : Nat) (W : World) : RdFr B W W := ⟨Nat.le_refl _, fun _ _ _ => rfl⟩
theorem RdFr.trans {B : Nat} {W W' W'' : World} (h : RdFr B W W') (h' : RdFr B W' W'') : RdFr B W W'' := ⟨Nat.le_trans h.1 h'.1, fun b hb hne => (h'.2 b (Nat.lt_of_lt_of_le hb h.1) hne).trans (h.2 b hb hne)⟩
theorem RdFr.set (B k : Nat) (u : Value) (W : World) : RdFr B W (W.setCell ⟨B, k, none⟩ u) := ⟨by simp, fun b hb hne => heap_set_other W B k u b hne⟩
/-- A byte, in plain words. -/
def nextR (bs : List UInt8) (sh : Bool) : Int × List UInt8 × Bool := match bs with
  | [] => (0, [], true)
  | x :: r => ((x.toNat : Int), r, sh)
def numR (most : Nat) (bs : List UInt8) (sh : Bool) : Int × List UInt8 × Bool := match getL bs with
  | none => (0, [], true)
  | some (v, s) => if v ≤ most then ((v : Int), bs.drop s, sh) else (0, [], true)

set_option maxHeartbeats 1000000 in
theorem stop_any {w0 W : World} {B : Nat} {bs : List UInt8} {sh : Bool} (h : RdrAt w0 W B bs sh) :
    Calls Try.prog 101 #[.pointer (some ⟨B, 0, none⟩)] W fun e w' => e = .returned (.int .i64 0) ∧ RdrAt w0 w' B [] true ∧ RdFr B W w' := by
  obtain ⟨v, hb, _⟩ := h.box
  have x0 := blkc hb 0
  have x1 := blkc hb 1
  have f0 := blkf hb 0
  have f1 := blkf hb 1
  have HP : Hid (RdrAt w0 ((W.setCell ⟨B, 0, none⟩ (.slice none 0 0)).setCell ⟨B, 1, none⟩ (.bool true)) B [] true ∧ RdFr B W ((W.setCell ⟨B, 0, none⟩ (.slice none 0 0)).setCell ⟨B, 1, none⟩ (.bool true))) :=
    ⟨⟨(h.old.setCell (p := ⟨B, 0, none⟩) h.new _).setCell (p := ⟨B, 1, none⟩) h.new _, h.new, .slice none 0 0, blk_set2 hb, Or.inl ⟨rfl, none, 0, rfl⟩⟩, (RdFr.set B 0 _ W).trans (RdFr.set B 1 _ _)⟩
  clear h hb
  go_enter Try.func101, Try.ntmps101
  go_wp2
  go_ret
  exact ⟨rfl, HP.out⟩

theorem BytesAt.dropR {w : World} {b off : Nat} {bs : List UInt8} (h : BytesAt w b off bs) (k : Nat) : BytesAt w b (off + k) (bs.drop k) := by
  intro t ht
  rw [List.length_drop] at ht
  have := h (k + t) (by omega)
  rw [show off + k + t = off + (k + t) by omega, this]
  simp [List.getD_eq_getElem?_getD, List.getElem?_drop]
theorem RdrAt.cut {w0 W : World} {B : Nat} {bs : List UInt8} {sh : Bool} {b off c : Nat} (h : RdrAt w0 W B bs sh) (hb : W.heap[B]? = some (.cells #[.slice (some ⟨b, off, none⟩) bs.length c, .bool sh] 143)) (hc : bs.length ≤ c) (hlt : b < w0.heap.size) (hB : BytesAt w0 b off bs) (k n : Nat) (hk : k + n = bs.length) (a' : Option Addr) (c' : Nat) (hq : n = 0 ∨ (a' = some ⟨b, off + k, none⟩ ∧ c' = c - k)) :
    RdrAt w0 (W.setCell ⟨B, 0, none⟩ (.slice a' n c')) B (bs.drop k) sh ∧ RdFr B W (W.setCell ⟨B, 0, none⟩ (.slice a' n c')) := by
  refine ⟨⟨h.old.setCell (p := ⟨B, 0, none⟩) h.new _, h.new, .slice a' n c', (blk_setk hb 0 _).trans (by simp), ?_⟩, RdFr.set B 0 _ W⟩
  rcases hq with rfl | ⟨rfl, rfl⟩
  · exact Or.inl ⟨List.drop_of_length_le (by omega), a', c', rfl⟩
  · exact Or.inr ⟨b, off + k, c - k, by rw [List.length_drop, show bs.length - k = n by omega], by rw [List.length_drop]; omega, hlt, hB.dropR k⟩

set_option maxHeartbeats 1000000 in
theorem next_any {w0 W : World} {B : Nat} {bs : List UInt8} {sh : Bool} (hn : bs.length ≤ 1048576) (h : RdrAt w0 W B bs sh) :
    Calls Try.prog 102 #[.pointer (some ⟨B, 0, none⟩)] W fun e w' => e = .returned (.int .i64 (nextR bs sh).1) ∧ RdrAt w0 w' B (nextR bs sh).2.1 (nextR bs sh).2.2 ∧ RdFr B W w' := by
  obtain ⟨v, hb, hv⟩ := h.box
  have HH := hidd h
  cases bs with
  | nil =>
    obtain ⟨a, c, rfl⟩ : ∃ a c, v = .slice a 0 c := by
      rcases hv with ⟨_, a, c, e⟩ | ⟨b, off, c, e, _⟩
      · exact ⟨a, c, e⟩
      · exact ⟨_, c, e⟩
    have x0 := blkc hb 0
    clear h hb hv
    go_enter Try.func102, Try.ntmps102
    go_wp2_with fail
    refine (stop_any HH.out).mono ?_
    rintro e w2 ⟨rfl, h2, h3⟩
    have HP := hidd (And.intro h2 h3)
    clear h2 h3
    go_wp2_with fail
    go_ret
    exact ⟨rfl, HP.out⟩
  | cons x r =>
    obtain ⟨b, off, c, rfl, hc, hlt, hB⟩ := hv.resolve_left (fun h => by simp at h)
    have x0 := blkc hb 0
    have f0 := blkf hb 0
    have c0 : W.cell? ⟨b, off, none⟩ = some (.int .u8 (x.toNat : Int)) := (h.old.cell (p := ⟨b, off, none⟩) hlt).trans (by have := hB 0 (by simp); simpa using this)
    have HP := hidd (h.cut hb hc hlt hB 1 r.length (by simp; omega))
    have hx : x.toNat < 256 := UInt8.toNat_lt x
    obtain ⟨n, hnl⟩ : ∃ n, r.length = n := ⟨_, rfl⟩
    simp only [List.length_cons, hnl] at x0 HP hc hn
    clear h hb hB
    go_enter Try.func102, Try.ntmps102
    go_wp2_with fail
    all_goals
      go_ret
      exact ⟨rfl, HP.out _ _ (by first | exact Or.inr ⟨rfl, rfl⟩ | (left; omega))⟩
end Go.Proofs.Ytbkedgpligcicaa

namespace Go.Proofs.Ytbkedgpligcicaa
open Go Go.RowKit
set_option linter.unusedVariables false
set_option maxRecDepth 100000

theorem BytesAt.old {w0 W : World} {b off : Nat} {bs : List UInt8} (h : BytesAt w0 b off bs) (ho : Below w0.heap.size w0 W) (hlt : b < w0.heap.size) : BytesAt W b off bs :=
  fun t ht => (ho.cell (p := ⟨b, off + t, none⟩) hlt).trans (h t ht)
set_option maxHeartbeats 1000000 in
theorem number_any {w0 W : World} {B most : Nat} {bs : List UInt8} {sh : Bool} (hn : bs.length ≤ 1048576) (hm : most ≤ 1048576) (h : RdrAt w0 W B bs sh) :
    Calls Try.prog 82 #[.pointer (some ⟨B, 0, none⟩), .int .i64 (most : Int)] W fun e w' => e = .returned (.int .i64 (numR most bs sh).1) ∧ RdrAt w0 w' B (numR most bs sh).2.1 (numR most bs sh).2.2 ∧ RdFr B W w' := by
  obtain ⟨v, hb, hv⟩ := h.box
  have HH := hidd h
  have hcall : ∃ a c, v = .slice a bs.length c ∧ Calls Try.prog 100 #[.slice a bs.length c] W (fun e w' => e = .returned (.tuple #[.int .i64 (getV bs), .int .i64 (getS bs)]) ∧ w' = W) := by
    rcases hv with ⟨rfl, a, c, e⟩ | ⟨b, off, c, e, hc, hlt, hB⟩
    · exact ⟨a, c, e, leadingInt_none a c W⟩
    · exact ⟨_, c, e, leadingInt_some b off c bs W hn (hB.old h.old hlt)⟩
  obtain ⟨a, c, rfl, hcall⟩ := hcall
  have HC := hidd hcall
  have x0 := blkc hb 0
  have f0 := blkf hb 0
  cases hg : getL bs with
  | none =>
    obtain ⟨e1, e2⟩ := getVS_none hg
    rw [e1, e2] at HC
    have HE : Hid (numR most bs sh = (0, [], true)) := by show _ = _; rw [numR, hg]
    clear h hb hv hcall hg e1 e2
    go_enter Try.func82, Try.ntmps82
    go_wp2_with fail
    refine HC.out.mono ?_
    rintro e w2 ⟨rfl, rfl⟩
    go_wp2_with fail
    refine (stop_any HH.out).mono ?_
    rintro e w3 ⟨rfl, h2, h3⟩
    have HP := hidd (And.intro h2 h3)
    clear h2 h3
    go_wp2_with fail
    go_ret
    rw [HE.out]
    exact ⟨rfl, HP.out⟩
  | some p =>
    obtain ⟨y, s⟩ := p
    obtain ⟨e1, e2⟩ := getVS_some hg
    rw [e1, e2] at HC
    obtain ⟨hs1, hs2, hs3⟩ := getL_le hg
    have hy := (getL_inv hg).2.1
    have hs0 : ((s : Int) == 0) = false := by simp; omega
    by_cases hle : y ≤ most
    · have hlez : ¬ (most : Int) < (y : Int) := by omega
      have HE : Hid (numR most bs sh = ((y : Int), bs.drop s, sh)) := by show _ = _; rw [numR, hg]; show (if y ≤ most then _ else _) = _; rw [if_pos hle]
      obtain ⟨b, off, c2, e3, hc, hlt, hB⟩ := hv.resolve_left (fun h => by have := congrArg List.length h.1; rw [List.length_nil] at this; omega)
      simp only [Value.slice.injEq, true_and] at e3
      obtain ⟨rfl, rfl⟩ := e3
      have HP := hidd (h.cut hb hc hlt hB s (bs.length - s) (by omega))
      have hsl : (s : Int) ≤ (bs.length : Int) := by omega
      clear h hb hv hcall hg e1 e2 hB
      go_enter Try.func82, Try.ntmps82
      go_wp2_with fail
      refine HC.out.mono ?_
      rintro e w2 ⟨rfl, rfl⟩
      go_wp2_with fail
      all_goals
        go_ret
        rw [HE.out]
        exact ⟨rfl, HP.out _ _ (by first | exact Or.inr ⟨rfl, rfl⟩ | (left; omega))⟩
    · have hlez : (most : Int) < (y : Int) := by omega
      have HE : Hid (numR most bs sh = (0, [], true)) := by show _ = _; rw [numR, hg]; show (if y ≤ most then _ else _) = _; rw [if_neg hle]
      clear h hb hv hcall hg e1 e2
      go_enter Try.func82, Try.ntmps82
      go_wp2_with fail
      refine HC.out.mono ?_
      rintro e w2 ⟨rfl, rfl⟩
      go_wp2_with fail
      refine (stop_any HH.out).mono ?_
      rintro e w3 ⟨rfl, h2, h3⟩
      have HP := hidd (And.intro h2 h3)
      clear h2 h3
      go_wp2_with fail
      go_ret
      rw [HE.out]
      exact ⟨rfl, HP.out⟩
end Go.Proofs.Ytbkedgpligcicaa

namespace Go.Proofs.Ytbkedgpligcicaa
open Go Go.RowKit
set_option linter.unusedVariables false

/-! impl's statesOf in plain words: it goes on when it came short, and tells so at the end. -/
def stepA (p : List Ar × List UInt8 × Bool) : List Ar × List UInt8 × Bool :=
  (p.1 ++ [((nextR p.2.1 p.2.2).1, (numR 16383 (nextR p.2.1 p.2.2).2.1 (nextR p.2.1 p.2.2).2.2).1, 0)], (numR 16383 (nextR p.2.1 p.2.2).2.1 (nextR p.2.1 p.2.2).2.2).2)
def arcsN : Nat → List Ar × List UInt8 × Bool → List Ar × List UInt8 × Bool
  | 0, p => p
  | k + 1, p => arcsN k (stepA p)
theorem arcsN_succ : ∀ (k : Nat) (p : List Ar × List UInt8 × Bool), arcsN (k + 1) p = stepA (arcsN k p)
  | 0, p => rfl
  | k + 1, p => by rw [arcsN, arcsN_succ k, arcsN]
def stateR (bs : List UInt8) (sh : Bool) : St × List UInt8 × Bool :=
  (((numR 513 bs sh).1.toNat % 2 == 1, (arcsN ((numR 513 bs sh).1.toNat / 2) ([], (numR 513 bs sh).2)).1), (arcsN ((numR 513 bs sh).1.toNat / 2) ([], (numR 513 bs sh).2)).2)
def stepS (p : List St × List UInt8 × Bool) : List St × List UInt8 × Bool := (p.1 ++ [(stateR p.2.1 p.2.2).1], (stateR p.2.1 p.2.2).2)
def stsN : Nat → List St × List UInt8 × Bool → List St × List UInt8 × Bool
  | 0, p => p
  | k + 1, p => stsN k (stepS p)
theorem stsN_succ : ∀ (k : Nat) (p : List St × List UInt8 × Bool), stsN (k + 1) p = stepS (stsN k p)
  | 0, p => rfl
  | k + 1, p => by rw [stsN, stsN_succ k, stsN]
def statesR (m : List UInt8) : List St × List UInt8 × Bool := stsN (numR 16384 m false).1.toNat ([], (numR 16384 m false).2)

theorem nextR_short (bs : List UInt8) : (nextR bs true).2.2 = true := by cases bs <;> rfl
theorem numR_short (n : Nat) (bs : List UInt8) : (numR n bs true).2.2 = true := by
  rw [numR]
  split
  · rfl
  · split <;> rfl
theorem numR_some {n : Nat} {bs : List UInt8} {v s : Nat} (sh : Bool) (h : getL bs = some (v, s)) (hv : v ≤ n) : numR n bs sh = ((v : Int), bs.drop s, sh) := by
  rw [numR, h]
  show (if v ≤ n then _ else _) = _
  rw [if_pos hv]
theorem numR_big {n : Nat} {bs : List UInt8} {v s : Nat} (sh : Bool) (h : getL bs = some (v, s)) (hv : ¬ v ≤ n) : numR n bs sh = (0, [], true) := by
  rw [numR, h]
  show (if v ≤ n then _ else _) = _
  rw [if_neg hv]
theorem numR_none {n : Nat} {bs : List UInt8} (sh : Bool) (h : getL bs = none) : numR n bs sh = (0, [], true) := by rw [numR, h]
theorem stepA_short {p : List Ar × List UInt8 × Bool} (h : p.2.2 = true) : (stepA p).2.2 = true := by
  unfold stepA
  rw [h, nextR_short]
  exact numR_short _ _
theorem arcsN_short : ∀ (k : Nat) {p : List Ar × List UInt8 × Bool}, p.2.2 = true → (arcsN k p).2.2 = true
  | 0, p, h => h
  | k + 1, p, h => arcsN_short k (stepA_short h)
theorem stateR_short (bs : List UInt8) : (stateR bs true).2.2 = true := arcsN_short _ (numR_short 513 bs)
theorem stsN_short : ∀ (k : Nat) {p : List St × List UInt8 × Bool}, p.2.2 = true → (stsN k p).2.2 = true
  | 0, p, h => h
  | k + 1, p, h => stsN_short k (by
    show (stateR p.2.1 p.2.2).2.2 = true
    rw [h]; exact stateR_short _)

theorem arcsN_rd : ∀ (k : Nat) (l0 : List Ar) (bs : List UInt8), (∀ l r, rdArcs 16384 k bs = some (l, r) → arcsN k (l0, bs, false) = (l0 ++ l, r, false)) ∧ (rdArcs 16384 k bs = none → (arcsN k (l0, bs, false)).2.2 = true) := by
  intro k
  induction k with
  | zero =>
    intro l0 bs
    refine ⟨fun l r h => ?_, fun h => by simp [rdArcs] at h⟩
    simp only [rdArcs, Option.some.injEq, Prod.mk.injEq] at h
    obtain ⟨rfl, rfl⟩ := h
    simp [arcsN]
  | succ k ih =>
    intro l0 bs
    cases bs with
    | nil =>
      refine ⟨fun l r h => by simp [rdArcs] at h, fun _ => ?_⟩
      rw [arcsN]
      exact arcsN_short k (by unfold stepA; exact numR_short _ _)
    | cons b bs =>
      rw [arcsN, rdArcs]
      cases hg : getL bs with
      | none =>
        refine ⟨fun l r h => by simp at h, fun _ => ?_⟩
        refine arcsN_short k ?_
        show (numR 16383 bs false).2.2 = true
        rw [numR_none _ hg]
      | some p =>
        obtain ⟨v, s⟩ := p
        rw [Option.bind_some]
        by_cases hv : v < 16384
        · rw [if_pos hv]
          have e : stepA (l0, b :: bs, false) = (l0 ++ [((b.toNat : Int), (v : Int), 0)], bs.drop s, false) := by
            show (l0 ++ [((b.toNat : Int), (numR 16383 bs false).1, 0)], (numR 16383 bs false).2) = _
            rw [numR_some false hg (by omega)]
          rw [e]
          obtain ⟨i1, i2⟩ := ih (l0 ++ [((b.toNat : Int), (v : Int), 0)]) (bs.drop s)
          cases hr : rdArcs 16384 k (bs.drop s) with
          | none => exact ⟨fun l r h => by simp at h, fun _ => i2 hr⟩
          | some q =>
            obtain ⟨l', r'⟩ := q
            refine ⟨fun l r h => ?_, fun h => by simp at h⟩
            simp only [Option.map_some, Option.some.injEq, Prod.mk.injEq] at h
            obtain ⟨rfl, rfl⟩ := h
            rw [i1 _ _ hr, List.append_assoc]; rfl
        · rw [if_neg hv]
          refine ⟨fun l r h => by simp at h, fun _ => ?_⟩
          refine arcsN_short k ?_
          show (numR 16383 bs false).2.2 = true
          rw [numR_big _ hg (by omega)]

theorem stateR_rd (bs : List UInt8) : (∀ s r, rdSt 16384 bs = some (s, r) → stateR bs false = (s, r, false)) ∧ (rdSt 16384 bs = none → (stateR bs false).2.2 = true) := by
  unfold rdSt
  cases hg : getL bs with
  | none =>
    refine ⟨fun s r h => by simp at h, fun _ => ?_⟩
    refine arcsN_short _ ?_
    show (numR 513 bs false).2.2 = true
    rw [numR_none _ hg]
  | some p =>
    obtain ⟨v, z⟩ := p
    rw [Option.bind_some]
    by_cases hv : v ≤ 513
    · rw [if_pos hv]
      have e : stateR bs false = ((v % 2 == 1, (arcsN (v / 2) ([], bs.drop z, false)).1), (arcsN (v / 2) ([], bs.drop z, false)).2) := by
        unfold stateR
        rw [numR_some false hg hv]; rfl
      rw [e]
      obtain ⟨i1, i2⟩ := arcsN_rd (v / 2) [] (bs.drop z)
      cases hr : rdArcs 16384 (v / 2) (bs.drop z) with
      | none => exact ⟨fun s r h => by simp at h, fun _ => i2 hr⟩
      | some q =>
        obtain ⟨l', r'⟩ := q
        refine ⟨fun s r h => ?_, fun h => by simp at h⟩
        simp only [Option.map_some, Option.some.injEq, Prod.mk.injEq] at h
        obtain ⟨rfl, rfl⟩ := h
        rw [i1 _ _ hr]; rfl
    · rw [if_neg hv]
      refine ⟨fun s r h => by simp at h, fun _ => ?_⟩
      refine arcsN_short _ ?_
      show (numR 513 bs false).2.2 = true
      rw [numR_big _ hg hv]

theorem stsN_rd : ∀ (k : Nat) (S0 : List St) (bs : List UInt8), (∀ S r, rdSts 16384 k bs = some (S, r) → stsN k (S0, bs, false) = (S0 ++ S, r, false)) ∧ (rdSts 16384 k bs = none → (stsN k (S0, bs, false)).2.2 = true) := by
  intro k
  induction k with
  | zero =>
    intro S0 bs
    refine ⟨fun l r h => ?_, fun h => by simp [rdSts] at h⟩
    simp only [rdSts, Option.some.injEq, Prod.mk.injEq] at h
    obtain ⟨rfl, rfl⟩ := h
    simp [stsN]
  | succ k ih =>
    intro S0 bs
    rw [stsN, rdSts]
    obtain ⟨j1, j2⟩ := stateR_rd bs
    cases hs : rdSt 16384 bs with
    | none =>
      refine ⟨fun l r h => by simp at h, fun _ => ?_⟩
      exact stsN_short k (j2 hs)
    | some p =>
      obtain ⟨s, r1⟩ := p
      rw [Option.bind_some]
      have e : stepS (S0, bs, false) = (S0 ++ [s], r1, false) := by
        show (S0 ++ [(stateR bs false).1], (stateR bs false).2) = _
        rw [j1 _ _ hs]
      rw [e]
      obtain ⟨i1, i2⟩ := ih (S0 ++ [s]) r1
      cases hr : rdSts 16384 k r1 with
      | none => exact ⟨fun l r h => by simp at h, fun _ => i2 hr⟩
      | some q =>
        obtain ⟨S', r'⟩ := q
        refine ⟨fun S r h => ?_, fun h => by simp at h⟩
        simp only [Option.map_some, Option.some.injEq, Prod.mk.injEq] at h
        obtain ⟨rfl, rfl⟩ := h
        rw [i1 _ _ hr, List.append_assoc]; rfl

/-- What statesOf tells is what is told of the bytes. -/
theorem rdI_statesR {bs : List UInt8} (h4 : 4 ≤ bs.length) (hs : four (sumL (bs.take (bs.length - 4))) = bs.drop (bs.length - 4)) :
    rdI bs = if (statesR (bs.take (bs.length - 4))).2.2 = false ∧ (statesR (bs.take (bs.length - 4))).2.1 = [] then some (statesR (bs.take (bs.length - 4))).1 else none := by
  unfold rdI
  rw [if_pos ⟨h4, hs⟩]
  generalize bs.take (bs.length - 4) = m
  unfold statesR
  cases hg : getL m with
  | none =>
    rw [numR_none _ hg, if_neg (by rw [stsN_short _ rfl]; simp)]; rfl
  | some p =>
    obtain ⟨v, z⟩ := p
    rw [Option.bind_some]
    by_cases hv : v ≤ 16384
    · rw [if_pos hv, numR_some _ hg hv]
      show _ = if (stsN (v : Int).toNat ([], m.drop z, false)).2.2 = false ∧ (stsN (v : Int).toNat ([], m.drop z, false)).2.1 = [] then some (stsN (v : Int).toNat ([], m.drop z, false)).1 else none
      rw [Int.toNat_natCast]
      obtain ⟨i1, i2⟩ := stsN_rd v [] (m.drop z)
      show (rdSts 16384 v (m.drop z)).bind _ = _
      cases hr : rdSts 16384 v (m.drop z) with
      | none => rw [if_neg (by rw [i2 hr]; simp)]; rfl
      | some q =>
        obtain ⟨S', r'⟩ := q
        rw [i1 _ _ hr, Option.bind_some]
        show (if r' = [] then some S' else none) = if false = false ∧ r' = [] then some ([] ++ S') else none
        by_cases hq : r' = []
        · rw [if_pos hq, if_pos ⟨rfl, hq⟩]; rfl
        · rw [if_neg hq, if_neg fun h => hq h.2]
    · rw [if_neg hv, numR_big _ hg hv, if_neg (by rw [stsN_short _ rfl]; simp)]
end Go.Proofs.Ytbkedgpligcicaa

namespace Go.Proofs.Ytbkedgpligcicaa
open Go Go.RowKit Go.Shelf
set_option linter.unusedVariables false
attribute [local go_sem] Oper.semAt_some

/-- What an iterator has captured stays, and what lay ahead of all. -/
def KpB (n0 Bs : Nat) (W W' : World) : Prop := W'.heap[Bs]? = W.heap[Bs]? ∧ Below n0 W W'
theorem KpB.refl (n0 Bs : Nat) (W : World) : KpB n0 Bs W W := ⟨rfl, Below.refl _ _⟩
theorem KpB.trans {n0 Bs : Nat} {A B C : World} (h : KpB n0 Bs A B) (k : KpB n0 Bs B C) : KpB n0 Bs A C := ⟨k.1.trans h.1, h.2.trans k.2⟩
theorem cellH {W W' : World} {g : Nat} (h : W'.heap[g]? = W.heap[g]?) (k : Nat) : W'.cell? ⟨g, k, none⟩ = W.cell? ⟨g, k, none⟩ := by simp [World.cell?, h]
def arcOf (l : List Ar) (x : Nat) : Array Value := #[.int .i64 (x : Int), .agg #[.int .i64 (l.getD x ar0).1, .int .i64 (l.getD x ar0).2.1, .int .i64 (l.getD x ar0).2.2]]
theorem rev_step (c : Nat) : (List.range (c + 1)).reverse = c :: (List.range c).reverse := by rw [List.range_succ, List.reverse_append]; rfl

set_option maxRecDepth 100000 in
set_option maxHeartbeats 2000000 in
theorem back1_any (F : Fence) (n : Nat) (hF : F.fn 106) (hro : F.round = none) (hn : 1 ≤ n) (l Bs n0 : Nat) (a : Option Addr) (arcs : List Ar) (cap : Nat) (hlen : arcs.length ≤ 1048576) (J Jx : List Nat → World → Prop) (Bb : Nat) (hJa : AbidesFrom Bb J)
    (hY : ∀ pre x W, J pre W → pre.length < arcs.length → YieldAt F (n - 1) Try.prog l (arcOf arcs x) W fun e W' =>
      (e = .returned (.bool true) ∧ J (pre ++ [x]) W' ∧ KpB n0 Bs W W') ∨ (e = .returned (.bool false) ∧ Jx (pre ++ [x]) W'))
    (W : World) (hBs : W.cell? ⟨Bs, 0, none⟩ = some (.slice a arcs.length cap)) (hold : ∀ W', Below n0 W W' → HoldA W' a arcs) (h0 : J [] W) :
    CallsIn F n Try.prog 106 #[.func (.yield l) #[] #[], .pointer (some ⟨Bs, 0, none⟩)] W fun e W' => (∃ v, e = .returned v) ∧
      ((∃ ys, ys = (List.range arcs.length).reverse ∧ J ys W') ∨ (∃ pre : List Nat, True ∧ Jx pre W')) := by
  refine callsIn_of_wp Try.func106 rfl hF ?_ hro
  simp only [Try.ntmps106, List.size_toArray, List.length_cons, List.length_nil, Nat.reduceAdd, Nat.reduceSub, Array.replicate_succ, Array.replicate_zero, List.push_toArray, List.append_toArray, List.nil_append, List.cons_append]
  have HH := hidd hold
  clear hold
  gi_wp2
  gi_loopw [3] (fun i wr => ∃ (c : Nat) (pre : List Nat), i = .int .i64 ((c : Int) - 1) ∧ c ≤ arcs.length ∧ pre ++ (List.range c).reverse = (List.range arcs.length).reverse ∧ J pre wr ∧ KpB n0 Bs W wr) (fun i _ => (intOf i + 1).toNat)
  case atStart => exact ⟨arcs.length, [], by go_num, Nat.le_refl _, rfl, h0, KpB.refl _ _ _⟩
  case round =>
    obtain ⟨c, pre, rfl, hat, hpre, hJs, hkp⟩ := hrel
    have c1 := (cellH hkp.1 0).trans hBs
    have Hkp := hidd hkp
    have Hpre := hidd hpre
    have HJ := hidd hJs
    clear hkp hpre hJs
    by_cases hc : c = 0
    · subst hc
      have HE : Hid (pre = (List.range arcs.length).reverse) := by
        show _ = _
        have := Hpre.out
        simpa using this
      gi_wp2
      go_end0
      refine ⟨⟨_, rfl⟩, .inl ?_⟩
      have hj := HJ.out
      rw [HE.out] at hj
      first | exact hj | exact ⟨_, rfl, hj⟩
    · obtain ⟨x, rfl⟩ : ∃ x, c = x + 1 := ⟨c - 1, by omega⟩
      have Hst := hidd (rev_step x)
      have hpl : pre.length < arcs.length := by have := congrArg List.length Hpre.out; simp at this; omega
      have hxl : x < arcs.length := by omega
      have hxz : ((x + 1 : Nat) : Int) - 1 = (x : Int) := by omega
      rw [hxz]
      clear hxz hat hc
      have hxlz : (x : Int) < (arcs.length : Int) := by omega
      obtain ⟨b, off, rfl, hb, hcell⟩ := (HH.out wr Hkp.out.2).resolve_left (fun h => by rw [h] at hxl; simp at hxl)
      obtain ⟨x0, x1, x2⟩ := hcell x hxl
      clear hcell
      have hJd : J pre wr.drew := hJa pre wr wr.drew none HJ.out ⟨rfl, rfl, rfl, Nat.le_refl _, fun _ _ _ => rfl⟩ (fun r e => by cases e)
      obtain ⟨fn, tmps, assign, body, hy, hR⟩ := hY pre x wr HJ.out hpl
      rw [arcOf] at hy
      generalize arcs.getD x ar0 = p at *
      clear hJd
      gi_wp2
      refine hR.mono ?_
      rintro e W3 (⟨rfl, hJ3, hk3⟩ | ⟨rfl, hJx3⟩)
      · gi_wp2
        go_roundw
        · exact ⟨x, pre ++ [x], by go_num, by omega, by rw [List.append_assoc, ← Hpre.out, Hst.out]; rfl, hJ3, Hkp.out.trans hk3⟩
        · simp [intOf]
      · gi_wp2
        refine bodyPost_ret (results_none rfl _ _ _) rfl ?_
        exact ⟨⟨_, rfl⟩, .inr ⟨_, trivial, hJx3⟩⟩
theorem back_any (F : Fence) (n : Nat) (hF : F.fn 98) (hro : F.round = none) (a : Option Addr) (len cap : Nat) (w : World) :
    CallsIn F n Try.prog 98 #[.slice a len cap] w fun e w' => e = .returned (.func (.func 106) #[] #[.pointer (some ⟨w.heap.size, 0, none⟩)]) ∧ w' = w.alloc (.cells #[.slice a len cap] 80) := by
  refine callsIn_of_wp Try.func98 rfl hF ?_ hro
  simp only [Try.ntmps98, List.size_toArray, List.length_cons, List.length_nil, Nat.reduceAdd, Nat.reduceSub, Array.replicate_succ, Array.replicate_zero, List.push_toArray, List.append_toArray, List.nil_append, List.cons_append]
  gi_wp2
  go_ret
  exact ⟨rfl, rfl⟩
theorem back_stops (F : Fence) (n : Nat) (hF : F.fn 106) (hro : F.round = none) (hn : 1 ≤ n) (Bs n0 : Nat) (a : Option Addr) (arcs : List Ar) (cap : Nat) (hlen : arcs.length ≤ 1048576) (w : World)
    (hBs : Bs < w.heap.size) (hn0 : n0 ≤ w.heap.size) (hc1 : w.cell? ⟨Bs, 0, none⟩ = some (.slice a arcs.length cap)) (hold : ∀ W', Below n0 w W' → HoldA W' a arcs) :
    SeqStopsK F n Try.prog 106 #[.pointer (some ⟨Bs, 0, none⟩)] (fun x : Nat => arcOf arcs x) (KpB n0 Bs) (fun ys => ys = (List.range arcs.length).reverse) (fun _ => True) arcs.length w := fun l J Jx W hW hJ _ hY h0 => by
  have k1 := (hW.cell (p := ⟨Bs, 0, none⟩) hBs).trans hc1
  exact back1_any F n hF hro hn l Bs n0 a arcs cap hlen J Jx _ hJ hY W k1 (fun W' h => hold W' ((hW.mono hn0).trans h)) h0
end Go.Proofs.Ytbkedgpligcicaa

namespace Go.Proofs.Ytbkedgpligcicaa
open Go Go.RowKit Go.Shelf
set_option linter.unusedVariables false
attribute [local go_sem] Oper.semAt_some

/-- A slice of arcs, of which the Aheads are told by nobody. -/
def HoldTo (w : World) (a : Option Addr) (l : List Ar) : Prop :=
  l = [] ∨ ∃ b off, a = some ⟨b, off, none⟩ ∧ ∀ k, k < l.length → w.cell? ⟨b, off + k * 3, none⟩ = some (.int .i64 (l.getD k ar0).1) ∧ w.cell? ⟨b, off + k * 3 + 1, none⟩ = some (.int .i64 (l.getD k ar0).2.1) ∧ ∃ v, w.cell? ⟨b, off + k * 3 + 2, none⟩ = some (.int .i64 v)
theorem HoldA.to {w : World} {a : Option Addr} {l : List Ar} (h : HoldA w a l) : HoldTo w a l := by
  rcases h with h | ⟨b, off, ha, _, h⟩
  · exact Or.inl h
  · exact Or.inr ⟨b, off, ha, fun k hk => ⟨(h k hk).1, (h k hk).2.1, _, (h k hk).2.2⟩⟩
/-- What aheads wants kept by whoever ranges over it: all cells but those of the arcs, of which the Aheads may turn. -/
def KpA (a : Option Addr) (l : List Ar) (W W' : World) : Prop := (∀ (k : Nat) (o : Obj), (∀ off, a ≠ some ⟨k, off, none⟩) → W.heap[k]? = some o → o.isCells = true → W'.heap[k]? = some o) ∧ (HoldTo W a l → HoldTo W' a l)
theorem KpA.refl (a : Option Addr) (l : List Ar) (W : World) : KpA a l W W := ⟨fun _ _ _ h _ => h, id⟩
theorem KpA.trans {a : Option Addr} {l : List Ar} {A B C : World} (h : KpA a l A B) (k : KpA a l B C) : KpA a l A C := ⟨fun i o h1 h2 h3 => k.1 i o h1 (h.1 i o h1 h2 h3) h3, fun x => k.2 (h.2 x)⟩
theorem HoldTo.keep {w w' : World} {a : Option Addr} {l : List Ar} (h : HoldTo w a l) (hk : ∀ (k : Nat) (o : Obj), w.heap[k]? = some o → o.isCells = true → w'.heap[k]? = some o) : HoldTo w' a l := by
  rcases h with h | ⟨b, off, ha, h⟩
  · exact Or.inl h
  · refine Or.inr ⟨b, off, ha, fun k hkl => ?_⟩
    obtain ⟨h1, h2, v, h3⟩ := h k hkl
    have hb : w'.heap[b]? = w.heap[b]? := by
      cases hx : w.heap[b]? with
      | none => simp [World.cell?, hx] at h1
      | some o =>
        refine hk b o hx ?_
        cases o <;> simp_all [World.cell?, Obj.isCells]
    have e : ∀ j, w'.cell? ⟨b, j, none⟩ = w.cell? ⟨b, j, none⟩ := fun j => by simp [World.cell?, hb]
    exact ⟨(e _).trans h1, (e _).trans h2, v, (e _).trans h3⟩
theorem KpA.of {a : Option Addr} {l : List Ar} {W W' : World} (hk : ∀ (k : Nat) (o : Obj), W.heap[k]? = some o → o.isCells = true → W'.heap[k]? = some o) : KpA a l W W' := ⟨fun k o _ => hk k o, fun h => h.keep hk⟩
def ahOf (fin : Bool) (E : List Nat) (arcs : List Ar) (x : Nat) : Array Value := #[.int .i64 (x : Int), .int .i64 ((ahN fin E arcs x : Nat) : Int)]
theorem ahN_step (fin : Bool) (E : List Nat) (arcs : List Ar) {x : Nat} (h : x < arcs.length) : ahN fin E arcs (x + 1) = ahN fin E arcs x + valE E (arcs.getD x ar0).2.1.toNat := by
  have h1 : arcs[x]? = some (arcs.getD x ar0) := by simp [h]
  rw [ahN, ahN, sumE_take h1]
  omega
set_option maxRecDepth 100000 in
set_option maxHeartbeats 4000000 in
theorem ahead1_any (F : Fence) (n : Nat) (hF : F.fn 84) (hro : F.round = none) (hn : 1 ≤ n) (l B1 B2 be ce : Nat) (fin : Bool) (a : Option Addr) (arcs : List Ar) (cap : Nat) (E : List Nat) (hlen : arcs.length ≤ 1048576)
    (hto : ∀ p ∈ arcs, 0 ≤ p.2.1 ∧ p.2.1.toNat < E.length) (hE : E.length ≤ 1048576) (hbd : ∀ x, x ≤ arcs.length → ahN fin E arcs x ≤ 4611686018427387904)
    (J Jx : List (Fin arcs.length) → World → Prop) (Bb : Nat) (hJa : AbidesFrom Bb J)
    (hY : ∀ pre x W, J pre W → pre.length < arcs.length → YieldAt F (n - 1) Try.prog l (ahOf fin E arcs x.val) W fun e W' =>
      (e = .returned (.bool true) ∧ J (pre ++ [x]) W' ∧ KpA a arcs W W') ∨ (e = .returned (.bool false) ∧ Jx (pre ++ [x]) W'))
    (W : World) (hB1 : W.heap[B1]? = some (.cells #[.bool fin, .slice a arcs.length cap] 82)) (hB2 : W.heap[B2]? = some (.cells #[.slice (some ⟨be, 0, none⟩) E.length ce] 66)) (hrow : W.heap[be]? = some (.cells (nCellsE E).toArray 3))
    (hne : arcs ≠ [] → ∀ off, a ≠ some ⟨B1, off, none⟩ ∧ a ≠ some ⟨B2, off, none⟩ ∧ a ≠ some ⟨be, off, none⟩) (hne2 : arcs ≠ [] → ∀ b off, a = some ⟨b, off, none⟩ → b < W.heap.size) (hold : HoldTo W a arcs) (h0 : J [] W) :
    CallsIn F n Try.prog 84 #[.func (.yield l) #[] #[], .pointer (some ⟨B1, 0, none⟩), .pointer (some ⟨B2, 0, none⟩)] W fun e W' => (∃ v, e = .returned v) ∧
      ((∃ ys : List (Fin arcs.length), ys.map Fin.val = List.range arcs.length ∧ J ys W') ∨ (∃ pre : List (Fin arcs.length), True ∧ Jx pre W')) := by
  refine callsIn_of_wp Try.func84 rfl hF ?_ hro
  simp only [Try.ntmps84, List.size_toArray, List.length_cons, List.length_nil, Nat.reduceAdd, Nat.reduceSub, Array.replicate_succ, Array.replicate_zero, List.push_toArray, List.append_toArray, List.nil_append, List.cons_append]
  have HH := hidd hold
  have HB1 := hidd hB1
  have HB2 := hidd hB2
  have HRow := hidd hrow
  have HTo := hidd hto
  have Hbd := hidd hbd
  have Hne := hidd hne
  have Hne2 := hidd hne2
  have d0 : W.cell? ⟨B1, 0, none⟩ = some (.bool fin) := blkc hB1 0
  have d1 : W.cell? ⟨B1, 1, none⟩ = some (.slice a arcs.length cap) := blkc hB1 1
  clear hold hB1 hB2 hrow hto hbd hne hne2
  cases fin with
  | true =>
    gi_wp2
    gi_loopw [4, 12] (fun av iv wr => ∃ (k : Nat) (pre : List (Fin arcs.length)), k ≤ arcs.length ∧ iv = .int .i64 (k : Int) ∧ av = .int .i64 ((ahN true E arcs k : Nat) : Int) ∧ pre.map Fin.val = List.range k ∧ J pre wr ∧ KpA a arcs W wr ∧ W.heap.size ≤ wr.heap.size) (fun _ iv _ => arcs.length - (intOf iv).toNat)
    case atStart => exact ⟨0, [], Nat.zero_le _, rfl, by simp [ahN, sumE], rfl, h0, KpA.refl _ _ _, Nat.le_refl _⟩
    case round =>
      obtain ⟨k, pre, hk, rfl, rfl, hpre, hJs, hkp, hsz⟩ := hrel
      have Hpre := hidd hpre
      have Hkp := hidd hkp
      have HJ := hidd hJs
      clear hkp hJs hpre
      by_cases hlt : k < arcs.length
      · have hltz : (k : Int) < (arcs.length : Int) := by omega
        have hnn : arcs ≠ [] := fun h => by rw [h] at hlt; simp at hlt
        have Hne' := hidd (Hne.out hnn)
        have hplen : pre.length = k := by have := congrArg List.length Hpre.out; simpa using this
        have Hst := hidd (ahN_step true E arcs hlt)
        have hb1 := Hbd.out (k + 1) (by omega)
        obtain ⟨t0, t1⟩ := HTo.out (arcs.getD k ar0) (by rw [List.getD_eq_getElem?_getD, List.getElem?_eq_getElem hlt]; exact List.getElem_mem _)
        obtain ⟨b, off, rfl, hcell⟩ := (Hkp.out.2 HH.out).resolve_left (fun h => by rw [h] at hlt; simp at hlt)
        have hbl : b < W.heap.size := Hne2.out (fun h => by rw [h] at hlt; simp at hlt) b off rfl
        obtain ⟨x0, x1, v2, x2⟩ := hcell k hlt
        clear hcell
        generalize hp : arcs.getD k ar0 = p at *
        obtain ⟨p0, p1, p2⟩ := p
        dsimp only at x0 x1 t0 t1
        obtain ⟨T, rfl⟩ : ∃ T : Nat, p1 = (T : Int) := ⟨p1.toNat, by omega⟩
        simp only [Int.toNat_natCast] at t1 Hst
        have hTz : (T : Int) < (E.length : Int) := by omega
        generalize hA1 : ahN true E arcs (k + 1) = A1 at *
        have HA1 := hidd hA1
        clear hA1 hp
        have HJw : Hid (J pre (wr.alloc (.cells #[.int .i64 p0, .int .i64 (T : Int), .int .i64 v2] 85))) := hJa _ wr _ none HJ.out (World.grownBy_alloc wr _ none) (fun r e => by cases e)
        obtain ⟨fn, tmps, assign, body, hy, hR⟩ := hY pre ⟨k, hlt⟩ _ HJw.out (by omega)
        rw [ahOf] at hy
        have HA0 : Hid (ahN true E arcs k + valE E T = A1) := Hst.out.symm
        generalize ahN true E arcs k = A0 at *
        gi_wp2
        refine hR.mono ?_
        have HRc := hidd (Hkp.out.1 be _ (fun o e => (Hne'.out o).2.2 e) HRow.out rfl)
        have HBc := hidd (Hkp.out.1 B2 _ (fun o e => (Hne'.out o).2.1 e) HB2.out rfl)
        rintro e W3 (⟨rfl, hJ3, hk3⟩ | ⟨rfl, hJx3⟩)
        · have hsz3 : True := trivial
          have hkall : KpA (some ⟨b, off, none⟩) arcs wr W3 := by
            refine KpA.trans (KpA.of fun i o h1 h2 => ?_) hk3
            rw [Below.heap_alloc _ _ _ (Array.getElem?_eq_some_iff.1 h1).1]
            exact h1
          have hbx : W3.heap[wr.heap.size]? = some (.cells #[.int .i64 p0, .int .i64 (T : Int), .int .i64 v2] 85) := hk3.1 _ _ (fun o e => by cases e; omega) (heap_alloc_new wr _) rfl
          have q1 : W3.cell? ⟨wr.heap.size, 1, none⟩ = some (.int .i64 (T : Int)) := blkc hbx 1
          have q2 : W3.cell? ⟨B2, 0, none⟩ = some (.slice (some ⟨be, 0, none⟩) E.length ce) := blkc (hkall.1 B2 _ (fun o e => (Hne'.out o).2.1 e) HBc.out rfl) 0
          have q3 : W3.cell? ⟨be, T, none⟩ = some (.int .i64 ((valE E T : Nat) : Int)) := by rw [blkc (hkall.1 be _ (fun o e => (Hne'.out o).2.2 e) HRc.out rfl) T]; simp [nCellsE, valE, t1]
          have hz3 : wr.heap.size < W3.heap.size := (Array.getElem?_eq_some_iff.1 hbx).1
          generalize valE E T = V at *
          have hAz : (A0 : Int) + (V : Int) = (A1 : Int) := by have := HA0.out; omega
          have hA1b : (A1 : Int) ≤ 4611686018427387904 := by omega
          gi_wp2
          go_roundw
          · exact ⟨k + 1, pre ++ [⟨k, hlt⟩], by omega, by go_num, by rw [HA1.out], by rw [List.map_append, Hpre.out, List.range_succ]; rfl, hJ3, Hkp.out.trans hkall, by omega⟩
          · simp [intOf]; omega
        · gi_wp2
          refine bodyPost_ret (results_none rfl _ _ _) rfl ?_
          exact ⟨⟨_, rfl⟩, .inr ⟨_, trivial, hJx3⟩⟩
      · have hltz : ¬ (k : Int) < (arcs.length : Int) := by omega
        obtain rfl : k = arcs.length := by omega
        gi_wp2
        go_end0
        refine ⟨⟨_, rfl⟩, .inl ?_⟩
        exact ⟨_, Hpre.out, HJ.out⟩
  | false =>
    gi_wp2
    gi_loopw [4, 12] (fun av iv wr => ∃ (k : Nat) (pre : List (Fin arcs.length)), k ≤ arcs.length ∧ iv = .int .i64 (k : Int) ∧ av = .int .i64 ((ahN false E arcs k : Nat) : Int) ∧ pre.map Fin.val = List.range k ∧ J pre wr ∧ KpA a arcs W wr ∧ W.heap.size ≤ wr.heap.size) (fun _ iv _ => arcs.length - (intOf iv).toNat)
    case atStart => exact ⟨0, [], Nat.zero_le _, rfl, by simp [ahN, sumE], rfl, h0, KpA.refl _ _ _, Nat.le_refl _⟩
    case round =>
      obtain ⟨k, pre, hk, rfl, rfl, hpre, hJs, hkp, hsz⟩ := hrel
      have Hpre := hidd hpre
      have Hkp := hidd hkp
      have HJ := hidd hJs
      clear hkp hJs hpre
      by_cases hlt : k < arcs.length
      · have hltz : (k : Int) < (arcs.length : Int) := by omega
        have hnn : arcs ≠ [] := fun h => by rw [h] at hlt; simp at hlt
        have Hne' := hidd (Hne.out hnn)
        have hplen : pre.length = k := by have := congrArg List.length Hpre.out; simpa using this
        have Hst := hidd (ahN_step false E arcs hlt)
        have hb1 := Hbd.out (k + 1) (by omega)
        obtain ⟨t0, t1⟩ := HTo.out (arcs.getD k ar0) (by rw [List.getD_eq_getElem?_getD, List.getElem?_eq_getElem hlt]; exact List.getElem_mem _)
        obtain ⟨b, off, rfl, hcell⟩ := (Hkp.out.2 HH.out).resolve_left (fun h => by rw [h] at hlt; simp at hlt)
        have hbl : b < W.heap.size := Hne2.out (fun h => by rw [h] at hlt; simp at hlt) b off rfl
        obtain ⟨x0, x1, v2, x2⟩ := hcell k hlt
        clear hcell
        generalize hp : arcs.getD k ar0 = p at *
        obtain ⟨p0, p1, p2⟩ := p
        dsimp only at x0 x1 t0 t1
        obtain ⟨T, rfl⟩ : ∃ T : Nat, p1 = (T : Int) := ⟨p1.toNat, by omega⟩
        simp only [Int.toNat_natCast] at t1 Hst
        have hTz : (T : Int) < (E.length : Int) := by omega
        generalize hA1 : ahN false E arcs (k + 1) = A1 at *
        have HA1 := hidd hA1
        clear hA1 hp
        have HJw : Hid (J pre (wr.alloc (.cells #[.int .i64 p0, .int .i64 (T : Int), .int .i64 v2] 85))) := hJa _ wr _ none HJ.out (World.grownBy_alloc wr _ none) (fun r e => by cases e)
        obtain ⟨fn, tmps, assign, body, hy, hR⟩ := hY pre ⟨k, hlt⟩ _ HJw.out (by omega)
        rw [ahOf] at hy
        have HA0 : Hid (ahN false E arcs k + valE E T = A1) := Hst.out.symm
        generalize ahN false E arcs k = A0 at *
        gi_wp2
        refine hR.mono ?_
        have HRc := hidd (Hkp.out.1 be _ (fun o e => (Hne'.out o).2.2 e) HRow.out rfl)
        have HBc := hidd (Hkp.out.1 B2 _ (fun o e => (Hne'.out o).2.1 e) HB2.out rfl)
        rintro e W3 (⟨rfl, hJ3, hk3⟩ | ⟨rfl, hJx3⟩)
        · have hsz3 : True := trivial
          have hkall : KpA (some ⟨b, off, none⟩) arcs wr W3 := by
            refine KpA.trans (KpA.of fun i o h1 h2 => ?_) hk3
            rw [Below.heap_alloc _ _ _ (Array.getElem?_eq_some_iff.1 h1).1]
            exact h1
          have hbx : W3.heap[wr.heap.size]? = some (.cells #[.int .i64 p0, .int .i64 (T : Int), .int .i64 v2] 85) := hk3.1 _ _ (fun o e => by cases e; omega) (heap_alloc_new wr _) rfl
          have q1 : W3.cell? ⟨wr.heap.size, 1, none⟩ = some (.int .i64 (T : Int)) := blkc hbx 1
          have q2 : W3.cell? ⟨B2, 0, none⟩ = some (.slice (some ⟨be, 0, none⟩) E.length ce) := blkc (hkall.1 B2 _ (fun o e => (Hne'.out o).2.1 e) HBc.out rfl) 0
          have q3 : W3.cell? ⟨be, T, none⟩ = some (.int .i64 ((valE E T : Nat) : Int)) := by rw [blkc (hkall.1 be _ (fun o e => (Hne'.out o).2.2 e) HRc.out rfl) T]; simp [nCellsE, valE, t1]
          have hz3 : wr.heap.size < W3.heap.size := (Array.getElem?_eq_some_iff.1 hbx).1
          generalize valE E T = V at *
          have hAz : (A0 : Int) + (V : Int) = (A1 : Int) := by have := HA0.out; omega
          have hA1b : (A1 : Int) ≤ 4611686018427387904 := by omega
          gi_wp2
          go_roundw
          · exact ⟨k + 1, pre ++ [⟨k, hlt⟩], by omega, by go_num, by rw [HA1.out], by rw [List.map_append, Hpre.out, List.range_succ]; rfl, hJ3, Hkp.out.trans hkall, by omega⟩
          · simp [intOf]; omega
        · gi_wp2
          refine bodyPost_ret (results_none rfl _ _ _) rfl ?_
          exact ⟨⟨_, rfl⟩, .inr ⟨_, trivial, hJx3⟩⟩
      · have hltz : ¬ (k : Int) < (arcs.length : Int) := by omega
        obtain rfl : k = arcs.length := by omega
        gi_wp2
        go_end0
        refine ⟨⟨_, rfl⟩, .inl ?_⟩
        exact ⟨_, Hpre.out, HJ.out⟩
theorem aheads_any (F : Fence) (n : Nat) (hF : F.fn 52) (hro : F.round = none) (fin : Bool) (a : Option Addr) (len cap : Nat) (ae : Option Addr) (le ce : Nat) (w : World) :
    CallsIn F n Try.prog 52 #[.agg #[.bool fin, .slice a len cap], .slice ae le ce] w fun r w' => r = .returned (.func (.func 84) #[] #[.pointer (some ⟨w.heap.size, 0, none⟩), .pointer (some ⟨w.heap.size + 1, 0, none⟩)]) ∧ w' = (w.alloc (.cells #[.bool fin, .slice a len cap] 82)).alloc (.cells #[.slice ae le ce] 66) := by
  refine callsIn_of_wp Try.func52 rfl hF ?_ hro
  simp only [Try.ntmps52, List.size_toArray, List.length_cons, List.length_nil, Nat.reduceAdd, Nat.reduceSub, Array.replicate_succ, Array.replicate_zero, List.push_toArray, List.append_toArray, List.nil_append, List.cons_append]
  gi_wp2
  go_ret
  exact ⟨rfl, rfl⟩
theorem ahead_stops (F : Fence) (n : Nat) (hF : F.fn 84) (hro : F.round = none) (hn : 1 ≤ n) (B1 B2 be ce : Nat) (fin : Bool) (a : Option Addr) (arcs : List Ar) (cap : Nat) (E : List Nat) (hlen : arcs.length ≤ 1048576)
    (hto : ∀ p ∈ arcs, 0 ≤ p.2.1 ∧ p.2.1.toNat < E.length) (hE : E.length ≤ 1048576) (hbd : ∀ x, x ≤ arcs.length → ahN fin E arcs x ≤ 4611686018427387904) (w : World)
    (hB1 : w.heap[B1]? = some (.cells #[.bool fin, .slice a arcs.length cap] 82)) (hB2 : w.heap[B2]? = some (.cells #[.slice (some ⟨be, 0, none⟩) E.length ce] 66)) (hrow : w.heap[be]? = some (.cells (nCellsE E).toArray 3))
    (hne : arcs ≠ [] → ∀ off, a ≠ some ⟨B1, off, none⟩ ∧ a ≠ some ⟨B2, off, none⟩ ∧ a ≠ some ⟨be, off, none⟩) (hold : HoldA w a arcs) :
    SeqStopsK F n Try.prog 84 #[.pointer (some ⟨B1, 0, none⟩), .pointer (some ⟨B2, 0, none⟩)] (fun x : Fin arcs.length => ahOf fin E arcs x.val) (KpA a arcs) (fun ys => ys.map Fin.val = List.range arcs.length) (fun _ => True) arcs.length w := fun l J Jx W hW hJ _ hY h0 => by
  refine ahead1_any F n hF hro hn l B1 B2 be ce fin a arcs cap E hlen hto hE hbd J Jx _ hJ hY W (blko hB1 hW) (blko hB2 hW) (blko hrow hW) hne ?_ (hold.below hW).to h0
  intro hnn b off e
  obtain ⟨b', off', h1, h2, _⟩ := hold.resolve_left hnn
  rw [h1] at e
  cases e
  exact Nat.lt_of_lt_of_le h2 hW.size
end Go.Proofs.Ytbkedgpligcicaa
