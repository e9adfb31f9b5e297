import Derived.Test.YtjndogajdlophaaReadDictJ08
import Derived.Test.YtjndogajdlophaaReadDictJ01
import Derived.Test.YtjndogajdlophaaReadDictJ05
namespace Go.Proofs.Ytjndogajdlophaa
open Go Go.RowKit
set_option linter.unusedVariables false
set_option maxRecDepth 100000

theorem rk_le (t : Tx) (L : List Tx) : rk t L ≤ L.length := List.countP_le_length
theorem ahead_le (n : Nat) (L : List Tx) : aheadT n L ≤ L.length := List.countP_le_length
theorem subs_len : ∀ (p : Tx) (L : List Tx), (subs p L).length ≤ L.length
  | [], L => Nat.le_refl _
  | b :: p, L => Nat.le_trans (subs_len p _) (subT_len _ _)
theorem take_next {t : Tx} {i : Nat} {b : UInt8} (h : i < t.length) (hb : t.getD i 0 = b) : t.take (i + 1) = t.take i ++ [b] := by
  rw [List.take_add_one, List.getElem?_eq_getElem h]
  rw [List.getD_eq_getElem?_getD, List.getElem?_eq_getElem h] at hb
  simp at hb
  rw [hb]; rfl
theorem subs_stop {t : Tx} {i : Nat} {L : List Tx} (h : subs (t.take i) L = []) : subs t L = [] := by
  rw [← List.take_append_drop i t, subs_append, h, subs_nil]
/-- A dictionary's states. -/
structure DictAt (ts : List Tx) (ord : List (List Tx)) (S : List St) : Prop where
  bfs : IsBfs nextT ts ord
  sts : S = ord.map (stOf ord)
  few : ts.length ≤ 4096
theorem IsDict.at {c : Int} {S : List St} {ts : List Tx} (h : IsDict (c, S) ts) : ∃ ord, DictAt ts ord S := by
  obtain ⟨hg, ord, hb, hl, hd⟩ := h
  unfold dictOf at hd
  exact ⟨ord, hb, (Prod.mk.inj hd).2, hg.2.1⟩
section
variable {ts : List Tx} {ord : List (List Tx)} {S : List St}
theorem DictAt.lt (h : DictAt ts ord S) {L : List Tx} (hL : L ∈ ord) : ord.idxOf L < S.length := by
  rw [h.sts, List.length_map]; exact List.idxOf_lt_length_of_mem hL
theorem DictAt.arcs (h : DictAt ts ord S) {L : List Tx} (hL : L ∈ ord) : arcsAt S (ord.idxOf L) = (stOf ord L).2 := by
  rw [arcsAt, h.sts, dict_at h.bfs hL]
theorem DictAt.fin (h : DictAt ts ord S) {L : List Tx} (hL : L ∈ ord) : finAt S (ord.idxOf L) = finT L := by
  rw [finAt, h.sts, dict_at h.bfs hL]; rfl
end
/-- What spell does. -/
def SpellPost (w0 : World) (B : Nat) (aS : Option Addr) (cS : Nat) (S : List St) (ts : List Tx) (ord : List (List Tx)) (t : Tx) (e : Ending) (w' : World) : Prop :=
  ∃ b : Bool, e = .returned (.bool b) ∧ Below w0.heap.size w0 w' ∧ ((b = true ∧ subs t ts ∈ ord ∧ ∃ gv', CurAt w0 w' B aS cS S (ord.idxOf (subs t ts)) (rk t ts) t gv') ∨ (b = false ∧ subs t ts = []))
set_option maxHeartbeats 8000000 in
theorem spell_any {w0 W : World} {B : Nat} {aS : Option Addr} {cS : Nat} {S : List St} {gv : Value} {ts : List Tx} {ord : List (List Tx)} (t : Tx) (ht : t.length ≤ 65536) (hd : DictAt ts ord S) (h : CurAt w0 W B aS cS S (ord.idxOf ts) 0 [] gv) :
    Calls Try.prog 30 #[.pointer (some ⟨B, 0, none⟩), .string ⟨t.toArray⟩] W fun e w' => SpellPost w0 B aS cS S ts ord t e w' := by
  have HD := hidd hd
  have HC := hidd h
  have hfew := hd.few
  clear hd h
  have hsl : (⟨t.toArray⟩ : ByteArray).size = t.length := by rw [Lib.size_eq]
  go_enter Try.func30, Try.ntmps30
  go_wp2_with fail
  go_loopw [10] (fun iv wr => ∃ (i : Nat) (gv : Value), i ≤ t.length ∧ iv = .int .i64 (i : Int) ∧ subs (t.take i) ts ∈ ord ∧ CurAt w0 wr B aS cS S (ord.idxOf (subs (t.take i) ts)) (rk (t.take i) ts) (t.take i) gv) (fun iv _ => t.length - (intOf iv).toNat)
  case atStart => exact ⟨0, gv, Nat.zero_le _, rfl, (dict_root HD.out.bfs).1, by rw [List.take_zero, rk_nil]; exact HC.out⟩
  case round =>
    obtain ⟨i, gv1, hi, rfl, hmem, hcu⟩ := hrel
    clear HC
    have HM := hidd hmem
    have HC := hidd hcu
    clear hmem hcu
    by_cases hlt : i < t.length
    · have hltz : (i : Int) < (t.length : Int) := by omega
      obtain ⟨b, hb⟩ : ∃ b, t.getD i 0 = b := ⟨_, rfl⟩
      have xi : ∀ W, (Instr.index 9 (.string ⟨t.toArray⟩) (.int .i64 (i : Int))).run Try.prog W = .ok (.int .u8 (b.toNat : Int)) W := fun W => by rw [idx_run _ _ W hlt, hb]
      have Hb := hidd (take_next hlt hb)
      clear hb
      have hpl : (t.take i).length ≤ 65536 := by rw [List.length_take]; omega
      have hkl := rk_le (t.take i) ts
      obtain ⟨p, hp⟩ : ∃ p, t.take i = p := ⟨_, rfl⟩
      rw [hp] at HM HC Hb hpl hkl
      have Hp := hidd hp
      clear hp
      obtain ⟨L, hL⟩ : ∃ L, subs p ts = L := ⟨_, rfl⟩
      rw [hL] at HM HC
      have HL := hidd hL
      have hLl : L.length ≤ 4096 := by have := subs_len p ts; rw [hL] at this; omega
      clear hL
      have hil := HD.out.lt HM.out
      have Har := hidd (HD.out.arcs HM.out)
      obtain ⟨ix, hix⟩ : ∃ ix, ord.idxOf L = ix := ⟨_, rfl⟩
      rw [hix] at HC hil Har
      clear hix
      have HAr := hidd (fun (W' : World) (hW : Below wr.heap.size wr W') => arcs_any (HC.out.below hW) hil)
      rw [Har.out] at HAr
      have hal : (stOf ord L).2.length ≤ 256 := by have := labelsT_len L; simpa [stOf] using this
      have Hrs := hidd (stOf_rise ord L)
      obtain ⟨l, hl⟩ : ∃ l, (stOf ord L).2 = l := ⟨_, rfl⟩
      rw [hl] at HAr hal Hrs
      have Hl := hidd hl
      clear hl
      have hbl := UInt8.toNat_lt b
      have hwb : IntKind.i64.wrap (b.toNat : Int) = (b.toNat : Int) := IntWalk.i64_in _ ⟨by omega, by omega⟩
      have HBs := hidd (fun (W' : World) (hW : Below wr.heap.size wr W') (ai : Option Addr) (ci : Nat) (hA : HoldA w0 ai l) => bsf_any 59 Try.call59 (fun a => a.1) (b.toNat : Int) ai ci l W' (by omega) (hA.below (HC.out.old.trans (hW.mono HC.out.old.size))) (fun W2 _ x => spell1_any x.1 x.2.1 x.2.2 _ W2) Hrs.out)
      go_wp2_with fail
      go_cut [6, 7] (fun av fv wy => av = .int .i64 ((below (fun a => a.1) (b.toNat : Int) l : Nat) : Int) ∧ fv = .bool (foundAt (fun a => a.1) (b.toNat : Int) l) ∧ Below wr.heap.size wr wy)
      case first =>
        go_region_with (first
          | (go_at_call 58; refine (HAr.out _ (by first | exact below_drewN (Below.refl _ _) 1 | exact Below.refl _ _)).mono ?_; rintro e w1 ⟨ai, ci, m1, rfl, hA1, hw1⟩; have HA1 := hidd hA1; have HB1 : Hid (Below wr.heap.size wr w1) := (by rw [hw1]; first | exact below_drewN (below_drewN (Below.refl _ _) 1) m1 | exact below_drewN (Below.refl _ _) m1); clear hA1 hw1)
          | (go_at_call 57; refine (HBs.out _ HB1.out _ _ HA1.out).mono ?_; rintro e w2 ⟨rfl, hb2⟩; have HB2 := hidd (HB1.out.trans (hb2.mono HB1.out.size)); clear hb2))
        all_goals
          go_wp2_with fail
          go_meet
          exact ⟨rfl, rfl, HB2.out⟩
      case rest =>
        obtain ⟨rfl, rfl, hbel⟩ := hcut
        have HBc := hidd hbel
        clear hbel
        have HC2 := hidd (HC.out.below HBc.out)
        have hold2 := HC2.out.old
        by_cases hlab : b.toNat ∈ labelsT L
        · obtain ⟨q1, q2⟩ := label_found (ord := ord) hlab
          rw [Hl.out] at q1 q2
          rw [q1]
          have HNx := hidd (dict_next HD.out.bfs HM.out hlab)
          have hah := ahead_le b.toNat L
          obtain ⟨at_, hat⟩ : ∃ at_, below (fun a => a.1) (b.toNat : Int) l = at_ := ⟨_, rfl⟩
          rw [hat] at q2
          try rw [hat]
          have hatl : at_ < l.length := (List.getElem?_eq_some_iff.1 q2).1
          have hatz : (at_ : Int) < (l.length : Int) := by omega
          have q3 : l.getD at_ ar0 = ((b.toNat : Int), ((ord.idxOf (subT b.toNat L) : Nat) : Int), ((aheadT b.toNat L : Nat) : Int)) := by rw [List.getD_eq_getElem?_getD, q2]; rfl
          have Q3 := hidd q3
          have HAr2 := hidd (arcs_any HC2.out hil)
          rw [Har.out, Hl.out] at HAr2
          have HFo := hidd (fun (W' : World) (hW : Below wc.heap.size wc W') => follow_any (x := b) (j := ord.idxOf (subT b.toNat L)) (m := aheadT b.toNat L) (HC2.out.below hW) hpl (by omega) (by omega))
          have HSt : Hid (subs (t.take (i + 1)) ts = subT b.toNat L ∧ rk (t.take (i + 1)) ts = rk p ts + aheadT b.toNat L) := by
            rw [Hb.out, subs_snoc, rk_snoc, HL.out]
            exact ⟨rfl, rfl⟩
          clear q1 q2 q3 hat hlab
          obtain ⟨nx, hnx⟩ : ∃ nx, ord.idxOf (subT b.toNat L) = nx := ⟨_, rfl⟩
          obtain ⟨ah, hah2⟩ : ∃ ah, aheadT b.toNat L = ah := ⟨_, rfl⟩
          rw [hnx] at Q3 HFo
          rw [hah2] at Q3 HFo hah
          have Hnx := hidd hnx
          have Hah := hidd hah2
          clear hnx hah2
          go_upto_region 7 with fail
          go_wp2_with (first
            | (go_at_call 58; refine HAr2.out.mono ?_; rintro e w1 ⟨ai, ci, m1, rfl, hA1, rfl⟩; obtain ⟨g1, o1, rfl, hg1, hc1⟩ := hA1.resolve_left (fun h => by rw [h] at hatl; simp at hatl); obtain ⟨p0, p1, p2⟩ := hc1 at_ hatl; have hbm := below_drewN hold2 m1; replace p0 := (hbm.cell (p := ⟨g1, o1 + at_ * 3, none⟩) hg1).trans p0; replace p1 := (hbm.cell (p := ⟨g1, o1 + at_ * 3 + 1, none⟩) hg1).trans p1; replace p2 := (hbm.cell (p := ⟨g1, o1 + at_ * 3 + 2, none⟩) hg1).trans p2; rw [Q3.out] at p0 p1 p2; dsimp only at p0 p1 p2; clear hA1 hc1 hbm)
            | (go_at_call 61; refine (HFo.out _ (below_drewN (Below.refl _ _) _)).mono ?_))
          rintro e w2 ⟨gv2, rfl, hcu2, _⟩
          have HC3 := hidd hcu2
          clear hcu2 p0 p1 p2
          dsimp only
          go_wp2_with fail
          go_roundw
          case rel => exact ⟨i + 1, gv2, by omega, by go_num, by rw [HSt.out.1]; exact HNx.out, by rw [HSt.out.1, HSt.out.2, Hb.out, Hnx.out, Hah.out]; exact HC3.out⟩
          case measure => simp [intOf]; omega
        · have q1 := label_not (ord := ord) hlab
          rw [Hl.out] at q1
          rw [q1]
          have HNo : Hid (subs t ts = []) := by
            refine subs_stop (i := i + 1) ?_
            rw [Hb.out, subs_snoc, HL.out]
            exact not_label hlab
          clear q1 hlab
          go_wp2_with fail
          go_ret
          exact ⟨false, rfl, HC2.out.old, Or.inr ⟨rfl, HNo.out⟩⟩
    · have hltz : ¬ (i : Int) < (t.length : Int) := by omega
      obtain rfl : i = t.length := by omega
      have e1 : t.take t.length = t := List.take_length
      rw [e1] at HM HC
      go_wp2_with fail
      go_ret
      exact ⟨true, rfl, HC.out.old, Or.inl ⟨rfl, HM.out, gv1, HC.out⟩⟩
end Go.Proofs.Ytjndogajdlophaa

namespace Go.Proofs.Ytjndogajdlophaa
open Go Go.RowKit
set_option linter.unusedVariables false
theorem terms_any {w0 : World} {aS : Option Addr} {cS : Nat} {c : Int} {S : List St} {D : List Int} {ρ : Nat → Nat} {M : Nat} (hn : S.length ≤ 16384) (hS : HoldS w0 aS S) (hok : CntOK S D ρ M) : ∀ f, TermsC w0 aS cS c S D ρ f
  | 0 => fun i bh hc head A v w _ _ hρ => absurd hρ (Nat.not_lt_zero _)
  | f + 1 => terms_step hn hS hok (terms_any hn hS hok f)
end Go.Proofs.Ytjndogajdlophaa
