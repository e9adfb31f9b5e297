import Derived.Test.YtefhmbnhhkgifaaDoorReadLogJ19
namespace Go.Proofs.YtefhmbnhhkgifaaDoor
open Go Go.RowKit
set_option linter.unusedVariables false
set_option linter.unusedSimpArgs false
set_option maxRecDepth 100000

/-- A text: its answer, or that something was wrong. -/
def TxtP (w0 W : World) (B b off c : Nat) (bs r : List UInt8) (e : Ending) (w' : World) : Prop :=
  RdFr B W w' ∧ ((rdT r = none ∧ ∃ r', e = .returned (.string ⟨#[]⟩) ∧ SpAt w0 w' B b off c bs r' true) ∨ ∃ t r', rdT r = some (t, r') ∧ e = .returned (.string ⟨t.toArray⟩) ∧ SpAt w0 w' B b off c bs r' false)
theorem rdT_of {v s : Nat} {r : List UInt8} (h : getL r = some (v, s)) : rdT r = if v ≤ 65536 ∧ v ≤ (r.drop s).length then some ((r.drop s).take v, (r.drop s).drop v) else none := by
  unfold rdT
  rw [rdN_of h]
  by_cases h1 : v ≤ 65536
  · rw [if_pos h1]
    simp only
    by_cases h2 : v ≤ (r.drop s).length
    · rw [if_pos h2, if_pos ⟨h1, h2⟩]
    · rw [if_neg h2, if_neg (fun h => h2 h.2)]
  · rw [if_neg h1, if_neg (fun h => h1 h.1)]
theorem rdT_no {r : List UInt8} (h : getL r = none) : rdT r = none := by unfold rdT; rw [rdN_no h]
set_option maxHeartbeats 4000000 in
theorem stext_any {w0 W : World} {B b off c : Nat} {bs r : List UInt8} (hn : bs.length ≤ 1048576) (h : SpAt w0 W B b off c bs r false) :
    Calls Tryd.prog 46 #[.pointer (some ⟨B, 0, none⟩)] W (TxtP w0 W B b off c bs r) := by
  have HN := hidd (num_any hn h)
  clear h
  go_enter Tryd.func46, Tryd.ntmps46
  go_wp2_with fail
  refine HN.out.mono ?_
  rintro e w2 ⟨hf, ⟨hg, rfl, h2⟩ | ⟨v, s, hg, rfl, h2⟩⟩
  · obtain ⟨k2, j1, j2, j3⟩ := h2.box
    have y2 := blkc j3 2
    have yf := blkf j3 2
    have HF : Hid (∀ q, TxtP w0 W B b off c bs r (.returned (.string ⟨#[]⟩)) ((w2.drewN q).setCell ⟨B, 2, none⟩ (.bool true))) := fun q => by
      have h3 := h2.below (below_drewN (Below.refl _ _) q)
      exact ⟨(hf.trans (RdFr.of (below_drewN (Below.refl _ _) q))).trans h3.bad.2, Or.inl ⟨rdT_no hg, r, rfl, h3.bad.1⟩⟩
    clear hf hg h2 HN j1 j2 j3
    go_wp2_with fail
    go_quiet (fail)
    go_wp2_with fail
    go_ret
    exact HF.out _
  · have hvb := (getL_inv hg).2.1
    obtain ⟨k2, j1, j2, j3⟩ := h2.box
    have y0 := blkc j3 0
    have y1 := blkc j3 1
    have y2 := blkc j3 2
    have yf1 := blkf j3 1
    have yf := blkf j3 2
    have hrl : (r.drop s).length = bs.length - k2 := by rw [j2, List.length_drop]
    have HBad : Hid (rdT r = none → ∀ q, TxtP w0 W B b off c bs r (.returned (.string ⟨#[]⟩)) ((w2.drewN q).setCell ⟨B, 2, none⟩ (.bool true))) := fun hno q => by
      have h3 := h2.below (below_drewN (Below.refl _ _) q)
      exact ⟨(hf.trans (RdFr.of (below_drewN (Below.refl _ _) q))).trans h3.bad.2, Or.inl ⟨hno, _, rfl, h3.bad.1⟩⟩
    have hw1 : IntKind.i64.wrap ((bs.length : Int) - (k2 : Int)) = (bs.length : Int) - (k2 : Int) := IntWalk.i64_in _ (by omega)
    by_cases hle : v ≤ (r.drop s).length
    · have hz1 : decide ((v : Int) > (bs.length : Int) - (k2 : Int)) = false := decide_eq_false (by omega)
      have hz1' : decide ((bs.length : Int) - (k2 : Int) < (v : Int)) = false := decide_eq_false (by omega)
      by_cases h65 : v ≤ 65536
      · have hz2 : decide ((v : Int) > 65536) = false := decide_eq_false (by omega)
        have hz2' : decide ((65536 : Int) < (v : Int)) = false := decide_eq_false (by omega)
        have hcp := h2.cap
        obtain ⟨kv, hkv⟩ : ∃ kv, k2 + v = kv := ⟨_, rfl⟩
        have hkz : (k2 : Int) + (v : Int) = (kv : Int) := by omega
        have hkz2 : (kv : Int) - (v : Int) = (k2 : Int) := by omega
        have hkvl : kv ≤ bs.length := by omega
        have HS5 : Hid (∀ q, SpAt w0 ((w2.drewN q).setCell ⟨B, 1, none⟩ (.int .i64 (kv : Int))) B b off c bs ((r.drop s).drop v) false ∧ RdFr B W ((w2.drewN q).setCell ⟨B, 1, none⟩ (.int .i64 (kv : Int)))) := fun q => by
          have h3 := (h2.below (below_drewN (Below.refl _ _) q)).to hkvl (r' := (r.drop s).drop v) (by rw [j2, List.drop_drop, hkv])
          exact ⟨h3.1, (hf.trans (RdFr.of (below_drewN (Below.refl _ _) q))).trans h3.2⟩
        have HBt : Hid (BytesAt w0 b (off + k2) ((r.drop s).take v)) := fun t ht => by
          rw [List.length_take] at ht
          have := h2.byt (k2 + t) (by omega)
          rw [show off + k2 + t = off + (k2 + t) by omega, this, j2]
          simp [List.getD_eq_getElem?_getD, List.getElem?_drop, show t < v by omega]
        have htl : ((r.drop s).take v).length = v := by rw [List.length_take]; omega
        have HRd : Hid (rdT r = some ((r.drop s).take v, (r.drop s).drop v)) := by show _ = _; rw [rdT_of hg, if_pos ⟨h65, hle⟩]
        have hblt := h2.blt
        have HBx : Hid (∀ q, ((w2.drewN q).setCell ⟨B, 1, none⟩ (.int .i64 (kv : Int))).heap[B]? = some (.cells #[.slice (some ⟨b, off, none⟩) bs.length c, .int .i64 (kv : Int), .bool false] 69)) := fun q => blk_setk (blko j3 (below_drewN (Below.refl _ _) q)) 1 _
        obtain ⟨T, hT⟩ : ∃ T, (r.drop s).take v = T := ⟨_, rfl⟩
        obtain ⟨R, hR⟩ : ∃ R, (r.drop s).drop v = R := ⟨_, rfl⟩
        rw [hT] at HBt htl HRd
        rw [hR] at HS5 HRd
        have Hkv := hidd hkv
        clear hf hg h2 HN j1 j2 j3 HBad hrl hle hT hR hkv
        go_wp2_with fail
        go_quiet (fail)
        go_upto_region 6 with fail
        obtain ⟨W5, hW5⟩ : ∃ W5, (w2.drewN nq).setCell ⟨B, 1, none⟩ (.int .i64 (kv : Int)) = W5 := ⟨_, rfl⟩
        have hs5 := HS5.out nq
        have hb5 := HBx.out nq
        rw [hW5] at hs5 hb5
        try rw [hW5]
        clear hW5 HS5 HBx y0 y1 y2 yf yf1
        have y0 := blkc hb5 0
        have y1 := blkc hb5 1
        have y2 := blkc hb5 2
        have hcv : ∀ q, (convert 22 9 (.slice (some ⟨b, off + k2, none⟩) v (c - k2))).run Tryd.prog (W5.drewN q) = .ok (.string ⟨T.toArray⟩) (W5.drewN q) := fun q => conv_take htl (Or.inr ⟨b, off + k2, rfl, (HBt.out.old hs5.1.old hblt).old (below_drewN (Below.refl _ _) q) (Nat.lt_of_lt_of_le hblt hs5.1.old.size)⟩)
        have HF : Hid (∀ q, TxtP w0 W B b off c bs r (.returned (.string ⟨T.toArray⟩)) (W5.drewN q)) := fun q => ⟨hs5.2.trans (RdFr.of (below_drewN (Below.refl _ _) q)), Or.inr ⟨T, R, HRd.out, rfl, hs5.1.below (below_drewN (Below.refl _ _) q)⟩⟩
        clear hs5 hb5 HRd
        have hk2v : k2 ≤ kv := by have := Hkv.out; omega
        have hkc : kv ≤ c := by omega
        have hvv : kv - k2 = v := by have := Hkv.out; omega
        by_cases hck : c = k2
        · obtain rfl : v = 0 := by omega
          have hT0 : T = [] := List.length_eq_zero_iff.1 htl
          subst hT0
          obtain rfl : kv = k2 := by omega
          have hcv0 : ∀ q (a : Option Addr) (c' : Nat), (convert 22 9 (.slice a 0 c')).run Tryd.prog (W5.drewN q) = .ok (.string ⟨#[]⟩) (W5.drewN q) := fun q a c' => conv_take (l := []) rfl (Or.inl rfl)
          clear hcv
          go_quiet (fail)
          go_wp2_with fail
          go_ret
          exact HF.out _
        · go_quiet (fail)
          go_wp2_with fail
          go_ret
          exact HF.out _
      · have hz2 : decide ((v : Int) > 65536) = true := decide_eq_true (by omega)
        have hz2' : decide ((65536 : Int) < (v : Int)) = true := decide_eq_true (by omega)
        have HF := hidd (HBad.out (by rw [rdT_of hg, if_neg (fun h => h65 h.1)]))
        clear hf hg h2 HN j1 j2 j3 HBad hrl hle
        go_wp2_with fail
        go_quiet (fail)
        go_wp2_with fail
        go_ret
        exact HF.out _
    · have hz1 : decide ((v : Int) > (bs.length : Int) - (k2 : Int)) = true := decide_eq_true (by omega)
      have hz1' : decide ((bs.length : Int) - (k2 : Int) < (v : Int)) = true := decide_eq_true (by omega)
      have HF := hidd (HBad.out (by rw [rdT_of hg, if_neg (fun h => hle h.2)]))
      clear hf hg h2 HN j1 j2 j3 HBad hrl hle
      go_wp2_with fail
      go_quiet (fail)
      go_wp2_with fail
      go_ret
      exact HF.out _
end Go.Proofs.YtefhmbnhhkgifaaDoor
