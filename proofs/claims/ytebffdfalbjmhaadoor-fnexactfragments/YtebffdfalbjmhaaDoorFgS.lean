import Derived.Test.YtebffdfalbjmhaaDoorFgP
import Derived.Test.YtebffdfalbjmhaaDoorStrC
import Derived.Test.YtebffdfalbjmhaaDoorDecS
import Derived.Test.YtebffdfalbjmhaaDoorEncO
namespace Go.Proofs.YtebffdfalbjmhaaDoor
open Go Go.RowKit
set_option linter.unusedVariables false
set_option linter.unusedSimpArgs false

/-! spec.Fragments. -/
theorem Tryd.infoStr : (Tryd.prog.info? 9).map (fun i => (i.zero, i.size, i.bytes)) = some (some (.string ⟨#[]⟩), 1, 16) := by kernel_rfl
theorem take_drop_chr {l : List Int} (h : ∀ r ∈ l, chr r = true) (i n t : Nat) (ht : t < ((l.drop i).take n).length) : chr (((l.drop i).take n).getD t 0) = true := by
  apply h
  rw [List.getD_eq_getElem?_getD, List.getElem?_eq_getElem ht, Option.getD_some]
  exact List.mem_of_mem_drop (List.mem_of_mem_take (List.getElem_mem _))
theorem take_drop_at (l : List Int) (i n t : Nat) (ht : t < ((l.drop i).take n).length) : ((l.drop i).take n).getD t 0 = l.getD (i + t) 0 := by
  rw [List.length_take, List.length_drop] at ht
  rw [List.getD_eq_getElem?_getD, List.getD_eq_getElem?_getD, List.getElem?_take, if_pos (by omega), List.getElem?_drop]
def has91k (l : List Int) (k : Nat) : Bool := has91 (l.take k)
theorem has91k_succ (l : List Int) (k : Nat) (h : k < l.length) : has91k l (k + 1) = (has91k l k || (l.getD k 0 == 91)) := by
  unfold has91k has91
  rw [List.take_succ_eq_append_getElem h, List.any_append]
  simp [List.getD_eq_getElem?_getD, h]
set_option maxHeartbeats 2000000 in
set_option maxRecDepth 100000 in
theorem between_any (b off n cap : Nat) (zs : List Int) (w : World) (hn : n ≤ 65536) (hl : zs.length = n) (hc : ∀ t, t < n → w.cell? ⟨b, off + t, none⟩ = some (.int .i64 (zs.getD t 0))) :
    Calls Tryd.prog 10 #[.slice (some ⟨b, off, none⟩) n cap, .int .i64 91, .int .i64 91] w fun e w' => e = .returned (.bool (has91 zs)) ∧ w' = w := by
  have HL := hidd hl
  clear hl
  go_enter Tryd.func10, Tryd.ntmps10
  go_wp2
  go_loopw [7] (fun i wr => ∃ k : Nat, k ≤ n ∧ i = .int .i64 k ∧ Hid (has91k zs k = false) ∧ wr = w) (fun i _ => n - (intOf i).toNat)
  case atStart => exact ⟨0, Nat.zero_le _, rfl, hidd (by simp [has91k, has91]), rfl⟩
  case round =>
    obtain ⟨k, hk, rfl, hf, rfl⟩ := hrel
    by_cases hlt : k < n
    · have hcl := hc k hlt
      have Hst := hidd (has91k_succ zs k (by rw [HL.out]; exact hlt))
      rw [hf.out, Bool.false_or] at Hst
      clear hc
      by_cases h91 : zs.getD k 0 = 91
      · have HT : Hid (has91 zs = true) := hidd (by
          have h1 : (91 : Int) ∈ zs := by
            rw [← h91, List.getD_eq_getElem?_getD, List.getElem?_eq_getElem (by rw [HL.out]; exact hlt)]
            exact List.getElem_mem _
          unfold has91
          rw [List.any_eq_true]
          exact ⟨91, h1, rfl⟩)
        rw [h91] at hcl
        go_wp2
        go_ret
        rw [HT.out]
        exact ⟨rfl, rfl⟩
      · have Hn : Hid (has91k zs (k + 1) = false) := hidd (by rw [Hst.out]; simpa using h91)
        generalize zs.getD k 0 = x at *
        by_cases hge : (91 : Int) ≤ x
        · have hle : ¬ x ≤ 91 := by omega
          go_wp2
          go_roundw
          case rel => exact ⟨k + 1, by omega, by go_num, Hn, trivial⟩
          case measure => simp [intOf]; omega
        · go_wp2
          go_roundw
          case rel => exact ⟨k + 1, by omega, by go_num, Hn, trivial⟩
          case measure => simp [intOf]; omega
    · have HF : Hid (has91 zs = false) := hidd (by
        have h1 := hf.out
        unfold has91k at h1
        rwa [List.take_of_length_le (by rw [HL.out]; omega)] at h1)
      go_wp2
      go_ret
      rw [HF.out]
      exact ⟨rfl, rfl⟩
theorem own_formF {w : World} {base e n : Nat} {v : Value} {xs : List Value} (h : w.ownsRow base e 1 v n xs) (hn : v ≠ .slice none 0 0) : ∃ g cap, v = .slice (some ⟨g, 0, none⟩) n cap := by
  rcases own_cases h with ⟨h1, _⟩ | ⟨g, cap, h1, _, _⟩
  · exact absurd h1 hn
  · exact ⟨g, cap, h1⟩
set_option maxHeartbeats 4000000 in
set_option maxRecDepth 100000 in
theorem specFrag_in (s : ByteArray) (k : Nat) (w : World) (hs : s.size ≤ 1048576) (HC : Hid (decCode s = 0)) (h1 : 10 ≤ k) (h2 : k ≤ 1000) (HK : Hid (∀ r ∈ decList s, chr r = true)) (R : List (List UInt8)) (HR : Hid (frL k (decList s) = R)) :
    Calls Tryd.prog 4 #[.string s, .int .i64 k] w fun e w' => ∃ v, e = .returned (.tuple #[v, .int .i64 0]) ∧ w'.ownsRow w.heap.size 9 1 v R.length (sCells R) ∧ Below w.heap.size w w' := by
  obtain ⟨i0, hi, hz0, hz1, hz2⟩ := info_parts Tryd.infoStr
  have hn := decList_le s
  have b1 : decide ((k : Int) < 10) = false := decide_eq_false (by omega)
  have b3 : decide ((1000 : Int) < (k : Int)) = false := decide_eq_false (by omega)
  have hk1 : 1 ≤ k := by omega
  go_enter Tryd.func4, Tryd.ntmps4
  go_wp2_with fail
  refine (specDecode_any s _ (by omega)).mono ?_
  rintro e w1 ⟨v0, rfl, hown0, hb1⟩
  rw [HC.out]
  generalize decList s = l at *
  rcases own_cases hown0 with ⟨rfl, hl0⟩ | ⟨g, cap, rfl, hgb, hgl⟩
  · have hl : l = [] := List.length_eq_zero_iff.1 hl0
    subst hl
    have hR : R = [] := by rw [← HR.out, frL_nil]
    have HR0 := hidd hR
    clear hl0 hown0 hR
    go_wp2_with fail
    go_loop [8, 9] (fun v i => v = .slice (some ⟨w1.heap.size, 0, none⟩) 0 0 ∧ i = .int .i64 0) (fun _ _ => 0)
    case atStart => exact ⟨rfl, rfl⟩
    case round =>
      obtain ⟨rfl, rfl⟩ := hrel
      go_wp2_with fail
      go_ret2
      rw [HR0.out]
      exact ⟨_, rfl, own_mono (own_empty w1 9) hb1.size, hb1.alloc hb1.size _⟩
  · have HB := hidd hb1
    have Hcell := hidd (own_cells hown0 rfl)
    have hlcap : l.length ≤ cap := by
      rcases hown0.2 with ⟨h, _⟩ | ⟨g', cap', cur, h, _, _, hc, _⟩
      · cases h
      · cases h; exact hc
    clear hown0 hb1
    obtain ⟨N, hN⟩ : ∃ N, l.length = N := ⟨_, rfl⟩
    rw [hN] at hlcap hn Hcell
    rw [hN]
    have HN := hidd hN
    clear hN
    go_wp2_with fail
    go_loopw [8, 9] (fun v i wr => ∃ (a : Nat) (out : List (List UInt8)), a ≤ N + 1000 ∧ i = .int .i64 a ∧ wr.ownsRow w1.heap.size 9 1 v out.length (sCells out) ∧ v ≠ .slice none 0 0 ∧ out.length ≤ a ∧ Hid (out ++ frL k (l.drop a) = R) ∧ Below w1.heap.size w1 wr) (fun _ i _ => N + 1000 - (intOf i).toNat)
    case atStart => exact ⟨0, [], by omega, rfl, own_empty w1 9, by simp, by simp, HR, (Below.refl _ _).alloc (Nat.le_refl _) _⟩
    case round =>
      obtain ⟨a, out, ha, rfl, hown, hnn, ho, hG, hbr⟩ := hrel
      have HO := hidd hown
      have HN2 := hidd hnn
      have HBr := hidd hbr
      have hsz1 := hbr.size
      clear hown hnn hbr
      by_cases hlt : a < N
      · have hltz : (a : Int) < (N : Int) := by omega
        obtain ⟨m, hm⟩ : ∃ m, min (a + k) N = a + m := ⟨min (a + k) N - a, by omega⟩
        have hmz : min ((a : Int) + (k : Int)) (N : Int) = ((a + m : Nat) : Int) := by omega
        have hm1 : 1 ≤ m := by omega
        have hmk : m ≤ k := by omega
        have hmN : a + m ≤ N := by omega
        have Hpe : Hid ((l.drop a).take k = (l.drop a).take m) := hidd (by
          by_cases hmm : m = k
          · rw [hmm]
          · have hle : (l.drop a).length ≤ m := by rw [List.length_drop, HN.out]; omega
            rw [List.take_of_length_le hle, List.take_of_length_le (by omega)])
        have Hst : Hid (frL k (l.drop a) = part91 ((l.drop a).take m) ++ frL k (l.drop (a + k))) := hidd (by
          have hne : l.drop a ≠ [] := fun e => by
            have := congrArg List.length e
            rw [List.length_drop, HN.out] at this
            simp at this; omega
          rw [frL_step hk1 hne, Hpe.out, List.drop_drop])
        have Hzl : Hid (((l.drop a).take m).length = m) := hidd (by rw [List.length_take, List.length_drop, HN.out]; omega)
        have hcz : ¬ cap = a := by omega
        clear hmz
        have hsplit : (N : Int) < (a : Int) + (k : Int) ∧ Hid (N - a = m) ∨ ¬ (N : Int) < (a : Int) + (k : Int) ∧ Hid (m = k) := by
          by_cases h : N < a + k
          · exact Or.inl ⟨by omega, hidd (by omega)⟩
          · exact Or.inr ⟨by omega, hidd (by omega)⟩
        rcases hsplit with ⟨hs1, hs2⟩ | ⟨hs1, hs2⟩
        all_goals
          clear hm
          go_wp2_with fail
          first
          | rw [show N - a = m from hs2.out]
          | rw [show (Value.slice (some (⟨g, a, none⟩ : Addr)) k (cap - a)) = .slice (some ⟨g, a, none⟩) m (cap - a) by rw [hs2.out]]
          clear hs1 hs2
          refine (between_any g a m (cap - a) ((l.drop a).take m) _ (by omega) Hzl.out (fun t ht => ?_)).mono ?_
          · rw [take_drop_at l a m t (by rw [Hzl.out]; exact ht), ← Hcell.out (a + t) (by omega), Nat.zero_add]
            exact HBr.out.cell (p := ⟨g, a + t, none⟩) hgl
          rintro e w4 ⟨rfl, hw4⟩
          obtain rfl := hw4.symm
          clear hw4
          have hform := own_formF HO.out HN2.out
          obtain ⟨g2, c2, rfl⟩ := hform
          cases h91 : has91 ((l.drop a).take m) with
          | false =>
            have HE : Hid (out ++ frL k (l.drop (a + k)) = R) := hidd (by
              have h := hG.out
              rw [Hst.out] at h
              unfold part91 at h
              rw [h91] at h
              simpa using h)
            clear h91 hG Hst
            go_wp2_with fail
            go_roundw
            case rel => exact ⟨a + k, out, by omega, by go_num, HO.out, HN2.out, by omega, HE, HBr.out⟩
            case measure => simp [intOf]; omega
          | true =>
            have HE : Hid (out ++ [encs ((l.drop a).take m)] ++ frL k (l.drop (a + k)) = R) := hidd (by
              have h := hG.out
              rw [Hst.out] at h
              unfold part91 at h
              rw [h91] at h
              simpa using h)
            clear h91 hG Hst
            go_wp2_with fail
            refine (encode_some g a m (cap - a) ((l.drop a).take m) _ (by omega) Hzl.out (by omega) (fun t ht => ?_) (fun t ht => take_drop_chr HK.out a m t (by rw [Hzl.out]; exact ht))).mono ?_
            · rw [take_drop_at l a m t (by rw [Hzl.out]; exact ht), ← Hcell.out (a + t) (by omega), Nat.zero_add]
              exact HBr.out.cell (p := ⟨g, a + t, none⟩) hgl
            rintro e w5 ⟨rfl, hb5⟩
            have HB5 := hidd (HBr.out.trans (hb5.mono HBr.out.size))
            have HO5 := hidd (own_below HO.out hb5)
            have hz5 := HB5.out.size
            clear hb5 HO HBr
            generalize hT : encs ((l.drop a).take m) = T at *
            clear hT
            rw [show (⟨T.toArray⟩ : ByteArray) = bs T from rfl]
            go_wp2_with (at_builtin; refine wpList_append_own _ rfl _ _ 22 rfl w1.heap.size 9 i0 (.string ⟨#[]⟩) 1 16 Tryd.underlying22 hi hz0 hz1 hz2 rfl (by decide) _ _ _ rfl (HO5.out.alloc _) ⟨w5.heap.size, 0, none⟩ 1 1 [.string (bs T)] rfl rfl ?c1 ?c2 ?c3 ?c4 ?c5 ?_)
            case c1 =>
              intro j u hj
              match j, hj with
              | 0, hj => simp at hj; subst hj; simp [Addr.add]
            case c2 => intro u hu; simp at hu; subst hu; rfl
            case c3 => unfold maxLen; omega
            case c4 => omega
            case c5 => simp; omega
            intro v' w6 hown' hgrow hne
            have RR : Hid (w6.ownsRow w1.heap.size 9 1 v' (out ++ [T]).length (sCells (out ++ [T])) ∧ v' ≠ .slice none 0 0 ∧ Below w1.heap.size w1 w6) := by
              refine ⟨?_, hne, (HB5.out.alloc hz5 _).grown hgrow (by simp; omega) (own_block HO5.out)⟩
              rw [sCells_snoc, List.length_append]
              exact hown'
            clear hown' hgrow hne HO5 HB5
            go_wp2_with fail
            go_roundw
            case rel => exact ⟨a + k, out ++ [T], by omega, by go_num, RR.out.1, RR.out.2.1, by simp; omega, HE, RR.out.2.2⟩
            case measure => simp [intOf]; omega
      · have hltz : ¬ (a : Int) < (N : Int) := by omega
        have HF : Hid (out = R) := hidd (by
          have h := hG.out
          rw [List.drop_of_length_le (by rw [HN.out]; omega), frL_nil, List.append_nil] at h
          exact h)
        go_wp2_with fail
        go_ret2
        rw [← HF.out]
        exact ⟨_, rfl, own_mono HO.out HB.out.size, HB.out.trans (HBr.out.mono HB.out.size)⟩
theorem dec_chr (s : ByteArray) : ∀ r ∈ decList s, chr r = true := by
  unfold decList decL
  split
  · intro r hr; cases hr
  · split
    · rename_i h; exact runes_chr s h
    · intro r hr; cases hr
theorem fgOK_iff (k : Int) : fgOK k = true ↔ (10 ≤ k ∧ k ≤ 1000) := by simp [fgOK]
theorem decList_ok (s : ByteArray) (h : decCode s = 0) : decList s = runes s := by
  have h2 := dec_okB s h
  unfold decList decL
  rw [if_neg (by omega), if_pos h2.1]
set_option maxHeartbeats 2000000 in
set_option maxRecDepth 100000 in
theorem specFrag_any (s : ByteArray) (k : Int) (w : World) (hs : s.size ≤ 1048576) :
    Calls Tryd.prog 4 #[.string s, .int .i64 k] w fun e w' => ∃ v, e = .returned (.tuple #[v, .int .i64 (fgCode s k)]) ∧ w'.ownsRow w.heap.size 9 1 v (fgList s k).length (sCells (fgList s k)) ∧ Below w.heap.size w w' := by
  by_cases hc : decCode s = 0
  · by_cases hok : fgOK k = true
    · have hb := (fgOK_iff k).1 hok
      obtain ⟨K, rfl⟩ := Int.eq_ofNat_of_zero_le (by omega : 0 ≤ k)
      have h := specFrag_in s K w hs hc (by omega) (by omega) (dec_chr s) (fgList s K) (hidd (by unfold fgList; rw [if_pos hc, if_pos hok, decList_ok s hc]; rfl))
      have e : fgCode s (K : Int) = 0 := by unfold fgCode; rw [if_pos hc, if_pos hok]
      rw [e]
      exact h
    · have hno : ¬ (10 ≤ k ∧ k ≤ 1000) := fun h => hok ((fgOK_iff k).2 h)
      have HR : Hid (fgList s k = [] ∧ fgCode s k = 12) := ⟨by unfold fgList; rw [if_pos hc, if_neg hok], by unfold fgCode; rw [if_pos hc, if_neg hok]⟩
      have HC := hidd hc
      clear hok hc
      by_cases hlo : k < 10
      · go_enter Tryd.func4, Tryd.ntmps4
        go_wp2_with fail
        refine (specDecode_any s _ (by omega)).mono ?_
        rintro e w1 ⟨v0, rfl, hown0, hb1⟩
        rw [HC.out]
        have HB1 := hidd hb1
        clear hown0 hb1
        go_wp2_with fail
        go_ret2
        rw [HR.out.1, HR.out.2]
        exact ⟨_, rfl, own_mono (own_empty w1 9) HB1.out.size, HB1.out.alloc HB1.out.size _⟩
      · have hhi : 1000 < k := by omega
        have hld : decide (k < 10) = false := by simp; omega
        go_enter Tryd.func4, Tryd.ntmps4
        go_wp2_with fail
        refine (specDecode_any s _ (by omega)).mono ?_
        rintro e w1 ⟨v0, rfl, hown0, hb1⟩
        rw [HC.out]
        have HB1 := hidd hb1
        clear hown0 hb1
        go_wp2_with fail
        go_ret2
        rw [HR.out.1, HR.out.2]
        exact ⟨_, rfl, own_mono (own_empty w1 9) HB1.out.size, HB1.out.alloc HB1.out.size _⟩
  · have HR : Hid (fgList s k = [] ∧ fgCode s k = decCode s) := ⟨by unfold fgList; rw [if_neg hc], by unfold fgCode; rw [if_neg hc]⟩
    generalize hcd : decCode s = c at *
    have HCd := hidd hcd
    clear hcd
    have hcb : (c != 0) = true := by simpa using hc
    go_enter Tryd.func4, Tryd.ntmps4
    go_wp2_with fail
    refine (specDecode_any s _ (by omega)).mono ?_
    rintro e w1 ⟨v0, rfl, hown0, hb1⟩
    rw [HCd.out]
    have HB1 := hidd hb1
    clear hown0 hb1
    go_wp2_with fail
    go_ret2
    rw [HR.out.1, HR.out.2]
    exact ⟨_, rfl, own_mono (own_empty w1 9) HB1.out.size, HB1.out.alloc HB1.out.size _⟩
end Go.Proofs.YtebffdfalbjmhaaDoor
