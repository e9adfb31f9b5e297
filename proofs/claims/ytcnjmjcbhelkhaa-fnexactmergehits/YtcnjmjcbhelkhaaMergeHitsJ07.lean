import Derived.Test.YtcnjmjcbhelkhaaMergeHitsJ06
import Derived.Handy
namespace Go.Proofs.Ytcnjmjcbhelkhaa
open Go Go.RowKit
set_option linter.unusedVariables false
set_option maxRecDepth 100000
set_option linter.unusedSimpArgs false

/-! The heap's own functions. -/
set_option maxHeartbeats 4000000 in
theorem up_any (E : MEnv) (w : World) (p : Nat) (v : Value) (H : List Nat) (j : Nat) (hl : H.length ≤ 1048576) (hnd : ∀ i, i ∈ H → i ≠ E.dead) (hU : UpInv E.gt 0 H j) (hH : HpAt E w p v H) :
    Calls Try.prog 61 #[hpI p, .int .i64 (j : Int)] w fun e w' => e = .returned (.tuple #[]) ∧ ∃ H', H'.Perm H ∧ Heap E.gt 0 H' H'.length ∧ HpAt E w' p v H' ∧ Mv p w v w' v := by
  have HU := hidd hU
  have HH := hidd hH
  have hj0 := hU.2.2
  have HND := hidd hnd
  clear hnd
  clear hU hH
  go_enter Try.func61, Try.ntmps61
  go_wp2_with fail
  go_loopw [1] (fun jv wr => ∃ (k : Nat) (G : List Nat), k < G.length ∧ G.length = H.length ∧ jv = .int .i64 (k : Int) ∧ G.Perm H ∧ UpInv E.gt 0 G k ∧ HpAt E wr p v G ∧ Mv p w v wr v) (fun jv _ => (intOf jv).toNat)
  case atStart => exact ⟨j, H, hj0, rfl, rfl, List.Perm.refl _, HU.out, HH.out, Mv.refl _ _ _⟩
  case round =>
    obtain ⟨k, G, hk, hGl, rfl, hpm, hui, hhp, hmv⟩ := hrel
    clear HU HH
    have HP := hidd hpm
    have HU := hidd hui
    have HH := hidd hhp
    have HM := hidd hmv
    clear hpm hui hhp hmv
    by_cases hk0 : k = 0
    · subst hk0
      go_wp2_with fail
      go_end0
      exact ⟨rfl, G, HP.out, HU.out.done (.inl rfl), HH.out, HM.out⟩
    · obtain ⟨q, hq⟩ : ∃ q, (k - 1) / 2 = q := ⟨_, rfl⟩
      have hqk0 : q < k := by omega
      have hql : q < G.length := by omega
      have hqz : ((k : Int) - 1).tdiv 2 = (q : Int) := by
        rw [← hq, show (k : Int) - 1 = ((k - 1 : Nat) : Int) by omega]
        rfl
      have hqk : ¬ (q : Int) = (k : Int) := by omega
      have hqkb : ((q : Int) == (k : Int)) = false := by simp; omega
      have Hq := hidd hq
      have HL := hidd (fun W (hW : Below wr.heap.size wr W) => hless_any E W p v G k q hk hql (HND.out _ (HP.out.mem_iff.1 (getD_mem hk))) (HND.out _ (HP.out.mem_iff.1 (getD_mem hql))) (by omega) (HH.out.below hW))
      clear hq
      go_wp2_with fail
      refine (HL.out _ (Below.refl _ _)).mono ?_
      rintro e w2 ⟨rfl, hb2⟩
      have HH2 := hidd (HH.out.below hb2)
      have HM2 := hidd (HM.out.trans (Mv.of_below hb2))
      clear hb2 HH HM HL
      cases hg : E.gt (G.getD k 0) (G.getD q 0) with
      | false =>
        have HG := hidd hg
        clear hg
        go_wp2_with fail
        go_end0
        exact ⟨rfl, G, HP.out, HU.out.done (.inr (by rw [Hq.out]; exact HG.out)), HH2.out, HM2.out⟩
      | true =>
        have HG := hidd hg
        have HS := hidd (hswap_any E w2 p v G q k hql hk (by omega) HH2.out)
        clear hg
        go_wp2_with fail
        refine HS.out.mono ?_
        rintro e w3 ⟨rfl, hh3, hm3⟩
        have HH3 := hidd hh3
        have HM3 := hidd (HM2.out.trans hm3)
        clear hh3 hm3
        have HP3 := hidd ((swp_perm 0 G q k hql hk).trans HP.out)
        have HU3 : Hid (UpInv E.gt 0 (swp 0 G q k) q) := by
          have := HU.out.step E.ord (by omega) (by rw [Hq.out]; exact HG.out)
          rw [Hq.out] at this
          exact this
        go_wp2_with fail
        go_roundw
        case rel => exact ⟨q, swp 0 G q k, by rw [swp_len]; exact hql, by rw [swp_len]; exact hGl, rfl, HP3.out, HU3.out, HH3.out, HM3.out⟩
        case measure => simp [intOf]; omega
set_option maxHeartbeats 8000000 in
theorem down_any (E : MEnv) (w : World) (p : Nat) (v : Value) (H : List Nat) (n : Nat) (hn : n ≤ H.length) (hl : H.length ≤ 1048576) (hnd : ∀ k, k < n → H.getD k 0 ≠ E.dead) (hD : DownInv E.gt 0 H 0 n) (hH : HpAt E w p v H) :
    Calls Try.prog 60 #[hpI p, .int .i64 0, .int .i64 (n : Int)] w fun e w' => (∃ b, e = .returned (.bool b)) ∧ ∃ H', H'.Perm H ∧ (∀ k, n ≤ k → H'.getD k 0 = H.getD k 0) ∧ Heap E.gt 0 H' n ∧ HpAt E w' p v H' ∧ Mv p w v w' v := by
  have HD := hidd hD
  have HH := hidd hH
  have HND0 := hidd hnd
  clear hD hH hnd
  go_enter Try.func60, Try.ntmps60
  go_wp2_with fail
  go_loopw [7] (fun iv wr => ∃ (i : Nat) (G : List Nat), i ≤ n ∧ G.length = H.length ∧ iv = .int .i64 (i : Int) ∧ G.Perm H ∧ (∀ k, n ≤ k → G.getD k 0 = H.getD k 0) ∧ (∀ k, k < n → G.getD k 0 ≠ E.dead) ∧ DownInv E.gt 0 G i n ∧ HpAt E wr p v G ∧ Mv p w v wr v) (fun iv _ => n - (intOf iv).toNat)
  case atStart => exact ⟨0, H, by omega, rfl, rfl, List.Perm.refl _, fun _ _ => rfl, HND0.out, HD.out, HH.out, Mv.refl _ _ _⟩
  case round =>
    obtain ⟨i, G, hi, hGl, rfl, hpm, hlast, hnd, hdi, hhp, hmv⟩ := hrel
    clear HD HH HND0
    have HND := hidd hnd
    clear hnd
    have HP := hidd hpm
    have HLa := hidd hlast
    have HD := hidd hdi
    have HH := hidd hhp
    have HM := hidd hmv
    clear hpm hdi hhp hmv hlast
    have w1 : IntKind.i64.wrap (2 * (i : Int)) = 2 * (i : Int) := IntWalk.i64_in _ ⟨by omega, by omega⟩
    by_cases h1 : n ≤ 2 * i + 1
    · have hz1 : 2 * (i : Int) + 1 ≥ (n : Int) := by omega
      go_wp2_with fail
      go_ret
      exact ⟨⟨_, rfl⟩, G, HP.out, HLa.out, HD.out.done0 h1, HH.out, HM.out⟩
    · have hz1 : ¬ 2 * (i : Int) + 1 ≥ (n : Int) := by omega
      have hz2 : ¬ 2 * (i : Int) + 1 < 0 := by omega
      have e1 : ((2 * i + 1 : Nat) : Int) = 2 * (i : Int) + 1 := by omega
      have e2 : ((2 * i + 2 : Nat) : Int) = 2 * (i : Int) + 1 + 1 := by omega
      have hj1 : 2 * i + 1 < n := by omega
      have HLs : Hid (∀ W, HpAt E W p v G → ∀ x y : Nat, x < n → y < n → ∀ xz yz : Int, (x : Int) = xz → (y : Int) = yz → Calls Try.prog 84 #[.pointer (some ⟨p, 0, none⟩), .int .i64 xz, .int .i64 yz] W fun e w' => e = .returned (.bool (E.gt (G.getD x 0) (G.getD y 0))) ∧ Below W.heap.size W w') := by
        intro W hW x y hx hy xz yz h1 h2
        rw [← h1, ← h2]
        exact hless_any E W p v G x y (by omega) (by omega) (HND.out x hx) (HND.out y hy) (by omega) hW
      have HSw : Hid (∀ W, HpAt E W p v G → ∀ x y : Nat, x < G.length → y < G.length → ∀ xz yz : Int, (x : Int) = xz → (y : Int) = yz → Calls Try.prog 87 #[.pointer (some ⟨p, 0, none⟩), .int .i64 xz, .int .i64 yz] W fun e w' => e = .returned (.tuple #[]) ∧ HpAt E w' p v (swp 0 G x y) ∧ Mv p W v w' v) := by
        intro W hW x y hx hy xz yz h1 h2
        rw [← h1, ← h2]
        exact hswap_any E W p v G x y hx hy (by omega) hW
      have HE1 := hidd e1
      have HE2 := hidd e2
      clear e1 e2
      by_cases h2 : 2 * i + 2 < n
      · have hz3 : 2 * (i : Int) + 1 + 1 < (n : Int) := by omega
        go_wp2_with fail
        refine (HLs.out _ HH.out (2 * i + 2) (2 * i + 1) (by omega) (by omega) _ _ HE2.out HE1.out).mono ?_
        rintro e w4 ⟨rfl, hb4⟩
        have HH4 := hidd (HH.out.below hb4)
        have HM4 := hidd (HM.out.trans (Mv.of_below hb4))
        clear hb4
        cases hg : E.gt (G.getD (2 * i + 2) 0) (G.getD (2 * i + 1) 0) with
        | true =>
          have HG := hidd hg
          clear hg
          go_wp2_with fail
          refine (HLs.out _ HH4.out (2 * i + 2) i (by omega) (by omega) _ _ HE2.out rfl).mono ?_
          rintro e w5 ⟨rfl, hb5⟩
          have HH5 := hidd (HH4.out.below hb5)
          have HM5 := hidd (HM4.out.trans (Mv.of_below hb5))
          clear hb5
          cases hg2 : E.gt (G.getD (2 * i + 2) 0) (G.getD i 0) with
          | false =>
            have HG2 := hidd hg2
            clear hg2
            go_wp2_with fail
            go_ret
            exact ⟨⟨_, rfl⟩, G, HP.out, HLa.out, HD.out.done1 E.ord (by omega) (by omega) (kids_best E.ord (2 * i + 2) (.inl ⟨rfl, HG.out⟩)) HG2.out, HH5.out, HM5.out⟩
          | true =>
            have HG2 := hidd hg2
            clear hg2
            go_wp2_with fail
            refine (HSw.out _ HH5.out i (2 * i + 2) (by omega) (by omega) _ _ rfl HE2.out).mono ?_
            rintro e w6 ⟨rfl, hh6, hm6⟩
            have HH6 := hidd hh6
            have HM6 := hidd (HM5.out.trans hm6)
            have HD6 := hidd (HD.out.step E.ord (j := 2 * i + 2) (by omega) (by omega) (kids_best E.ord (2 * i + 2) (.inl ⟨rfl, HG.out⟩)) HG2.out)
            have HP6 := hidd ((swp_perm 0 G i (2 * i + 2) (by omega) (by omega)).trans HP.out)
            have HND6 : Hid (∀ k, k < n → (swp 0 G i (2 * i + 2)).getD k 0 ≠ E.dead) := fun k hk => by
              rw [swp_at 0 G i (2 * i + 2) (by omega) (by omega)]
              split
              · exact HND.out _ (by omega)
              · split
                · exact HND.out _ (by omega)
                · exact HND.out _ hk
            have HLa6 : Hid (∀ k, n ≤ k → (swp 0 G i (2 * i + 2)).getD k 0 = H.getD k 0) := fun k hk => by
              rw [swp_at 0 G i (2 * i + 2) (by omega) (by omega), if_neg (by omega), if_neg (by omega)]
              exact HLa.out k hk
            clear hh6 hm6
            go_wp2_with fail
            go_roundw
            case rel => exact ⟨2 * i + 2, swp 0 G i (2 * i + 2), by omega, by rw [swp_len]; exact hGl, by rw [HE2.out], HP6.out, HLa6.out, HND6.out, HD6.out, HH6.out, HM6.out⟩
            case measure => have := HE2.out; simp [intOf]; omega
        | false =>
          have HG := hidd hg
          clear hg
          go_wp2_with fail
          refine (HLs.out _ HH4.out (2 * i + 1) i (by omega) (by omega) _ _ HE1.out rfl).mono ?_
          rintro e w5 ⟨rfl, hb5⟩
          have HH5 := hidd (HH4.out.below hb5)
          have HM5 := hidd (HM4.out.trans (Mv.of_below hb5))
          clear hb5
          cases hg2 : E.gt (G.getD (2 * i + 1) 0) (G.getD i 0) with
          | false =>
            have HG2 := hidd hg2
            clear hg2
            go_wp2_with fail
            go_ret
            exact ⟨⟨_, rfl⟩, G, HP.out, HLa.out, HD.out.done1 E.ord (by omega) (by omega) (kids_best E.ord (2 * i + 1) (.inr ⟨rfl, .inr HG.out⟩)) HG2.out, HH5.out, HM5.out⟩
          | true =>
            have HG2 := hidd hg2
            clear hg2
            go_wp2_with fail
            refine (HSw.out _ HH5.out i (2 * i + 1) (by omega) (by omega) _ _ rfl HE1.out).mono ?_
            rintro e w6 ⟨rfl, hh6, hm6⟩
            have HH6 := hidd hh6
            have HM6 := hidd (HM5.out.trans hm6)
            have HD6 := hidd (HD.out.step E.ord (j := 2 * i + 1) (by omega) (by omega) (kids_best E.ord (2 * i + 1) (.inr ⟨rfl, .inr HG.out⟩)) HG2.out)
            have HP6 := hidd ((swp_perm 0 G i (2 * i + 1) (by omega) (by omega)).trans HP.out)
            have HND6 : Hid (∀ k, k < n → (swp 0 G i (2 * i + 1)).getD k 0 ≠ E.dead) := fun k hk => by
              rw [swp_at 0 G i (2 * i + 1) (by omega) (by omega)]
              split
              · exact HND.out _ (by omega)
              · split
                · exact HND.out _ (by omega)
                · exact HND.out _ hk
            have HLa6 : Hid (∀ k, n ≤ k → (swp 0 G i (2 * i + 1)).getD k 0 = H.getD k 0) := fun k hk => by
              rw [swp_at 0 G i (2 * i + 1) (by omega) (by omega), if_neg (by omega), if_neg (by omega)]
              exact HLa.out k hk
            clear hh6 hm6
            go_wp2_with fail
            go_roundw
            case rel => exact ⟨2 * i + 1, swp 0 G i (2 * i + 1), by omega, by rw [swp_len]; exact hGl, by rw [HE1.out], HP6.out, HLa6.out, HND6.out, HD6.out, HH6.out, HM6.out⟩
            case measure => have := HE1.out; simp [intOf]; omega
      · have hz3 : ¬ 2 * (i : Int) + 1 + 1 < (n : Int) := by omega
        go_wp2_with fail
        refine (HLs.out _ HH.out (2 * i + 1) i (by omega) (by omega) _ _ HE1.out rfl).mono ?_
        rintro e w5 ⟨rfl, hb5⟩
        have HH5 := hidd (HH.out.below hb5)
        have HM5 := hidd (HM.out.trans (Mv.of_below hb5))
        clear hb5
        cases hg2 : E.gt (G.getD (2 * i + 1) 0) (G.getD i 0) with
        | false =>
          have HG2 := hidd hg2
          clear hg2
          go_wp2_with fail
          go_ret
          exact ⟨⟨_, rfl⟩, G, HP.out, HLa.out, HD.out.done1 E.ord (by omega) (by omega) (kids_best E.ord (2 * i + 1) (.inr ⟨rfl, .inl (by omega)⟩)) HG2.out, HH5.out, HM5.out⟩
        | true =>
          have HG2 := hidd hg2
          clear hg2
          go_wp2_with fail
          refine (HSw.out _ HH5.out i (2 * i + 1) (by omega) (by omega) _ _ rfl HE1.out).mono ?_
          rintro e w6 ⟨rfl, hh6, hm6⟩
          have HH6 := hidd hh6
          have HM6 := hidd (HM5.out.trans hm6)
          have HD6 := hidd (HD.out.step E.ord (j := 2 * i + 1) (by omega) (by omega) (kids_best E.ord (2 * i + 1) (.inr ⟨rfl, .inl (by omega)⟩)) HG2.out)
          have HP6 := hidd ((swp_perm 0 G i (2 * i + 1) (by omega) (by omega)).trans HP.out)
          have HND6 : Hid (∀ k, k < n → (swp 0 G i (2 * i + 1)).getD k 0 ≠ E.dead) := fun k hk => by
            rw [swp_at 0 G i (2 * i + 1) (by omega) (by omega)]
            split
            · exact HND.out _ (by omega)
            · split
              · exact HND.out _ (by omega)
              · exact HND.out _ hk
          have HLa6 : Hid (∀ k, n ≤ k → (swp 0 G i (2 * i + 1)).getD k 0 = H.getD k 0) := fun k hk => by
            rw [swp_at 0 G i (2 * i + 1) (by omega) (by omega), if_neg (by omega), if_neg (by omega)]
            exact HLa.out k hk
          clear hh6 hm6
          go_wp2_with fail
          go_roundw
          case rel => exact ⟨2 * i + 1, swp 0 G i (2 * i + 1), by omega, by rw [swp_len]; exact hGl, by rw [HE1.out], HP6.out, HLa6.out, HND6.out, HD6.out, HH6.out, HM6.out⟩
          case measure => have := HE1.out; simp [intOf]; omega
set_option maxHeartbeats 4000000 in
theorem heapPush_any (E : MEnv) (w : World) (p : Nat) (v : Value) (H : List Nat) (a : Nat) (hl : H.length ≤ 1048575) (ha : HitAt E w a) (hnd : ∀ i, i ∈ H ++ [a] → i ≠ E.dead) (hHp : Heap E.gt 0 H H.length) (hH : HpAt E w p v H) :
    Calls Try.prog 59 #[hpI p, .iface 75 (E.pv a)] w fun e w' => e = .returned (.tuple #[]) ∧ ∃ v' H', H'.Perm (H ++ [a]) ∧ Heap E.gt 0 H' H'.length ∧ HpAt E w' p v' H' ∧ Mv p w v w' v' := by
  have HC := hidd (hpush_any E w p v H a (by omega) ha hH)
  have HU := hidd (UpInv.start a hHp)
  have hln : (H ++ [a]).length = H.length + 1 := by simp
  clear hHp hH
  go_enter Try.func59, Try.ntmps59
  go_wp2_with fail
  refine HC.out.mono ?_
  rintro e w2 ⟨rfl, v2, hh2, hm2⟩
  have HH2 := hidd hh2
  have HM2 := hidd hm2
  have HLn := hidd (hlen_any E w2 p v2 (H ++ [a]) hh2)
  have HUp := hidd (up_any E w2 p v2 (H ++ [a]) H.length (by omega) hnd HU.out hh2)
  rw [hln] at HLn
  have e1 : ((H.length + 1 : Nat) : Int) - 1 = (H.length : Int) := by omega
  clear hh2 hm2 HC HU hln
  go_wp2_with fail
  refine HLn.out.mono ?_
  rintro e w3 ⟨rfl, hw3⟩
  obtain rfl := hw3.symm
  go_wp2_with fail
  refine HUp.out.mono ?_
  rintro e w4 ⟨rfl, H', q1, q2, q3, q4⟩
  have HF := hidd (And.intro q1 (And.intro q2 (And.intro q3 (HM2.out.trans q4))))
  clear q1 q2 q3 q4
  go_wp2_with fail
  go_end0
  exact ⟨rfl, v2, H', HF.out.1, HF.out.2.1, HF.out.2.2.1, HF.out.2.2.2⟩
set_option maxHeartbeats 4000000 in
theorem heapPop_any (E : MEnv) (w : World) (p : Nat) (v : Value) (H : List Nat) (n : Nat) (hn : H.length = n + 1) (hl : H.length ≤ 1048576) (hnd : ∀ k, 0 < k → k < H.length → H.getD k 0 ≠ E.dead) (hHp : Heap E.gt 0 H H.length) (hH : HpAt E w p v H) :
    Calls Try.prog 46 #[hpI p] w fun e w' => ∃ m : Nat, e = .returned (.iface 75 (E.pv m)) ∧ m = H.getD 0 0 ∧ ∃ v' H', (H' ++ [m]).Perm H ∧ H'.length = n ∧ Heap E.gt 0 H' H'.length ∧ HpAt E w' p v' H' ∧ Mv p w v w' v' ∧ v'.ownBlock = v.ownBlock := by
  have HLn := hidd (hlen_any E w p v H hH)
  rw [hn] at HLn
  have HSw := hidd (hswap_any E w p v H 0 n (by omega) (by omega) (by omega) hH)
  have HD := hidd (DownInv.start E.ord hHp hn)
  have HLast : Hid ((swp 0 H 0 n).getD n 0 = H.getD 0 0) := by
    show _ = _
    rw [swp_at 0 H 0 n (by omega) (by omega), if_pos rfl]
  have HP := hidd (swp_perm 0 H 0 n (by omega) (by omega))
  have HND : Hid (∀ k, k < n → (swp 0 H 0 n).getD k 0 ≠ E.dead) := fun k hk => by
    rw [swp_at 0 H 0 n (by omega) (by omega), if_neg (by omega)]
    split
    · exact hnd n (by omega) (by omega)
    · exact hnd k (by omega) (by omega)
  clear hnd
  have hlS : (swp 0 H 0 n).length = n + 1 := by rw [swp_len]; exact hn
  have e1 : ((n + 1 : Nat) : Int) - 1 = (n : Int) := by omega
  clear hHp hH
  go_enter Try.func46, Try.ntmps46
  go_wp2_with fail
  refine HLn.out.mono ?_
  rintro e w3 ⟨rfl, hw3⟩
  obtain rfl := hw3.symm
  go_wp2_with fail
  refine HSw.out.mono ?_
  rintro e w4 ⟨rfl, hh4, hm4⟩
  have HM4 := hidd hm4
  have HDn := hidd (down_any E w4 p v (swp 0 H 0 n) n (by omega) (by omega) HND.out HD.out hh4)
  clear hh4 hm4
  go_wp2_with fail
  refine HDn.out.mono ?_
  rintro e w5 ⟨⟨b5, rfl⟩, H', q1, q2, q3, q4, q5⟩
  have hl5 : H'.length = n + 1 := by rw [q1.length_eq]; exact hlS
  have HPp := hidd (hpop_any E w5 p v H' n hl5 (by omega) q4)
  have HM5 := hidd (HM4.out.trans q5)
  have HF : Hid (∃ m : Nat, H'.getD n 0 = m ∧ m = H.getD 0 0 ∧ (H'.take n ++ [m]).Perm H ∧ (H'.take n).length = n ∧ Heap E.gt 0 (H'.take n) (H'.take n).length) := by
    refine ⟨H'.getD n 0, rfl, ?_, ?_, by rw [List.length_take]; omega, q3.cut (by omega)⟩
    · rw [q2 n (Nat.le_refl _), HLast.out]
    · have e : H'.take n ++ [H'.getD n 0] = H' := by
        conv => rhs; rw [← List.take_append_drop n H', List.drop_eq_getElem_cons (by omega), List.drop_of_length_le (by omega)]
        simp [show n < H'.length by omega]
      rw [e]
      exact q1.trans HP.out
  clear q1 q2 q3 q4 q5 hl5
  go_wp2_with fail
  refine HPp.out.mono ?_
  rintro e w6 ⟨rfl, v6, hh6, hm6, hv6⟩
  have HV6 := hidd hv6
  have HH6 := hidd hh6
  have HM6 := hidd (HM5.out.trans hm6)
  clear hh6 hm6 hv6
  obtain ⟨m, hm, k1, k2, k3, k4⟩ := HF.out
  rw [hm]
  have HK := hidd (And.intro k1 (And.intro k2 (And.intro k3 k4)))
  clear hm k1 k2 k3 k4 HF HPp
  go_wp2_with fail
  go_ret
  exact ⟨m, rfl, HK.out.1, v6, H'.take n, HK.out.2.1, HK.out.2.2.1, HK.out.2.2.2, HH6.out, HM6.out, HV6.out⟩
set_option maxHeartbeats 4000000 in
theorem heapFix_any (E : MEnv) (w : World) (p : Nat) (v : Value) (H : List Nat) (hl : H.length ≤ 1048576) (h0 : 0 < H.length) (hnd : ∀ i, i ∈ H → i ≠ E.dead) (hD : DownInv E.gt 0 H 0 H.length) (hH : HpAt E w p v H) :
    Calls Try.prog 45 #[hpI p, .int .i64 0] w fun e w' => e = .returned (.tuple #[]) ∧ ∃ H', H'.Perm H ∧ Heap E.gt 0 H' H'.length ∧ HpAt E w' p v H' ∧ Mv p w v w' v := by
  have HLn := hidd (hlen_any E w p v H hH)
  have HDn := hidd (down_any E w p v H H.length (Nat.le_refl _) hl (fun k hk => hnd _ (getD_mem hk)) hD hH)
  clear hD hH
  go_enter Try.func45, Try.ntmps45
  go_wp2_with fail
  refine HLn.out.mono ?_
  rintro e w3 ⟨rfl, hw3⟩
  obtain rfl := hw3.symm
  go_wp2_with fail
  refine HDn.out.mono ?_
  rintro e w5 ⟨⟨b5, rfl⟩, H', q1, q2, q3, q4, q5⟩
  have hl5 : H'.length = H.length := q1.length_eq
  have HQ1 := hidd q1
  have HQ3 : Hid (Heap E.gt 0 H' H'.length) := by rw [hl5]; exact q3
  have HQ5 := hidd q5
  have HUp := hidd (up_any E w5 p v H' 0 (by omega) (fun i hi => hnd i (q1.mem_iff.1 hi)) (by
    refine ⟨fun k k0 kl _ => ?_, fun h => absurd h (by omega), by omega⟩
    exact HQ3.out k k0 kl) q4)
  have HH5 := hidd q4
  clear q1 q2 q3 q4 q5 hl5 HDn HLn
  cases b5 with
  | true =>
    go_wp2_with fail
    go_end0
    exact ⟨rfl, H', HQ1.out, HQ3.out, HH5.out, HQ5.out⟩
  | false =>
    go_wp2_with fail
    refine HUp.out.mono ?_
    rintro e w6 ⟨rfl, H6, r1, r2, r3, r4⟩
    have HF := hidd (And.intro (r1.trans HQ1.out) (And.intro r2 (And.intro r3 (HQ5.out.trans r4))))
    clear r1 r2 r3 r4
    go_wp2_with fail
    go_end0
    exact ⟨rfl, H6, HF.out.1, HF.out.2.1, HF.out.2.2.1, HF.out.2.2.2⟩
end Go.Proofs.Ytcnjmjcbhelkhaa

namespace Go.Proofs.Ytcnjmjcbhelkhaa
open Go Go.RowKit
set_option linter.unusedVariables false
set_option maxRecDepth 100000
set_option linter.unusedSimpArgs false

/-! A list told hit by hit. -/
def HoldFd (w : World) (a : Option Addr) (L : List Fd) : Prop := L = [] ∨ ∃ b off, a = some ⟨b, off, none⟩ ∧ b < w.heap.size ∧ ∀ i, i < L.length → w.cell? ⟨b, off + i * 3, none⟩ = some (.string (bs (L.getD i fd0).1)) ∧
  w.cell? ⟨b, off + i * 3 + 1, none⟩ = some (.int .i64 (L.getD i fd0).2.1) ∧ ∃ ka kc, w.cell? ⟨b, off + i * 3 + 2, none⟩ = some (.slice ka (L.getD i fd0).2.2.length kc) ∧ HoldZ w ka (L.getD i fd0).2.2
theorem HoldFd.below {w w' : World} {a : Option Addr} {L : List Fd} (h : HoldFd w a L) (hb : Below w.heap.size w w') : HoldFd w' a L := by
  rcases h with h | ⟨b, off, ha, hbl, h⟩
  · exact Or.inl h
  · refine Or.inr ⟨b, off, ha, Nat.lt_of_lt_of_le hbl hb.size, fun i hi => ?_⟩
    obtain ⟨h1, h2, ka, kc, h3, h4⟩ := h i hi
    exact ⟨(hb.cell (p := ⟨b, off + i * 3, none⟩) hbl).trans h1, (hb.cell (p := ⟨b, off + i * 3 + 1, none⟩) hbl).trans h2, ka, kc, (hb.cell (p := ⟨b, off + i * 3 + 2, none⟩) hbl).trans h3, h4.below hb⟩
theorem HoldFd.tail {w : World} {b off : Nat} {f : Fd} {L : List Fd} (h : HoldFd w (some ⟨b, off, none⟩) (f :: L)) : HoldFd w (some ⟨b, off + 3, none⟩) L := by
  rcases h with h | ⟨b', off', ha, hbl, h⟩
  · cases h
  · simp only [Option.some.injEq, Addr.mk.injEq, and_true] at ha
    obtain ⟨rfl, rfl⟩ := ha
    refine Or.inr ⟨b, off + 3, rfl, hbl, fun i hi => ?_⟩
    have := h (i + 1) (by simp; omega)
    simp only [List.getD_cons_succ] at this
    rw [show off + (i + 1) * 3 = off + 3 + i * 3 by omega] at this
    exact this
theorem HoldFd.head {w : World} {a : Option Addr} {f : Fd} {L : List Fd} (h : HoldFd w a (f :: L)) : ∃ b off, a = some ⟨b, off, none⟩ ∧ b < w.heap.size ∧ w.cell? ⟨b, off, none⟩ = some (.string (bs f.1)) ∧ w.cell? ⟨b, off + 1, none⟩ = some (.int .i64 f.2.1) ∧ ∃ ka kc, w.cell? ⟨b, off + 2, none⟩ = some (.slice ka f.2.2.length kc) ∧ HoldZ w ka f.2.2 := by
  rcases h with h | ⟨b, off, ha, hbl, h⟩
  · cases h
  · exact ⟨b, off, ha, hbl, by simpa using h 0 (by simp)⟩
set_option maxHeartbeats 4000000 in
theorem next_none (w : World) (lb : Nat) (ra : Option Addr) (rc : Nat) (hb : w.heap[lb]? = some (.cells #[.slice ra 0 rc] 99)) :
    Calls Try.prog 58 #[ptr lb] w fun e w' => e = .returned (.tuple #[.agg #[.string ⟨#[]⟩, .int .i64 0, .slice none 0 0], .bool false]) ∧ Below w.heap.size w w' := by
  have c0 : w.cell? ⟨lb, 0, none⟩ = some (.slice ra 0 rc) := blkc hb 0
  have hlt := (Array.getElem?_eq_some_iff.1 hb).1
  clear hb
  go_enter Try.func58, Try.ntmps58
  go_wp2_with fail
  refine bodyPost_ret (v := .tuple #[.agg #[.string ⟨#[]⟩, .int .i64 0, .slice none 0 0], .bool false]) (by simp [results, Try.results58, go_sem]) rfl ?_
  exact ⟨rfl, (Below.refl _ _).alloc (Nat.le_refl _) _⟩
set_option maxHeartbeats 4000000 in
theorem next_any (w0 w : World) (lb : Nat) (ra : Option Addr) (rc : Nat) (f : Fd) (L : List Fd) (hb : w.heap[lb]? = some (.cells #[.slice ra (L.length + 1) rc] 99)) (hL : HoldFd w0 ra (f :: L)) (hw0 : Below w0.heap.size w0 w) (hc : L.length + 1 ≤ rc) (hl : L.length ≤ 1048576) :
    Calls Try.prog 58 #[ptr lb] w fun e w' => ∃ fa fc ra' rc', e = .returned (.tuple #[.agg #[.string (bs f.1), .int .i64 f.2.1, .slice fa f.2.2.length fc], .bool true]) ∧ HoldZ w0 fa f.2.2 ∧ w'.heap[lb]? = some (.cells #[.slice ra' L.length rc'] 99) ∧ HoldFd w0 ra' L ∧ L.length ≤ rc' ∧ But (fun b => b = lb) w w' := by
  obtain ⟨b, off, rfl, hbl0, y0, y1, ka, kc, y2, hz⟩ := hL.head
  have hbl : b < w.heap.size := Nat.lt_of_lt_of_le hbl0 hw0.size
  have x0 := (hw0.cell (p := ⟨b, off, none⟩) hbl0).trans y0
  have x1 := (hw0.cell (p := ⟨b, off + 1, none⟩) hbl0).trans y1
  have x2 := (hw0.cell (p := ⟨b, off + 2, none⟩) hbl0).trans y2
  have HT := hidd hL.tail
  have HZ := hidd hz
  have c0 : w.cell? ⟨lb, 0, none⟩ = some (.slice (some ⟨b, off, none⟩) (L.length + 1) rc) := blkc hb 0
  have f0 := blkf hb 0
  have HBx := hidd hb
  have hlt := (Array.getElem?_eq_some_iff.1 hb).1
  clear hb hL hz y0 y1 y2 hbl0 hw0
  generalize f.2.2.length = kn at *
  generalize bs f.1 = fi at *
  generalize f.2.1 = fs at *
  obtain ⟨n, hn⟩ : ∃ n, L.length = n := ⟨_, rfl⟩
  have HN := hidd hn
  rw [hn] at c0 hc hl HBx ⊢
  clear hn
  have hnz : ¬ ((n : Int) + 1 = 0) := by omega
  go_enter Try.func58, Try.ntmps58
  by_cases hrc : rc = 1
  · have hn0 : n = 0 := by omega
    have HL0 : Hid (L = []) := by have := HN.out; rw [hn0] at this; exact List.length_eq_zero_iff.1 this
    subst hn0
    subst hrc
    have hbx := blk_setk HBx.out 0 (.slice (some ⟨b, off, none⟩) 0 0)
    simp only [List.setIfInBounds_toArray, List.set_cons_zero] at hbx
    have HB2 := hidd hbx
    clear hbx
    go_wp2_with fail
    refine bodyPost_ret (v := .tuple #[.agg #[.string fi, .int .i64 fs, .slice ka kn kc], .bool true]) (by simp [results, Try.results58, go_sem]) rfl ?_
    refine ⟨ka, kc, some ⟨b, off, none⟩, 0, rfl, HZ.out, ?_, Or.inl HL0.out, Nat.le_refl _, (((But.refl (fun b => b = lb) w).set lb 0 _ rfl).alloc _).alloc _⟩
    exact blko (blko HB2.out ((Below.refl _ _).alloc (Nat.le_refl _) _)) ((Below.refl _ _).alloc (Nat.le_refl _) _)
  · have hbx := blk_setk HBx.out 0 (.slice (some ⟨b, off + 3, none⟩) n (rc - 1))
    simp only [List.setIfInBounds_toArray, List.set_cons_zero] at hbx
    have HB2 := hidd hbx
    clear hbx
    go_wp2_with fail
    refine bodyPost_ret (v := .tuple #[.agg #[.string fi, .int .i64 fs, .slice ka kn kc], .bool true]) (by simp [results, Try.results58, go_sem]) rfl ?_
    refine ⟨ka, kc, some ⟨b, off + 3, none⟩, rc - 1, rfl, HZ.out, ?_, HT.out, by omega, (((But.refl (fun b => b = lb) w).set lb 0 _ rfl).alloc _).alloc _⟩
    exact blko (blko HB2.out ((Below.refl _ _).alloc (Nat.le_refl _) _)) ((Below.refl _ _).alloc (Nat.le_refl _) _)
end Go.Proofs.Ytcnjmjcbhelkhaa
