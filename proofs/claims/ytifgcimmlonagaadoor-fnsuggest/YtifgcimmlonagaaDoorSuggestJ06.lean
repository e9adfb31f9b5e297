import Derived.Test.YtifgcimmlonagaaDoorSuggestJ05
import Derived.RangeFuncLeaves
import Derived.RangeFuncNested
import Derived.Test.YtifgcimmlonagaaDoorSuggestJ00
namespace Go.Proofs.YtifgcimmlonagaaDoor
open Go Go.RowKit
set_option linter.unusedVariables false
set_option maxRecDepth 100000
set_option linter.unusedSimpArgs false

/-! The heap's own functions. -/
abbrev hpI (p : Nat) : Value := .iface 79 (.pointer (some ⟨p, 0, none⟩))
set_option maxHeartbeats 4000000 in
theorem hpop_any (w : World) (base p : Nat) (v : Value) (H : List NW) (n : Nat) (hn : H.length = n + 1) (hl : H.length ≤ 1048576) (hH : HpAt w base p v H) :
    Calls Tryd.prog 105 #[.pointer (some ⟨p, 0, none⟩)] w fun e w' => e = .returned (.iface 59 (.agg #[.int .i64 ((H.getD n nw0).1 : Int), .string (bs (H.getD n nw0).2)])) ∧ ∃ v', HpAt w' base p v' (H.take n) ∧ Mv p w v w' v' ∧ v'.ownBlock = v.ownBlock := by
  obtain ⟨g, cap, rfl, hg1, hg2, hg3⟩ := own2_form hH.row (by omega)
  have c0 : w.cell? ⟨p, 0, none⟩ = some (.slice (some ⟨g, 0, none⟩) H.length cap) := blkc hH.box 0
  have f0 : w.frozen? ⟨p, 0, none⟩ = false := blkf hH.box 0
  obtain ⟨x0, x1⟩ := own2_cells hH.row n (by omega)
  have hpl := hH.lt
  have hpg : ¬ g = p := fun e => hH.ne (by rw [e]; rfl)
  have hln : (H.take n).length = n := by rw [List.length_take]; omega
  have HE : Hid (∀ o, HpAt ((w.setCell ⟨p, 0, none⟩ (.slice (some ⟨g, 0, none⟩) n cap)).alloc o) base p (.slice (some ⟨g, 0, none⟩) n cap) (H.take n) ∧ Mv p w (.slice (some ⟨g, 0, none⟩) H.length cap) ((w.setCell ⟨p, 0, none⟩ (.slice (some ⟨g, 0, none⟩) n cap)).alloc o) (.slice (some ⟨g, 0, none⟩) n cap)) := by
    intro o
    have h1 : HpAt (w.setCell ⟨p, 0, none⟩ (.slice (some ⟨g, 0, none⟩) n cap)) base p (.slice (some ⟨g, 0, none⟩) n cap) (H.take n) := by
      refine ⟨?_, ?_⟩
      · have := blk_setk hH.box 0 (.slice (some ⟨g, 0, none⟩) n cap)
        simpa using this
      · rw [hln, ← nwCells_take]
        refine own_congr (w := w) (own2_cut hH.row (by omega)) fun b e => ?_
        have e2 : g = b := Option.some.inj e
        subst e2
        exact heap_set_other _ p 0 _ g hpg
    exact ⟨h1.below ((Below.refl _ _).alloc (Nat.le_refl _) o), ⟨((But.refl _ w).set p 0 _ (.inl rfl)).alloc o, .inl rfl⟩⟩
  clear hH hln
  obtain ⟨z, hz⟩ : ∃ z, ((H.getD n nw0).1 : Int) = z := ⟨_, rfl⟩
  obtain ⟨t, ht⟩ : ∃ t, bs (H.getD n nw0).2 = t := ⟨_, rfl⟩
  rw [hz] at x0 ⊢
  rw [ht] at x1 ⊢
  clear hz ht
  generalize H.take n = H' at *
  generalize hL : H.length = L at *
  have hLz : (L : Int) - 1 = (n : Int) := by omega
  have hnL : (n : Int) < (L : Int) := by omega
  have hncap : n ≤ cap := by omega
  clear hL
  go_enter Tryd.func105, Tryd.ntmps105
  go_wp2_with fail
  go_ret
  exact ⟨rfl, _, (HE.out _).1, (HE.out _).2, rfl⟩
set_option maxHeartbeats 4000000 in
theorem up_any (w : World) (base p : Nat) (v : Value) (H : List NW) (j : Nat) (hl : H.length ≤ 1048576) (hU : UpInv gtW nw0 H j) (hH : HpAt w base p v H) :
    Calls Tryd.prog 65 #[hpI p, .int .i64 (j : Int)] w fun e w' => e = .returned (.tuple #[]) ∧ ∃ H', H'.Perm H ∧ Heap gtW nw0 H' H'.length ∧ HpAt w' base p v H' ∧ Mv p w v w' v := by
  have HU := hidd hU
  have HH := hidd hH
  have hj0 := hU.2.2
  clear hU hH
  go_enter Tryd.func65, Tryd.ntmps65
  go_wp2_with fail
  go_loopw [1] (fun jv wr => ∃ (k : Nat) (G : List NW), k < G.length ∧ G.length = H.length ∧ jv = .int .i64 (k : Int) ∧ G.Perm H ∧ UpInv gtW nw0 G k ∧ HpAt wr base p v G ∧ Mv p w v wr v) (fun jv _ => (intOf jv).toNat)
  case atStart => exact ⟨j, H, hj0, rfl, rfl, List.Perm.refl _, HU.out, HH.out, Mv.refl _ _ _⟩
  case round =>
    obtain ⟨k, G, hk, hGl, rfl, hpm, hui, hhp, hmv⟩ := hrel
    clear HU HH
    have HP := hidd hpm
    have HU := hidd hui
    have HH := hidd hhp
    have HM := hidd hmv
    clear hpm hui hhp hmv
    by_cases hk0 : k = 0
    · subst hk0
      go_wp2_with fail
      go_end0
      exact ⟨rfl, G, HP.out, HU.out.done (.inl rfl), HH.out, HM.out⟩
    · obtain ⟨q, hq⟩ : ∃ q, (k - 1) / 2 = q := ⟨_, rfl⟩
      have hqk0 : q < k := by omega
      have hql : q < G.length := by omega
      have hqz : ((k : Int) - 1).tdiv 2 = (q : Int) := by
        rw [← hq, show (k : Int) - 1 = ((k - 1 : Nat) : Int) by omega]
        rfl
      have hqk : ¬ (q : Int) = (k : Int) := by omega
      have hqkb : ((q : Int) == (k : Int)) = false := by simp; omega
      have Hq := hidd hq
      have HL := hidd (fun W (hW : Below wr.heap.size wr W) => hless_any W base p v G k q hk hql (by omega) (HH.out.below hW))
      clear hq
      go_wp2_with fail
      refine (HL.out _ (Below.refl _ _)).mono ?_
      rintro e w2 ⟨rfl, hb2⟩
      have HH2 := hidd (HH.out.below hb2)
      have HM2 := hidd (HM.out.trans (Mv.of_below hb2))
      clear hb2 HH HM HL
      cases hg : gtW (G.getD k nw0) (G.getD q nw0) with
      | false =>
        have HG := hidd hg
        clear hg
        go_wp2_with fail
        go_end0
        exact ⟨rfl, G, HP.out, HU.out.done (.inr (by rw [Hq.out]; exact HG.out)), HH2.out, HM2.out⟩
      | true =>
        have HG := hidd hg
        have HS := hidd (hswap_any w2 base p v G q k hql hk (by omega) HH2.out)
        clear hg
        go_wp2_with fail
        refine HS.out.mono ?_
        rintro e w3 ⟨rfl, hh3, hm3⟩
        have HH3 := hidd hh3
        have HM3 := hidd (HM2.out.trans hm3)
        clear hh3 hm3
        have HP3 := hidd ((swp_perm nw0 G q k hql hk).trans HP.out)
        have HU3 : Hid (UpInv gtW nw0 (swp nw0 G q k) q) := by
          have := HU.out.step gtW_ord (by omega) (by rw [Hq.out]; exact HG.out)
          rw [Hq.out] at this
          exact this
        go_wp2_with fail
        go_roundw
        case rel => exact ⟨q, swp nw0 G q k, by rw [swp_len]; exact hql, by rw [swp_len]; exact hGl, rfl, HP3.out, HU3.out, HH3.out, HM3.out⟩
        case measure => simp [intOf]; omega
set_option maxHeartbeats 8000000 in
theorem down_any (w : World) (base p : Nat) (v : Value) (H : List NW) (n : Nat) (hn : H.length = n + 1) (hl : H.length ≤ 1048576) (hD : DownInv gtW nw0 H 0 n) (hH : HpAt w base p v H) :
    Calls Tryd.prog 66 #[hpI p, .int .i64 0, .int .i64 (n : Int)] w fun e w' => (∃ b, e = .returned (.bool b)) ∧ ∃ H', H'.Perm H ∧ H'.getD n nw0 = H.getD n nw0 ∧ Heap gtW nw0 H' n ∧ HpAt w' base p v H' ∧ Mv p w v w' v := by
  have HD := hidd hD
  have HH := hidd hH
  clear hD hH
  go_enter Tryd.func66, Tryd.ntmps66
  go_wp2_with fail
  go_loopw [7] (fun iv wr => ∃ (i : Nat) (G : List NW), i ≤ n ∧ G.length = n + 1 ∧ iv = .int .i64 (i : Int) ∧ G.Perm H ∧ G.getD n nw0 = H.getD n nw0 ∧ DownInv gtW nw0 G i n ∧ HpAt wr base p v G ∧ Mv p w v wr v) (fun iv _ => n - (intOf iv).toNat)
  case atStart => exact ⟨0, H, by omega, hn, rfl, List.Perm.refl _, rfl, HD.out, HH.out, Mv.refl _ _ _⟩
  case round =>
    obtain ⟨i, G, hi, hGl, rfl, hpm, hlast, hdi, hhp, hmv⟩ := hrel
    clear HD HH
    have HP := hidd hpm
    have HLa := hidd hlast
    have HD := hidd hdi
    have HH := hidd hhp
    have HM := hidd hmv
    clear hpm hdi hhp hmv hlast
    have w1 : IntKind.i64.wrap (2 * (i : Int)) = 2 * (i : Int) := IntWalk.i64_in _ ⟨by omega, by omega⟩
    by_cases h1 : n ≤ 2 * i + 1
    · have hz1 : 2 * (i : Int) + 1 ≥ (n : Int) := by omega
      go_wp2_with fail
      go_ret
      exact ⟨⟨_, rfl⟩, G, HP.out, HLa.out, HD.out.done0 h1, HH.out, HM.out⟩
    · have hz1 : ¬ 2 * (i : Int) + 1 ≥ (n : Int) := by omega
      have hz2 : ¬ 2 * (i : Int) + 1 < 0 := by omega
      have e1 : ((2 * i + 1 : Nat) : Int) = 2 * (i : Int) + 1 := by omega
      have e2 : ((2 * i + 2 : Nat) : Int) = 2 * (i : Int) + 1 + 1 := by omega
      have hj1 : 2 * i + 1 < n := by omega
      have HLs : Hid (∀ W, HpAt W base p v G → ∀ x y : Nat, x < G.length → y < G.length → ∀ xz yz : Int, (x : Int) = xz → (y : Int) = yz → Calls Tryd.prog 104 #[.pointer (some ⟨p, 0, none⟩), .int .i64 xz, .int .i64 yz] W fun e w' => e = .returned (.bool (gtW (G.getD x nw0) (G.getD y nw0))) ∧ Below W.heap.size W w') := by
        intro W hW x y hx hy xz yz h1 h2
        rw [← h1, ← h2]
        exact hless_any W base p v G x y hx hy (by omega) hW
      have HSw : Hid (∀ W, HpAt W base p v G → ∀ x y : Nat, x < G.length → y < G.length → ∀ xz yz : Int, (x : Int) = xz → (y : Int) = yz → Calls Tryd.prog 107 #[.pointer (some ⟨p, 0, none⟩), .int .i64 xz, .int .i64 yz] W fun e w' => e = .returned (.tuple #[]) ∧ HpAt w' base p v (swp nw0 G x y) ∧ Mv p W v w' v) := by
        intro W hW x y hx hy xz yz h1 h2
        rw [← h1, ← h2]
        exact hswap_any W base p v G x y hx hy (by omega) hW
      have HE1 := hidd e1
      have HE2 := hidd e2
      clear e1 e2
      by_cases h2 : 2 * i + 2 < n
      · have hz3 : 2 * (i : Int) + 1 + 1 < (n : Int) := by omega
        go_wp2_with fail
        refine (HLs.out _ HH.out (2 * i + 2) (2 * i + 1) (by omega) (by omega) _ _ HE2.out HE1.out).mono ?_
        rintro e w4 ⟨rfl, hb4⟩
        have HH4 := hidd (HH.out.below hb4)
        have HM4 := hidd (HM.out.trans (Mv.of_below hb4))
        clear hb4
        cases hg : gtW (G.getD (2 * i + 2) nw0) (G.getD (2 * i + 1) nw0) with
        | true =>
          have HG := hidd hg
          clear hg
          go_wp2_with fail
          refine (HLs.out _ HH4.out (2 * i + 2) i (by omega) (by omega) _ _ HE2.out rfl).mono ?_
          rintro e w5 ⟨rfl, hb5⟩
          have HH5 := hidd (HH4.out.below hb5)
          have HM5 := hidd (HM4.out.trans (Mv.of_below hb5))
          clear hb5
          cases hg2 : gtW (G.getD (2 * i + 2) nw0) (G.getD i nw0) with
          | false =>
            have HG2 := hidd hg2
            clear hg2
            go_wp2_with fail
            go_ret
            exact ⟨⟨_, rfl⟩, G, HP.out, HLa.out, HD.out.done1 gtW_ord (by omega) (by omega) (kids_best gtW_ord (2 * i + 2) (.inl ⟨rfl, HG.out⟩)) HG2.out, HH5.out, HM5.out⟩
          | true =>
            have HG2 := hidd hg2
            clear hg2
            go_wp2_with fail
            refine (HSw.out _ HH5.out i (2 * i + 2) (by omega) (by omega) _ _ rfl HE2.out).mono ?_
            rintro e w6 ⟨rfl, hh6, hm6⟩
            have HH6 := hidd hh6
            have HM6 := hidd (HM5.out.trans hm6)
            have HD6 := hidd (HD.out.step gtW_ord (j := 2 * i + 2) (by omega) (by omega) (kids_best gtW_ord (2 * i + 2) (.inl ⟨rfl, HG.out⟩)) HG2.out)
            have HP6 := hidd ((swp_perm nw0 G i (2 * i + 2) (by omega) (by omega)).trans HP.out)
            have HLa6 : Hid ((swp nw0 G i (2 * i + 2)).getD n nw0 = H.getD n nw0) := by
              show _ = _
              rw [swp_at nw0 G i (2 * i + 2) (by omega) (by omega), if_neg (by omega), if_neg (by omega)]
              exact HLa.out
            clear hh6 hm6
            go_wp2_with fail
            go_roundw
            case rel => exact ⟨2 * i + 2, swp nw0 G i (2 * i + 2), by omega, by rw [swp_len]; exact hGl, by rw [HE2.out], HP6.out, HLa6.out, HD6.out, HH6.out, HM6.out⟩
            case measure => have := HE2.out; simp [intOf]; omega
        | false =>
          have HG := hidd hg
          clear hg
          go_wp2_with fail
          refine (HLs.out _ HH4.out (2 * i + 1) i (by omega) (by omega) _ _ HE1.out rfl).mono ?_
          rintro e w5 ⟨rfl, hb5⟩
          have HH5 := hidd (HH4.out.below hb5)
          have HM5 := hidd (HM4.out.trans (Mv.of_below hb5))
          clear hb5
          cases hg2 : gtW (G.getD (2 * i + 1) nw0) (G.getD i nw0) with
          | false =>
            have HG2 := hidd hg2
            clear hg2
            go_wp2_with fail
            go_ret
            exact ⟨⟨_, rfl⟩, G, HP.out, HLa.out, HD.out.done1 gtW_ord (by omega) (by omega) (kids_best gtW_ord (2 * i + 1) (.inr ⟨rfl, .inr HG.out⟩)) HG2.out, HH5.out, HM5.out⟩
          | true =>
            have HG2 := hidd hg2
            clear hg2
            go_wp2_with fail
            refine (HSw.out _ HH5.out i (2 * i + 1) (by omega) (by omega) _ _ rfl HE1.out).mono ?_
            rintro e w6 ⟨rfl, hh6, hm6⟩
            have HH6 := hidd hh6
            have HM6 := hidd (HM5.out.trans hm6)
            have HD6 := hidd (HD.out.step gtW_ord (j := 2 * i + 1) (by omega) (by omega) (kids_best gtW_ord (2 * i + 1) (.inr ⟨rfl, .inr HG.out⟩)) HG2.out)
            have HP6 := hidd ((swp_perm nw0 G i (2 * i + 1) (by omega) (by omega)).trans HP.out)
            have HLa6 : Hid ((swp nw0 G i (2 * i + 1)).getD n nw0 = H.getD n nw0) := by
              show _ = _
              rw [swp_at nw0 G i (2 * i + 1) (by omega) (by omega), if_neg (by omega), if_neg (by omega)]
              exact HLa.out
            clear hh6 hm6
            go_wp2_with fail
            go_roundw
            case rel => exact ⟨2 * i + 1, swp nw0 G i (2 * i + 1), by omega, by rw [swp_len]; exact hGl, by rw [HE1.out], HP6.out, HLa6.out, HD6.out, HH6.out, HM6.out⟩
            case measure => have := HE1.out; simp [intOf]; omega
      · have hz3 : ¬ 2 * (i : Int) + 1 + 1 < (n : Int) := by omega
        go_wp2_with fail
        refine (HLs.out _ HH.out (2 * i + 1) i (by omega) (by omega) _ _ HE1.out rfl).mono ?_
        rintro e w5 ⟨rfl, hb5⟩
        have HH5 := hidd (HH.out.below hb5)
        have HM5 := hidd (HM.out.trans (Mv.of_below hb5))
        clear hb5
        cases hg2 : gtW (G.getD (2 * i + 1) nw0) (G.getD i nw0) with
        | false =>
          have HG2 := hidd hg2
          clear hg2
          go_wp2_with fail
          go_ret
          exact ⟨⟨_, rfl⟩, G, HP.out, HLa.out, HD.out.done1 gtW_ord (by omega) (by omega) (kids_best gtW_ord (2 * i + 1) (.inr ⟨rfl, .inl (by omega)⟩)) HG2.out, HH5.out, HM5.out⟩
        | true =>
          have HG2 := hidd hg2
          clear hg2
          go_wp2_with fail
          refine (HSw.out _ HH5.out i (2 * i + 1) (by omega) (by omega) _ _ rfl HE1.out).mono ?_
          rintro e w6 ⟨rfl, hh6, hm6⟩
          have HH6 := hidd hh6
          have HM6 := hidd (HM5.out.trans hm6)
          have HD6 := hidd (HD.out.step gtW_ord (j := 2 * i + 1) (by omega) (by omega) (kids_best gtW_ord (2 * i + 1) (.inr ⟨rfl, .inl (by omega)⟩)) HG2.out)
          have HP6 := hidd ((swp_perm nw0 G i (2 * i + 1) (by omega) (by omega)).trans HP.out)
          have HLa6 : Hid ((swp nw0 G i (2 * i + 1)).getD n nw0 = H.getD n nw0) := by
            show _ = _
            rw [swp_at nw0 G i (2 * i + 1) (by omega) (by omega), if_neg (by omega), if_neg (by omega)]
            exact HLa.out
          clear hh6 hm6
          go_wp2_with fail
          go_roundw
          case rel => exact ⟨2 * i + 1, swp nw0 G i (2 * i + 1), by omega, by rw [swp_len]; exact hGl, by rw [HE1.out], HP6.out, HLa6.out, HD6.out, HH6.out, HM6.out⟩
          case measure => have := HE1.out; simp [intOf]; omega
set_option maxHeartbeats 4000000 in
theorem heapPush_any (w : World) (base p : Nat) (v : Value) (H : List NW) (a : NW) (hl : H.length ≤ 1048575) (hbw : base ≤ w.heap.size) (hHp : Heap gtW nw0 H H.length) (hH : HpAt w base p v H) :
    Calls Tryd.prog 49 #[hpI p, .iface 59 (.agg #[.int .i64 (a.1 : Int), .string (bs a.2)])] w fun e w' => e = .returned (.tuple #[]) ∧ ∃ v' H', H'.Perm (H ++ [a]) ∧ Heap gtW nw0 H' H'.length ∧ HpAt w' base p v' H' ∧ Mv p w v w' v' := by
  have HC := hidd (hpush_any w base p v H a (by omega) hbw hH)
  have HU := hidd (UpInv.start a hHp)
  have hln : (H ++ [a]).length = H.length + 1 := by simp
  clear hHp hH
  go_enter Tryd.func49, Tryd.ntmps49
  go_wp2_with fail
  refine HC.out.mono ?_
  rintro e w2 ⟨rfl, v2, hh2, hm2⟩
  have HH2 := hidd hh2
  have HM2 := hidd hm2
  have HLn := hidd (hlen_any w2 base p v2 (H ++ [a]) hh2)
  have HUp := hidd (up_any w2 base p v2 (H ++ [a]) H.length (by omega) HU.out hh2)
  rw [hln] at HLn
  have e1 : ((H.length + 1 : Nat) : Int) - 1 = (H.length : Int) := by omega
  clear hh2 hm2 HC HU hln
  go_wp2_with fail
  refine HLn.out.mono ?_
  rintro e w3 ⟨rfl, hw3⟩
  obtain rfl := hw3.symm
  go_wp2_with fail
  refine HUp.out.mono ?_
  rintro e w4 ⟨rfl, H', q1, q2, q3, q4⟩
  have HF := hidd (And.intro q1 (And.intro q2 (And.intro q3 (HM2.out.trans q4))))
  clear q1 q2 q3 q4
  go_wp2_with fail
  go_end0
  exact ⟨rfl, v2, H', HF.out.1, HF.out.2.1, HF.out.2.2.1, HF.out.2.2.2⟩
set_option maxHeartbeats 4000000 in
theorem heapPop_any (w : World) (base p : Nat) (v : Value) (H : List NW) (n : Nat) (hn : H.length = n + 1) (hl : H.length ≤ 1048576) (hHp : Heap gtW nw0 H H.length) (hH : HpAt w base p v H) :
    Calls Tryd.prog 51 #[hpI p] w fun e w' => ∃ m : NW, e = .returned (.iface 59 (.agg #[.int .i64 (m.1 : Int), .string (bs m.2)])) ∧ (∀ x ∈ H, gtW x m = false) ∧ ∃ v' H', (H' ++ [m]).Perm H ∧ H'.length = n ∧ Heap gtW nw0 H' H'.length ∧ HpAt w' base p v' H' ∧ Mv p w v w' v' ∧ v'.ownBlock = v.ownBlock := by
  have HLn := hidd (hlen_any w base p v H hH)
  rw [hn] at HLn
  have HSw := hidd (hswap_any w base p v H 0 n (by omega) (by omega) (by omega) hH)
  have HT := hidd (hHp.top_mem gtW_ord)
  have HD := hidd (DownInv.start gtW_ord hHp hn)
  have HLast : Hid ((swp nw0 H 0 n).getD n nw0 = H.getD 0 nw0) := by
    show _ = _
    rw [swp_at nw0 H 0 n (by omega) (by omega), if_pos rfl]
  have HP := hidd (swp_perm nw0 H 0 n (by omega) (by omega))
  have hlS : (swp nw0 H 0 n).length = n + 1 := by rw [swp_len]; exact hn
  have e1 : ((n + 1 : Nat) : Int) - 1 = (n : Int) := by omega
  clear hHp hH
  go_enter Tryd.func51, Tryd.ntmps51
  go_wp2_with fail
  refine HLn.out.mono ?_
  rintro e w3 ⟨rfl, hw3⟩
  obtain rfl := hw3.symm
  go_wp2_with fail
  refine HSw.out.mono ?_
  rintro e w4 ⟨rfl, hh4, hm4⟩
  have HM4 := hidd hm4
  have HDn := hidd (down_any w4 base p v (swp nw0 H 0 n) n hlS (by omega) HD.out hh4)
  clear hh4 hm4
  go_wp2_with fail
  refine HDn.out.mono ?_
  rintro e w5 ⟨⟨b5, rfl⟩, H', q1, q2, q3, q4, q5⟩
  have hl5 : H'.length = n + 1 := by rw [q1.length_eq]; exact hlS
  have HPp := hidd (hpop_any w5 base p v H' n hl5 (by omega) q4)
  have HM5 := hidd (HM4.out.trans q5)
  have HF : Hid (∃ m : NW, H'.getD n nw0 = m ∧ (∀ x ∈ H, gtW x m = false) ∧ (H'.take n ++ [m]).Perm H ∧ (H'.take n).length = n ∧ Heap gtW nw0 (H'.take n) (H'.take n).length) := by
    refine ⟨H'.getD n nw0, rfl, ?_, ?_, by rw [List.length_take]; omega, q3.cut (by omega)⟩
    · rw [q2, HLast.out]; exact HT.out
    · have e : H'.take n ++ [H'.getD n nw0] = H' := by
        conv => rhs; rw [← List.take_append_drop n H', List.drop_eq_getElem_cons (by omega), List.drop_of_length_le (by omega)]
        simp [show n < H'.length by omega]
      rw [e]
      exact q1.trans HP.out
  clear q1 q2 q3 q4 q5 hl5
  go_wp2_with fail
  refine HPp.out.mono ?_
  rintro e w6 ⟨rfl, v6, hh6, hm6, hv6⟩
  have HV6 := hidd hv6
  have HH6 := hidd hh6
  have HM6 := hidd (HM5.out.trans hm6)
  clear hh6 hm6 hv6
  obtain ⟨m, hm, k1, k2, k3, k4⟩ := HF.out
  rw [hm]
  have HK := hidd (And.intro k1 (And.intro k2 (And.intro k3 k4)))
  clear hm k1 k2 k3 k4 HF HPp
  go_wp2_with fail
  go_ret
  exact ⟨m, rfl, HK.out.1, v6, H'.take n, HK.out.2.1, HK.out.2.2.1, HK.out.2.2.2, HH6.out, HM6.out, HV6.out⟩
end Go.Proofs.YtifgcimmlonagaaDoor

namespace Go.Proofs.YtifgcimmlonagaaDoor
open Go Go.RowKit
set_option linter.unusedVariables false

/-- Marks among the deferred calls of an activation: of each loop over an iterator that was left. -/
def mark (D : Nat) : Deferred := { target := .collected D, args := #[] }
structure Marks (w : World) (B : Nat) (Ds : List Nat) : Prop where
  nodup : Ds.Nodup
  at_ : ∀ D ∈ Ds, B ≤ D ∧ w.heap[D]? = some (.deferred (some []))
/-- Cells that stay, but for those that a call has laid. -/
def KeepD (w w' : World) : Prop := ∀ D : Nat, w.heap[D]? = some (.deferred (some [])) → w'.heap[D]? = some (.deferred (some []))
theorem Marks.keep {w w' : World} {B : Nat} {Ds : List Nat} (h : Marks w B Ds) (hk : KeepD w w') : Marks w' B Ds := ⟨h.nodup, fun D hD => ⟨(h.at_ D hD).1, hk D (h.at_ D hD).2⟩⟩
theorem Marks.push {w : World} {B D : Nat} {Ds : List Nat} (h : Marks w B Ds) (hB : B ≤ D) (hD : w.heap[D]? = some (.deferred (some []))) (hn : D ∉ Ds) : Marks w B (D :: Ds) :=
  ⟨List.nodup_cons.2 ⟨hn, h.nodup⟩, fun x hx => by
    rcases List.mem_cons.1 hx with rfl | hx
    · exact ⟨hB, hD⟩
    · exact h.at_ x hx⟩
theorem Marks.lt {w : World} {B : Nat} {Ds : List Nat} (h : Marks w B Ds) {D : Nat} (hD : D ∈ Ds) : D < w.heap.size := (Array.getElem?_eq_some_iff.1 (h.at_ D hD).2).1
/-- All but marks stays. -/
structure AllBut (w w' : World) : Prop where
  os : w'.os = w.os
  tape : w'.tape = w.tape
  output : w'.output = w.output
  size : w'.heap.size = w.heap.size
  block : ∀ b : Nat, w.heap[b]? ≠ some (.deferred (some [])) → w'.heap[b]? = w.heap[b]?
theorem AllBut.refl (w : World) : AllBut w w := ⟨rfl, rfl, rfl, rfl, fun _ _ => rfl⟩
theorem leaves_marks {F : Fence} {n : Nat} {P : Program} {fn : Func} {tmps : Array Value} {R : Ending → World → Prop} {B : Nat} : ∀ (Ds : List Nat) (w0 w : World), Marks w B Ds → AllBut w0 w → Below B w0 w →
    (∀ w', AllBut w0 w' → Below B w0 w' → LeavesIn F n P fn tmps R [] .returning w') → LeavesInM F n P fn tmps R (Ds.map mark) .returning w
  | [], w0, w, _, ha, hb, h => h w ha hb
  | D :: Ds, w0, w, hm, ha, hb, h => by
    have hD := (hm.at_ D (by simp)).2
    have hB := (hm.at_ D (by simp)).1
    have hnd := List.nodup_cons.1 hm.nodup
    refine ⟨by simp, .inl ⟨D, _, rfl, run_takeDeferred hD, ?_⟩⟩
    refine leaves_marks Ds w0 (w.putObj D (.deferred none)) ⟨hnd.2, fun x hx => ⟨(hm.at_ x (by simp [hx])).1, ?_⟩⟩ ?_ ?_ h
    · rw [World.putObj_heap_other (fun e => by subst e; exact hnd.1 hx)]
      exact (hm.at_ x (by simp [hx])).2
    · refine ⟨ha.os, ha.tape, ha.output, by rw [← ha.size]; simp [World.putObj], fun b hb' => ?_⟩
      have hne : b ≠ D := by
        rintro rfl
        by_cases hq : w0.heap[b]? = some (.deferred (some []))
        · exact hb' hq
        · exact hq ((ha.block b hb').symm.trans hD)
      rw [World.putObj_heap_other hne]
      exact ha.block b hb'
    · refine ⟨hb.os, hb.tape, hb.output, by have := hb.size; simpa [World.putObj] using this, fun b hb' => ?_⟩
      rw [World.putObj_heap_other (by omega)]
      exact hb.block b hb'
end Go.Proofs.YtifgcimmlonagaaDoor
