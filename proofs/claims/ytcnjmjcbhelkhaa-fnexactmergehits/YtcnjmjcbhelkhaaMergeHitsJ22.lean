import Derived.Test.YtcnjmjcbhelkhaaMergeHitsJ15
namespace Go.Proofs.Ytcnjmjcbhelkhaa
open Go Go.RowKit Go.Shelf
set_option linter.unusedVariables false
set_option maxRecDepth 100000
set_option linter.unusedSimpArgs false

/-! spec.MergeHits. -/
set_option maxHeartbeats 16000000 in
theorem specMerge_any (w : World) (sa : Option Addr) (sc : Nat) (ks : List (Tx × Bool)) (la : Option Addr) (lc : Nat) (L : List (List Fd)) (size : Int) (hS : HoldSK w sa ks) (hL : HoldFF w la L) (hkn : ks.length ≤ 1048576) (hLn : L.length ≤ 1048576) (hln : ∀ i, i < L.length → (L.getD i []).length ≤ 1048576) :
    Calls Try.prog 6 #[.slice la L.length lc, .slice sa ks.length sc, .int .i64 size] w (MhAns (dsOf ks) L size w) := by
  have HS := hidd hS
  have HL := hidd hL
  have HLn := hidd hln
  obtain ⟨N, hN⟩ : ∃ N, L.length = N := ⟨_, rfl⟩
  have HN := hidd hN
  obtain ⟨kn, hkn2⟩ : ∃ n, ks.length = n := ⟨_, rfl⟩
  have HKn := hidd hkn2
  have HDs : Hid ((dsOf ks).length = kn) := by show _ = _; rw [dsOf, List.length_map, hkn2]
  rw [hN] at hLn ⊢
  rw [hkn2] at hkn ⊢
  clear hS hL hln hN hkn2
  go_enter Try.func6, Try.ntmps6
  by_cases h1 : N > 16
  · have HC : Hid (mhC (dsOf ks) L size = 11) := mhC_many (by rw [HN.out]; exact h1)
    have h1z : (N : Int) > 16 := by omega
    go_wp2_with fail
    refine bodyPost_ret (v := .tuple #[.slice (some ⟨w.heap.size, 0, none⟩) 0 0, .int .i64 11]) (by simp [results, Try.results6, go_sem]) rfl ?_
    exact MhAns.bad (Below.refl _ _) HC.out (by decide)
  · have h1z : ¬ (N : Int) > 16 := by omega
    have H1 : Hid (¬ L.length > 16) := by show ¬ _; rw [HN.out]; exact h1
    go_wp2_with fail
    go_loopw [8] (fun iv wx => ∃ i : Nat, i ≤ N ∧ iv = .int .i64 (i : Int) ∧ (∀ j, j < i → (L.getD j []).length ≤ 4096) ∧ wx = w) (fun iv _ => N - (intOf iv).toNat)
    case atStart => exact ⟨0, by omega, rfl, fun j hj => absurd hj (by omega), rfl⟩
    case round =>
      obtain ⟨i, hi, rfl, hno, hww⟩ := hrel
      obtain rfl := hww.symm
      have HNo := hidd hno
      clear hno
      by_cases hin : i < N
      · have hiz : (i : Int) < (N : Int) := by omega
        obtain ⟨b, off, rfl, hbl, ra, rc, hcell, hrc, hfd⟩ := HL.out.at (i := i) (by rw [HN.out]; exact hin)
        obtain ⟨n, hn⟩ : ∃ n, (L.getD i []).length = n := ⟨_, rfl⟩
        have HNn := hidd hn
        rw [hn] at hcell
        clear hfd hrc hn
        by_cases h2 : n > 4096
        · have h2z : (n : Int) > 4096 := by omega
          have HC : Hid (mhC (dsOf ks) L size = 2) := mhC_long H1.out (by rw [HN.out]; exact hin) (by rw [HNn.out]; exact h2)
          go_wp2_with fail
          refine bodyPost_ret (v := .tuple #[.slice (some ⟨w.heap.size, 0, none⟩) 0 0, .int .i64 2]) (by simp [results, Try.results6, go_sem]) rfl ?_
          exact MhAns.bad (Below.refl _ _) HC.out (by decide)
        · have h2z : ¬ (n : Int) > 4096 := by omega
          have HNx : Hid (∀ j, j < i + 1 → (L.getD j []).length ≤ 4096) := fun j hj => by
            by_cases e : j = i
            · subst e; rw [HNn.out]; omega
            · exact HNo.out j (by omega)
          go_wp2_with fail
          go_roundw
          case rel => exact ⟨i + 1, by omega, by go_num, HNx.out, by first | trivial | rfl⟩
          case measure => simp [intOf]; omega
      · have hiz : ¬ (i : Int) < (N : Int) := by omega
        have HLen : Hid (∀ j, j < L.length → (L.getD j []).length ≤ 4096) := fun j hj => HNo.out j (by rw [HN.out] at hj; omega)
        have HRest := hidd (mhC_rest (ds := dsOf ks) (size := size) H1.out HLen.out)
        by_cases h3 : size < 0 ∨ size > 1000 ∨ kn > 4
        · have HC : Hid (mhC (dsOf ks) L size = 12) := by
            show _ = _
            rw [HRest.out, if_pos]
            rcases h3 with h | h | h
            · exact Or.inl h
            · exact Or.inr (Or.inl h)
            · exact Or.inr (Or.inr (Or.inl (by rw [HDs.out]; exact h)))
          by_cases q1 : size < 0
          · have q1b : decide (size < 0) = true := by simp [q1]
            go_wp2_with fail
            refine bodyPost_ret (v := .tuple #[.slice (some ⟨w.heap.size, 0, none⟩) 0 0, .int .i64 12]) (by simp [results, Try.results6, go_sem]) rfl ?_
            exact MhAns.bad (Below.refl _ _) HC.out (by decide)
          · by_cases q2 : size > 1000
            · go_wp2_with fail
              refine bodyPost_ret (v := .tuple #[.slice (some ⟨w.heap.size, 0, none⟩) 0 0, .int .i64 12]) (by simp [results, Try.results6, go_sem]) rfl ?_
              exact MhAns.bad (Below.refl _ _) HC.out (by decide)
            · have q3 : (kn : Int) > 4 := by omega
              clear h3
              go_wp2_with fail
              refine bodyPost_ret (v := .tuple #[.slice (some ⟨w.heap.size, 0, none⟩) 0 0, .int .i64 12]) (by simp [results, Try.results6, go_sem]) rfl ?_
              exact MhAns.bad (Below.refl _ _) HC.out (by decide)
        · obtain ⟨NS, rfl⟩ : ∃ NS : Nat, size = (NS : Int) := ⟨size.toNat, by omega⟩
          have q1 : ¬ (NS : Int) < 0 := by omega
          have q2 : ¬ (NS : Int) > 1000 := by omega
          have q3 : ¬ (kn : Int) > 4 := by omega
          have HRest2 : Hid (mhC (dsOf ks) L (NS : Int) = if oddK kn L = true then 12 else if (L.any (badS (dsOf ks))) = true then 17 else 0) := by
            show _ = _
            rw [HRest.out, HDs.out]
            by_cases e : oddK kn L = true
            · rw [if_pos (Or.inr (Or.inr (Or.inr e))), if_pos e]
            · rw [if_neg e, if_neg]
              rintro (h | h | h | h)
              · omega
              · omega
              · omega
              · exact e h
          clear h3 HRest HNo
          go_wp2_with fail
          go_loopw [9] (fun iv wx => ∃ i : Nat, i ≤ N ∧ iv = .int .i64 (i : Int) ∧ (∀ j, j < i → ∀ k, k < (L.getD j []).length → ((L.getD j []).getD k fd0).2.2.length = kn) ∧ wx = w) (fun iv _ => N - (intOf iv).toNat)
          case atStart => exact ⟨0, by omega, rfl, fun j hj => absurd hj (by omega), rfl⟩
          case round =>
            obtain ⟨p, hp, rfl, hno, hww⟩ := hrel
            obtain rfl := hww.symm
            have HNo := hidd hno
            clear hno
            by_cases hpn : p < N
            · have hpz : (p : Int) < (N : Int) := by omega
              obtain ⟨b, off, rfl, hbl, ra, rc, hcell, hrc, hfd⟩ := HL.out.at (i := p) (by rw [HN.out]; exact hpn)
              obtain ⟨n, hn⟩ : ∃ n, (L.getD p []).length = n := ⟨_, rfl⟩
              have HNn := hidd hn
              have HFd := hidd hfd
              have hn4 : n ≤ 4096 := by rw [← hn]; exact HLen.out p (by rw [HN.out]; exact hpn)
              rw [hn] at hcell
              clear hfd hrc hn
              go_wp2_with fail
              go_loopw [10] (fun kv wx => ∃ k : Nat, k ≤ n ∧ kv = .int .i64 (k : Int) ∧ (∀ j, j < k → ((L.getD p []).getD j fd0).2.2.length = kn) ∧ wx = w) (fun kv _ => n - (intOf kv).toNat)
              case atStart => exact ⟨0, by omega, rfl, fun j hj => absurd hj (by omega), rfl⟩
              case round =>
                obtain ⟨k, hk, rfl, hno2, hww⟩ := hrel
                obtain rfl := hww.symm
                have HNo2 := hidd hno2
                clear hno2
                by_cases hkn2 : k < n
                · have hkz : (k : Int) < (n : Int) := by omega
                  obtain ⟨b2, off2, rfl, hbl2, x0, x1, ka, kc, x2, x3⟩ := HFd.out.at (i := k) (by rw [HNn.out]; exact hkn2)
                  obtain ⟨m, hm⟩ : ∃ m, ((L.getD p []).getD k fd0).2.2.length = m := ⟨_, rfl⟩
                  have HMm := hidd hm
                  rw [hm] at x2
                  clear x0 x1 x3 hm
                  by_cases hmk : m = kn
                  · have hmb : ((m : Int) != (kn : Int)) = false := by simp [hmk]
                    have HNx : Hid (∀ j, j < k + 1 → ((L.getD p []).getD j fd0).2.2.length = kn) := fun j hj => by
                      by_cases e : j = k
                      · subst e; rw [HMm.out]; exact hmk
                      · exact HNo2.out j (by omega)
                    clear hmk
                    go_wp2_with fail
                    go_roundw
                    case rel => exact ⟨k + 1, by omega, by go_num, HNx.out, by first | trivial | rfl⟩
                    case measure => simp [intOf]; omega
                  · have hmb : ((m : Int) != (kn : Int)) = true := by simp; omega
                    have HC : Hid (mhC (dsOf ks) L (NS : Int) = 12) := by show _ = _; rw [HRest2.out, if_pos (oddK_yes (i := p) (k := k) (by rw [HN.out]; exact hpn) (by rw [HNn.out]; exact hkn2) (by rw [HMm.out]; exact hmk))]
                    clear hmk
                    go_wp2_with fail
                    refine bodyPost_ret (v := .tuple #[.slice (some ⟨w.heap.size, 0, none⟩) 0 0, .int .i64 12]) (by simp [results, Try.results6, go_sem]) rfl ?_
                    exact MhAns.bad (Below.refl _ _) HC.out (by decide)
                · have hkz : ¬ (k : Int) < (n : Int) := by omega
                  have HNx : Hid (∀ j, j < p + 1 → ∀ k, k < (L.getD j []).length → ((L.getD j []).getD k fd0).2.2.length = kn) := fun j hj q hq => by
                    by_cases e : j = p
                    · subst e; exact HNo2.out q (by rw [HNn.out] at hq; omega)
                    · exact HNo.out j (by omega) q hq
                  go_wp2_with fail
                  go_roundw
                  case rel => exact ⟨p + 1, by omega, by go_num, HNx.out, by first | trivial | rfl⟩
                  case measure => simp [intOf]; omega
            · have hpz : ¬ (p : Int) < (N : Int) := by omega
              have HKy : Hid (∀ j, j < L.length → ∀ k, k < (L.getD j []).length → ((L.getD j []).getD k fd0).2.2.length = kn) := fun j hj => HNo.out j (by rw [HN.out] at hj; omega)
              have HRest3 : Hid (mhC (dsOf ks) L (NS : Int) = if (L.any (badS (dsOf ks))) = true then 17 else 0) := by show _ = _; rw [HRest2.out, if_neg (by rw [oddK_all HKy.out]; simp)]
              clear HNo HRest2
              go_wp2_with fail
              go_loopw [11] (fun iv wx => ∃ i : Nat, i ≤ N ∧ iv = .int .i64 (i : Int) ∧ (∀ j, j < i → badS (dsOf ks) (L.getD j []) = false) ∧ Below w.heap.size w wx) (fun iv _ => N - (intOf iv).toNat)
              case atStart => exact ⟨0, by omega, rfl, fun j hj => absurd hj (by omega), Below.refl _ _⟩
              case round =>
                obtain ⟨p, hp, rfl, hno, hbx⟩ := hrel
                have HNo := hidd hno
                have HB := hidd hbx
                clear hno hbx
                by_cases hpn : p < N
                · have hpz : (p : Int) < (N : Int) := by omega
                  obtain ⟨n, hn⟩ : ∃ n, (L.getD p []).length = n := ⟨_, rfl⟩
                  have HNn := hidd hn
                  have hn4 : n ≤ 4096 := by rw [← hn]; exact HLen.out p (by rw [HN.out]; exact hpn)
                  clear hn
                  go_wp2_with fail
                  go_loopw [12] (fun kv wx => ∃ k : Nat, 1 ≤ k ∧ k ≤ n + 1 ∧ kv = .int .i64 (k : Int) ∧ (∀ j, j + 1 < k → j + 1 < n → ¬ fcM (dsOf ks) ((L.getD p []).getD (j + 1) fd0) ((L.getD p []).getD j fd0) < 0) ∧ Below w.heap.size w wx) (fun kv _ => n + 1 - (intOf kv).toNat)
                  case atStart => exact ⟨1, by omega, by omega, rfl, fun j hj => absurd hj (by omega), HB.out⟩
                  case round =>
                    obtain ⟨k, hk1, hk, rfl, hno2, hbx⟩ := hrel
                    have HNo2 := hidd hno2
                    have HBx := hidd hbx
                    clear hno2 hbx
                    by_cases hkn2 : k < n
                    · have hkz : (k : Int) < (n : Int) := by omega
                      obtain ⟨i, hik⟩ : ∃ i, i + 1 = k := ⟨k - 1, by omega⟩
                      have hin2 : i < n := by omega
                      obtain ⟨b, off, rb, ro, rc, sb, so, sc2, p0, p1, ka, p2, kc, q0, q1, ja, q2, jc, rfl, htw⟩ := two_at (HL.out.below HBx.out) (HS.out.below HBx.out) (by rw [HKn.out]; omega) (by rw [HKn.out]; exact HKy.out) (p := p) (k := k) (q := p) (i := i) (by rw [HN.out]; exact hpn) (by rw [HNn.out]; exact hkn2) (by rw [HN.out]; exact hpn) (by rw [HNn.out]; exact hin2)
                      obtain ⟨c, hce⟩ : ∃ c, fcM (dsOf ks) ((L.getD p []).getD k fd0) ((L.getD p []).getD i fd0) = c := ⟨_, rfl⟩
                      rw [HNn.out, HKn.out, hce] at htw
                      have HTw := hidd htw
                      have HYes : Hid (c < 0 → mhC (dsOf ks) L (NS : Int) = 17) := fun h => by
                        rw [HRest3.out, if_pos (any_getD (i := p) (by rw [HN.out]; exact hpn) (badS_yes (j := i) (by rw [HNn.out]; omega) (by rw [hik, hce]; exact h)))]
                      have HNx : Hid (¬ c < 0 → ∀ j, j + 1 < k + 1 → j + 1 < n → ¬ fcM (dsOf ks) ((L.getD p []).getD (j + 1) fd0) ((L.getD p []).getD j fd0) < 0) := fun h j h1 h2 => by
                        by_cases e : j = i
                        · subst e; rw [hik, hce]; exact h
                        · exact HNo2.out j (by omega) h2
                      have hwi : IntKind.i64.wrap ((k : Int) - 1) = (i : Int) := by rw [IntKind.wrap_i64]; omega
                      have hcell := htw.l1
                      clear htw hce HNo2 hik
                      go_wp2_with fail
                      refine wp_region_held_drew (S := fun W => TwoAt W sa kn b off p n rb ro rc k p n sb so sc2 i p0 p1 ka p2 kc q0 q1 ja q2 jc (decide (c < 0))) (by kernel_rfl) (HTw.out.keep (Below.refl _ _).drew) (fun hHeld => ?_)
                      refine tkX 0 (h := ?_)
                      try simp only [Act.put, List.getElem_toArray, List.getElem_cons_succ, List.getElem_cons_zero, List.setIfInBounds_toArray, List.set_cons_zero, List.set_cons_succ]
                      refine tkX 1 (h := ?_)
                      try simp only [Act.put, List.getElem_toArray, List.getElem_cons_succ, List.getElem_cons_zero, List.setIfInBounds_toArray, List.set_cons_zero, List.set_cons_succ]
                      refine tkX 2 (h := ?_)
                      try simp only [Act.put, List.getElem_toArray, List.getElem_cons_succ, List.getElem_cons_zero, List.setIfInBounds_toArray, List.set_cons_zero, List.set_cons_succ]
                      refine tkW 3 (v := .pointer (some ⟨b, off + p, none⟩)) (hx := fun W hW => exec_ixSS W _ _ _ _ rfl b off N lc p (by kernel_rfl) (by kernel_rfl) hpn) (h := ?_)
                      try simp only [Act.put, List.getElem_toArray, List.getElem_cons_succ, List.getElem_cons_zero, List.setIfInBounds_toArray, List.set_cons_zero, List.set_cons_succ]
                      refine tkW 4 (v := .slice (some ⟨rb, ro, none⟩) n rc) (hx := fun W hW => exec_loadSo W _ _ _ rfl b (off + p) _ _ _ (by kernel_rfl) hW.l1) (h := ?_)
                      try simp only [Act.put, List.getElem_toArray, List.getElem_cons_succ, List.getElem_cons_zero, List.setIfInBounds_toArray, List.set_cons_zero, List.set_cons_succ]
                      refine tkX 5 (h := ?_)
                      try simp only [Act.put, List.getElem_toArray, List.getElem_cons_succ, List.getElem_cons_zero, List.setIfInBounds_toArray, List.set_cons_zero, List.set_cons_succ]
                      refine tkW 6 (v := .pointer (some ⟨rb, ro + k * 3, none⟩)) (hx := fun W hW => exec_ixS W _ _ _ _ rfl rb ro n rc k (by kernel_rfl) (by kernel_rfl) hkn2) (h := ?_)
                      try simp only [Act.put, List.getElem_toArray, List.getElem_cons_succ, List.getElem_cons_zero, List.setIfInBounds_toArray, List.set_cons_zero, List.set_cons_succ]
                      refine tkW 7 (v := .agg #[.string p0, .int .i64 p1, .slice ka p2 kc]) (hx := fun W hW => exec_loadFo W _ _ _ rfl rb (ro + k * 3) p0 p1 ka p2 kc (by kernel_rfl) hW.x0 hW.x1 hW.x2) (h := ?_)
                      try simp only [Act.put, List.getElem_toArray, List.getElem_cons_succ, List.getElem_cons_zero, List.setIfInBounds_toArray, List.set_cons_zero, List.set_cons_succ]
                      refine tkX 8 (h := ?_)
                      try simp only [Act.put, List.getElem_toArray, List.getElem_cons_succ, List.getElem_cons_zero, List.setIfInBounds_toArray, List.set_cons_zero, List.set_cons_succ]
                      refine tkX 9 (h := ?_)
                      try simp only [Act.put, List.getElem_toArray, List.getElem_cons_succ, List.getElem_cons_zero, List.setIfInBounds_toArray, List.set_cons_zero, List.set_cons_succ]
                      refine tkW 10 (v := .pointer (some ⟨b, off + p, none⟩)) (hx := fun W hW => exec_ixSS W _ _ _ _ rfl b off N lc p (by kernel_rfl) (by kernel_rfl) hpn) (h := ?_)
                      try simp only [Act.put, List.getElem_toArray, List.getElem_cons_succ, List.getElem_cons_zero, List.setIfInBounds_toArray, List.set_cons_zero, List.set_cons_succ]
                      refine tkW 11 (v := .slice (some ⟨sb, so, none⟩) n sc2) (hx := fun W hW => exec_loadSo W _ _ _ rfl b (off + p) _ _ _ (by kernel_rfl) hW.l2) (h := ?_)
                      try simp only [Act.put, List.getElem_toArray, List.getElem_cons_succ, List.getElem_cons_zero, List.setIfInBounds_toArray, List.set_cons_zero, List.set_cons_succ]
                      refine tkX 12 (h := ?_)
                      try simp only [Act.put, List.getElem_toArray, List.getElem_cons_succ, List.getElem_cons_zero, List.setIfInBounds_toArray, List.set_cons_zero, List.set_cons_succ]
                      refine tkW 13 (v := .int .i64 (i : Int)) (hx := fun W hW => exec_subO W _ _ _ _ rfl (k : Int) 1 (i : Int) (by kernel_rfl) (by kernel_rfl) hwi) (h := ?_)
                      try simp only [Act.put, List.getElem_toArray, List.getElem_cons_succ, List.getElem_cons_zero, List.setIfInBounds_toArray, List.set_cons_zero, List.set_cons_succ]
                      refine tkW 14 (v := .pointer (some ⟨sb, so + i * 3, none⟩)) (hx := fun W hW => exec_ixS W _ _ _ _ rfl sb so n sc2 i (by kernel_rfl) (by kernel_rfl) hin2) (h := ?_)
                      try simp only [Act.put, List.getElem_toArray, List.getElem_cons_succ, List.getElem_cons_zero, List.setIfInBounds_toArray, List.set_cons_zero, List.set_cons_succ]
                      refine tkW 15 (v := .agg #[.string q0, .int .i64 q1, .slice ja q2 jc]) (hx := fun W hW => exec_loadFo W _ _ _ rfl sb (so + i * 3) q0 q1 ja q2 jc (by kernel_rfl) hW.y0 hW.y1 hW.y2) (h := ?_)
                      try simp only [Act.put, List.getElem_toArray, List.getElem_cons_succ, List.getElem_cons_zero, List.setIfInBounds_toArray, List.set_cons_zero, List.set_cons_succ]
                      clear hHeld
                      refine wpAnyH_one 16 (by kernel_rfl) ?_
                      refine wpOp_call 19 #[.slice sa kn sc, .agg #[.string p0, .int .i64 p1, .slice ka p2 kc], .agg #[.string q0, .int .i64 q1, .slice ja q2 jc]] rfl (by kernel_rfl) (rbx_call3 _ _ _ _ _ _ _ _ _ _ rfl _ _ _ (by kernel_rfl) (by kernel_rfl) (by kernel_rfl) (Try.call19 _ _)) ?_
                      refine (HTw.out.call sc _ (Below.refl _ _).drew).mono ?_
                      rintro e w' ⟨rfl, hb0⟩
                      have hb : Below wr.heap.size wr w' := (Below.refl _ _).drew.trans hb0
                      refine ⟨HTw.out.keep hb, ?_⟩
                      try simp only [Act.put, List.getElem_toArray, List.getElem_cons_succ, List.getElem_cons_zero, List.setIfInBounds_toArray, List.set_cons_zero, List.set_cons_succ]
                      refine wpAnyH_done (by kernel_rfl) ?_ _
                      clear hb0
                      have HB2 : Hid (Below w.heap.size w w') := by first | exact HBx.out.trans (hb.mono HBx.out.size) | exact (HBx.out.drew).trans (hb.mono HBx.out.size)
                      clear hb hcell hwi HTw
                      by_cases hc0 : c < 0
                      · have HC : Hid (mhC (dsOf ks) L (NS : Int) = 17) := HYes.out hc0
                        have hcb : decide (c < 0) = true := by simp [hc0]
                        go_wp2_with fail
                        refine bodyPost_ret (v := .tuple #[.slice (some ⟨w'.heap.size, 0, none⟩) 0 0, .int .i64 17]) (by simp [results, Try.results6, go_sem]) rfl ?_
                        exact MhAns.bad HB2.out HC.out (by decide)
                      · have HNy := hidd (HNx.out (by omega))
                        have hcb : decide (c < 0) = false := by simp; omega
                        go_wp2_with fail
                        go_roundw
                        case rel => exact ⟨k + 1, by omega, by omega, by go_num, (fun j h1 h2 => by have := HNy.out j h1 h2; omega), HB2.out⟩
                        case measure => simp [intOf]; omega
                    · have hkz : ¬ (k : Int) < (n : Int) := by omega
                      obtain ⟨b, off, rfl, hbl, ra, rc, hcell, hrc, hfd⟩ := (HL.out.below HBx.out).at (i := p) (by rw [HN.out]; exact hpn)
                      rw [HNn.out] at hcell
                      clear hrc hfd
                      have HNx : Hid (∀ j, j < p + 1 → badS (dsOf ks) (L.getD j []) = false) := fun j hj => by
                        by_cases e : j = p
                        · subst e; exact badS_no fun q hq => HNo2.out q (by rw [HNn.out] at hq; omega) (by rw [HNn.out] at hq; exact hq)
                        · exact HNo.out j (by omega)
                      go_wp2_with fail
                      go_roundw
                      case rel => exact ⟨p + 1, by omega, by go_num, HNx.out, HBx.out⟩
                      case measure => simp [intOf]; omega
                · have hpz : ¬ (p : Int) < (N : Int) := by omega
                  have HC : Hid (mhC (dsOf ks) L (NS : Int) = 0) := by show _ = _; rw [HRest3.out, if_neg (by rw [any_getD_no fun j hj => HNo.out j (by rw [HN.out] at hj; omega)]; simp)]
                  clear HNo HRest3
                  have HLL : Hid (mhL (dsOf ks) L (NS : Int) = mrgM (dsOf ks) NS L) := by show _ = _; rw [mhL, if_pos HC.out]; simp
                  have hmk := run_makeM N (by omega)
                  have hb1 : Below wr.heap.size wr (wr.alloc (.cells #[] 47)) := (Below.refl _ _).alloc (Nat.le_refl _) _
                  have hs1 : (wr.alloc (.cells #[] 47)).heap.size = wr.heap.size + 1 := by simp
                  have HSp0 : Hid (SpI w NS (dsOf ks) L (wr.heap.size + 1) N [] (List.replicate N 0) (.slice (some ⟨wr.heap.size, 0, none⟩) 0 0) ((wr.alloc (.cells #[] 47)).alloc (.cells ((List.replicate N 0).map mkI).toArray 3))) := by
                    have hbw := HB.out
                    have hb2 := hb1.alloc hb1.size (.cells ((List.replicate N 0).map mkI).toArray 3)
                    refine ⟨hbw.trans (hb2.mono hbw.size), ⟨[], ⟨⟨rfl, Or.inr ⟨wr.heap.size, 0, #[], rfl, hbw.size, ?_, Nat.le_refl _, by unfold maxLen; omega, rfl, rfl⟩⟩, fun b hb => ?_, fun j hj => absurd hj (by simp), fun j b hj _ => absurd hj (by simp), fun i j b _ hj _ => absurd hj (by simp)⟩, fun j b hj _ => absurd hj (by simp)⟩, ?_, by simp, ?_, Nat.zero_le _⟩
                    · rw [Below.heap_alloc _ _ _ (by rw [hs1]; omega)]
                      exact heap_alloc_new wr _
                    · have : wr.heap.size = b := Option.some.inj hb
                      simp; omega
                    · have h5 := makeM_own (wr.alloc (.cells #[] 47)) N w.heap.size (by omega) (by rw [hs1]; have := hbw.size; omega)
                      rw [hs1] at h5
                      have e5 : atC (List.replicate N 0) = (List.replicate N 0).map mkI := by simp [atC]
                      rw [e5]
                      exact h5
                    · have e6 : remM L (List.replicate N 0) = L := by rw [← HN.out]; exact remM_zero L
                      rw [e6]
                      simp
                  obtain ⟨ga, hga⟩ : ∃ g, wr.heap.size + 1 = g := ⟨_, rfl⟩
                  rw [hga] at HSp0
                  have HGa := hidd hga
                  clear hb1
                  go_wp2_with fail
                  go_loopw [13] (fun ov wx => ∃ out ats, SpI w NS (dsOf ks) L ga N out ats ov wx) (fun ov _ => NS - slLen ov)
                  case atStart => exact ⟨[], List.replicate N 0, by have h9 := HSp0.out; simpa using h9⟩
                  case round =>
                    obtain ⟨out, ats, hSp⟩ := hrel
                    obtain ⟨xs, hA, hgx⟩ := hSp.ans
                    obtain ⟨oa, on, oc, rfl⟩ : ∃ a n c, u13 = .slice a n c := by
                      rcases hA.row.2 with ⟨h1, h2⟩ | ⟨g, cap, cur, h1, _⟩
                      · exact ⟨none, 0, 0, h1⟩
                      · exact ⟨_, _, _, h1⟩
                    have hon : on = out.length := hA.hold.1
                    have HOn := hidd hon
                    have HSp := hidd hSp
                    have hle : on ≤ NS := by rw [hon]; exact hSp.le
                    clear hSp hA hgx hon HSp0 hmk HB
                    by_cases hfull : on < NS
                    · have hfz : (on : Int) < (NS : Int) := by omega
                      go_wp2_with fail
                      go_loopw [15, 16] (fun bv iv wx => ∃ i : Nat, i ≤ N ∧ iv = .int .i64 (i : Int) ∧ ((bv = .int .i64 (-1) ∧ ∀ j, j < i → (remM L ats).getD j [] = []) ∨ ∃ b : Nat, bv = .int .i64 (b : Int) ∧ BestM (dsOf ks) (remM L ats) i b) ∧ SpI w NS (dsOf ks) L ga N out ats (.slice oa on oc) wx) (fun _ iv _ => N - (intOf iv).toNat)
                      case atStart => exact ⟨0, by omega, rfl, Or.inl ⟨rfl, fun j hj => absurd hj (by omega)⟩, HSp.out⟩
                      case round =>
                        obtain ⟨i, hi, rfl, hbest, hSx⟩ := hrel
                        have HSx := hidd hSx
                        have HBs := hidd hbest
                        clear hSx hbest HSp
                        by_cases hiN : i < N
                        · have hiz : (i : Int) < (N : Int) := by omega
                          have hiL : i < L.length := by rw [HN.out]; exact hiN
                          have HIL := hidd hiL
                          clear hiL
                          obtain ⟨A, hAe⟩ : ∃ A, ats.getD i 0 = A := ⟨_, rfl⟩
                          have cA := HSx.out.cell hiN
                          rw [hAe] at cA
                          have HAe := hidd hAe
                          clear hAe
                          obtain ⟨n1, hn1⟩ : ∃ n, (L.getD i []).length = n := ⟨_, rfl⟩
                          have HN1 := hidd hn1
                          clear hn1
                          by_cases hAn : A < n1
                          · have hAb : decide ((A : Int) < (n1 : Int)) = true := by simp; exact hAn
                            have HHit := hidd (remM_hit (ats := ats) HIL.out (by rw [HAe.out, HN1.out]; exact hAn))
                            rcases HBs.out with ⟨rfl, hnone⟩ | ⟨b, rfl, hbst⟩
                            · have HBn : Hid (BestM (dsOf ks) (remM L ats) (i + 1) i) := BestM.first hnone HHit.out.2
                              obtain ⟨b0, o0, rfl, hbl, ra0, rc, hcell, hrc, hfd⟩ := (HL.out.below HSx.out.bel).at HIL.out
                              rw [HN1.out] at hcell
                              clear hnone HBs hrc hfd hbl
                              go_wp2_with fail
                              refine wp_region_held_drew (S := fun W => W.cell? ⟨ga, i, none⟩ = some (.int .i64 (A : Int)) ∧ W.cell? ⟨b0, o0 + i, none⟩ = some (.slice ra0 n1 rc)) (by kernel_rfl) ⟨cA, hcell⟩ (fun hHeld => ?_)
                              refine tkX 0 (h := ?_)
                              try simp only [Act.put, List.getElem_toArray, List.getElem_cons_succ, List.getElem_cons_zero, List.setIfInBounds_toArray, List.set_cons_zero, List.set_cons_succ]
                              refine tkX 1 (h := ?_)
                              try simp only [Act.put, List.getElem_toArray, List.getElem_cons_succ, List.getElem_cons_zero, List.setIfInBounds_toArray, List.set_cons_zero, List.set_cons_succ]
                              refine tkW 2 (v := .pointer (some ⟨ga, i, none⟩)) (hx := fun W hW => exec_ixI0 W _ _ _ _ rfl ga N N i (by kernel_rfl) (by kernel_rfl) hiN) (h := ?_)
                              try simp only [Act.put, List.getElem_toArray, List.getElem_cons_succ, List.getElem_cons_zero, List.setIfInBounds_toArray, List.set_cons_zero, List.set_cons_succ]
                              refine tkW 3 (v := .int .i64 (A : Int)) (hx := fun W hW => exec_loadIo W _ _ _ rfl ga i (A : Int) (by kernel_rfl) hW.1) (h := ?_)
                              try simp only [Act.put, List.getElem_toArray, List.getElem_cons_succ, List.getElem_cons_zero, List.setIfInBounds_toArray, List.set_cons_zero, List.set_cons_succ]
                              refine tkX 4 (h := ?_)
                              try simp only [Act.put, List.getElem_toArray, List.getElem_cons_succ, List.getElem_cons_zero, List.setIfInBounds_toArray, List.set_cons_zero, List.set_cons_succ]
                              refine tkX 5 (h := ?_)
                              try simp only [Act.put, List.getElem_toArray, List.getElem_cons_succ, List.getElem_cons_zero, List.setIfInBounds_toArray, List.set_cons_zero, List.set_cons_succ]
                              refine tkW 6 (v := .pointer (some ⟨b0, o0 + i, none⟩)) (hx := fun W hW => exec_ixSS W _ _ _ _ rfl b0 o0 N lc i (by kernel_rfl) (by kernel_rfl) hiN) (h := ?_)
                              try simp only [Act.put, List.getElem_toArray, List.getElem_cons_succ, List.getElem_cons_zero, List.setIfInBounds_toArray, List.set_cons_zero, List.set_cons_succ]
                              refine tkW 7 (v := .slice ra0 n1 rc) (hx := fun W hW => exec_loadSo W _ _ _ rfl b0 (o0 + i) ra0 n1 rc (by kernel_rfl) hW.2) (h := ?_)
                              try simp only [Act.put, List.getElem_toArray, List.getElem_cons_succ, List.getElem_cons_zero, List.setIfInBounds_toArray, List.set_cons_zero, List.set_cons_succ]
                              refine tkW 8 (v := .int .i64 (n1 : Int)) (hx := fun W hW => exec_lenS W _ _ _ rfl ra0 n1 rc (by kernel_rfl)) (h := ?_)
                              try simp only [Act.put, List.getElem_toArray, List.getElem_cons_succ, List.getElem_cons_zero, List.setIfInBounds_toArray, List.set_cons_zero, List.set_cons_succ]
                              refine tkW 9 (v := .bool true) (hx := fun W hW => exec_lssO W _ _ _ _ rfl (A : Int) (n1 : Int) _ (by kernel_rfl) (by kernel_rfl) hAb) (h := ?_)
                              try simp only [Act.put, List.getElem_toArray, List.getElem_cons_succ, List.getElem_cons_zero, List.setIfInBounds_toArray, List.set_cons_zero, List.set_cons_succ]
                              refine tkX 10 (h := ?_)
                              try simp only [Act.put, List.getElem_toArray, List.getElem_cons_succ, List.getElem_cons_zero, List.setIfInBounds_toArray, List.set_cons_zero, List.set_cons_succ]
                              refine tkX 11 (h := ?_)
                              try simp only [Act.put, List.getElem_toArray, List.getElem_cons_succ, List.getElem_cons_zero, List.setIfInBounds_toArray, List.set_cons_zero, List.set_cons_succ]
                              refine tkW 12 (v := .bool true) (hx := fun W hW => exec_lssO W _ _ _ _ rfl (-1) 0 _ (by kernel_rfl) (by kernel_rfl) (by decide)) (h := ?_)
                              try simp only [Act.put, List.getElem_toArray, List.getElem_cons_succ, List.getElem_cons_zero, List.setIfInBounds_toArray, List.set_cons_zero, List.set_cons_succ]
                              refine tkX 13 (h := ?_)
                              try simp only [Act.put, List.getElem_toArray, List.getElem_cons_succ, List.getElem_cons_zero, List.setIfInBounds_toArray, List.set_cons_zero, List.set_cons_succ]
                              refine tkS 14 (h := ?_)
                              try simp only [Act.put, List.getElem_toArray, List.getElem_cons_succ, List.getElem_cons_zero, List.setIfInBounds_toArray, List.set_cons_zero, List.set_cons_succ]
                              refine tkS 15 (h := ?_)
                              try simp only [Act.put, List.getElem_toArray, List.getElem_cons_succ, List.getElem_cons_zero, List.setIfInBounds_toArray, List.set_cons_zero, List.set_cons_succ]
                              refine tkS 16 (h := ?_)
                              try simp only [Act.put, List.getElem_toArray, List.getElem_cons_succ, List.getElem_cons_zero, List.setIfInBounds_toArray, List.set_cons_zero, List.set_cons_succ]
                              refine tkS 17 (h := ?_)
                              try simp only [Act.put, List.getElem_toArray, List.getElem_cons_succ, List.getElem_cons_zero, List.setIfInBounds_toArray, List.set_cons_zero, List.set_cons_succ]
                              refine tkS 18 (h := ?_)
                              try simp only [Act.put, List.getElem_toArray, List.getElem_cons_succ, List.getElem_cons_zero, List.setIfInBounds_toArray, List.set_cons_zero, List.set_cons_succ]
                              refine tkS 19 (h := ?_)
                              try simp only [Act.put, List.getElem_toArray, List.getElem_cons_succ, List.getElem_cons_zero, List.setIfInBounds_toArray, List.set_cons_zero, List.set_cons_succ]
                              refine tkS 20 (h := ?_)
                              try simp only [Act.put, List.getElem_toArray, List.getElem_cons_succ, List.getElem_cons_zero, List.setIfInBounds_toArray, List.set_cons_zero, List.set_cons_succ]
                              refine tkS 21 (h := ?_)
                              try simp only [Act.put, List.getElem_toArray, List.getElem_cons_succ, List.getElem_cons_zero, List.setIfInBounds_toArray, List.set_cons_zero, List.set_cons_succ]
                              refine tkS 22 (h := ?_)
                              try simp only [Act.put, List.getElem_toArray, List.getElem_cons_succ, List.getElem_cons_zero, List.setIfInBounds_toArray, List.set_cons_zero, List.set_cons_succ]
                              refine tkS 23 (h := ?_)
                              try simp only [Act.put, List.getElem_toArray, List.getElem_cons_succ, List.getElem_cons_zero, List.setIfInBounds_toArray, List.set_cons_zero, List.set_cons_succ]
                              refine tkS 24 (h := ?_)
                              try simp only [Act.put, List.getElem_toArray, List.getElem_cons_succ, List.getElem_cons_zero, List.setIfInBounds_toArray, List.set_cons_zero, List.set_cons_succ]
                              refine tkS 25 (h := ?_)
                              try simp only [Act.put, List.getElem_toArray, List.getElem_cons_succ, List.getElem_cons_zero, List.setIfInBounds_toArray, List.set_cons_zero, List.set_cons_succ]
                              refine tkS 26 (h := ?_)
                              try simp only [Act.put, List.getElem_toArray, List.getElem_cons_succ, List.getElem_cons_zero, List.setIfInBounds_toArray, List.set_cons_zero, List.set_cons_succ]
                              refine tkS 27 (h := ?_)
                              try simp only [Act.put, List.getElem_toArray, List.getElem_cons_succ, List.getElem_cons_zero, List.setIfInBounds_toArray, List.set_cons_zero, List.set_cons_succ]
                              refine tkS 28 (h := ?_)
                              try simp only [Act.put, List.getElem_toArray, List.getElem_cons_succ, List.getElem_cons_zero, List.setIfInBounds_toArray, List.set_cons_zero, List.set_cons_succ]
                              refine tkS 29 (h := ?_)
                              try simp only [Act.put, List.getElem_toArray, List.getElem_cons_succ, List.getElem_cons_zero, List.setIfInBounds_toArray, List.set_cons_zero, List.set_cons_succ]
                              refine tkS 30 (h := ?_)
                              try simp only [Act.put, List.getElem_toArray, List.getElem_cons_succ, List.getElem_cons_zero, List.setIfInBounds_toArray, List.set_cons_zero, List.set_cons_succ]
                              refine tkS 31 (h := ?_)
                              try simp only [Act.put, List.getElem_toArray, List.getElem_cons_succ, List.getElem_cons_zero, List.setIfInBounds_toArray, List.set_cons_zero, List.set_cons_succ]
                              refine tkS 32 (h := ?_)
                              try simp only [Act.put, List.getElem_toArray, List.getElem_cons_succ, List.getElem_cons_zero, List.setIfInBounds_toArray, List.set_cons_zero, List.set_cons_succ]
                              refine tkS 33 (h := ?_)
                              try simp only [Act.put, List.getElem_toArray, List.getElem_cons_succ, List.getElem_cons_zero, List.setIfInBounds_toArray, List.set_cons_zero, List.set_cons_succ]
                              refine tkS 34 (h := ?_)
                              try simp only [Act.put, List.getElem_toArray, List.getElem_cons_succ, List.getElem_cons_zero, List.setIfInBounds_toArray, List.set_cons_zero, List.set_cons_succ]
                              refine tkS 35 (h := ?_)
                              try simp only [Act.put, List.getElem_toArray, List.getElem_cons_succ, List.getElem_cons_zero, List.setIfInBounds_toArray, List.set_cons_zero, List.set_cons_succ]
                              refine tkX 36 (h := ?_)
                              try simp only [Act.put, List.getElem_toArray, List.getElem_cons_succ, List.getElem_cons_zero, List.setIfInBounds_toArray, List.set_cons_zero, List.set_cons_succ]
                              refine tkX 37 (h := ?_)
                              try simp only [Act.put, List.getElem_toArray, List.getElem_cons_succ, List.getElem_cons_zero, List.setIfInBounds_toArray, List.set_cons_zero, List.set_cons_succ]
                              clear hHeld
                              refine wpAnyH_done (by kernel_rfl) ?_ _
                              have HS3 := hidd (HSx.out.below (Below.refl _ _).drew)
                              clear cA hcell
                              go_wp2_with fail
                              go_roundw
                              case rel => exact ⟨i + 1, by omega, by go_num, Or.inr ⟨i, rfl, HBn.out⟩, HS3.out⟩
                              case measure => simp [intOf]; omega
                            · have hbN : b < N := by have := hbst.1; omega
                              have hbL : b < L.length := by rw [HN.out]; exact hbN
                              obtain ⟨B, hBe⟩ : ∃ B, ats.getD b 0 = B := ⟨_, rfl⟩
                              have cB := HSx.out.cell hbN
                              rw [hBe] at cB
                              obtain ⟨n2, hn2⟩ : ∃ n, (L.getD b []).length = n := ⟨_, rfl⟩
                              have hBn : B < n2 := by
                                rcases Nat.lt_or_ge B n2 with h | h
                                · exact h
                                · exact absurd (remM_nil (ats := ats) hbL (by rw [hBe, hn2]; omega)) hbst.2.1
                              have hHb := remM_hit (ats := ats) hbL (by rw [hBe, hn2]; exact hBn)
                              obtain ⟨b0, o0, rb, ro, rc, sb, so, sc2, p0, p1, ka, p2, kc, q0, q1, ja, q2, jc, rfl, htw⟩ := two_at (HL.out.below HSx.out.bel) (HS.out.below HSx.out.bel) (by rw [HKn.out]; omega) (by rw [HKn.out]; exact HKy.out) (p := i) (k := A) (q := b) (i := B) HIL.out (by rw [HN1.out]; exact hAn) hbL (by rw [hn2]; exact hBn)
                              have hbb : decide ((b : Int) < 0) = false := by simp
                              obtain ⟨r, hre⟩ : ∃ r, decide (fcM (dsOf ks) ((L.getD i []).getD A fd0) ((L.getD b []).getD B fd0) < 0) = r := ⟨_, rfl⟩
                              rw [HN1.out, hn2, HKn.out, hre] at htw
                              have HTw := hidd htw
                              have HT : Hid (r = true → BestM (dsOf ks) (remM L ats) (i + 1) i) := fun h => hbst.take HHit.out.2 (by
                                rw [HHit.out.1, hHb.1, HAe.out, hBe]
                                rw [h] at hre
                                simpa using hre)
                              have HF : Hid (r = false → BestM (dsOf ks) (remM L ats) (i + 1) b) := fun h => hbst.skip fun _ => by
                                rw [HHit.out.1, hHb.1, HAe.out, hBe]
                                rw [h] at hre
                                simpa using hre
                              have HcB := hidd cB
                              clear hbst HBs hHb hre htw hBe hn2 hbL
                              go_wp2_with fail
                              refine wp_region_held_drew (S := fun W => W.cell? ⟨ga, i, none⟩ = some (.int .i64 (A : Int)) ∧ W.cell? ⟨ga, b, none⟩ = some (.int .i64 (B : Int)) ∧ TwoAt W sa kn b0 o0 i n1 rb ro rc A b n2 sb so sc2 B p0 p1 ka p2 kc q0 q1 ja q2 jc r) (by kernel_rfl) ⟨cA, HcB.out, HTw.out.keep (Below.refl _ _).drew⟩ (fun hHeld => ?_)
                              refine tkX 0 (h := ?_)
                              try simp only [Act.put, List.getElem_toArray, List.getElem_cons_succ, List.getElem_cons_zero, List.setIfInBounds_toArray, List.set_cons_zero, List.set_cons_succ]
                              refine tkX 1 (h := ?_)
                              try simp only [Act.put, List.getElem_toArray, List.getElem_cons_succ, List.getElem_cons_zero, List.setIfInBounds_toArray, List.set_cons_zero, List.set_cons_succ]
                              refine tkW 2 (v := .pointer (some ⟨ga, i, none⟩)) (hx := fun W hW => exec_ixI0 W _ _ _ _ rfl ga N N i (by kernel_rfl) (by kernel_rfl) hiN) (h := ?_)
                              try simp only [Act.put, List.getElem_toArray, List.getElem_cons_succ, List.getElem_cons_zero, List.setIfInBounds_toArray, List.set_cons_zero, List.set_cons_succ]
                              refine tkW 3 (v := .int .i64 (A : Int)) (hx := fun W hW => exec_loadIo W _ _ _ rfl ga i (A : Int) (by kernel_rfl) hW.1) (h := ?_)
                              try simp only [Act.put, List.getElem_toArray, List.getElem_cons_succ, List.getElem_cons_zero, List.setIfInBounds_toArray, List.set_cons_zero, List.set_cons_succ]
                              refine tkX 4 (h := ?_)
                              try simp only [Act.put, List.getElem_toArray, List.getElem_cons_succ, List.getElem_cons_zero, List.setIfInBounds_toArray, List.set_cons_zero, List.set_cons_succ]
                              refine tkX 5 (h := ?_)
                              try simp only [Act.put, List.getElem_toArray, List.getElem_cons_succ, List.getElem_cons_zero, List.setIfInBounds_toArray, List.set_cons_zero, List.set_cons_succ]
                              refine tkW 6 (v := .pointer (some ⟨b0, o0 + i, none⟩)) (hx := fun W hW => exec_ixSS W _ _ _ _ rfl b0 o0 N lc i (by kernel_rfl) (by kernel_rfl) hiN) (h := ?_)
                              try simp only [Act.put, List.getElem_toArray, List.getElem_cons_succ, List.getElem_cons_zero, List.setIfInBounds_toArray, List.set_cons_zero, List.set_cons_succ]
                              refine tkW 7 (v := .slice (some ⟨rb, ro, none⟩) n1 rc) (hx := fun W hW => exec_loadSo W _ _ _ rfl b0 (o0 + i) (some ⟨rb, ro, none⟩) n1 rc (by kernel_rfl) hW.2.2.l1) (h := ?_)
                              try simp only [Act.put, List.getElem_toArray, List.getElem_cons_succ, List.getElem_cons_zero, List.setIfInBounds_toArray, List.set_cons_zero, List.set_cons_succ]
                              refine tkW 8 (v := .int .i64 (n1 : Int)) (hx := fun W hW => exec_lenS W _ _ _ rfl (some ⟨rb, ro, none⟩) n1 rc (by kernel_rfl)) (h := ?_)
                              try simp only [Act.put, List.getElem_toArray, List.getElem_cons_succ, List.getElem_cons_zero, List.setIfInBounds_toArray, List.set_cons_zero, List.set_cons_succ]
                              refine tkW 9 (v := .bool true) (hx := fun W hW => exec_lssO W _ _ _ _ rfl (A : Int) (n1 : Int) _ (by kernel_rfl) (by kernel_rfl) hAb) (h := ?_)
                              try simp only [Act.put, List.getElem_toArray, List.getElem_cons_succ, List.getElem_cons_zero, List.setIfInBounds_toArray, List.set_cons_zero, List.set_cons_succ]
                              refine tkX 10 (h := ?_)
                              try simp only [Act.put, List.getElem_toArray, List.getElem_cons_succ, List.getElem_cons_zero, List.setIfInBounds_toArray, List.set_cons_zero, List.set_cons_succ]
                              refine tkX 11 (h := ?_)
                              try simp only [Act.put, List.getElem_toArray, List.getElem_cons_succ, List.getElem_cons_zero, List.setIfInBounds_toArray, List.set_cons_zero, List.set_cons_succ]
                              refine tkW 12 (v := .bool false) (hx := fun W hW => exec_lssO W _ _ _ _ rfl (b : Int) 0 _ (by kernel_rfl) (by kernel_rfl) hbb) (h := ?_)
                              try simp only [Act.put, List.getElem_toArray, List.getElem_cons_succ, List.getElem_cons_zero, List.setIfInBounds_toArray, List.set_cons_zero, List.set_cons_succ]
                              refine tkX 13 (h := ?_)
                              try simp only [Act.put, List.getElem_toArray, List.getElem_cons_succ, List.getElem_cons_zero, List.setIfInBounds_toArray, List.set_cons_zero, List.set_cons_succ]
                              refine tkX 14 (h := ?_)
                              try simp only [Act.put, List.getElem_toArray, List.getElem_cons_succ, List.getElem_cons_zero, List.setIfInBounds_toArray, List.set_cons_zero, List.set_cons_succ]
                              refine tkX 15 (h := ?_)
                              try simp only [Act.put, List.getElem_toArray, List.getElem_cons_succ, List.getElem_cons_zero, List.setIfInBounds_toArray, List.set_cons_zero, List.set_cons_succ]
                              refine tkX 16 (h := ?_)
                              try simp only [Act.put, List.getElem_toArray, List.getElem_cons_succ, List.getElem_cons_zero, List.setIfInBounds_toArray, List.set_cons_zero, List.set_cons_succ]
                              refine tkW 17 (v := .pointer (some ⟨b0, o0 + i, none⟩)) (hx := fun W hW => exec_ixSS W _ _ _ _ rfl b0 o0 N lc i (by kernel_rfl) (by kernel_rfl) hiN) (h := ?_)
                              try simp only [Act.put, List.getElem_toArray, List.getElem_cons_succ, List.getElem_cons_zero, List.setIfInBounds_toArray, List.set_cons_zero, List.set_cons_succ]
                              refine tkW 18 (v := .slice (some ⟨rb, ro, none⟩) n1 rc) (hx := fun W hW => exec_loadSo W _ _ _ rfl b0 (o0 + i) (some ⟨rb, ro, none⟩) n1 rc (by kernel_rfl) hW.2.2.l1) (h := ?_)
                              try simp only [Act.put, List.getElem_toArray, List.getElem_cons_succ, List.getElem_cons_zero, List.setIfInBounds_toArray, List.set_cons_zero, List.set_cons_succ]
                              refine tkX 19 (h := ?_)
                              try simp only [Act.put, List.getElem_toArray, List.getElem_cons_succ, List.getElem_cons_zero, List.setIfInBounds_toArray, List.set_cons_zero, List.set_cons_succ]
                              refine tkX 20 (h := ?_)
                              try simp only [Act.put, List.getElem_toArray, List.getElem_cons_succ, List.getElem_cons_zero, List.setIfInBounds_toArray, List.set_cons_zero, List.set_cons_succ]
                              refine tkW 21 (v := .pointer (some ⟨ga, i, none⟩)) (hx := fun W hW => exec_ixI0 W _ _ _ _ rfl ga N N i (by kernel_rfl) (by kernel_rfl) hiN) (h := ?_)
                              try simp only [Act.put, List.getElem_toArray, List.getElem_cons_succ, List.getElem_cons_zero, List.setIfInBounds_toArray, List.set_cons_zero, List.set_cons_succ]
                              refine tkW 22 (v := .int .i64 (A : Int)) (hx := fun W hW => exec_loadIo W _ _ _ rfl ga i (A : Int) (by kernel_rfl) hW.1) (h := ?_)
                              try simp only [Act.put, List.getElem_toArray, List.getElem_cons_succ, List.getElem_cons_zero, List.setIfInBounds_toArray, List.set_cons_zero, List.set_cons_succ]
                              refine tkW 23 (v := .pointer (some ⟨rb, ro + A * 3, none⟩)) (hx := fun W hW => exec_ixS W _ _ _ _ rfl rb ro n1 rc A (by kernel_rfl) (by kernel_rfl) hAn) (h := ?_)
                              try simp only [Act.put, List.getElem_toArray, List.getElem_cons_succ, List.getElem_cons_zero, List.setIfInBounds_toArray, List.set_cons_zero, List.set_cons_succ]
                              refine tkW 24 (v := .agg #[.string p0, .int .i64 p1, .slice ka p2 kc]) (hx := fun W hW => exec_loadFo W _ _ _ rfl rb (ro + A * 3) p0 p1 ka p2 kc (by kernel_rfl) hW.2.2.x0 hW.2.2.x1 hW.2.2.x2) (h := ?_)
                              try simp only [Act.put, List.getElem_toArray, List.getElem_cons_succ, List.getElem_cons_zero, List.setIfInBounds_toArray, List.set_cons_zero, List.set_cons_succ]
                              refine tkX 25 (h := ?_)
                              try simp only [Act.put, List.getElem_toArray, List.getElem_cons_succ, List.getElem_cons_zero, List.setIfInBounds_toArray, List.set_cons_zero, List.set_cons_succ]
                              refine tkX 26 (h := ?_)
                              try simp only [Act.put, List.getElem_toArray, List.getElem_cons_succ, List.getElem_cons_zero, List.setIfInBounds_toArray, List.set_cons_zero, List.set_cons_succ]
                              refine tkW 27 (v := .pointer (some ⟨b0, o0 + b, none⟩)) (hx := fun W hW => exec_ixSS W _ _ _ _ rfl b0 o0 N lc b (by kernel_rfl) (by kernel_rfl) hbN) (h := ?_)
                              try simp only [Act.put, List.getElem_toArray, List.getElem_cons_succ, List.getElem_cons_zero, List.setIfInBounds_toArray, List.set_cons_zero, List.set_cons_succ]
                              refine tkW 28 (v := .slice (some ⟨sb, so, none⟩) n2 sc2) (hx := fun W hW => exec_loadSo W _ _ _ rfl b0 (o0 + b) (some ⟨sb, so, none⟩) n2 sc2 (by kernel_rfl) hW.2.2.l2) (h := ?_)
                              try simp only [Act.put, List.getElem_toArray, List.getElem_cons_succ, List.getElem_cons_zero, List.setIfInBounds_toArray, List.set_cons_zero, List.set_cons_succ]
                              refine tkX 29 (h := ?_)
                              try simp only [Act.put, List.getElem_toArray, List.getElem_cons_succ, List.getElem_cons_zero, List.setIfInBounds_toArray, List.set_cons_zero, List.set_cons_succ]
                              refine tkX 30 (h := ?_)
                              try simp only [Act.put, List.getElem_toArray, List.getElem_cons_succ, List.getElem_cons_zero, List.setIfInBounds_toArray, List.set_cons_zero, List.set_cons_succ]
                              refine tkW 31 (v := .pointer (some ⟨ga, b, none⟩)) (hx := fun W hW => exec_ixI0 W _ _ _ _ rfl ga N N b (by kernel_rfl) (by kernel_rfl) hbN) (h := ?_)
                              try simp only [Act.put, List.getElem_toArray, List.getElem_cons_succ, List.getElem_cons_zero, List.setIfInBounds_toArray, List.set_cons_zero, List.set_cons_succ]
                              refine tkW 32 (v := .int .i64 (B : Int)) (hx := fun W hW => exec_loadIo W _ _ _ rfl ga b (B : Int) (by kernel_rfl) hW.2.1) (h := ?_)
                              try simp only [Act.put, List.getElem_toArray, List.getElem_cons_succ, List.getElem_cons_zero, List.setIfInBounds_toArray, List.set_cons_zero, List.set_cons_succ]
                              refine tkW 33 (v := .pointer (some ⟨sb, so + B * 3, none⟩)) (hx := fun W hW => exec_ixS W _ _ _ _ rfl sb so n2 sc2 B (by kernel_rfl) (by kernel_rfl) hBn) (h := ?_)
                              try simp only [Act.put, List.getElem_toArray, List.getElem_cons_succ, List.getElem_cons_zero, List.setIfInBounds_toArray, List.set_cons_zero, List.set_cons_succ]
                              refine tkW 34 (v := .agg #[.string q0, .int .i64 q1, .slice ja q2 jc]) (hx := fun W hW => exec_loadFo W _ _ _ rfl sb (so + B * 3) q0 q1 ja q2 jc (by kernel_rfl) hW.2.2.y0 hW.2.2.y1 hW.2.2.y2) (h := ?_)
                              try simp only [Act.put, List.getElem_toArray, List.getElem_cons_succ, List.getElem_cons_zero, List.setIfInBounds_toArray, List.set_cons_zero, List.set_cons_succ]
                              clear hHeld
                              refine wpAnyH_one 35 (by kernel_rfl) ?_
                              refine wpOp_call 19 #[.slice sa kn sc, .agg #[.string p0, .int .i64 p1, .slice ka p2 kc], .agg #[.string q0, .int .i64 q1, .slice ja q2 jc]] rfl (by kernel_rfl) (rbx_call3 _ _ _ _ _ _ _ _ _ _ rfl _ _ _ (by kernel_rfl) (by kernel_rfl) (by kernel_rfl) (Try.call19 _ _)) ?_
                              refine (HTw.out.call sc _ (Below.refl _ _).drew).mono ?_
                              rintro e w' ⟨rfl, hb0⟩
                              have hb : Below wr.heap.size wr w' := (Below.refl _ _).drew.trans hb0
                              have hS7 : w'.cell? ⟨ga, i, none⟩ = some (.int .i64 (A : Int)) ∧ w'.cell? ⟨ga, b, none⟩ = some (.int .i64 (B : Int)) ∧ TwoAt w' sa kn b0 o0 i n1 rb ro rc A b n2 sb so sc2 B p0 p1 ka p2 kc q0 q1 ja q2 jc r := ⟨(hb.cell (p := ⟨ga, i, none⟩) (cell_lt cA)).trans cA, (hb.cell (p := ⟨ga, b, none⟩) (cell_lt HcB.out)).trans HcB.out, HTw.out.keep hb⟩
                              refine ⟨hS7, ?_⟩
                              try simp only [Act.put, List.getElem_toArray, List.getElem_cons_succ, List.getElem_cons_zero, List.setIfInBounds_toArray, List.set_cons_zero, List.set_cons_succ]
                              refine tkX 36 (hS := hS7) (h := ?_)
                              try simp only [Act.put, List.getElem_toArray, List.getElem_cons_succ, List.getElem_cons_zero, List.setIfInBounds_toArray, List.set_cons_zero, List.set_cons_succ]
                              refine tkX 37 (hS := hS7) (h := ?_)
                              try simp only [Act.put, List.getElem_toArray, List.getElem_cons_succ, List.getElem_cons_zero, List.setIfInBounds_toArray, List.set_cons_zero, List.set_cons_succ]
                              refine wpAnyH_done (by kernel_rfl) ?_ _
                              have HS3 := hidd (HSx.out.below hb)
                              clear cA hb hb0 hS7 HTw
                              cases r with
                              | true =>
                                have HBn := hidd (HT.out rfl)
                                go_wp2_with fail
                                go_roundw
                                case rel => exact ⟨i + 1, by omega, by go_num, Or.inr ⟨i, rfl, HBn.out⟩, HS3.out⟩
                                case measure => simp [intOf]; omega
                              | false =>
                                have HBn := hidd (HF.out rfl)
                                go_wp2_with fail
                                go_roundw
                                case rel => exact ⟨i + 1, by omega, by go_num, Or.inr ⟨b, rfl, HBn.out⟩, HS3.out⟩
                                case measure => simp [intOf]; omega
                          · have hAb : decide ((A : Int) < (n1 : Int)) = false := by simp; omega
                            have hnil := remM_nil (ats := ats) HIL.out (by rw [HAe.out, HN1.out]; exact hAn)
                            have HBn : Hid ((u15 = .int .i64 (-1) ∧ ∀ j, j < i + 1 → (remM L ats).getD j [] = []) ∨ ∃ b : Nat, u15 = .int .i64 (b : Int) ∧ BestM (dsOf ks) (remM L ats) (i + 1) b) := by
                              rcases HBs.out with ⟨h1, h2⟩ | ⟨b, h1, h2⟩
                              · refine Or.inl ⟨h1, fun j hj => ?_⟩
                                by_cases e : j = i
                                · subst e; exact hnil
                                · exact h2 j (by omega)
                              · exact Or.inr ⟨b, h1, h2.skip fun h => absurd hnil h⟩
                            obtain ⟨zb, hzb⟩ : ∃ z, u15 = .int .i64 z := by
                              rcases HBs.out with ⟨h1, _⟩ | ⟨b, h1, _⟩
                              · exact ⟨_, h1⟩
                              · exact ⟨_, h1⟩
                            subst hzb
                            obtain ⟨b0, o0, rfl, hbl, ra0, rc, hcell, hrc, hfd⟩ := (HL.out.below HSx.out.bel).at HIL.out
                            rw [HN1.out] at hcell
                            clear hnil HBs hrc hfd hbl
                            go_wp2_with fail
                            refine wp_region_held_drew (S := fun W => W.cell? ⟨ga, i, none⟩ = some (.int .i64 (A : Int)) ∧ W.cell? ⟨b0, o0 + i, none⟩ = some (.slice ra0 n1 rc)) (by kernel_rfl) ⟨cA, hcell⟩ (fun hHeld => ?_)
                            refine tkX 0 (h := ?_)
                            try simp only [Act.put, List.getElem_toArray, List.getElem_cons_succ, List.getElem_cons_zero, List.setIfInBounds_toArray, List.set_cons_zero, List.set_cons_succ]
                            refine tkX 1 (h := ?_)
                            try simp only [Act.put, List.getElem_toArray, List.getElem_cons_succ, List.getElem_cons_zero, List.setIfInBounds_toArray, List.set_cons_zero, List.set_cons_succ]
                            refine tkW 2 (v := .pointer (some ⟨ga, i, none⟩)) (hx := fun W hW => exec_ixI0 W _ _ _ _ rfl ga N N i (by kernel_rfl) (by kernel_rfl) hiN) (h := ?_)
                            try simp only [Act.put, List.getElem_toArray, List.getElem_cons_succ, List.getElem_cons_zero, List.setIfInBounds_toArray, List.set_cons_zero, List.set_cons_succ]
                            refine tkW 3 (v := .int .i64 (A : Int)) (hx := fun W hW => exec_loadIo W _ _ _ rfl ga i (A : Int) (by kernel_rfl) hW.1) (h := ?_)
                            try simp only [Act.put, List.getElem_toArray, List.getElem_cons_succ, List.getElem_cons_zero, List.setIfInBounds_toArray, List.set_cons_zero, List.set_cons_succ]
                            refine tkX 4 (h := ?_)
                            try simp only [Act.put, List.getElem_toArray, List.getElem_cons_succ, List.getElem_cons_zero, List.setIfInBounds_toArray, List.set_cons_zero, List.set_cons_succ]
                            refine tkX 5 (h := ?_)
                            try simp only [Act.put, List.getElem_toArray, List.getElem_cons_succ, List.getElem_cons_zero, List.setIfInBounds_toArray, List.set_cons_zero, List.set_cons_succ]
                            refine tkW 6 (v := .pointer (some ⟨b0, o0 + i, none⟩)) (hx := fun W hW => exec_ixSS W _ _ _ _ rfl b0 o0 N lc i (by kernel_rfl) (by kernel_rfl) hiN) (h := ?_)
                            try simp only [Act.put, List.getElem_toArray, List.getElem_cons_succ, List.getElem_cons_zero, List.setIfInBounds_toArray, List.set_cons_zero, List.set_cons_succ]
                            refine tkW 7 (v := .slice ra0 n1 rc) (hx := fun W hW => exec_loadSo W _ _ _ rfl b0 (o0 + i) ra0 n1 rc (by kernel_rfl) hW.2) (h := ?_)
                            try simp only [Act.put, List.getElem_toArray, List.getElem_cons_succ, List.getElem_cons_zero, List.setIfInBounds_toArray, List.set_cons_zero, List.set_cons_succ]
                            refine tkW 8 (v := .int .i64 (n1 : Int)) (hx := fun W hW => exec_lenS W _ _ _ rfl ra0 n1 rc (by kernel_rfl)) (h := ?_)
                            try simp only [Act.put, List.getElem_toArray, List.getElem_cons_succ, List.getElem_cons_zero, List.setIfInBounds_toArray, List.set_cons_zero, List.set_cons_succ]
                            refine tkW 9 (v := .bool false) (hx := fun W hW => exec_lssO W _ _ _ _ rfl (A : Int) (n1 : Int) _ (by kernel_rfl) (by kernel_rfl) hAb) (h := ?_)
                            try simp only [Act.put, List.getElem_toArray, List.getElem_cons_succ, List.getElem_cons_zero, List.setIfInBounds_toArray, List.set_cons_zero, List.set_cons_succ]
                            refine tkX 10 (h := ?_)
                            try simp only [Act.put, List.getElem_toArray, List.getElem_cons_succ, List.getElem_cons_zero, List.setIfInBounds_toArray, List.set_cons_zero, List.set_cons_succ]
                            refine tkS 11 (h := ?_)
                            try simp only [Act.put, List.getElem_toArray, List.getElem_cons_succ, List.getElem_cons_zero, List.setIfInBounds_toArray, List.set_cons_zero, List.set_cons_succ]
                            refine tkS 12 (h := ?_)
                            try simp only [Act.put, List.getElem_toArray, List.getElem_cons_succ, List.getElem_cons_zero, List.setIfInBounds_toArray, List.set_cons_zero, List.set_cons_succ]
                            refine tkS 13 (h := ?_)
                            try simp only [Act.put, List.getElem_toArray, List.getElem_cons_succ, List.getElem_cons_zero, List.setIfInBounds_toArray, List.set_cons_zero, List.set_cons_succ]
                            refine tkS 14 (h := ?_)
                            try simp only [Act.put, List.getElem_toArray, List.getElem_cons_succ, List.getElem_cons_zero, List.setIfInBounds_toArray, List.set_cons_zero, List.set_cons_succ]
                            refine tkS 15 (h := ?_)
                            try simp only [Act.put, List.getElem_toArray, List.getElem_cons_succ, List.getElem_cons_zero, List.setIfInBounds_toArray, List.set_cons_zero, List.set_cons_succ]
                            refine tkS 16 (h := ?_)
                            try simp only [Act.put, List.getElem_toArray, List.getElem_cons_succ, List.getElem_cons_zero, List.setIfInBounds_toArray, List.set_cons_zero, List.set_cons_succ]
                            refine tkS 17 (h := ?_)
                            try simp only [Act.put, List.getElem_toArray, List.getElem_cons_succ, List.getElem_cons_zero, List.setIfInBounds_toArray, List.set_cons_zero, List.set_cons_succ]
                            refine tkS 18 (h := ?_)
                            try simp only [Act.put, List.getElem_toArray, List.getElem_cons_succ, List.getElem_cons_zero, List.setIfInBounds_toArray, List.set_cons_zero, List.set_cons_succ]
                            refine tkS 19 (h := ?_)
                            try simp only [Act.put, List.getElem_toArray, List.getElem_cons_succ, List.getElem_cons_zero, List.setIfInBounds_toArray, List.set_cons_zero, List.set_cons_succ]
                            refine tkS 20 (h := ?_)
                            try simp only [Act.put, List.getElem_toArray, List.getElem_cons_succ, List.getElem_cons_zero, List.setIfInBounds_toArray, List.set_cons_zero, List.set_cons_succ]
                            refine tkS 21 (h := ?_)
                            try simp only [Act.put, List.getElem_toArray, List.getElem_cons_succ, List.getElem_cons_zero, List.setIfInBounds_toArray, List.set_cons_zero, List.set_cons_succ]
                            refine tkS 22 (h := ?_)
                            try simp only [Act.put, List.getElem_toArray, List.getElem_cons_succ, List.getElem_cons_zero, List.setIfInBounds_toArray, List.set_cons_zero, List.set_cons_succ]
                            refine tkS 23 (h := ?_)
                            try simp only [Act.put, List.getElem_toArray, List.getElem_cons_succ, List.getElem_cons_zero, List.setIfInBounds_toArray, List.set_cons_zero, List.set_cons_succ]
                            refine tkS 24 (h := ?_)
                            try simp only [Act.put, List.getElem_toArray, List.getElem_cons_succ, List.getElem_cons_zero, List.setIfInBounds_toArray, List.set_cons_zero, List.set_cons_succ]
                            refine tkS 25 (h := ?_)
                            try simp only [Act.put, List.getElem_toArray, List.getElem_cons_succ, List.getElem_cons_zero, List.setIfInBounds_toArray, List.set_cons_zero, List.set_cons_succ]
                            refine tkS 26 (h := ?_)
                            try simp only [Act.put, List.getElem_toArray, List.getElem_cons_succ, List.getElem_cons_zero, List.setIfInBounds_toArray, List.set_cons_zero, List.set_cons_succ]
                            refine tkS 27 (h := ?_)
                            try simp only [Act.put, List.getElem_toArray, List.getElem_cons_succ, List.getElem_cons_zero, List.setIfInBounds_toArray, List.set_cons_zero, List.set_cons_succ]
                            refine tkS 28 (h := ?_)
                            try simp only [Act.put, List.getElem_toArray, List.getElem_cons_succ, List.getElem_cons_zero, List.setIfInBounds_toArray, List.set_cons_zero, List.set_cons_succ]
                            refine tkS 29 (h := ?_)
                            try simp only [Act.put, List.getElem_toArray, List.getElem_cons_succ, List.getElem_cons_zero, List.setIfInBounds_toArray, List.set_cons_zero, List.set_cons_succ]
                            refine tkS 30 (h := ?_)
                            try simp only [Act.put, List.getElem_toArray, List.getElem_cons_succ, List.getElem_cons_zero, List.setIfInBounds_toArray, List.set_cons_zero, List.set_cons_succ]
                            refine tkS 31 (h := ?_)
                            try simp only [Act.put, List.getElem_toArray, List.getElem_cons_succ, List.getElem_cons_zero, List.setIfInBounds_toArray, List.set_cons_zero, List.set_cons_succ]
                            refine tkS 32 (h := ?_)
                            try simp only [Act.put, List.getElem_toArray, List.getElem_cons_succ, List.getElem_cons_zero, List.setIfInBounds_toArray, List.set_cons_zero, List.set_cons_succ]
                            refine tkS 33 (h := ?_)
                            try simp only [Act.put, List.getElem_toArray, List.getElem_cons_succ, List.getElem_cons_zero, List.setIfInBounds_toArray, List.set_cons_zero, List.set_cons_succ]
                            refine tkS 34 (h := ?_)
                            try simp only [Act.put, List.getElem_toArray, List.getElem_cons_succ, List.getElem_cons_zero, List.setIfInBounds_toArray, List.set_cons_zero, List.set_cons_succ]
                            refine tkS 35 (h := ?_)
                            try simp only [Act.put, List.getElem_toArray, List.getElem_cons_succ, List.getElem_cons_zero, List.setIfInBounds_toArray, List.set_cons_zero, List.set_cons_succ]
                            refine tkS 36 (h := ?_)
                            try simp only [Act.put, List.getElem_toArray, List.getElem_cons_succ, List.getElem_cons_zero, List.setIfInBounds_toArray, List.set_cons_zero, List.set_cons_succ]
                            refine tkX 37 (h := ?_)
                            try simp only [Act.put, List.getElem_toArray, List.getElem_cons_succ, List.getElem_cons_zero, List.setIfInBounds_toArray, List.set_cons_zero, List.set_cons_succ]
                            clear hHeld
                            refine wpAnyH_done (by kernel_rfl) ?_ _
                            have HS3 := hidd (HSx.out.below (Below.refl _ _).drew)
                            clear cA hcell
                            go_wp2_with fail
                            go_roundw
                            case rel => exact ⟨i + 1, by omega, by go_num, HBn.out, HS3.out⟩
                            case measure => simp [intOf]; omega
                        · have hiz : ¬ (i : Int) < (N : Int) := by omega
                          have hiE : i = N := by omega
                          rcases HBs.out with ⟨rfl, hnone⟩ | ⟨b, rfl, hbst⟩
                          · have HOut : Hid (out = mrgM (dsOf ks) NS L) := by
                              have h5 := HSx.out.eq
                              rw [mrgM_none (fun j hj => hnone j (by rw [remM_len, HN.out] at hj; omega)), List.append_nil] at h5
                              exact h5
                            clear hnone HBs
                            go_wp2_with fail
                            refine bodyPost_ret (v := .tuple #[.slice oa on oc, .int .i64 0]) (by simp [results, Try.results6, go_sem]) rfl ?_
                            obtain ⟨xs, hA, _⟩ := HSx.out.ans
                            exact ⟨oa, on, oc, xs, by rw [HC.out], by rw [HLL.out, ← HOut.out]; exact hA, HSx.out.bel⟩
                          · have hbN : b < N := by have := hbst.1; omega
                            have hbz : ¬ (b : Int) < 0 := by omega
                            have HBst := hidd hbst
                            have HIE := hidd hiE
                            have hbL : b < L.length := by rw [HN.out]; exact hbN
                            obtain ⟨B, hBe⟩ : ∃ B, ats.getD b 0 = B := ⟨_, rfl⟩
                            have cB := HSx.out.cell hbN
                            rw [hBe] at cB
                            obtain ⟨n2, hn2⟩ : ∃ n, (L.getD b []).length = n := ⟨_, rfl⟩
                            have hBn : B < n2 := by
                              rcases Nat.lt_or_ge B n2 with h | h
                              · exact h
                              · exact absurd (remM_nil (ats := ats) hbL (by rw [hBe, hn2]; omega)) hbst.2.1
                            have hHb := remM_hit (ats := ats) hbL (by rw [hBe, hn2]; exact hBn)
                            have hlen2 := HLn.out b hbL
                            rw [hn2] at hlen2
                            obtain ⟨f, hf⟩ : ∃ f, (L.getD b []).getD B fd0 = f := ⟨_, rfl⟩
                            obtain ⟨b0, o0, rfl, hbl, ra0, sc2, hcell, hrc, hfd⟩ := (HL.out.below HSx.out.bel).at hbL
                            obtain ⟨sb, so, rfl, hsl, y0, y1, ja, jc, y2, y3⟩ := hfd.at (i := B) (by rw [hn2]; exact hBn)
                            rw [hn2] at hcell
                            rw [hf] at y0 y1 y2 y3
                            obtain ⟨q0, hq0⟩ : ∃ q, bs f.1 = q := ⟨_, rfl⟩
                            obtain ⟨q1, hq1⟩ : ∃ q, f.2.1 = q := ⟨_, rfl⟩
                            obtain ⟨q2, hq2⟩ : ∃ q, f.2.2.length = q := ⟨_, rfl⟩
                            rw [hq0] at y0
                            rw [hq1] at y1
                            rw [hq2] at y2
                            have HKq : Hid (q2 ≤ 4) := by
                              have h1 := HKy.out b hbL B (by rw [hn2]; exact hBn)
                              rw [hf, hq2] at h1
                              show _ ≤ _
                              omega
                            have HHit : Hid (hitM (remM L ats) b = f) := by
                              show _ = _
                              rw [hHb.1, hBe, hf]
                            have HLn2 := hidd hlen2
                            have HY3 := hidd y3
                            have HQ := hidd (And.intro hq0 (And.intro hq1 hq2))
                            have HBe := hidd hBe
                            have HCells := hidd (And.intro hcell (And.intro cB (And.intro y0 (And.intro y1 y2))))
                            clear hbst HBs hiE hHb hlen2 hf hfd hcell cB y0 y1 y2 y3 hn2 hrc hbl hsl hq0 hq1 hq2 hBe hbL
                            go_wp2_with fail
                            refine wp_region_held_drew (S := fun W => W.cell? ⟨b0, o0 + b, none⟩ = some (.slice (some ⟨sb, so, none⟩) n2 sc2) ∧ W.cell? ⟨ga, b, none⟩ = some (.int .i64 (B : Int)) ∧ W.cell? ⟨sb, so + B * 3, none⟩ = some (.string q0) ∧ W.cell? ⟨sb, so + B * 3 + 1, none⟩ = some (.int .i64 q1) ∧ W.cell? ⟨sb, so + B * 3 + 2, none⟩ = some (.slice ja q2 jc)) (by kernel_rfl) HCells.out (fun hHeld => ?_)
                            refine tkX 0 (h := ?_)
                            try simp only [Act.put, List.getElem_toArray, List.getElem_cons_succ, List.getElem_cons_zero, List.setIfInBounds_toArray, List.set_cons_zero, List.set_cons_succ]
                            refine tkX 1 (h := ?_)
                            try simp only [Act.put, List.getElem_toArray, List.getElem_cons_succ, List.getElem_cons_zero, List.setIfInBounds_toArray, List.set_cons_zero, List.set_cons_succ]
                            refine tkW 2 (v := .pointer (some ⟨b0, o0 + b, none⟩)) (hx := fun W hW => exec_ixSS W _ _ _ _ rfl b0 o0 N lc b (by kernel_rfl) (by kernel_rfl) hbN) (h := ?_)
                            try simp only [Act.put, List.getElem_toArray, List.getElem_cons_succ, List.getElem_cons_zero, List.setIfInBounds_toArray, List.set_cons_zero, List.set_cons_succ]
                            refine tkW 3 (v := .slice (some ⟨sb, so, none⟩) n2 sc2) (hx := fun W hW => exec_loadSo W _ _ _ rfl b0 (o0 + b) (some ⟨sb, so, none⟩) n2 sc2 (by kernel_rfl) hW.1) (h := ?_)
                            try simp only [Act.put, List.getElem_toArray, List.getElem_cons_succ, List.getElem_cons_zero, List.setIfInBounds_toArray, List.set_cons_zero, List.set_cons_succ]
                            refine tkX 4 (h := ?_)
                            try simp only [Act.put, List.getElem_toArray, List.getElem_cons_succ, List.getElem_cons_zero, List.setIfInBounds_toArray, List.set_cons_zero, List.set_cons_succ]
                            refine tkX 5 (h := ?_)
                            try simp only [Act.put, List.getElem_toArray, List.getElem_cons_succ, List.getElem_cons_zero, List.setIfInBounds_toArray, List.set_cons_zero, List.set_cons_succ]
                            refine tkW 6 (v := .pointer (some ⟨ga, b, none⟩)) (hx := fun W hW => exec_ixI0 W _ _ _ _ rfl ga N N b (by kernel_rfl) (by kernel_rfl) hbN) (h := ?_)
                            try simp only [Act.put, List.getElem_toArray, List.getElem_cons_succ, List.getElem_cons_zero, List.setIfInBounds_toArray, List.set_cons_zero, List.set_cons_succ]
                            refine tkW 7 (v := .int .i64 (B : Int)) (hx := fun W hW => exec_loadIo W _ _ _ rfl ga b (B : Int) (by kernel_rfl) hW.2.1) (h := ?_)
                            try simp only [Act.put, List.getElem_toArray, List.getElem_cons_succ, List.getElem_cons_zero, List.setIfInBounds_toArray, List.set_cons_zero, List.set_cons_succ]
                            refine tkW 8 (v := .pointer (some ⟨sb, so + B * 3, none⟩)) (hx := fun W hW => exec_ixS W _ _ _ _ rfl sb so n2 sc2 B (by kernel_rfl) (by kernel_rfl) hBn) (h := ?_)
                            try simp only [Act.put, List.getElem_toArray, List.getElem_cons_succ, List.getElem_cons_zero, List.setIfInBounds_toArray, List.set_cons_zero, List.set_cons_succ]
                            refine tkW 9 (v := .agg #[.string q0, .int .i64 q1, .slice ja q2 jc]) (hx := fun W hW => exec_loadFo W _ _ _ rfl sb (so + B * 3) q0 q1 ja q2 jc (by kernel_rfl) hW.2.2.1 hW.2.2.2.1 hW.2.2.2.2) (h := ?_)
                            try simp only [Act.put, List.getElem_toArray, List.getElem_cons_succ, List.getElem_cons_zero, List.setIfInBounds_toArray, List.set_cons_zero, List.set_cons_succ]
                            clear hHeld
                            have hbd : Below wr.heap.size wr wr.drew := (Below.refl _ _).drew
                            obtain ⟨Wd, hWd⟩ : ∃ Wd, wr.drew = Wd := ⟨_, rfl⟩
                            rw [hWd] at hbd ⊢
                            have hszd : Wd.heap.size = wr.heap.size := by rw [← hWd]; rfl
                            have HSd := hidd (HSx.out.below hbd)
                            have HKeep : Hid (∀ V, Below Wd.heap.size Wd V → V.cell? ⟨b0, o0 + b, none⟩ = some (.slice (some ⟨sb, so, none⟩) n2 sc2) ∧ V.cell? ⟨ga, b, none⟩ = some (.int .i64 (B : Int)) ∧ V.cell? ⟨sb, so + B * 3, none⟩ = some (.string q0) ∧ V.cell? ⟨sb, so + B * 3 + 1, none⟩ = some (.int .i64 q1) ∧ V.cell? ⟨sb, so + B * 3 + 2, none⟩ = some (.slice ja q2 jc)) := fun V hV => by
                              have hv : Below wr.heap.size wr V := hbd.trans (by rw [← hszd]; exact hV)
                              obtain ⟨c0, c1, c2, c3, c4⟩ := HCells.out
                              exact ⟨(hv.cell (p := ⟨b0, o0 + b, none⟩) (cell_lt c0)).trans c0, (hv.cell (p := ⟨ga, b, none⟩) (cell_lt c1)).trans c1, (hv.cell (p := ⟨sb, so + B * 3, none⟩) (cell_lt c2)).trans c2, (hv.cell (p := ⟨sb, so + B * 3 + 1, none⟩) (cell_lt c3)).trans c3, (hv.cell (p := ⟨sb, so + B * 3 + 2, none⟩) (cell_lt c4)).trans c4⟩
                            have HHz : Hid (HoldZ Wd ja f.2.2) := HY3.out.below hbd
                            clear hWd hszd hbd HSx HCells HY3
                            refine wpAnyH_one 10 (by kernel_rfl) ?_
                            refine wpOp_val _ _ rfl (by kernel_rfl) (exec_allocFd Wd _ _ rfl) ?_
                            refine ⟨HKeep.out _ ((Below.refl _ _).alloc (Nat.le_refl _) _), ?_⟩
                            try simp only [Act.put, List.getElem_toArray, List.getElem_cons_succ, List.getElem_cons_zero, List.setIfInBounds_toArray, List.set_cons_zero, List.set_cons_succ]
                            refine wpAnyH_one 11 (by kernel_rfl) ?_
                            refine wpOp_skip _ rfl (by kernel_rfl) (exec_storeFd _ _ _ _ _ rfl Wd.heap.size q0 q1 ja q2 jc _ _ _ (by kernel_rfl) (by kernel_rfl) (heap_alloc_new Wd _)) ?_
                            obtain ⟨W1, hW1⟩ : ∃ W1, (((Wd.alloc (.cells #[.string ⟨#[]⟩, .int .i64 0, .slice none 0 0] 47)).setCell ⟨Wd.heap.size, 0, none⟩ (.string q0)).setCell ⟨Wd.heap.size, 1, none⟩ (.int .i64 q1)).setCell ⟨Wd.heap.size, 2, none⟩ (.slice ja q2 jc) = W1 := ⟨_, rfl⟩
                            rw [hW1]
                            obtain ⟨hx1, hb1, hs1⟩ := box_fd Wd q0 q1 ja q2 jc hW1
                            clear hW1
                            refine ⟨HKeep.out _ hb1, ?_⟩
                            try simp only [Act.put, List.getElem_toArray, List.getElem_cons_succ, List.getElem_cons_zero, List.setIfInBounds_toArray, List.set_cons_zero, List.set_cons_succ]
                            refine wpAnyH_done (by kernel_rfl) ?_ _
                            obtain ⟨gb, hgb⟩ : ∃ g, Wd.heap.size = g := ⟨_, rfl⟩
                            have hgl : gb < W1.heap.size := by omega
                            have z2 : (W1.alloc (.cells #[] 3)).cell? ⟨gb, 2, none⟩ = some (.slice ja q2 jc) := (((Below.refl _ _).alloc (Nat.le_refl _) _).cell (p := ⟨gb, 2, none⟩) hgl).trans (by rw [← hgb]; exact blkc hx1 2)
                            have hc1 : Below W1.heap.size W1 (W1.alloc (.cells #[] 3)) := (Below.refl _ _).alloc (Nat.le_refl _) _
                            have HZ1 : Hid (HoldZ (W1.alloc (.cells #[] 3)) ja f.2.2) := (HHz.out.below hb1).below hc1
                            have HE1 := hidd (own_empty W1 3)
                            have HSz1 : Hid (W1.heap.size ≤ (W1.alloc (.cells #[] 3)).heap.size) := hc1.size
                            have HLz : Hid (0 + f.2.2.length ≤ 2000000) := by rw [HQ.out.2.2]; show _ ≤ _; have := HKq.out; omega
                            rw [hgb] at hx1 ⊢
                            have HX1 := hidd hx1
                            have HB1 := hidd hb1
                            have HS1 := hidd hs1
                            have HGb := hidd hgb
                            have HGl := hidd hgl
                            clear hx1 hb1 hs1 hgb HKeep hc1 hgl HHz
                            go_wp2_with (at_builtin; refine wpList_append_iz rfl _ _ rfl W1.heap.size (.slice (some ⟨W1.heap.size, 0, none⟩) 0 0) 0 [] rfl HE1.out ja jc f.2.2 (by rw [HQ.out.2.2]; rfl) HZ1.out HLz.out HSz1.out ?_)
                            intro v' w2 k1 k2
                            obtain ⟨ya, yn, yc, rfl⟩ : ∃ a n c, v' = .slice a n c := by
                              rcases k1.2 with ⟨h1, h2⟩ | ⟨g, cap, cur, h1, _⟩
                              · exact ⟨none, 0, 0, h1⟩
                              · exact ⟨_, _, _, h1⟩
                            have hb2 : Below W1.heap.size W1 w2 := ((Below.refl _ _).alloc (Nat.le_refl _) _).grown k2 HSz1.out (fun q hq => by have : W1.heap.size = q := Option.some.inj hq; omega)
                            have hx2 := blko HX1.out hb2
                            have f2 := blkf hx2 2
                            have x2 : w2.cell? ⟨gb, 2, none⟩ = some (.slice ja q2 jc) := blkc hx2 2
                            have hx3 := blk_setk hx2 2 (.slice ya yn yc)
                            simp only [List.setIfInBounds_toArray, List.set_cons_zero, List.set_cons_succ] at hx3
                            have d0 : (w2.setCell ⟨gb, 2, none⟩ (.slice ya yn yc)).cell? ⟨gb, 0, none⟩ = some (.string q0) := blkc hx3 0
                            have d1 : (w2.setCell ⟨gb, 2, none⟩ (.slice ya yn yc)).cell? ⟨gb, 1, none⟩ = some (.int .i64 q1) := blkc hx3 1
                            have d2 : (w2.setCell ⟨gb, 2, none⟩ (.slice ya yn yc)).cell? ⟨gb, 2, none⟩ = some (.slice ya yn yc) := blkc hx3 2
                            have HK1 := hidd k1
                            have HB2 := hidd hb2
                            clear k1 k2 hb2 hx2 HE1 HZ1 z2 HSz1 HLz HX1
                            obtain ⟨xs, hA, hga⟩ := HSd.out.ans
                            have hb4 : Below Wd.heap.size Wd (w2.setCell ⟨gb, 2, none⟩ (.slice ya yn yc)) := (HB1.out.trans (HB2.out.mono HB1.out.size)).setCell (p := ⟨gb, 2, none⟩) (by show _ ≤ gb; have := HGb.out; omega) _
                            have hsz4 : (w2.setCell ⟨gb, 2, none⟩ (.slice ya yn yc)).heap.size = w2.heap.size := by simp [World.setCell]
                            have ho4 : (w2.setCell ⟨gb, 2, none⟩ (.slice ya yn yc)).ownsRow Wd.heap.size 3 1 (.slice ya yn yc) f.2.2.length (f.2.2.map mkI) := own_congr (own_mono HK1.out HB1.out.size) fun x hx => heap_set_other _ _ _ _ _ (by have h8 := (HK1.out.lt x hx).1; have h9 := HGl.out; omega)
                            clear hx3
                            obtain ⟨W4, hW4⟩ : ∃ V, w2.setCell ⟨gb, 2, none⟩ (.slice ya yn yc) = V := ⟨_, rfl⟩
                            go_upto_region 38 with fail
                            rw [hW4] at hb4 ho4 d0 d1 d2
                            clear hW4 hsz4 HK1 HB2 HB1 x2 f2
                            have hb5 : Below Wd.heap.size Wd (W4.alloc (.cells #[.string q0, .int .i64 q1, .slice ya yn yc] 47)) := hb4.alloc hb4.size _
                            have HB5 := hidd hb5
                            have HO5 : Hid ((W4.alloc (.cells #[.string q0, .int .i64 q1, .slice ya yn yc] 47)).ownsRow Wd.heap.size 3 1 (.slice ya yn yc) f.2.2.length (f.2.2.map mkI)) := own_congr ho4 fun x hx => Below.heap_alloc _ _ _ (ho4.lt x hx).2
                            have HR5 : Hid ((W4.alloc (.cells #[.string q0, .int .i64 q1, .slice ya yn yc] 47)).ownsRow w.heap.size 47 3 (.slice oa on oc) out.length xs) := own_congr hA.row fun x hx => hb5.block x (hA.row.lt x hx).2
                            have HNw := hidd (news3 W4 (.string q0) (.int .i64 q1) (.slice ya yn yc) 47)
                            have HSz5 : Hid (w.heap.size ≤ (W4.alloc (.cells #[.string q0, .int .i64 q1, .slice ya yn yc] 47)).heap.size) := Nat.le_trans HSd.out.bel.size hb5.size
                            have HA := hidd hA
                            have HGa2 := hidd hga
                            clear hb4 ho4 hb5 hA hga
                            obtain ⟨i0, hi0, hz0, hz1, hz2⟩ := info_parts Try.infoFd
                            go_upto_region 39 with (at_builtin; refine wpList_append_lies _ rfl _ _ 26 rfl w.heap.size 47 i0 _ 3 48 Try.underlying26 hi0 hz0 hz1 hz2 rfl (by decide) (.slice oa on oc) out.length xs rfl HR5.out ⟨W4.heap.size, 0, none⟩ 1 1 [.string q0, .int .i64 q1, .slice ya yn yc] rfl rfl HNw.out (by intro u' hu'; simp at hu'; rcases hu' with rfl | rfl | rfl <;> rfl) (by decide) (by unfold maxLen; have := HOn.out; omega) (by have := HOn.out; omega) HSz5.out _ rfl ?_; intro g6 cp6 w6 hown6 hgrow6 hat6 hlt6)
                            have hbest : BestM (dsOf ks) (remM L ats) (remM L ats).length b := by rw [remM_len, HN.out, ← HIE.out]; exact HBst.out
                            have hpush := HSd.out.push HA.out HGa2.out HN.out.symm hbest HHit.out (by have := HOn.out; omega) HB5.out HO5.out (by rw [HQ.out.1, HQ.out.2.1]; exact hown6) hgrow6
                            rw [HBe.out] at hpush
                            obtain ⟨p1, p2⟩ := hpush
                            have c6 : w6.cell? ⟨ga, b, none⟩ = some (.int .i64 (B : Int)) := by
                              rw [p1.cellAt b (by omega), ← HBe.out]
                              exact atC_at ats (by rw [HSd.out.alen]; exact hbN)
                            obtain ⟨_, cur6, hc6⟩ := own_blk p1 (b := ga) rfl
                            have f6 : w6.frozen? ⟨ga, b, none⟩ = false := blkf hc6 b
                            have HP2 := hidd p2
                            have hB63 : B ≤ 1048576 := by have := HLn2.out; omega
                            clear p1 p2 hc6 hbest hown6 hgrow6 hat6 hlt6 HO5 HR5 HNw HB5 HA HGa2 HSd HSz5 d0 d1 d2
                            go_wp2_with fail
                            go_roundw
                            case rel => exact ⟨_, _, by have h9 := HP2.out; simpa using h9⟩
                            case measure => have := HOn.out; simp [slLen]; omega
                    · have hfz : ¬ (on : Int) < (NS : Int) := by omega
                      have HOut : Hid (out = mrgM (dsOf ks) NS L) := by
                        have h5 := HSp.out.eq
                        have h6 := HOn.out
                        rw [show NS - out.length = 0 by omega, mrgM, List.append_nil] at h5
                        exact h5
                      go_wp2_with fail
                      refine bodyPost_ret (v := .tuple #[.slice oa on oc, .int .i64 0]) (by simp [results, Try.results6, go_sem]) rfl ?_
                      obtain ⟨xs, hA, _⟩ := HSp.out.ans
                      exact ⟨oa, on, oc, xs, by rw [HC.out], by rw [HLL.out, ← HOut.out]; exact hA, HSp.out.bel⟩
end Go.Proofs.Ytcnjmjcbhelkhaa
