import Derived.Test.YtefhmbnhhkgifaaDoorReadLogJ42
namespace Go.Proofs.YtefhmbnhhkgifaaDoor
open Go Go.RowKit
set_option linter.unusedVariables false
set_option linter.unusedSimpArgs false
set_option maxRecDepth 100000

/-- What l14Next has when it asks whether the record is valid. -/
def NxCut (w0 : World) (kb : UInt8) (t : List UInt8) (n : Nat) (wr : World) : Prop :=
  ∃ (id did : List UInt8) (aV : Option Addr) (cV : Nat) (V : List Vl) (xs : List Value) (lo : Nat), SO w0 wr (kb.toNat : Int) (n : Int) id did aV V.length cV ∧ w0.heap.size + 1 < lo ∧ AnsV wr lo wr.heap.size (.slice aV V.length cV) V xs ∧ id.length ≤ 1048576 ∧ did.length ≤ 1048576 ∧ V.length ≤ 4096 ∧ (∀ v ∈ V, smallV v) ∧ (dcOK (did, V) = true → (dcB (did, V)).length ≤ 1048576) ∧
    partR (kb :: t) = if rcOK ((kb.toNat : Int), (n : Int), id, (did, V)) = true then some ((kb.toNat : Int), (n : Int), id, (did, V)) else none
set_option maxHeartbeats 8000000 in
theorem specNext_any {w0 : World} {b off c k q : Nat} {bs : List UInt8} (hn : bs.length ≤ 1048576) (hb : b < w0.heap.size) (hc : bs.length ≤ c) (hB : BytesAt w0 b off bs) (hk : k ≤ bs.length) (hq : q ≤ 1048577) :
    Calls Tryd.prog 12 #[.slice (some ⟨b, off, none⟩) bs.length c, .int .i64 (k : Int), .int .i64 (q : Int)] w0 (NxP w0 bs k q) := by
  have HBy := hidd hB
  have HG := hidd (fun (W : World) (hW : Below w0.heap.size w0 W) => specGet_any b off c k bs W hn hk (hB.old hW hb))
  clear hB
  go_enter Tryd.func12, Tryd.ntmps12
  go_upto_region 2 with fail
  obtain ⟨W2, hW2⟩ : ∃ W2, (w0.alloc (.cells #[.int .i64 0, .int .i64 0, .string ⟨#[]⟩, .string ⟨#[]⟩, .slice none 0 0] 36)).alloc (.cells #[.int .i64 0, .int .i64 0, .string ⟨#[]⟩, .string ⟨#[]⟩, .slice none 0 0] 36) = W2 := ⟨_, rfl⟩
  have HS2 : Hid (SO w0 W2 0 0 [] [] none 0 0) := by
    have h2 := box_two w0 (.cells #[.int .i64 0, .int .i64 0, .string ⟨#[]⟩, .string ⟨#[]⟩, .slice none 0 0] 36) (.cells #[.int .i64 0, .int .i64 0, .string ⟨#[]⟩, .string ⟨#[]⟩, .slice none 0 0] 36)
    show SO _ _ _ _ _ _ _ _ _
    rw [← hW2]
    exact ⟨((Below.refl _ _).alloc (Nat.le_refl _) _).alloc (by simp) _, h2.1, h2.2⟩
  try rw [hW2]
  clear hW2
  go_wp2_with fail
  refine (HG.out _ HS2.out.old).mono ?_
  rintro e w3 ⟨⟨m3, hw3⟩, hg3⟩
  have hb3 : Below W2.heap.size W2 w3 := by rw [hw3]; exact below_drewN (Below.refl _ _) m3
  have HS3 := hidd (HS2.out.below hb3)
  clear hb3 hw3 HG HS2
  rcases hg3 with ⟨hno, x, y, rfl⟩ | ⟨v, s, hg, rfl⟩
  · have HF := hidd (HS3.out.no (bs := bs) (k := k) (q := q) (V := []) (lo := w0.heap.size + 1) (by omega) (AnsV.nil _ _ _) (nextR_n1 hno))
    have x0 := blkc HS3.out.rcd 0
    have x1 := blkc HS3.out.rcd 1
    have x2 := blkc HS3.out.rcd 2
    have x3 := blkc HS3.out.rcd 3
    have x4 := blkc HS3.out.rcd 4
    have z0 := blkc HS3.out.res 0
    have z1 := blkc HS3.out.res 1
    have z2 := blkc HS3.out.res 2
    have z3 := blkc HS3.out.res 3
    have z4 := blkc HS3.out.res 4
    have g0 := blkf HS3.out.res 0
    have g1 := blkf HS3.out.res 1
    have g2 := blkf HS3.out.res 2
    have g3 := blkf HS3.out.res 3
    have g4 := blkf HS3.out.res 4
    clear hno HS3
    dsimp only
    go_wp2_with fail
    refine bodyPost_ret (v := .tuple #[.agg #[.int .i64 0, .int .i64 0, .string ⟨#[]⟩, .string ⟨#[]⟩, .slice none 0 0], .int .i64 0, .bool false]) (by simp [results, Tryd.results12, go_sem, *]) rfl ?_
    exact HF.out
  · have hgl := getL_le hg
    have hvb := (getL_inv hg).2.1
    have hrl : (bs.drop k).length = bs.length - k := List.length_drop
    obtain ⟨F, hF⟩ : ∃ F, k + s = F := ⟨_, rfl⟩
    have hdF : (bs.drop k).drop s = bs.drop F := by rw [List.drop_drop, hF]
    have hFl : (bs.drop F).length = bs.length - F := List.length_drop
    have hFle : F ≤ bs.length := by omega
    rw [show (k : Int) + (s : Int) = (F : Int) by omega]
    have Hg := hidd hg
    have HdF := hidd hdF
    have HFe := hidd hF
    by_cases hbad : v < 2 ∨ (bs.drop F).length < v + 4
    · have hno : nextR (bs.drop k) q = none := nextR_n2 hg (by rw [hdF]; exact hbad)
      have HF := hidd (HS3.out.no (bs := bs) (k := k) (q := q) (V := []) (lo := w0.heap.size + 1) (by omega) (AnsV.nil _ _ _) hno)
      have x0 := blkc HS3.out.rcd 0
      have x1 := blkc HS3.out.rcd 1
      have x2 := blkc HS3.out.rcd 2
      have x3 := blkc HS3.out.rcd 3
      have x4 := blkc HS3.out.rcd 4
      have z0 := blkc HS3.out.res 0
      have z1 := blkc HS3.out.res 1
      have z2 := blkc HS3.out.res 2
      have z3 := blkc HS3.out.res 3
      have z4 := blkc HS3.out.res 4
      have g0 := blkf HS3.out.res 0
      have g1 := blkf HS3.out.res 1
      have g2 := blkf HS3.out.res 2
      have g3 := blkf HS3.out.res 3
      have g4 := blkf HS3.out.res 4
      clear hno HS3 hg hdF hF
      by_cases hv2 : v < 2
      · have hvz : (v : Int) < 2 := by omega
        clear hbad hrl hgl hFl
        dsimp only
        go_wp2_with fail
        refine bodyPost_ret (v := .tuple #[.agg #[.int .i64 0, .int .i64 0, .string ⟨#[]⟩, .string ⟨#[]⟩, .slice none 0 0], .int .i64 0, .bool false]) (by simp [results, Tryd.results12, go_sem, *]) rfl ?_
        exact HF.out
      · have hvz : ¬ (v : Int) < 2 := by omega
        have hvz2 : (v : Int) > (bs.length : Int) - (F : Int) - 4 := by omega
        clear hbad hrl hgl hFl
        dsimp only
        go_wp2_with fail
        refine bodyPost_ret (v := .tuple #[.agg #[.int .i64 0, .int .i64 0, .string ⟨#[]⟩, .string ⟨#[]⟩, .slice none 0 0], .int .i64 0, .bool false]) (by simp [results, Tryd.results12, go_sem, *]) rfl ?_
        exact HF.out
    · have hv2 : 2 ≤ v := by omega
      have hv4 : F + v + 4 ≤ bs.length := by omega
      obtain ⟨kb, t, hp⟩ : ∃ kb t, (bs.drop F).take v = kb :: t := by
        cases hx : (bs.drop F).take v with
        | nil => have := congrArg List.length hx; rw [List.length_take, List.length_nil] at this; omega
        | cons x t => exact ⟨x, t, rfl⟩
      have htl : t.length + 1 = v := by have := congrArg List.length hp; rw [List.length_take, List.length_cons] at this; omega
      have HNx := hidd (nextR_go (q := q) hg (by rw [hdF]; omega) (by omega) (by rw [hdF]; exact hp))
      rw [hdF] at HNx
      have hBP : BytesAt w0 b (off + F) (kb :: t) := by
        have h1 := HBy.out.dropR F
        intro j hj
        have hj' : j < v := by rw [List.length_cons] at hj; omega
        have := h1 j (by omega)
        rw [this, ← hp]
        simp [List.getD_eq_getElem?_getD, List.getElem?_take, hj']
      have HBP := hidd hBP
      have y0 : w3.cell? ⟨b, off + F, none⟩ = some (.int .u8 (kb.toNat : Int)) := by have := hBP.old HS3.out.old hb 0 (by simp); simpa using this
      have HP := hidd hp
      have hkb := UInt8.toNat_lt kb
      obtain ⟨G, hG⟩ : ∃ G, F + v = G := ⟨_, rfl⟩
      have hGz : (F : Int) + (v : Int) = (G : Int) := by omega
      have hvz : ¬ (v : Int) < 2 := by omega
      have hvz2 : ¬ (v : Int) > (bs.length : Int) - (F : Int) - 4 := by omega
      have hs1 : (F : Int) ≤ (G : Int) := by omega
      have hs2 : (G : Int) ≤ (c : Int) := by omega
      have hs3 : (G : Int) - (F : Int) = (v : Int) := by omega
      have hcF : ¬ c = F := by omega
      have x0 := blkc HS3.out.rcd 0
      have f0 := blkf HS3.out.rcd 0
      clear hbad hp hBP hg hdF hF hrl hgl hFl
      dsimp only
      go_upto_region 7 with fail
      have HG2 : Hid (∀ W, Below w0.heap.size w0 W → Calls Tryd.prog 18 #[.slice (some ⟨b, off + F, none⟩) v (c - F), .int .i64 1] W fun e w' => (∃ m, w' = W.drewN m) ∧ ((getL t = none ∧ ∃ x y : Int, e = .returned (.tuple #[.int .i64 x, .int .i64 y, .bool false])) ∨ ∃ n c1 : Nat, getL t = some (n, c1) ∧ e = .returned (.tuple #[.int .i64 (n : Int), .int .i64 ((c1 + 1 : Nat) : Int), .bool true]))) := fun W hW => by
        have h := specGet_any b (off + F) (c - F) 1 (kb :: t) W (by rw [List.length_cons]; omega) (by simp) (HBP.out.old hW hb)
        rw [List.length_cons, htl] at h
        refine h.mono ?_
        rintro e w' ⟨hm, hh⟩
        refine ⟨hm, ?_⟩
        rcases hh with h | ⟨n, c1, h1, h2⟩
        · exact Or.inl h
        · exact Or.inr ⟨n, c1, h1, by rw [h2, show ((1 : Nat) : Int) + (c1 : Int) = ((c1 + 1 : Nat) : Int) by omega]⟩
      have hGF : G - F = v := by omega
      rw [hGF]
      have HS4 := hidd (HS3.out.set (kd' := (kb.toNat : Int)) (sq' := 0) (id' := []) (did' := []) (a' := none) (n' := 0) (c' := 0) 0 (.int .i64 (kb.toNat : Int)) (by simp))
      obtain ⟨w4, hw4⟩ : ∃ w4, w3.setCell ⟨w0.heap.size + 1, 0, none⟩ (.int .i64 (kb.toNat : Int)) = w4 := ⟨_, rfl⟩
      rw [hw4] at HS4
      try rw [hw4]
      clear hw4 x0 f0 y0 HS3 hGF hs1 hs2 hs3 hcF hvz hvz2
      go_wp2_with fail
      refine (HG2.out _ HS4.out.old).mono ?_
      rintro e w5 ⟨⟨m5, hw5⟩, hg5⟩
      have hb5 : Below w4.heap.size w4 w5 := by rw [hw5]; exact below_drewN (Below.refl _ _) m5
      have HS5 := hidd (HS4.out.below hb5)
      clear hb5 hw5 HG2 HS4
      rcases hg5 with ⟨hno, x, y, rfl⟩ | ⟨n, c1, hg5, rfl⟩
      · have hno' : nextR (bs.drop k) q = none := by
          rw [HNx.out, partR_n hno]
          simp
        have HF := hidd (HS5.out.no (bs := bs) (k := k) (q := q) (V := []) (lo := w0.heap.size + 1) (by omega) (AnsV.nil _ _ _) hno')
        have x0 := blkc HS5.out.rcd 0
        have x1 := blkc HS5.out.rcd 1
        have x2 := blkc HS5.out.rcd 2
        have x3 := blkc HS5.out.rcd 3
        have x4 := blkc HS5.out.rcd 4
        have z0 := blkc HS5.out.res 0
        have z1 := blkc HS5.out.res 1
        have z2 := blkc HS5.out.res 2
        have z3 := blkc HS5.out.res 3
        have z4 := blkc HS5.out.res 4
        have g0 := blkf HS5.out.res 0
        have g1 := blkf HS5.out.res 1
        have g2 := blkf HS5.out.res 2
        have g3 := blkf HS5.out.res 3
        have g4 := blkf HS5.out.res 4
        clear hno hno' HS5
        dsimp only
        go_wp2_with fail
        refine bodyPost_ret (v := .tuple #[.agg #[.int .i64 (kb.toNat : Int), .int .i64 0, .string ⟨#[]⟩, .string ⟨#[]⟩, .slice none 0 0], .int .i64 0, .bool false]) (by simp [results, Tryd.results12, go_sem, *]) rfl ?_
        exact HF.out
      · have hgl5 := getL_le hg5
        have hnb := (getL_inv hg5).2.1
        by_cases hnq : n = q
        · have hnz : ((n : Int) != (q : Int)) = false := by rw [hnq]; simp
          have x1 := blkc HS5.out.rcd 1
          have f1 := blkf HS5.out.rcd 1
          dsimp only
          go_upto_region 12 with fail
          have HS6 := hidd (HS5.out.set (kd' := (kb.toNat : Int)) (sq' := (q : Int)) (id' := []) (did' := []) (a' := none) (n' := 0) (c' := 0) 1 (.int .i64 (q : Int)) (by simp))
          obtain ⟨w6, hw6⟩ : ∃ w6, w5.setCell ⟨w0.heap.size + 1, 1, none⟩ (.int .i64 (q : Int)) = w6 := ⟨_, rfl⟩
          rw [hw6] at HS6
          try rw [hw6]
          subst hnq
          clear hw6 x1 f1 HS5 hnz
          have hRl : (t.drop c1).length = v - (c1 + 1) := by rw [List.length_drop]; omega
          have hBR : BytesAt w0 b (off + F + (c1 + 1)) (t.drop c1) := HBP.out.dropR (c1 + 1)
          have HBR := hidd hBR
          have hRle : (t.drop c1).length ≤ 1048576 := by omega
          have Hg5 := hidd hg5
          have x0 := blkc HS6.out.rcd 0
          have hlt6 := HS6.out.lt
          clear hBR hg5
          go_upto_if 76 with fail
          go_cut [] (fun wr => NxCut w0 kb t n wr)
          case first =>
            by_cases hk1 : kb.toNat = 1
            · have hk1z : ((kb.toNat : Int) == 1) = true := by rw [hk1]; rfl
              have HRd := hidd (specRead_any (w0 := w6) (b := b) (off := off + F + (c1 + 1)) (c := c - F - (c1 + 1)) (bs := t.drop c1) hRle (by have := HS6.out.old.size; omega) (by omega) (HBR.out.old HS6.out.old hb))
              rw [hRl] at HRd
              have HPp := hidd (partR_p Hg5.out hk1)
              have Hk1 := hidd hk1
              clear hk1
              go_wp2_with fail
              refine HRd.out.mono ?_
              rintro e w7 ⟨hb7, va, xs, lo, rfl, hlo, hans⟩
              have HS7 := hidd (HS6.out.below hb7)
              have hz7 := hb7.size
              have hsm := rdAns_small (t.drop c1)
              cases hro : readO (t.drop c1) with
              | none =>
                have hra : rdAns (t.drop c1) = (([], []), 15) := by unfold rdAns; rw [hro]
                rw [hra] at hans ⊢
                obtain ⟨aA, cA, rfl⟩ := own_formR hans.row
                have hno' : nextR (bs.drop k) n = none := by
                  rw [HNx.out, HPp.out, hro]
                  simp
                dsimp only
                have HAl := hidd ((Below.refl w7.heap.size w7).alloc (Nat.le_refl _) (.cells #[.string ⟨#[]⟩, .slice aA 0 cA] 34))
                go_upto_region 14 with fail
                obtain ⟨w8, hw8⟩ : ∃ w8, w7.alloc (.cells #[.string ⟨#[]⟩, .slice aA 0 cA] 34) = w8 := ⟨_, rfl⟩
                rw [hw8] at HAl
                try rw [hw8]
                clear hw8
                have HS8 := hidd (HS7.out.below HAl.out)
                have HF := hidd (HS8.out.no (bs := bs) (k := k) (q := n) (V := []) (lo := w0.heap.size + 1) (by omega) (AnsV.nil _ _ _) hno')
                have x0' := blkc HS8.out.rcd 0
                have x1 := blkc HS8.out.rcd 1
                have x2 := blkc HS8.out.rcd 2
                have x3 := blkc HS8.out.rcd 3
                have x4 := blkc HS8.out.rcd 4
                have z0 := blkc HS8.out.res 0
                have z1 := blkc HS8.out.res 1
                have z2 := blkc HS8.out.res 2
                have z3 := blkc HS8.out.res 3
                have z4 := blkc HS8.out.res 4
                have g0 := blkf HS8.out.res 0
                have g1 := blkf HS8.out.res 1
                have g2 := blkf HS8.out.res 2
                have g3 := blkf HS8.out.res 3
                have g4 := blkf HS8.out.res 4
                clear hno' HS8 HS7 HS6 hans hb7 hra hro HRd x0 hsm
                go_wp2_with fail
                refine bodyPost_ret (v := .tuple #[.agg #[.int .i64 (kb.toNat : Int), .int .i64 (n : Int), .string ⟨#[]⟩, .string ⟨#[]⟩, .slice none 0 0], .int .i64 0, .bool false]) (by simp [results, Tryd.results12, go_sem, *]) rfl ?_
                exact HF.out
              | some d =>
                obtain ⟨did, V⟩ := d
                have hra : rdAns (t.drop c1) = ((did, V), 0) := by unfold rdAns; rw [hro]
                rw [hra] at hans ⊢
                dsimp only at hans ⊢
                obtain ⟨aA, cA, rfl⟩ := own_formR hans.row
                obtain ⟨hrb, hdk⟩ := readO_back hro
                have hdp := dcOK_parts hdk
                dsimp only at hdp
                have hdl : did.length ≤ 1048576 := by omega
                have Hsm : Hid (V.length ≤ 4096 ∧ ∀ v ∈ V, smallV v) := ⟨hdp.1.2, fun v hv => (vlOK_parts (hdp.2 v hv)).1⟩
                have HdB : Hid ((dcB (did, V)).length ≤ 1048576) := by show _ ≤ _; rw [hrb]; omega
                have HPr : Hid (partR (kb :: t) = if rcOK ((kb.toNat : Int), (n : Int), [], (did, V)) = true then some ((kb.toNat : Int), (n : Int), [], (did, V)) else none) := by
                  show _ = _
                  rw [HPp.out, hro, Hk1.out]
                  rfl
                have HAns := hidd hans
                have HAl := hidd ((Below.refl w7.heap.size w7).alloc (Nat.le_refl _) (.cells #[.string ⟨did.toArray⟩, .slice aA V.length cA] 34))
                have HXd := hidd (heap_alloc_new w7 (.cells #[.string ⟨did.toArray⟩, .slice aA V.length cA] 34))
                clear hdp hdk hrb hsm hra hro hans hb7 HRd x0 HPp
                go_upto_region 14 with fail
                obtain ⟨w8, hw8⟩ : ∃ w8, w7.alloc (.cells #[.string ⟨did.toArray⟩, .slice aA V.length cA] 34) = w8 := ⟨_, rfl⟩
                rw [hw8] at HAl HXd
                try rw [hw8]
                clear hw8
                have HS8 := hidd (HS7.out.below HAl.out)
                have y0 := blkc HXd.out 0
                have y1 := blkc HXd.out 1
                have x3 := blkc HS8.out.rcd 3
                have x4 := blkc HS8.out.rcd 4
                have f3 := blkf HS8.out.rcd 3
                have f4 := blkf HS8.out.rcd 4
                have hz8 := HAl.out.size
                clear HS7 HS6
                go_wp2_with fail
                go_meet
                case rel =>
                  refine ⟨[], did, aA, cA, V, xs, lo, ?_, by omega, ?_, by simp, hdl, Hsm.out.1, Hsm.out.2, fun _ => HdB.out, HPr.out⟩
                  · exact (HS8.out.set (kd' := (kb.toNat : Int)) (sq' := (n : Int)) (id' := []) (did' := did) (a' := none) (n' := 0) (c' := 0) 3 _ (by simp)).set (kd' := (kb.toNat : Int)) (sq' := (n : Int)) (id' := []) (did' := did) (a' := aA) (n' := V.length) (c' := cA) 4 _ (by simp)
                  · have e : ((w8.setCell ⟨w0.heap.size + 1, 3, none⟩ (.string ⟨did.toArray⟩)).setCell ⟨w0.heap.size + 1, 4, none⟩ (.slice aA V.length cA)).heap.size = w8.heap.size := by simp
                    rw [e]
                    refine ((HAns.out.keep (w' := w8) fun b _ h2 => HAl.out.block b h2).mono hz8).keep fun b h1 h2 => ?_
                    rw [heap_set_other _ _ _ _ _ (by omega), heap_set_other _ _ _ _ _ (by omega)]
            · have hk1z : ((kb.toNat : Int) == 1) = false := by simp; omega
              have hcv := conv_take (W := w6) (a := some ⟨b, off + F + (c1 + 1), none⟩) (n := v - (c1 + 1)) (c := c - F - (c1 + 1)) (l := t.drop c1) hRl (Or.inr ⟨b, _, rfl, HBR.out.old HS6.out.old hb⟩)
              have HPd := hidd (partR_d Hg5.out hk1)
              have x2 := blkc HS6.out.rcd 2
              have f2 := blkf HS6.out.rcd 2
              clear hk1
              obtain ⟨R, hR⟩ : ∃ R, t.drop c1 = R := ⟨_, rfl⟩
              rw [hR] at hcv HPd hRle
              clear hR
              go_wp2_with fail
              go_meet
              case rel =>
                refine ⟨R, [], none, 0, [], [], w0.heap.size + 2, ?_, by omega, AnsV.nil _ _ _, hRle, by simp, by simp, by simp, fun _ => by simp [dcB, txB, putL_small 0 (by omega)], HPd.out⟩
                exact HS6.out.set (kd' := (kb.toNat : Int)) (sq' := (n : Int)) (id' := R) (did' := []) (a' := none) (n' := 0) (c' := 0) 2 _ (by simp)
          case rest =>
            obtain ⟨id, did, aV, cV, V, xs, lo, hso, hlo, hans, hidl, hdidl, hVl, hsm, hdB, hpr⟩ := hcut
            have HSo := hidd hso
            have HAns := hidd hans
            have HPr := hidd hpr
            have HRok : Hid (∀ W, HoldV W aV V → Calls Tryd.prog 20 #[.agg #[.int .i64 (kb.toNat : Int), .int .i64 (n : Int), .string ⟨id.toArray⟩, .string ⟨did.toArray⟩, .slice aV V.length cV]] W fun e w' => e = .returned (.bool (rcOK ((kb.toNat : Int), (n : Int), id, (did, V)))) ∧ Below W.heap.size W w') := fun W hW => specRecOK_any (kb.toNat : Int) (n : Int) id did aV cV V W hidl hdidl (by omega) (smallG hsm) hW
            have HRb : Hid (rcOK ((kb.toNat : Int), (n : Int), id, (did, V)) = true → ∀ W, HoldV W aV V → Calls Tryd.prog 21 #[.agg #[.int .i64 (kb.toNat : Int), .int .i64 (n : Int), .string ⟨id.toArray⟩, .string ⟨did.toArray⟩, .slice aV V.length cV]] W fun e w' => ∃ v, e = .returned v ∧ w'.ownsRow W.heap.size 5 1 v (partB (rcPart ((kb.toNat : Int), (n : Int), id, (did, V)))).length (Lib.byteCells (partB (rcPart ((kb.toNat : Int), (n : Int), id, (did, V))))) ∧ Below W.heap.size W w') := fun hok W hW => by
              obtain ⟨h1, ⟨q', h2, h3, h4⟩, h5, h6⟩ := rcOK_kind hok
              exact specRecB_any (kb.toNat : Int) n id did aV cV V W h1 (by omega) hidl h5 (fun hk => Nat.le_trans (hdB (h5 hk)) (by decide)) hW
            clear hso hans hpr hsm x0 HS6 hdB
            obtain ⟨E, hEe⟩ : ∃ E, F + v + 4 = E := ⟨_, rfl⟩
            have hEz : (G : Int) + 4 = (E : Int) := by omega
            have hE1 : (k : Int) ≤ (E : Int) := by have := HFe.out; omega
            have hE2 : (E : Int) ≤ (c : Int) := by omega
            have hck : ¬ c = k := by have := HFe.out; omega
            have hltc := HSo.out.lt
            go_upto_region 19 with fail
            have hB1 : Below wc.heap.size wc wc.drew := below_drewN (Below.refl _ wc) 1
            have hS1 := hidd (HSo.out.below hB1)
            have hA1 : AnsV wc.drew lo wc.drew.heap.size (.slice aV V.length cV) V xs := HAns.out.keep fun b _ h2 => hB1.block b h2
            have HSt : Hid (∀ W, SO w0 W (kb.toNat : Int) (n : Int) id did aV V.length cV → W.heap[w0.heap.size + 1]? = some (.cells #[.int .i64 (kb.toNat : Int), .int .i64 (n : Int), .string ⟨id.toArray⟩, .string ⟨did.toArray⟩, .slice aV V.length cV] 36) ∧ BytesAt W b off bs) := fun W h => ⟨h.rcd, HBy.out.old h.old hb⟩
            have hS0 := HSt.out _ hS1.out
            refine wp_region_held (S := fun W => W.heap[w0.heap.size + 1]? = some (.cells #[.int .i64 (kb.toNat : Int), .int .i64 (n : Int), .string ⟨id.toArray⟩, .string ⟨did.toArray⟩, .slice aV V.length cV] 36) ∧ BytesAt W b off bs) (by kernel_rfl) ?_
            try simp only [Act.put, List.getElem_toArray, List.getElem_cons_succ, List.getElem_cons_zero, List.setIfInBounds_toArray, List.set_cons_zero, List.set_cons_succ]
            refine tkW 0 (v := .agg #[.int .i64 (kb.toNat : Int), .int .i64 (n : Int), .string ⟨id.toArray⟩, .string ⟨did.toArray⟩, .slice aV V.length cV]) (hx := fun W hW => exec_loadRec W _ _ _ rfl (w0.heap.size + 1) _ _ _ _ _ (by kernel_rfl) hW.1) (h := ?_)
            try simp only [Act.put, List.getElem_toArray, List.getElem_cons_succ, List.getElem_cons_zero, List.setIfInBounds_toArray, List.set_cons_zero, List.set_cons_succ]
            refine wpAnyH_one 1 (by kernel_rfl) ?_
            refine wpOp_call 20 #[.agg #[.int .i64 (kb.toNat : Int), .int .i64 (n : Int), .string ⟨id.toArray⟩, .string ⟨did.toArray⟩, .slice aV V.length cV]] rfl (by kernel_rfl) (rbx_call1 _ _ _ _ _ _ rfl _ (by kernel_rfl) (Tryd.call20 _ _)) ?_
            refine (HRok.out _ hA1.hold).mono ?_
            rintro e w9 ⟨rfl, hb9⟩
            have hS9 := hS1.out.below hb9
            have hT9 := HSt.out _ hS9
            have hA9 : AnsV w9 lo w9.heap.size (.slice aV V.length cV) V xs := (hA1.keep (w' := w9) fun b h1 h2 => hb9.block b h2).mono hb9.size
            refine ⟨hT9, ?_⟩
            try simp only [Act.put, List.getElem_toArray, List.getElem_cons_succ, List.getElem_cons_zero, List.setIfInBounds_toArray, List.set_cons_zero, List.set_cons_succ]
            cases hok : rcOK ((kb.toNat : Int), (n : Int), id, (did, V)) with
            | false =>
              refine tkX 2 (v := .bool true) (h := ?_)
              try simp only [Act.put, List.getElem_toArray, List.getElem_cons_succ, List.getElem_cons_zero, List.setIfInBounds_toArray, List.set_cons_zero, List.set_cons_succ]
              refine tkX 3 (v := .bool true) (h := ?_)
              try simp only [Act.put, List.getElem_toArray, List.getElem_cons_succ, List.getElem_cons_zero, List.setIfInBounds_toArray, List.set_cons_zero, List.set_cons_succ]
              refine tkS 4 (h := ?_)
              try simp only [Act.put, List.getElem_toArray, List.getElem_cons_succ, List.getElem_cons_zero, List.setIfInBounds_toArray, List.set_cons_zero, List.set_cons_succ]
              refine tkS 5 (h := ?_)
              try simp only [Act.put, List.getElem_toArray, List.getElem_cons_succ, List.getElem_cons_zero, List.setIfInBounds_toArray, List.set_cons_zero, List.set_cons_succ]
              refine tkS 6 (h := ?_)
              try simp only [Act.put, List.getElem_toArray, List.getElem_cons_succ, List.getElem_cons_zero, List.setIfInBounds_toArray, List.set_cons_zero, List.set_cons_succ]
              refine tkS 7 (h := ?_)
              try simp only [Act.put, List.getElem_toArray, List.getElem_cons_succ, List.getElem_cons_zero, List.setIfInBounds_toArray, List.set_cons_zero, List.set_cons_succ]
              refine tkS 8 (h := ?_)
              try simp only [Act.put, List.getElem_toArray, List.getElem_cons_succ, List.getElem_cons_zero, List.setIfInBounds_toArray, List.set_cons_zero, List.set_cons_succ]
              refine tkS 9 (h := ?_)
              try simp only [Act.put, List.getElem_toArray, List.getElem_cons_succ, List.getElem_cons_zero, List.setIfInBounds_toArray, List.set_cons_zero, List.set_cons_succ]
              refine tkS 10 (h := ?_)
              try simp only [Act.put, List.getElem_toArray, List.getElem_cons_succ, List.getElem_cons_zero, List.setIfInBounds_toArray, List.set_cons_zero, List.set_cons_succ]
              refine tkS 11 (h := ?_)
              try simp only [Act.put, List.getElem_toArray, List.getElem_cons_succ, List.getElem_cons_zero, List.setIfInBounds_toArray, List.set_cons_zero, List.set_cons_succ]
              refine tkS 12 (h := ?_)
              try simp only [Act.put, List.getElem_toArray, List.getElem_cons_succ, List.getElem_cons_zero, List.setIfInBounds_toArray, List.set_cons_zero, List.set_cons_succ]
              refine tkX 13 (v := .bool true) (h := ?_)
              try simp only [Act.put, List.getElem_toArray, List.getElem_cons_succ, List.getElem_cons_zero, List.setIfInBounds_toArray, List.set_cons_zero, List.set_cons_succ]
              refine wpAnyH_done (by kernel_rfl) ?_ _
              have hno' : nextR (bs.drop k) n = none := by
                rw [HNx.out, HPr.out, hok]
                simp
              have HF := hidd (hS9.no (bs := bs) (k := k) (q := n) (by omega) hA9 hno')
              have HS9 := hidd hS9
              clear hS0 hT9 hS1 hB1 hb9 hA1 hA9 hno' hok hS9
              have x0 := blkc HS9.out.rcd 0
              have x1 := blkc HS9.out.rcd 1
              have x2 := blkc HS9.out.rcd 2
              have x3 := blkc HS9.out.rcd 3
              have x4 := blkc HS9.out.rcd 4
              have z0 := blkc HS9.out.res 0
              have z1 := blkc HS9.out.res 1
              have z2 := blkc HS9.out.res 2
              have z3 := blkc HS9.out.res 3
              have z4 := blkc HS9.out.res 4
              have g0 := blkf HS9.out.res 0
              have g1 := blkf HS9.out.res 1
              have g2 := blkf HS9.out.res 2
              have g3 := blkf HS9.out.res 3
              have g4 := blkf HS9.out.res 4
              clear HS9
              go_wp2_with fail
              refine bodyPost_ret (v := .tuple #[.agg #[.int .i64 (kb.toNat : Int), .int .i64 (n : Int), .string ⟨id.toArray⟩, .string ⟨did.toArray⟩, .slice aV V.length cV], .int .i64 0, .bool false]) (by simp [results, Tryd.results12, go_sem, *]) rfl ?_
              exact HF.out
            | true =>
              have hpx : partR (kb :: t) = some ((kb.toNat : Int), (n : Int), id, (did, V)) := by rw [HPr.out, hok]; rfl
              have hrp := (partR_part hpx).1
              have hRb := HRb.out hok
              rw [hrp] at hRb
              have HRb2 := hidd hRb
              have hM2 := log_part Hg.out HFe.out hEe (by omega) HP.out
              obtain ⟨M2, hM2e⟩ : ∃ M2, (bs.drop k).take (E - k) = M2 := ⟨_, rfl⟩
              have hM2l : M2.length = E - k := by rw [← hM2e, List.length_take, List.length_drop]; omega
              have HBM : Hid (∀ W, BytesAt W b off bs → BytesAt W b (off + k) M2) := fun W hW => by rw [← hM2e]; exact (hW.dropR k).takeR (E - k)
              rw [hM2e] at hM2
              have hpm := partB_len (kb :: t) (by rw [List.length_cons]; omega)
              have HM1 : Hid (partB (kb :: t) = putL v ++ (kb :: t) ++ four (sumL (kb :: t))) := by show _ = _; rw [partB, List.length_cons, htl]
              have HEq : Hid ((partB (kb :: t) = M2) ↔ four (sumL (kb :: t)) = ((bs.drop F).drop v).take 4) := by
                show _ ↔ _
                rw [HM1.out, hM2]
                exact ⟨fun h => List.append_cancel_left h, fun h => by rw [h]⟩
              have HNx2 : Hid (nextR (bs.drop k) n = if partB (kb :: t) = M2 then some (((kb.toNat : Int), (n : Int), id, (did, V)), bs.drop E) else none) := by
                show _ = _
                have he : (bs.drop k).drop (s + v + 4) = bs.drop E := by rw [List.drop_drop]; congr 1; have := HFe.out; omega
                rw [HNx.out, hpx]
                by_cases h4 : four (sumL (kb :: t)) = ((bs.drop F).drop v).take 4
                · rw [if_pos h4, if_pos (HEq.out.2 h4)]
                  simp [he]
                · rw [if_neg h4, if_neg (fun e => h4 (HEq.out.1 e))]
              obtain ⟨M1, hM1⟩ : ∃ M1, partB (kb :: t) = M1 := ⟨_, rfl⟩
              rw [hM1] at HRb2 hpm HNx2
              clear hpx hrp hRb hM2 hM2e HEq HM1 hM1 HRb hok
              refine tkX 2 (v := .bool false) (h := ?_)
              try simp only [Act.put, List.getElem_toArray, List.getElem_cons_succ, List.getElem_cons_zero, List.setIfInBounds_toArray, List.set_cons_zero, List.set_cons_succ]
              refine tkX 3 (v := .bool false) (h := ?_)
              try simp only [Act.put, List.getElem_toArray, List.getElem_cons_succ, List.getElem_cons_zero, List.setIfInBounds_toArray, List.set_cons_zero, List.set_cons_succ]
              refine tkW 4 (v := .agg #[.int .i64 (kb.toNat : Int), .int .i64 (n : Int), .string ⟨id.toArray⟩, .string ⟨did.toArray⟩, .slice aV V.length cV]) (hx := fun W hW => exec_loadRec W _ _ _ rfl (w0.heap.size + 1) _ _ _ _ _ (by kernel_rfl) hW.1) (h := ?_)
              try simp only [Act.put, List.getElem_toArray, List.getElem_cons_succ, List.getElem_cons_zero, List.setIfInBounds_toArray, List.set_cons_zero, List.set_cons_succ]
              refine tkX 7 (v := .slice (some ⟨b, off, none⟩) bs.length c) (h := ?_)
              try simp only [Act.put, List.getElem_toArray, List.getElem_cons_succ, List.getElem_cons_zero, List.setIfInBounds_toArray, List.set_cons_zero, List.set_cons_succ]
              refine tkX 8 (v := .int .i64 (k : Int)) (h := ?_)
              try simp only [Act.put, List.getElem_toArray, List.getElem_cons_succ, List.getElem_cons_zero, List.setIfInBounds_toArray, List.set_cons_zero, List.set_cons_succ]
              refine tkX 9 (v := .int .i64 (E : Int)) (h := ?_)
              try simp only [Act.put, List.getElem_toArray, List.getElem_cons_succ, List.getElem_cons_zero, List.setIfInBounds_toArray, List.set_cons_zero, List.set_cons_succ]
              refine tkX 10 (v := .slice (some ⟨b, off + k, none⟩) (E - k) (c - k)) (h := ?_)
              try simp only [Act.put, List.getElem_toArray, List.getElem_cons_succ, List.getElem_cons_zero, List.setIfInBounds_toArray, List.set_cons_zero, List.set_cons_succ]
              refine tkW 11 (v := .string ⟨M2.toArray⟩) (hx := fun W hW => rbx_convO W _ _ _ rfl b (off + k) (E - k) (c - k) M2 hM2l (by kernel_rfl) (HBM.out W hW.2)) (h := ?_)
              try simp only [Act.put, List.getElem_toArray, List.getElem_cons_succ, List.getElem_cons_zero, List.setIfInBounds_toArray, List.set_cons_zero, List.set_cons_succ]
              refine wpAnyH_one 5 (by kernel_rfl) ?_
              refine wpOp_call 21 #[.agg #[.int .i64 (kb.toNat : Int), .int .i64 (n : Int), .string ⟨id.toArray⟩, .string ⟨did.toArray⟩, .slice aV V.length cV]] rfl (by kernel_rfl) (rbx_call1 _ _ _ _ _ _ rfl _ (by kernel_rfl) (Tryd.call21 _ _)) ?_
              refine (HRb2.out _ hA9.hold).mono ?_
              rintro e w10 ⟨v10, rfl, hown10, hb10⟩
              obtain ⟨g10, c10, rfl, hg10, hg10l⟩ := hown10.form (by omega)
              have hS10 := hS9.below hb10
              have hT10 := HSt.out _ hS10
              have hA10 : AnsV w10 lo w10.heap.size (.slice aV V.length cV) V xs := (hA9.keep (w' := w10) fun b h1 h2 => hb10.block b h2).mono hb10.size
              refine ⟨hT10, ?_⟩
              try simp only [Act.put, List.getElem_toArray, List.getElem_cons_succ, List.getElem_cons_zero, List.setIfInBounds_toArray, List.set_cons_zero, List.set_cons_succ]
              refine wpAnyH_one 6 (by kernel_rfl) ?_
              refine wpOp_val (.string ⟨M1.toArray⟩) w10 rfl (by kernel_rfl) (rbx_convO w10 _ _ _ rfl g10 0 M1.length c10 M1 rfl (by kernel_rfl) (own_bytes hown10 rfl)) ?_
              refine ⟨hT10, ?_⟩
              try simp only [Act.put, List.getElem_toArray, List.getElem_cons_succ, List.getElem_cons_zero, List.setIfInBounds_toArray, List.set_cons_zero, List.set_cons_succ]
              by_cases hMM : M1 = M2
              · subst hMM
                refine tkX 12 (v := .bool false) (h := ?_)
                try simp only [Act.put, List.getElem_toArray, List.getElem_cons_succ, List.getElem_cons_zero, List.setIfInBounds_toArray, List.set_cons_zero, List.set_cons_succ]
                refine tkX 13 (v := .bool false) (h := ?_)
                try simp only [Act.put, List.getElem_toArray, List.getElem_cons_succ, List.getElem_cons_zero, List.setIfInBounds_toArray, List.set_cons_zero, List.set_cons_succ]
                refine wpAnyH_done (by kernel_rfl) ?_ _
                have HF := hidd (hS10.yes (bs := bs) (k := k) (q := n) (en := E) (by omega) hA10 (by omega) (by rw [HNx2.out]; exact if_pos rfl))
                have HS9 := hidd hS10
                clear hS0 hT9 hS1 hB1 hb9 hA1 hA9 hS9 hS10 hT10 hA10 hb10 hown10
                have x0 := blkc HS9.out.rcd 0
                have x1 := blkc HS9.out.rcd 1
                have x2 := blkc HS9.out.rcd 2
                have x3 := blkc HS9.out.rcd 3
                have x4 := blkc HS9.out.rcd 4
                have z0 := blkc HS9.out.res 0
                have z1 := blkc HS9.out.res 1
                have z2 := blkc HS9.out.res 2
                have z3 := blkc HS9.out.res 3
                have z4 := blkc HS9.out.res 4
                have g0 := blkf HS9.out.res 0
                have g1 := blkf HS9.out.res 1
                have g2 := blkf HS9.out.res 2
                have g3 := blkf HS9.out.res 3
                have g4 := blkf HS9.out.res 4
                clear HS9
                go_wp2_with fail
                refine bodyPost_ret (v := .tuple #[.agg #[.int .i64 (kb.toNat : Int), .int .i64 (n : Int), .string ⟨id.toArray⟩, .string ⟨did.toArray⟩, .slice aV V.length cV], .int .i64 (E : Int), .bool true]) (by simp [results, Tryd.results12, go_sem, *]) rfl ?_
                exact HF.out
              · have hne : ((⟨M1.toArray⟩ : ByteArray) == ⟨M2.toArray⟩) = false := by
                  show (M1.toArray == M2.toArray) = false
                  simp [hMM]
                refine tkX 12 (v := .bool true) (h := ?_)
                try simp only [Act.put, List.getElem_toArray, List.getElem_cons_succ, List.getElem_cons_zero, List.setIfInBounds_toArray, List.set_cons_zero, List.set_cons_succ]
                refine tkX 13 (v := .bool true) (h := ?_)
                try simp only [Act.put, List.getElem_toArray, List.getElem_cons_succ, List.getElem_cons_zero, List.setIfInBounds_toArray, List.set_cons_zero, List.set_cons_succ]
                refine wpAnyH_done (by kernel_rfl) ?_ _
                have HF := hidd (hS10.no (bs := bs) (k := k) (q := n) (by omega) hA10 (by rw [HNx2.out]; exact if_neg hMM))
                have HS9 := hidd hS10
                clear hS0 hT9 hS1 hB1 hb9 hA1 hA9 hS9 hS10 hT10 hA10 hb10 hown10 hMM hne
                have x0 := blkc HS9.out.rcd 0
                have x1 := blkc HS9.out.rcd 1
                have x2 := blkc HS9.out.rcd 2
                have x3 := blkc HS9.out.rcd 3
                have x4 := blkc HS9.out.rcd 4
                have z0 := blkc HS9.out.res 0
                have z1 := blkc HS9.out.res 1
                have z2 := blkc HS9.out.res 2
                have z3 := blkc HS9.out.res 3
                have z4 := blkc HS9.out.res 4
                have g0 := blkf HS9.out.res 0
                have g1 := blkf HS9.out.res 1
                have g2 := blkf HS9.out.res 2
                have g3 := blkf HS9.out.res 3
                have g4 := blkf HS9.out.res 4
                clear HS9
                go_wp2_with fail
                refine bodyPost_ret (v := .tuple #[.agg #[.int .i64 (kb.toNat : Int), .int .i64 (n : Int), .string ⟨id.toArray⟩, .string ⟨did.toArray⟩, .slice aV V.length cV], .int .i64 0, .bool false]) (by simp [results, Tryd.results12, go_sem, *]) rfl ?_
                exact HF.out
        · have hnz : ((n : Int) != (q : Int)) = true := by simp; omega
          have hno' : nextR (bs.drop k) q = none := by
            rw [HNx.out]
            split
            · cases hpp : partR (kb :: t) with
              | none => rfl
              | some x =>
                have := partR_seq hg5 hpp
                simp only
                rw [if_neg (by rw [this]; omega)]
            · rfl
          have HF := hidd (HS5.out.no (bs := bs) (k := k) (q := q) (V := []) (lo := w0.heap.size + 1) (by omega) (AnsV.nil _ _ _) hno')
          have x0 := blkc HS5.out.rcd 0
          have x1 := blkc HS5.out.rcd 1
          have x2 := blkc HS5.out.rcd 2
          have x3 := blkc HS5.out.rcd 3
          have x4 := blkc HS5.out.rcd 4
          have z0 := blkc HS5.out.res 0
          have z1 := blkc HS5.out.res 1
          have z2 := blkc HS5.out.res 2
          have z3 := blkc HS5.out.res 3
          have z4 := blkc HS5.out.res 4
          have g0 := blkf HS5.out.res 0
          have g1 := blkf HS5.out.res 1
          have g2 := blkf HS5.out.res 2
          have g3 := blkf HS5.out.res 3
          have g4 := blkf HS5.out.res 4
          clear hno' HS5 hg5 hnq hgl5
          dsimp only
          go_wp2_with fail
          refine bodyPost_ret (v := .tuple #[.agg #[.int .i64 (kb.toNat : Int), .int .i64 0, .string ⟨#[]⟩, .string ⟨#[]⟩, .slice none 0 0], .int .i64 0, .bool false]) (by simp [results, Tryd.results12, go_sem, *]) rfl ?_
          exact HF.out
end Go.Proofs.YtefhmbnhhkgifaaDoor
