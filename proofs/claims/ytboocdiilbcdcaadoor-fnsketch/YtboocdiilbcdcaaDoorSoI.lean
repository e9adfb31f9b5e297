import Derived.Test.YtboocdiilbcdcaaDoorSoA
import Derived.Test.YtboocdiilbcdcaaDoorSkJ
namespace Go.Proofs.YtboocdiilbcdcaaDoor
open Go Go.RowKit
set_option linter.unusedVariables false
set_option linter.unusedSimpArgs false
set_option maxRecDepth 100000

/-! impl.SketchOf. -/
def slT (t : Tx) : Nat := stirN (sumL t) % 256
def rkT (t : Tx) : Nat := rkN (stirN (sumL t))
theorem slT_of (t : Tx) : stirN (sumL (⟨t.toArray⟩ : ByteArray).data.toList) % 256 = slT t := by
  have e : (⟨t.toArray⟩ : ByteArray).data.toList = t := by simp
  rw [e]; unfold slT; exact Eq.refl _
theorem rkT_of (t : Tx) : rkN (stirN (sumL (⟨t.toArray⟩ : ByteArray).data.toList)) = rkT t := by
  have e : (⟨t.toArray⟩ : ByteArray).data.toList = t := by simp
  rw [e]; unfold rkT; exact Eq.refl _
theorem slT_lt (t : Tx) : slT t < 256 := Nat.mod_lt _ (by omega)
theorem rkT_in (t : Tx) : 1 ≤ rkT t ∧ rkT t ≤ 25 := by unfold rkT rkN; omega
def upS (r : List Int) (t : Tx) : List Int := r.set (slT t) (max (r.getD (slT t) 0) (rkT t : Int))
def skF (l : List Tx) (k : Nat) : List Int := (l.take k).foldl upS rzeros
theorem skF_zero (l : List Tx) : skF l 0 = rzeros := by unfold skF; rw [List.take_zero]; rfl
theorem skF_succ (l : List Tx) (k : Nat) (h : k < l.length) : skF l (k + 1) = upS (skF l k) (l.getD k []) := by
  unfold skF
  have ht : l.take (k + 1) = l.take k ++ [l.getD k []] := by rw [List.take_succ_eq_append_getElem h]; simp [h]
  rw [ht, List.foldl_append]
  rfl
def OkR (r : List Int) : Prop := r.length = 256 ∧ ∀ i, i < 256 → 0 ≤ r.getD i 0 ∧ r.getD i 0 ≤ 25
theorem okR_zeros : OkR rzeros := ⟨rzeros_length, fun i hi => by
  have e : rzeros.getD i 0 = 0 := by unfold rzeros; rw [List.getD_eq_getElem?_getD, List.getElem?_replicate]; simp [hi]
  omega⟩
theorem okR_up {r : List Int} (h : OkR r) (t : Tx) : OkR (upS r t) := by
  refine ⟨by unfold upS; rw [List.length_set]; exact h.1, fun i hi => ?_⟩
  unfold upS
  have h1 := h.2 (slT t) (slT_lt t)
  have h2 := rkT_in t
  have h3 := h.2 i hi
  rw [List.getD_eq_getElem?_getD, List.getElem?_set]
  by_cases e : slT t = i
  · rw [if_pos e, if_pos (by rw [h.1]; exact slT_lt t)]
    simp only [Option.getD_some]
    omega
  · rw [if_neg e, ← List.getD_eq_getElem?_getD]; exact h3
theorem okR_skF (l : List Tx) : ∀ k, OkR (skF l k) := by
  intro k
  unfold skF
  generalize l.take k = m
  suffices h : ∀ (m : List Tx) r, OkR r → OkR (m.foldl upS r) from h m _ okR_zeros
  intro m
  induction m with
  | nil => intro r h; exact h
  | cons x t ih => intro r h; exact ih _ (okR_up h x)
def txsOK (l : List Tx) : Bool := l.all fun t => decide (t.length ≤ 65536)
def ofS (l : List Tx) : List Int × Int := if 4096 < l.length then ([], 2) else if txsOK l = true then (skF l l.length, 0) else ([], 2)
theorem ofS_len (l : List Tx) : (ofS l).1.length ≤ 1048576 := by
  unfold ofS
  split
  · simp
  · split
    · rw [(okR_skF l l.length).1]; omega
    · simp
theorem txsOK_no {l : List Tx} {k : Nat} (hk : k < l.length) (h : 65536 < (l.getD k []).length) : txsOK l = false := by
  unfold txsOK
  rw [List.all_eq_false]
  refine ⟨l[k], List.getElem_mem hk, ?_⟩
  have e : l.getD k [] = l[k] := by simp [hk]
  rw [e] at h
  simp; omega
theorem txsOK_yes {l : List Tx} (h : ∀ k, k < l.length → (l.getD k []).length ≤ 65536) : txsOK l = true := by
  unfold txsOK
  rw [List.all_eq_true]
  intro x hx
  obtain ⟨k, hk, e⟩ := List.mem_iff_getElem.1 hx
  have := h k hk
  rw [show l.getD k [] = l[k] by simp [hk], e] at this
  simpa using this
theorem txsOK_at {l : List Tx} (h : txsOK l = true) (k : Nat) (hk : k < l.length) : (l.getD k []).length ≤ 65536 := by
  unfold txsOK at h
  rw [List.all_eq_true] at h
  have := h l[k] (List.getElem_mem hk)
  rw [show l.getD k [] = l[k] by simp [hk]]
  simpa using this
theorem size_tx (t : Tx) : (⟨t.toArray⟩ : ByteArray).size = t.length := by rw [Lib.size_eq]
set_option maxHeartbeats 1000000 in
theorem storT_any (a : Option Addr) (c : Nat) (l : List Tx) (w : World) (hn : l.length ≤ 1048576) (h : TmAt w a l) :
    Calls Tryd.prog 25 #[.slice a l.length c] w fun e w' => e = .returned (.bool (txsOK l)) ∧ w' = w := by
  have HH := hidd h
  clear h
  go_enter Tryd.func25, Tryd.ntmps25
  go_wp2_with fail
  go_loop [4, 7] (fun _ i => ∃ k : Nat, k ≤ l.length ∧ i = .int .i64 (k : Int) ∧ ∀ j, j < k → (l.getD j []).length ≤ 65536) (fun _ i => l.length - (intOf i).toNat)
  case atStart => exact ⟨0, Nat.zero_le _, rfl, fun j hj => absurd hj (by omega)⟩
  case round =>
    obtain ⟨k, hk, rfl, hp⟩ := hrel
    have HP := hidd hp
    clear hp
    by_cases hlt : k < l.length
    · have hklt : (k : Int) < (l.length : Int) := by omega
      obtain ⟨g, off, rfl, hg, hc⟩ := HH.out.resolve_left (fun h => by rw [h] at hlt; simp at hlt)
      have c1 := hc k hlt
      have e1 := size_tx (l.getD k [])
      clear hc
      by_cases hb : 65536 < (l.getD k []).length
      · have HF : Hid (txsOK l = false) := txsOK_no hlt hb
        generalize l.getD k [] = t at *
        have hb2 : (65536 : Int) < (t.length : Int) := by omega
        generalize (⟨t.toArray⟩ : ByteArray) = T at *
        have hb3 : (65536 : Int) < (T.size : Int) := by omega
        go_wp2_with fail
        go_ret
        rw [HF.out]
        exact ⟨rfl, rfl⟩
      · have HN : Hid ((l.getD k []).length ≤ 65536) := by show _ ≤ _; omega
        have hb3 : ¬ (65536 : Int) < ((⟨(l.getD k []).toArray⟩ : ByteArray).size : Int) := by omega
        generalize (⟨(l.getD k []).toArray⟩ : ByteArray) = T at *
        clear e1 hb
        go_wp2_with fail
        go_round
        case rel =>
          refine ⟨k + 1, by omega, by go_num, fun j hj => ?_⟩
          rcases (by omega : j < k ∨ j = k) with h | rfl
          · exact HP.out j h
          · exact HN.out
        case measure => simp [intOf]; omega
    · have hklt : ¬ (k : Int) < (l.length : Int) := by omega
      have HF : Hid (txsOK l = true) := txsOK_yes (fun j hj => HP.out j (by omega))
      go_wp2_with fail
      go_ret
      rw [HF.out]
      exact ⟨rfl, rfl⟩
theorem exec_idxP (W : World) (ρ : Operand → Value) (o : Oper) (x y : Operand) (ho : o.op = .indexAddr 50 x y) (g X : Nat) (hx : ρ x = .pointer (some ⟨g, 0, none⟩)) (hy : ρ y = .int .i64 (X : Int)) (h : X < 256) :
    (execOp ρ o).run Tryd.prog W = .ok (.value (.pointer (some ⟨g, X, none⟩))) W := by
  have h1 : (0 : Int) ≤ (X : Int) := by omega
  have h2 : (X : Int) < 256 := by omega
  unfold execOp
  simp only [ho, hx, hy, Sem.run_bind, Sem.run_pure, Result.andThen_ok]
  go_simp
theorem exec_loadB (W : World) (ρ : Operand → Value) (o : Oper) (x : Operand) (ho : o.op = .load 5 x) (g j : Nat) (u : Int) (hx : ρ x = .pointer (some ⟨g, j, none⟩)) (h : W.cell? ⟨g, j, none⟩ = some (.int .u8 u)) :
    (execOp ρ o).run Tryd.prog W = .ok (.value (.int .u8 u)) W := by
  unfold execOp
  simp only [ho, hx, Sem.run_bind, Sem.run_pure, Result.andThen_ok]
  go_simp
theorem exec_storeB (W : World) (ρ : Operand → Value) (o : Oper) (x y : Operand) (ho : o.op = .store 5 x y) (g j : Nat) (u v : Int) (hx : ρ x = .pointer (some ⟨g, j, none⟩)) (hy : ρ y = .int .u8 v) (h : W.cell? ⟨g, j, none⟩ = some (.int .u8 u)) (hf : W.frozen? ⟨g, j, none⟩ = false) :
    (execOp ρ o).run Tryd.prog W = .ok .skip (W.setCell ⟨g, j, none⟩ (.int .u8 v)) := by
  unfold execOp
  simp only [ho, hx, hy, Sem.run_bind, Sem.run_pure, Result.andThen_ok]
  go_simp
theorem wpS {ops : Array Oper} {rest : List Oper} {o : Oper} {a : Act} {w w' : World} {Q : Exit → Act → World → Prop} (hgd : o.guard = none) (hx : (execOp a.eval o).run Tryd.prog w = .ok .skip w') (h : wpList Tryd.prog ops Q rest (a.put o.dst undef) w') : wpList Tryd.prog ops Q (o :: rest) a w := by
  refine wpList_plain hgd fun K hK => ?_
  unfold Oper.wp
  simp only [hx, Oper.upon]
  exact hK _ _ h
set_option maxHeartbeats 8000000 in
theorem implOf_any (a : Option Addr) (c : Nat) (l : List Tx) (w : World) (hn : l.length ≤ 1048576) (h : TmAt w a l) (hT : TabAt (Tryd.laysTz_ren.g 0) Lib.deBruijn32tab w) :
    Calls Tryd.prog 7 #[.slice a l.length c] w (SkR w (ofS l)) := by
  have HH := hidd h
  have HT := hidd hT
  have HSt : Hid (∀ V, Below w.heap.size w V → Calls Tryd.prog 25 #[.slice a l.length c] V fun e w' => e = .returned (.bool (txsOK l)) ∧ w' = V) := fun V hV => storT_any a c l V hn (h.below hV)
  clear h hT
  obtain ⟨n, hnn⟩ : ∃ n, l.length = n := ⟨_, rfl⟩
  rw [hnn] at HSt hn
  rw [hnn]
  have HN := hidd hnn
  clear hnn
  obtain ⟨J, hJ⟩ : ∃ J, ofS l = J := ⟨_, rfl⟩
  rw [hJ]
  have HJJ := hidd hJ
  clear hJ
  obtain ⟨W, hW⟩ : ∃ W, w.alloc (.cells #[.slice none 0 0] 27) = W := ⟨_, rfl⟩
  have HKr : Hid (W.heap[w.heap.size]? = some (.cells #[.slice none 0 0] 27)) := by show _ = _; rw [← hW]; exact heap_alloc_new _ _
  have HBa : Hid (Below w.heap.size w W) := by show Below _ _ _; rw [← hW]; exact (Below.refl _ _).alloc (Nat.le_refl _) _
  go_enter Tryd.func7, Tryd.ntmps7
  go_upto_region 1 with fail
  try rw [hW]
  clear hW
  by_cases hlong : 4096 < n
  · have e1 : (4096 : Int) < (n : Int) := by omega
    have HJ : Hid (J = ([], 2)) := by show _ = _; rw [← HJJ.out]; unfold ofS; rw [if_pos (by rw [HN.out]; exact hlong)]
    go_upto_region 2 with fail
    have x0 := blkc HKr.out 0
    have f0 := blkf HKr.out 0
    have HKf := hidd (blk_setk HKr.out 0 (.slice none 0 0))
    have HBf := hidd (HBa.out.setCell (p := ⟨w.heap.size, 0, none⟩) (Nat.le_refl _) (.slice none 0 0))
    have q0 := blkc HKf.out 0
    go_wp2_with fail
    refine bodyPost_ret (v := .tuple #[.agg #[.slice none 0 0], .int .i64 2]) (by simp [results, Tryd.results7, go_sem, q0]) rfl ?_
    rw [HJ.out]
    exact ⟨3, _, Or.inl rfl, rfl, World.ownsRow_nil _ _ _ _, HBf.out⟩
  have e1 : ¬ (4096 : Int) < (n : Int) := by omega
  go_wp2_with fail
  refine (HSt.out _ HBa.out).mono ?_
  rintro e w1 ⟨rfl, hw1⟩
  obtain rfl := hw1.symm
  cases hok : txsOK l with
  | false =>
    have HJ : Hid (J = ([], 2)) := by show _ = _; rw [← HJJ.out]; unfold ofS; rw [if_neg (by rw [HN.out]; exact hlong), if_neg (by rw [hok]; simp)]
    clear hok
    go_upto_region 2 with fail
    have x0 := blkc HKr.out 0
    have f0 := blkf HKr.out 0
    have HKf := hidd (blk_setk HKr.out 0 (.slice none 0 0))
    have HBf := hidd (HBa.out.setCell (p := ⟨w.heap.size, 0, none⟩) (Nat.le_refl _) (.slice none 0 0))
    have q0 := blkc HKf.out 0
    go_wp2_with fail
    refine bodyPost_ret (v := .tuple #[.agg #[.slice none 0 0], .int .i64 2]) (by simp [results, Tryd.results7, go_sem, q0]) rfl ?_
    rw [HJ.out]
    exact ⟨3, _, Or.inl rfl, rfl, World.ownsRow_nil _ _ _ _, HBf.out⟩
  | true =>
    have HJ : Hid (J = (skF l n, 0)) := by show _ = _; rw [← HJJ.out]; unfold ofS; rw [if_neg (by rw [HN.out]; exact hlong), if_pos hok, HN.out]
    have HOk := hidd hok
    clear hok HSt HJJ
    have HBn : Hid (Below W.heap.size W (W.alloc (.cells (ruArr rzeros) 50))) := (Below.refl _ _).alloc (Nat.le_refl _) _
    have HRn : Hid (rBlk (W.alloc (.cells (ruArr rzeros) 50)) W.heap.size W.heap.size rzeros) := rBlk.new (Nat.le_refl _) rzeros_length
    go_upto_region 4 with (refine rwpB_alloc rfl rfl ?_)
    obtain ⟨W1, hW1⟩ : ∃ V, W.alloc (.cells (ruArr rzeros) 50) = V := ⟨_, rfl⟩
    rw [hW1] at HBn HRn
    try rw [hW1]
    clear hW1
    have HGz : Hid (w.heap.size < W.heap.size) := (Array.getElem?_eq_some_iff.1 HKr.out).1
    have HK1 := hidd (blko HKr.out HBn.out)
    have HB1 := hidd (HBa.out.trans (HBn.out.mono HBa.out.size))
    clear HKr HBa HBn
    obtain ⟨G, hG⟩ : ∃ G, W.heap.size = G := ⟨_, rfl⟩
    rw [hG] at HRn HGz
    try rw [hG]
    clear hG
    go_wp2_with fail
    go_loopw [6, 7, 8, 20] (fun _ _ _ i wr => ∃ k : Nat, k ≤ n ∧ i = .int .i64 (k : Int) ∧ rBlk wr 0 G (skF l k) ∧ Below w.heap.size w wr ∧ wr.heap[w.heap.size]? = some (.cells #[.slice none 0 0] 27)) (fun _ _ _ i _ => n - (intOf i).toNat)
    case atStart => exact ⟨0, Nat.zero_le _, rfl, by rw [skF_zero]; exact HRn.out.mono (Nat.zero_le _), HB1.out, HK1.out⟩
    case round =>
      obtain ⟨k, hk, rfl, h1, h2, h3⟩ := hrel
      have H1 := hidd h1
      have H2 := hidd h2
      have H3 := hidd h3
      clear h1 h2 h3
      by_cases hlt : k < n
      · have hklt : (k : Int) < (n : Int) := by omega
        have hkl : k < l.length := by have := HN.out; omega
        obtain ⟨g, off, rfl, hg, hc⟩ := HH.out.resolve_left (fun h => by rw [h] at hkl; simp at hkl)
        have c1 := (H2.out.cell (p := ⟨g, off + k, none⟩) hg).trans (hc k hkl)
        clear hc
        have HSu := hidd (skF_succ l k hkl)
        have hsz : (⟨(l.getD k []).toArray⟩ : ByteArray).size ≤ 65536 := by rw [size_tx]; exact txsOK_at HOk.out k hkl
        have HSl := hidd (slotOf_any ⟨(l.getD k []).toArray⟩ wr hsz (tab_below HT.out H2.out))
        rw [slT_of, rkT_of] at HSl
        have hs1 := slT_lt (l.getD k [])
        have hr1 := rkT_in (l.getD k [])
        unfold upS at HSu
        clear hsz
        generalize slT (l.getD k []) = p at *
        generalize rkT (l.getD k []) = q at *
        generalize (⟨(l.getD k []).toArray⟩ : ByteArray) = T at *
        have hp1 : (p : Int) < 256 := by omega
        have hOb := (okR_skF l k).2 p hs1
        go_wp2_with fail
        refine HSl.out.mono ?_
        rintro e w3 ⟨rfl, hb3⟩
        have H13 := hidd (H1.out.below hb3)
        have H23 := hidd (H2.out.trans (hb3.mono H2.out.size))
        have H33 := hidd (blko H3.out hb3)
        clear hb3 HSl c1 H1 H2 H3
        have c2 := H13.out.cell p hs1
        have f2 := H13.out.frozen p
        obtain ⟨x, hx⟩ : ∃ x, (skF l k).getD p 0 = x := ⟨_, rfl⟩
        rw [hx] at c2 HSu hOb
        obtain ⟨m, hm⟩ : ∃ m, max x (q : Int) = m := ⟨_, rfl⟩
        rw [hm] at HSu
        have HMx := hidd hm
        have hm2 : 0 ≤ m ∧ m ≤ 25 := by omega
        clear hx hm
        have HSet := hidd (H13.out.set p m)
        rw [← HSu.out] at HSet
        have HKn : Hid ((w3.setCell ⟨G, p, none⟩ (.int .u8 m)).heap[w.heap.size]? = some (.cells #[.slice none 0 0] 27)) := (heap_set_other _ _ _ _ _ (by have := HGz.out; omega)).trans H33.out
        have HBn : Hid (Below w.heap.size w (w3.setCell ⟨G, p, none⟩ (.int .u8 m))) := H23.out.setCell (p := ⟨G, p, none⟩) (by have := HGz.out; show w.heap.size ≤ G; omega) _
        clear HSu H13 H23 H33
        go_upto_region 8 with fail
        go_upto_region 9 with (first | (refine wpV rfl (.pointer (some ⟨G, p, none⟩)) (exec_idxP _ _ _ _ _ rfl G p rfl rfl hs1) ?_) | (refine wpV rfl (.int .u8 x) (exec_loadB _ _ _ _ rfl G p x rfl c2) ?_) | (refine wpV rfl (.int .u8 m) (exec_max2 _ _ _ _ _ .u8 _ rfl x (q : Int) m rfl rfl HMx.out) ?_) | (refine wpS rfl (exec_storeB _ _ _ _ _ rfl G p x m rfl rfl c2 f2) ?_))
        go_wp2_with fail
        go_roundw
        case rel => exact ⟨k + 1, by omega, by go_num, HSet.out.1, HBn.out, HKn.out⟩
        case measure => simp [intOf]; omega
      · have hklt : ¬ (k : Int) < (n : Int) := by omega
        obtain rfl : k = n := by omega
        have hO := okR_skF l k
        have HO := hidd hO
        clear hO
        go_upto_region 10 with fail
        go_wp2_with (refine rwpB_load rfl _ rfl 0 G (skF l k) rfl H1.out ?_)
        refine (sketch_any (skF l k) _ HO.out.1 (fun i hi => by have := HO.out.2 i hi; omega)).mono ?_
        rintro e W6 ⟨g6, rfl, ho6, hb6⟩
        have HB6 := hidd (H2.out.trans (hb6.mono H2.out.size))
        have HKr6 := hidd (blko H3.out hb6)
        have HO6 := hidd ho6
        have hg6 : wr.heap.size ≤ g6 := ((own_blk ho6 rfl).1)
        have hz5 := (Array.getElem?_eq_some_iff.1 H3.out).1
        have hz6 := H2.out.size
        clear ho6 hb6
        have x0 : W6.cell? ⟨w.heap.size, 0, none⟩ = some (.slice none 0 0) := blkc HKr6.out 0
        have f0 := blkf HKr6.out 0
        have HKf := hidd (blk_setk HKr6.out 0 (.slice (some ⟨g6, 0, none⟩) 256 256))
        have HBf := hidd (HB6.out.setCell (p := ⟨w.heap.size, 0, none⟩) (Nat.le_refl _) (.slice (some ⟨g6, 0, none⟩) 256 256))
        have q0 : (W6.setCell ⟨w.heap.size, 0, none⟩ (.slice (some ⟨g6, 0, none⟩) 256 256)).cell? ⟨w.heap.size, 0, none⟩ = some (.slice (some ⟨g6, 0, none⟩) 256 256) := by rw [blkc HKf.out 0]; rfl
        go_wp2_with fail
        refine bodyPost_ret (v := .tuple #[.agg #[.slice (some ⟨g6, 0, none⟩) 256 256], .int .i64 0]) (by simp [results, Tryd.results7, go_sem, q0]) rfl ?_
        rw [HJ.out]
        refine ⟨68, _, Or.inr rfl, rfl, ?_, HBf.out⟩
        show World.ownsRow _ _ _ _ _ (skF l k).length (zI (skF l k))
        rw [HO.out.1]
        exact own_congr (own_mono HO6.out (by omega)) (fun b hb => heap_set_other _ _ _ _ _ (by have e : g6 = b := (by simpa [Value.ownBlock] using hb); omega))
end Go.Proofs.YtboocdiilbcdcaaDoor
