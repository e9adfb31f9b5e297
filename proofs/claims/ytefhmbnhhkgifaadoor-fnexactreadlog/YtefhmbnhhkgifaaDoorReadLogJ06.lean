import Derived.Test.YtefhmbnhhkgifaaDoorReadLogJ02
namespace Go.Proofs.YtefhmbnhhkgifaaDoor
open Go Go.RowKit
set_option linter.unusedVariables false

theorem setB_step (zs : List UInt8) (k n : Nat) (hk : k < n) (hl : zs.length = n) :
    (Lib.byteCells (zs.take k) ++ List.replicate (n - k) (Value.int .u8 0)).set k (.int .u8 ((zs.getD k 0).toNat : Int)) = Lib.byteCells (zs.take (k + 1)) ++ List.replicate (n - (k + 1)) (Value.int .u8 0) := by
  obtain ⟨m, hm⟩ : ∃ m, n - k = m + 1 := ⟨n - k - 1, by omega⟩
  have hm2 : n - (k + 1) = m := by omega
  have ht : zs.take (k + 1) = zs.take k ++ [zs.getD k 0] := by rw [List.take_succ_eq_append_getElem (by omega)]; simp [hl ▸ hk]
  have e : (Lib.byteCells (zs.take k)).length = k := by rw [Lib.byteCells_length, List.length_take]; omega
  rw [hm, hm2, List.replicate_succ, ht, Lib.byteCells_append, List.set_append_right _ _ (by omega), e, Nat.sub_self]
  simp [Lib.byteCells]
theorem atB_step (zs : List UInt8) (k n : Nat) (hk : k < n) (hl : zs.length = n) :
    (Lib.byteCells (zs.take k) ++ List.replicate (n - k) (Value.int .u8 0))[k]? = some (Value.int .u8 0) := by
  have e : (Lib.byteCells (zs.take k)).length = k := by rw [Lib.byteCells_length, List.length_take]; omega
  rw [List.getElem?_append_right (by omega), e, Nat.sub_self, List.getElem?_replicate, if_pos (by omega)]

set_option maxHeartbeats 400000 in
theorem toBytes_some (b off n cap : Nat) (zs : List UInt8) (w : World) (hn : n ≤ 1048576) (hl : zs.length = n) (hc : BytesAt w b off zs) :
    Calls Tryd.prog 5 #[.slice (some ⟨b, off, none⟩) n cap] w fun e w' => e = .returned (.slice (some ⟨w.heap.size, 0, none⟩) n n) ∧
      w'.ownsRow w.heap.size 5 1 (.slice (some ⟨w.heap.size, 0, none⟩) n n) n (Lib.byteCells zs) ∧ Below w.heap.size w w' := by
  obtain ⟨i0, hi, hz0, hz1, hz2⟩ := info_parts Tryd.infoByte
  have Hc := hidd hc
  clear hc
  go_enter Tryd.func5, Tryd.ntmps5
  go_wp2_with (at_make; refine wpList_make_full _ rfl _ _ 22 rfl w.heap.size 5 i0 (.int .u8 0) 1 Tryd.underlying22 hi hz0 hz1 _ _ _ _ n rfl rfl (by omega) (by omega) ?b2 ?b3 (Nat.le_refl _) ?_)
  case b2 => rw [hz2]; omega
  case b3 => unfold maxLen; omega
  intro w0 hown0 hgrow0
  go_wp2
  go_loopw [4] (fun i wr => ∃ k : Nat, k ≤ n ∧ i = .int .i64 k ∧ wr.ownsRow w.heap.size 5 1 (.slice (some ⟨w.heap.size, 0, none⟩) n n) n (Lib.byteCells (zs.take k) ++ List.replicate (n - k) (Value.int .u8 0)) ∧ Below w.heap.size w wr) (fun i _ => n - (intOf i).toNat)
  case atStart =>
    refine ⟨0, Nat.zero_le _, rfl, ?_, (Below.refl _ _).grown hgrow0 (Nat.le_refl _) (fun k h => by cases h)⟩
    have e0 : (madeCells #[Value.int .u8 0] n).toList = List.replicate n (Value.int .u8 0) := toList_madeCells_one _ _
    have h1 := hown0
    rw [e0] at h1
    simpa [Lib.byteCells] using h1
  case round =>
    obtain ⟨k, hk, rfl, hown, hbel⟩ := hrel
    by_cases hlt : k < n
    · have g0 := Hc.out k (by omega)
      have g1 := (hbel.cell (p := ⟨b, off + k, none⟩) (cell_lt g0)).trans g0
      have f1 := hown.frozenAt k
      have q1 : wr.cell? ⟨w.heap.size, k, none⟩ = some (.int .u8 0) := by
        rw [hown.cellAt k (by omega)]
        exact atB_step zs k n hlt hl
      have HO : Hid (wr.ownsRow w.heap.size 5 1 (.slice (some ⟨w.heap.size, 0, none⟩) n n) n (Lib.byteCells (zs.take k) ++ List.replicate (n - k) (Value.int .u8 0))) := hown
      have Hst := hidd (setB_step zs k n hlt hl)
      generalize zs.getD k 0 = cb at *
      clear hown hown0 hgrow0 g0
      go_wp2
      go_roundw
      case rel =>
        have st := (HO.out.stored k (.int .u8 (cb.toNat : Int))).1
        rw [Hst.out] at st
        exact ⟨k + 1, by omega, by go_num, st, hbel.setCell (p := ⟨w.heap.size, k, none⟩) (Nat.le_refl _) _⟩
      case measure => simp [intOf]; omega
    · have HK : Hid (k = n) := by show k = n; omega
      go_wp2
      go_ret
      obtain rfl := HK.out
      refine ⟨rfl, ?_, hbel⟩
      rw [List.take_of_length_le (by omega)] at hown
      simpa using hown
set_option maxHeartbeats 400000 in
theorem toBytes_none (ao : Option Addr) (cap : Nat) (w : World) :
    Calls Tryd.prog 5 #[.slice ao 0 cap] w fun e w' => e = .returned (.slice (some ⟨w.heap.size, 0, none⟩) 0 0) ∧
      w'.ownsRow w.heap.size 5 1 (.slice (some ⟨w.heap.size, 0, none⟩) 0 0) 0 (Lib.byteCells []) ∧ Below w.heap.size w w' := by
  obtain ⟨i0, hi, hz0, hz1, hz2⟩ := info_parts Tryd.infoByte
  go_enter Tryd.func5, Tryd.ntmps5
  go_wp2_with (at_make; refine wpList_make_full _ rfl _ _ 22 rfl w.heap.size 5 i0 (.int .u8 0) 1 Tryd.underlying22 hi hz0 hz1 _ _ _ _ 0 rfl rfl (by rfl) (by rfl) ?b2 ?b3 (Nat.le_refl _) ?_)
  case b2 => rw [hz2]; omega
  case b3 => unfold maxLen; omega
  intro w0 hown0 hgrow0
  go_wp2
  refine wp_loop_rounds 1 ?_
  rw [rounds_succ]
  go_wp2
  go_ret
  refine ⟨rfl, ?_, (Below.refl _ _).grown hgrow0 (Nat.le_refl _) (fun k h => by cases h)⟩
  have e0 : (madeCells #[Value.int .u8 0] 0).toList = List.replicate 0 (Value.int .u8 0) := toList_madeCells_one _ _
  rw [e0] at hown0
  exact hown0

set_option maxHeartbeats 400000 in
theorem eqBytes_same (b1 o1 c1 b2 o2 c2 n : Nat) (zs : List UInt8) (w : World) (hn : n ≤ 1099511627776) (hl : zs.length = n) (h1 : BytesAt w b1 o1 zs) (h2 : BytesAt w b2 o2 zs) :
    Calls Tryd.prog 8 #[.slice (some ⟨b1, o1, none⟩) n c1, .slice (some ⟨b2, o2, none⟩) n c2] w fun e w' => e = .returned (.bool true) ∧ ∃ m, w' = w.drewN m := by
  have H1 := hidd h1
  have H2 := hidd h2
  clear h1 h2
  go_enter Tryd.func8, Tryd.ntmps8
  go_wp2
  go_loopw [5] (fun i wr => ∃ k : Nat, k ≤ n ∧ i = .int .i64 k ∧ ∃ m, wr = w.drewN m) (fun i _ => n - (intOf i).toNat)
  case atStart => exact ⟨0, Nat.zero_le _, rfl, 0, rfl⟩
  case round =>
    obtain ⟨k, hk, rfl, m, rfl⟩ := hrel
    by_cases hlt : k < n
    · have g1 := H1.out k (by omega)
      have g2 := H2.out k (by omega)
      go_wp2
      go_quiet (fail)
      go_wp2
      go_roundw
      case rel => exact ⟨k + 1, by omega, by go_num, _, rfl⟩
      case measure => simp [intOf]; omega
    · go_wp2
      go_ret
      exact ⟨rfl, m, rfl⟩

def marksB (c : Int) (n : Nat) : List Value := (List.range n).map fun (i : Nat) => Value.int .u8 ((c + (i : Int)) % 256)
theorem marksB_length (c : Int) (n : Nat) : (marksB c n).length = n := by simp [marksB]
theorem marksB_at (c : Int) (n j : Nat) (h : j < n) : (marksB c n)[j]? = some (Value.int .u8 ((c + (j : Int)) % 256)) := by simp [marksB, h]
theorem marksB_set (c : Int) (k n : Nat) (xs : List Value) (hl : xs.length = n) (hk : k < n) : (marksB c k ++ xs.drop k).set k (.int .u8 ((c + (k : Int)) % 256)) = marksB c (k + 1) ++ xs.drop (k + 1) := by
  have e : (marksB c k).length = k := marksB_length c k
  rw [List.set_append_right _ _ (by omega), e, Nat.sub_self]
  have hd : xs.drop k = xs[k] :: xs.drop (k + 1) := by rw [List.drop_eq_getElem_cons (by omega)]
  rw [hd, List.set_cons_zero]
  simp [marksB, List.range_succ]
set_option maxHeartbeats 400000 in
theorem markBytes_some (base g n cap : Nat) (xs : List Value) (c : Int) (w : World) (hn : n ≤ 1099511627776) (h0 : 0 ≤ c) (h1 : c ≤ 1099511627776) (hown : w.ownsRow base 5 1 (.slice (some ⟨g, 0, none⟩) n cap) n xs) :
    Calls Tryd.prog 9 #[.slice (some ⟨g, 0, none⟩) n cap, .int .i64 c] w fun e w' => e = .returned (.int .i64 (c + (n : Int))) ∧
      w'.ownsRow base 5 1 (.slice (some ⟨g, 0, none⟩) n cap) n (marksB c n) ∧ w.grownBy w' (some g) := by
  have hl : xs.length = n := by have := hown.1; omega
  have HO := hidd hown
  clear hown
  go_enter Tryd.func9, Tryd.ntmps9
  go_wp2
  go_loopw [1, 5] (fun cv i wr => ∃ k : Nat, k ≤ n ∧ i = .int .i64 k ∧ cv = .int .i64 (c + (k : Int)) ∧ wr.ownsRow base 5 1 (.slice (some ⟨g, 0, none⟩) n cap) n (marksB c k ++ xs.drop k) ∧ w.grownBy wr (some g)) (fun _ i _ => n - (intOf i).toNat)
  case atStart => exact ⟨0, Nat.zero_le _, rfl, by simp, by simpa [marksB] using HO.out, grown_refl _ _⟩
  case round =>
    obtain ⟨k, hk, rfl, rfl, hown, hgr⟩ := hrel
    by_cases hlt : k < n
    · have f1 := hown.frozenAt k
      have hex : ∃ u, wr.cell? ⟨g, k, none⟩ = some u := by
        rw [hown.cellAt k (by omega)]
        have hlen : k < (marksB c k ++ xs.drop k).length := by rw [List.length_append, marksB_length, List.length_drop]; omega
        exact ⟨_, List.getElem?_eq_getElem hlen⟩
      obtain ⟨u, q1⟩ := hex
      have st := hidd (hown.stored k (.int .u8 ((c + (k : Int)) % 256)))
      clear hown
      go_wp2
      go_roundw
      case rel =>
        refine ⟨k + 1, by omega, by go_num, by go_num, ?_, grown_trans hgr st.out.2⟩
        have h := st.out.1
        rw [marksB_set c k n xs hl hlt] at h
        exact h
      case measure => simp [intOf]; omega
    · have HK : Hid (k = n) := by show k = n; omega
      go_wp2
      go_ret
      obtain rfl := HK.out
      refine ⟨rfl, ?_, hgr⟩
      rw [List.drop_of_length_le (by omega), List.append_nil] at hown
      exact hown


set_option maxHeartbeats 400000 in
theorem eqBytes_zero (a1 a2 : Option Addr) (c1 c2 : Nat) (w : World) :
    Calls Tryd.prog 8 #[.slice a1 0 c1, .slice a2 0 c2] w fun e w' => e = .returned (.bool true) ∧ w' = w := by
  go_enter Tryd.func8, Tryd.ntmps8
  go_wp2
  refine wp_loop_rounds 1 ?_
  rw [rounds_succ]
  go_wp2
  go_ret
  exact ⟨rfl, rfl⟩
set_option maxHeartbeats 400000 in
theorem markBytes_zero (a1 : Option Addr) (c1 : Nat) (c : Int) (w : World) :
    Calls Tryd.prog 9 #[.slice a1 0 c1, .int .i64 c] w fun e w' => e = .returned (.int .i64 c) ∧ w' = w := by
  go_enter Tryd.func9, Tryd.ntmps9
  go_wp2
  refine wp_loop_rounds 1 ?_
  rw [rounds_succ]
  go_wp2
  go_ret
  exact ⟨rfl, rfl⟩

theorem eqBytes_own (b1 b2 n : Nat) (v1 v2 : Value) (zs : List UInt8) (w : World) (hn : n ≤ 1099511627776) (hl : zs.length = n)
    (h1 : w.ownsRow b1 5 1 v1 n (Lib.byteCells zs)) (h2 : w.ownsRow b2 5 1 v2 n (Lib.byteCells zs)) :
    Calls Tryd.prog 8 #[v1, v2] w fun e w' => e = .returned (.bool true) ∧ ∃ m, w' = w.drewN m := by
  rcases own_cases h1 with ⟨rfl, rfl⟩ | ⟨g1, c1, rfl, _, _⟩
  · rcases own_cases h2 with ⟨rfl, _⟩ | ⟨g2, c2, rfl, _, _⟩
    · exact (eqBytes_zero _ _ _ _ w).mono fun e w' h => ⟨h.1, 0, h.2⟩
    · exact (eqBytes_zero _ _ _ _ w).mono fun e w' h => ⟨h.1, 0, h.2⟩
  · rcases own_cases h2 with ⟨rfl, rfl⟩ | ⟨g2, c2, rfl, _, _⟩
    · exact (eqBytes_zero _ _ _ _ w).mono fun e w' h => ⟨h.1, 0, h.2⟩
    · exact eqBytes_same g1 0 c1 g2 0 c2 n zs w hn hl (own_bytes h1 hl) (own_bytes h2 hl)
theorem markBytes_own (base n : Nat) (v : Value) (xs : List Value) (c : Int) (w : World) (hn : n ≤ 1099511627776) (h0 : 0 ≤ c) (h1 : c ≤ 1099511627776) (h : w.ownsRow base 5 1 v n xs) :
    Calls Tryd.prog 9 #[v, .int .i64 c] w fun e w' => e = .returned (.int .i64 (c + (n : Int))) ∧ w'.ownsRow base 5 1 v n (marksB c n) ∧ w.grownBy w' v.ownBlock := by
  rcases own_cases h with ⟨rfl, rfl⟩ | ⟨g1, c1, rfl, _, _⟩
  · refine (markBytes_zero _ _ c w).mono fun e w' h' => ?_
    obtain ⟨rfl, rfl⟩ := h'
    exact ⟨by simp, World.ownsRow_nil _ _ _ _, grown_refl _ _⟩
  · exact markBytes_some base g1 n c1 xs c w hn h0 h1 h

/-- A slice of bytes that was handed in. -/
def RowB (W : World) (a0 : Option Addr) (n : Nat) (bs : List UInt8) : Prop := bs.length = n ∧ (n = 0 ∨ ∃ b off, a0 = some ⟨b, off, none⟩ ∧ BytesAt W b off bs)
theorem RowB.to {W : World} {a0 : Option Addr} {n : Nat} {bs : List UInt8} (h : RowB W a0 n bs) (cap : Nat) (w' : World) (hn : n ≤ 1048576) (hb : Below W.heap.size W w') :
    Calls Tryd.prog 5 #[.slice a0 n cap] w' fun e w2 => e = .returned (.slice (some ⟨w'.heap.size, 0, none⟩) n n) ∧ w2.ownsRow w'.heap.size 5 1 (.slice (some ⟨w'.heap.size, 0, none⟩) n n) n (Lib.byteCells bs) ∧ Below w'.heap.size w' w2 := by
  obtain ⟨hl, rfl | ⟨b, off, rfl, hc⟩⟩ := h
  · have : bs = [] := List.length_eq_zero_iff.1 hl
    subst this
    exact toBytes_none a0 cap w'
  · exact toBytes_some b off n cap bs w' hn hl (hc.below hb)
end Go.Proofs.YtefhmbnhhkgifaaDoor
