import Derived.Test.YtbkedgpligcicaaDictJ05
import Derived.Test.YtbkedgpligcicaaDictJ17
import Derived.Laws.ShiftsVar
namespace Go.Proofs.Ytbkedgpligcicaa
open Go Go.RowKit
set_option linter.unusedVariables false

theorem setB_step (zs : List UInt8) (k n : Nat) (hk : k < n) (hl : zs.length = n) :
    (Lib.byteCells (zs.take k) ++ List.replicate (n - k) (Value.int .u8 0)).set k (.int .u8 ((zs.getD k 0).toNat : Int)) = Lib.byteCells (zs.take (k + 1)) ++ List.replicate (n - (k + 1)) (Value.int .u8 0) := by
  obtain ⟨m, hm⟩ : ∃ m, n - k = m + 1 := ⟨n - k - 1, by omega⟩
  have hm2 : n - (k + 1) = m := by omega
  have ht : zs.take (k + 1) = zs.take k ++ [zs.getD k 0] := by rw [List.take_succ_eq_append_getElem (by omega)]; simp [hl ▸ hk]
  have e : (Lib.byteCells (zs.take k)).length = k := by rw [Lib.byteCells_length, List.length_take]; omega
  rw [hm, hm2, List.replicate_succ, ht, Lib.byteCells_append, List.set_append_right _ _ (by omega), e, Nat.sub_self]
  simp [Lib.byteCells]
theorem atB_step (zs : List UInt8) (k n : Nat) (hk : k < n) (hl : zs.length = n) :
    (Lib.byteCells (zs.take k) ++ List.replicate (n - k) (Value.int .u8 0))[k]? = some (Value.int .u8 0) := by
  have e : (Lib.byteCells (zs.take k)).length = k := by rw [Lib.byteCells_length, List.length_take]; omega
  rw [List.getElem?_append_right (by omega), e, Nat.sub_self, List.getElem?_replicate, if_pos (by omega)]

set_option maxHeartbeats 400000 in
theorem toBytes_some (b off n cap : Nat) (zs : List UInt8) (w : World) (hn : n ≤ 1048576) (hl : zs.length = n) (hc : BytesAt w b off zs) :
    Calls Try.prog 28 #[.slice (some ⟨b, off, none⟩) n cap] w fun e w' => e = .returned (.slice (some ⟨w.heap.size, 0, none⟩) n n) ∧
      w'.ownsRow w.heap.size 5 1 (.slice (some ⟨w.heap.size, 0, none⟩) n n) n (Lib.byteCells zs) ∧ Below w.heap.size w w' := by
  obtain ⟨i0, hi, hz0, hz1, hz2⟩ := info_parts Try.infoByte
  have Hc := hidd hc
  clear hc
  go_enter Try.func28, Try.ntmps28
  go_wp2_with (at_make; refine wpList_make_full _ rfl _ _ 22 rfl w.heap.size 5 i0 (.int .u8 0) 1 Try.underlying22 hi hz0 hz1 _ _ _ _ n rfl rfl (by omega) (by omega) ?b2 ?b3 (Nat.le_refl _) ?_)
  case b2 => rw [hz2]; omega
  case b3 => unfold maxLen; omega
  intro w0 hown0 hgrow0
  go_wp2
  go_loopw [4] (fun i wr => ∃ k : Nat, k ≤ n ∧ i = .int .i64 k ∧ wr.ownsRow w.heap.size 5 1 (.slice (some ⟨w.heap.size, 0, none⟩) n n) n (Lib.byteCells (zs.take k) ++ List.replicate (n - k) (Value.int .u8 0)) ∧ Below w.heap.size w wr) (fun i _ => n - (intOf i).toNat)
  case atStart =>
    refine ⟨0, Nat.zero_le _, rfl, ?_, (Below.refl _ _).grown hgrow0 (Nat.le_refl _) (fun k h => by cases h)⟩
    have e0 : (madeCells #[Value.int .u8 0] n).toList = List.replicate n (Value.int .u8 0) := toList_madeCells_one _ _
    have h1 := hown0
    rw [e0] at h1
    simpa [Lib.byteCells] using h1
  case round =>
    obtain ⟨k, hk, rfl, hown, hbel⟩ := hrel
    by_cases hlt : k < n
    · have g0 := Hc.out k (by omega)
      have g1 := (hbel.cell (p := ⟨b, off + k, none⟩) (cell_lt g0)).trans g0
      have f1 := hown.frozenAt k
      have q1 : wr.cell? ⟨w.heap.size, k, none⟩ = some (.int .u8 0) := by
        rw [hown.cellAt k (by omega)]
        exact atB_step zs k n hlt hl
      have HO : Hid (wr.ownsRow w.heap.size 5 1 (.slice (some ⟨w.heap.size, 0, none⟩) n n) n (Lib.byteCells (zs.take k) ++ List.replicate (n - k) (Value.int .u8 0))) := hown
      have Hst := hidd (setB_step zs k n hlt hl)
      generalize zs.getD k 0 = cb at *
      clear hown hown0 hgrow0 g0
      go_wp2
      go_roundw
      case rel =>
        have st := (HO.out.stored k (.int .u8 (cb.toNat : Int))).1
        rw [Hst.out] at st
        exact ⟨k + 1, by omega, by go_num, st, hbel.setCell (p := ⟨w.heap.size, k, none⟩) (Nat.le_refl _) _⟩
      case measure => simp [intOf]; omega
    · have HK : Hid (k = n) := by show k = n; omega
      go_wp2
      go_ret
      obtain rfl := HK.out
      refine ⟨rfl, ?_, hbel⟩
      rw [List.take_of_length_le (by omega)] at hown
      simpa using hown
set_option maxHeartbeats 400000 in
theorem toBytes_none (ao : Option Addr) (cap : Nat) (w : World) :
    Calls Try.prog 28 #[.slice ao 0 cap] w fun e w' => e = .returned (.slice (some ⟨w.heap.size, 0, none⟩) 0 0) ∧
      w'.ownsRow w.heap.size 5 1 (.slice (some ⟨w.heap.size, 0, none⟩) 0 0) 0 (Lib.byteCells []) ∧ Below w.heap.size w w' := by
  obtain ⟨i0, hi, hz0, hz1, hz2⟩ := info_parts Try.infoByte
  go_enter Try.func28, Try.ntmps28
  go_wp2_with (at_make; refine wpList_make_full _ rfl _ _ 22 rfl w.heap.size 5 i0 (.int .u8 0) 1 Try.underlying22 hi hz0 hz1 _ _ _ _ 0 rfl rfl (by rfl) (by rfl) ?b2 ?b3 (Nat.le_refl _) ?_)
  case b2 => rw [hz2]; omega
  case b3 => unfold maxLen; omega
  intro w0 hown0 hgrow0
  go_wp2
  refine wp_loop_rounds 1 ?_
  rw [rounds_succ]
  go_wp2
  go_ret
  refine ⟨rfl, ?_, (Below.refl _ _).grown hgrow0 (Nat.le_refl _) (fun k h => by cases h)⟩
  have e0 : (madeCells #[Value.int .u8 0] 0).toList = List.replicate 0 (Value.int .u8 0) := toList_madeCells_one _ _
  rw [e0] at hown0
  exact hown0

set_option maxHeartbeats 400000 in
theorem eqBytes_same (b1 o1 c1 b2 o2 c2 n : Nat) (zs : List UInt8) (w : World) (hn : n ≤ 1099511627776) (hl : zs.length = n) (h1 : BytesAt w b1 o1 zs) (h2 : BytesAt w b2 o2 zs) :
    Calls Try.prog 29 #[.slice (some ⟨b1, o1, none⟩) n c1, .slice (some ⟨b2, o2, none⟩) n c2] w fun e w' => e = .returned (.bool true) ∧ ∃ m, w' = w.drewN m := by
  have H1 := hidd h1
  have H2 := hidd h2
  clear h1 h2
  go_enter Try.func29, Try.ntmps29
  go_wp2
  go_loopw [5] (fun i wr => ∃ k : Nat, k ≤ n ∧ i = .int .i64 k ∧ ∃ m, wr = w.drewN m) (fun i _ => n - (intOf i).toNat)
  case atStart => exact ⟨0, Nat.zero_le _, rfl, 0, rfl⟩
  case round =>
    obtain ⟨k, hk, rfl, m, rfl⟩ := hrel
    by_cases hlt : k < n
    · have g1 := H1.out k (by omega)
      have g2 := H2.out k (by omega)
      go_wp2
      go_quiet (fail)
      go_wp2
      go_roundw
      case rel => exact ⟨k + 1, by omega, by go_num, _, rfl⟩
      case measure => simp [intOf]; omega
    · go_wp2
      go_ret
      exact ⟨rfl, m, rfl⟩

def marksB (c : Int) (n : Nat) : List Value := (List.range n).map fun (i : Nat) => Value.int .u8 ((c + (i : Int)) % 256)
theorem marksB_length (c : Int) (n : Nat) : (marksB c n).length = n := by simp [marksB]
theorem marksB_at (c : Int) (n j : Nat) (h : j < n) : (marksB c n)[j]? = some (Value.int .u8 ((c + (j : Int)) % 256)) := by simp [marksB, h]
theorem marksB_set (c : Int) (k n : Nat) (xs : List Value) (hl : xs.length = n) (hk : k < n) : (marksB c k ++ xs.drop k).set k (.int .u8 ((c + (k : Int)) % 256)) = marksB c (k + 1) ++ xs.drop (k + 1) := by
  have e : (marksB c k).length = k := marksB_length c k
  rw [List.set_append_right _ _ (by omega), e, Nat.sub_self]
  have hd : xs.drop k = xs[k] :: xs.drop (k + 1) := by rw [List.drop_eq_getElem_cons (by omega)]
  rw [hd, List.set_cons_zero]
  simp [marksB, List.range_succ]
set_option maxHeartbeats 400000 in
theorem markBytes_some (base g n cap : Nat) (xs : List Value) (c : Int) (w : World) (hn : n ≤ 1099511627776) (h0 : 0 ≤ c) (h1 : c ≤ 1099511627776) (hown : w.ownsRow base 5 1 (.slice (some ⟨g, 0, none⟩) n cap) n xs) :
    Calls Try.prog 30 #[.slice (some ⟨g, 0, none⟩) n cap, .int .i64 c] w fun e w' => e = .returned (.int .i64 (c + (n : Int))) ∧
      w'.ownsRow base 5 1 (.slice (some ⟨g, 0, none⟩) n cap) n (marksB c n) ∧ w.grownBy w' (some g) := by
  have hl : xs.length = n := by have := hown.1; omega
  have HO := hidd hown
  clear hown
  go_enter Try.func30, Try.ntmps30
  go_wp2
  go_loopw [1, 5] (fun cv i wr => ∃ k : Nat, k ≤ n ∧ i = .int .i64 k ∧ cv = .int .i64 (c + (k : Int)) ∧ wr.ownsRow base 5 1 (.slice (some ⟨g, 0, none⟩) n cap) n (marksB c k ++ xs.drop k) ∧ w.grownBy wr (some g)) (fun _ i _ => n - (intOf i).toNat)
  case atStart => exact ⟨0, Nat.zero_le _, rfl, by simp, by simpa [marksB] using HO.out, grown_refl _ _⟩
  case round =>
    obtain ⟨k, hk, rfl, rfl, hown, hgr⟩ := hrel
    by_cases hlt : k < n
    · have f1 := hown.frozenAt k
      have hex : ∃ u, wr.cell? ⟨g, k, none⟩ = some u := by
        rw [hown.cellAt k (by omega)]
        have hlen : k < (marksB c k ++ xs.drop k).length := by rw [List.length_append, marksB_length, List.length_drop]; omega
        exact ⟨_, List.getElem?_eq_getElem hlen⟩
      obtain ⟨u, q1⟩ := hex
      have st := hidd (hown.stored k (.int .u8 ((c + (k : Int)) % 256)))
      clear hown
      go_wp2
      go_roundw
      case rel =>
        refine ⟨k + 1, by omega, by go_num, by go_num, ?_, grown_trans hgr st.out.2⟩
        have h := st.out.1
        rw [marksB_set c k n xs hl hlt] at h
        exact h
      case measure => simp [intOf]; omega
    · have HK : Hid (k = n) := by show k = n; omega
      go_wp2
      go_ret
      obtain rfl := HK.out
      refine ⟨rfl, ?_, hgr⟩
      rw [List.drop_of_length_le (by omega), List.append_nil] at hown
      exact hown


set_option maxHeartbeats 400000 in
theorem eqBytes_zero (a1 a2 : Option Addr) (c1 c2 : Nat) (w : World) :
    Calls Try.prog 29 #[.slice a1 0 c1, .slice a2 0 c2] w fun e w' => e = .returned (.bool true) ∧ w' = w := by
  go_enter Try.func29, Try.ntmps29
  go_wp2
  refine wp_loop_rounds 1 ?_
  rw [rounds_succ]
  go_wp2
  go_ret
  exact ⟨rfl, rfl⟩
set_option maxHeartbeats 400000 in
theorem markBytes_zero (a1 : Option Addr) (c1 : Nat) (c : Int) (w : World) :
    Calls Try.prog 30 #[.slice a1 0 c1, .int .i64 c] w fun e w' => e = .returned (.int .i64 c) ∧ w' = w := by
  go_enter Try.func30, Try.ntmps30
  go_wp2
  refine wp_loop_rounds 1 ?_
  rw [rounds_succ]
  go_wp2
  go_ret
  exact ⟨rfl, rfl⟩

theorem eqBytes_own (b1 b2 n : Nat) (v1 v2 : Value) (zs : List UInt8) (w : World) (hn : n ≤ 1099511627776) (hl : zs.length = n)
    (h1 : w.ownsRow b1 5 1 v1 n (Lib.byteCells zs)) (h2 : w.ownsRow b2 5 1 v2 n (Lib.byteCells zs)) :
    Calls Try.prog 29 #[v1, v2] w fun e w' => e = .returned (.bool true) ∧ ∃ m, w' = w.drewN m := by
  rcases own_cases h1 with ⟨rfl, rfl⟩ | ⟨g1, c1, rfl, _, _⟩
  · rcases own_cases h2 with ⟨rfl, _⟩ | ⟨g2, c2, rfl, _, _⟩
    · exact (eqBytes_zero _ _ _ _ w).mono fun e w' h => ⟨h.1, 0, h.2⟩
    · exact (eqBytes_zero _ _ _ _ w).mono fun e w' h => ⟨h.1, 0, h.2⟩
  · rcases own_cases h2 with ⟨rfl, rfl⟩ | ⟨g2, c2, rfl, _, _⟩
    · exact (eqBytes_zero _ _ _ _ w).mono fun e w' h => ⟨h.1, 0, h.2⟩
    · exact eqBytes_same g1 0 c1 g2 0 c2 n zs w hn hl (own_bytes h1 hl) (own_bytes h2 hl)
theorem markBytes_own (base n : Nat) (v : Value) (xs : List Value) (c : Int) (w : World) (hn : n ≤ 1099511627776) (h0 : 0 ≤ c) (h1 : c ≤ 1099511627776) (h : w.ownsRow base 5 1 v n xs) :
    Calls Try.prog 30 #[v, .int .i64 c] w fun e w' => e = .returned (.int .i64 (c + (n : Int))) ∧ w'.ownsRow base 5 1 v n (marksB c n) ∧ w.grownBy w' v.ownBlock := by
  rcases own_cases h with ⟨rfl, rfl⟩ | ⟨g1, c1, rfl, _, _⟩
  · refine (markBytes_zero _ _ c w).mono fun e w' h' => ?_
    obtain ⟨rfl, rfl⟩ := h'
    exact ⟨by simp, World.ownsRow_nil _ _ _ _, grown_refl _ _⟩
  · exact markBytes_some base g1 n c1 xs c w hn h0 h1 h

/-- A slice of bytes that was handed in. -/
def RowB (W : World) (a0 : Option Addr) (n : Nat) (bs : List UInt8) : Prop := bs.length = n ∧ (n = 0 ∨ ∃ b off, a0 = some ⟨b, off, none⟩ ∧ BytesAt W b off bs)
theorem RowB.to {W : World} {a0 : Option Addr} {n : Nat} {bs : List UInt8} (h : RowB W a0 n bs) (cap : Nat) (w' : World) (hn : n ≤ 1048576) (hb : Below W.heap.size W w') :
    Calls Try.prog 28 #[.slice a0 n cap] w' fun e w2 => e = .returned (.slice (some ⟨w'.heap.size, 0, none⟩) n n) ∧ w2.ownsRow w'.heap.size 5 1 (.slice (some ⟨w'.heap.size, 0, none⟩) n n) n (Lib.byteCells bs) ∧ Below w'.heap.size w' w2 := by
  obtain ⟨hl, rfl | ⟨b, off, rfl, hc⟩⟩ := h
  · have : bs = [] := List.length_eq_zero_iff.1 hl
    subst this
    exact toBytes_none a0 cap w'
  · exact toBytes_some b off n cap bs w' hn hl (hc.below hb)
end Go.Proofs.Ytbkedgpligcicaa

namespace Go.Proofs.Ytbkedgpligcicaa
open Go Go.RowKit
set_option linter.unusedVariables false

theorem foldl_snoc (f : Nat → UInt8 → Nat) (h0 : Nat) (bs : List UInt8) (k : Nat) (h : k < bs.length) : (bs.take (k + 1)).foldl f h0 = f ((bs.take k).foldl f h0) (bs.getD k 0) := by
  have ht : bs.take (k + 1) = bs.take k ++ [bs.getD k 0] := by rw [List.take_succ_eq_append_getElem h]; simp [h]
  rw [ht, List.foldl_append]
  simp only [List.foldl_cons, List.foldl_nil]
theorem foldl_below (f : Nat → UInt8 → Nat) (n : Nat) (hf : ∀ h b, f h b < n) (bs : List UInt8) : ∀ h, h < n → bs.foldl f h < n := by
  induction bs with
  | nil => intro h hh; exact hh
  | cons x t ih => intro h hh; rw [List.foldl_cons]; exact ih _ (hf _ _)
def sumStep (h : Nat) (b : UInt8) : Nat := (h ^^^ b.toNat) * 16777619 % 4294967296
theorem sumStep_lt (h : Nat) (b : UInt8) : sumStep h b < 4294967296 := Nat.mod_lt _ (by omega)
def sumG (bs : List UInt8) : Nat := bs.foldl sumStep 2166136261
def sumL (bs : List UInt8) : Nat := if 1048576 < bs.length then 0 else sumG bs
theorem sumG_snoc (bs : List UInt8) (k : Nat) (h : k < bs.length) : sumG (bs.take (k + 1)) = sumStep (sumG (bs.take k)) (bs.getD k 0) := foldl_snoc sumStep _ bs k h
theorem sumG_lt (bs : List UInt8) : sumG bs < 4294967296 := foldl_below sumStep _ sumStep_lt bs _ (by omega)
theorem i64_xor_nat (a b : Nat) (ha : a < 4294967296) (hb : b < 4294967296) : bits .xor .i64 (a : Int) (b : Int) = ((a ^^^ b : Nat) : Int) := by
  have hx : a ^^^ b < 2 ^ 32 := Nat.xor_lt_two_pow (by omega) (by omega)
  show IntKind.i64.wrap ((BitVec.ofInt 64 (a : Int) ^^^ BitVec.ofInt 64 (b : Int)).toNat : Int) = _
  rw [BitVec.toNat_xor, ofInt_u64 a (by omega), ofInt_u64 b (by omega), IntKind.wrap_i64]
  omega

set_option maxHeartbeats 1000000 in
theorem specSum_any (b off cap : Nat) (bs : List UInt8) (w : World) (hc : BytesAt w b off bs) :
    Calls Try.prog 94 #[.slice (some ⟨b, off, none⟩) bs.length cap] w fun e w' => e = .returned (.int .i64 (sumL bs : Nat)) ∧ w' = w := by
  have Hc := hidd hc
  clear hc
  by_cases hlong : 1048576 < bs.length
  · have hlz : (1048576 : Int) < (bs.length : Int) := by omega
    have HE : Hid (sumL bs = 0) := by show _ = _; rw [sumL, if_pos hlong]
    go_enter Try.func94, Try.ntmps94
    go_wp2
    go_ret
    rw [HE.out]
    exact ⟨rfl, rfl⟩
  · have hlz : ¬ (1048576 : Int) < (bs.length : Int) := by omega
    have HE : Hid (sumL bs = sumG bs) := by show _ = _; rw [sumL, if_neg hlong]
    go_enter Try.func94, Try.ntmps94
    go_wp2
    go_loop [3, 4] (fun hv i => ∃ k : Nat, k ≤ bs.length ∧ i = .int .i64 k ∧ hv = .int .i64 ((sumG (bs.take k) : Nat) : Int)) (fun _ i => bs.length - (intOf i).toNat)
    case atStart => exact ⟨0, Nat.zero_le _, rfl, rfl⟩
    case round =>
      obtain ⟨k, hk, rfl, rfl⟩ := hrel
      by_cases hlt : k < bs.length
      · have g1 := Hc.out k hlt
        have hc256 : (bs.getD k 0).toNat < 256 := UInt8.toNat_lt _
        have Hs := hidd (sumG_snoc bs k hlt)
        have hlt32 := sumG_lt (bs.take k)
        generalize bs.getD k 0 = cb at *
        generalize sumG (bs.take k) = h at *
        obtain ⟨X, hX, hX32⟩ : ∃ X : Nat, bits .xor .i64 (h : Int) (cb.toNat : Int) = (X : Int) ∧ X < 4294967296 ∧ sumStep h cb = X * 16777619 % 4294967296 := by
          exact ⟨h ^^^ cb.toNat, i64_xor_nat h cb.toNat hlt32 (by omega), Nat.xor_lt_two_pow (n := 32) (by omega) (by omega), rfl⟩
        have HX := hidd hX32.2
        have hX1 := hX32.1
        clear hX32
        go_wp2
        go_round
        case rel => exact ⟨k + 1, by omega, by go_num, by rw [Hs.out, HX.out]; go_num⟩
        case measure => simp [intOf]; omega
      · have HK : Hid (bs.take k = bs) := by show _ = _; rw [List.take_of_length_le (by omega)]
        rw [HK.out]
        go_wp2
        go_ret
        rw [HE.out]
        exact ⟨rfl, rfl⟩
set_option maxHeartbeats 1000000 in
theorem implSum_any (b off cap : Nat) (bs : List UInt8) (w : World) (hc : BytesAt w b off bs) :
    Calls Try.prog 80 #[.slice (some ⟨b, off, none⟩) bs.length cap] w fun e w' => e = .returned (.int .i64 (sumL bs : Nat)) ∧ w' = w := by
  have Hc := hidd hc
  clear hc
  by_cases hlong : 1048576 < bs.length
  · have hlz : (1048576 : Int) < (bs.length : Int) := by omega
    have HE : Hid (sumL bs = 0) := by show _ = _; rw [sumL, if_pos hlong]
    go_enter Try.func80, Try.ntmps80
    go_wp2
    go_ret
    rw [HE.out]
    exact ⟨rfl, rfl⟩
  · have hlz : ¬ (1048576 : Int) < (bs.length : Int) := by omega
    have HE : Hid (sumL bs = sumG bs) := by show _ = _; rw [sumL, if_neg hlong]
    go_enter Try.func80, Try.ntmps80
    go_wp2
    go_loop [3, 11] (fun hv i => ∃ k : Nat, k ≤ bs.length ∧ i = .int .i64 k ∧ hv = .int .u32 ((sumG (bs.take k) : Nat) : Int)) (fun _ i => bs.length - (intOf i).toNat)
    case atStart => exact ⟨0, Nat.zero_le _, rfl, rfl⟩
    case round =>
      obtain ⟨k, hk, rfl, rfl⟩ := hrel
      by_cases hlt : k < bs.length
      · have g1 := Hc.out k hlt
        have hc256 : (bs.getD k 0).toNat < 256 := UInt8.toNat_lt _
        have Hs := hidd (sumG_snoc bs k hlt)
        have hlt32 := sumG_lt (bs.take k)
        generalize bs.getD k 0 = cb at *
        generalize sumG (bs.take k) = h at *
        obtain ⟨X, hX, hX32⟩ : ∃ X : Nat, bits .xor .u32 (h : Int) (cb.toNat : Int) = (X : Int) ∧ X < 4294967296 ∧ sumStep h cb = X * 16777619 % 4294967296 :=
          ⟨h ^^^ cb.toNat, u32_xor_nat h cb.toNat hlt32 (by omega), Nat.xor_lt_two_pow (n := 32) (by omega) (by omega), rfl⟩
        have HX := hidd hX32.2
        have hX1 := hX32.1
        clear hX32
        go_wp2
        go_round
        case rel => exact ⟨k + 1, by omega, by go_num, by rw [Hs.out, HX.out]; go_num⟩
        case measure => simp [intOf]; omega
      · have HK : Hid (bs.take k = bs) := by show _ = _; rw [List.take_of_length_le (by omega)]
        have hlt32 := sumG_lt bs
        rw [HK.out]
        go_wp2
        go_ret
        rw [HE.out]
        exact ⟨rfl, rfl⟩
end Go.Proofs.Ytbkedgpligcicaa

namespace Go.Proofs.Ytbkedgpligcicaa
open Go Go.RowKit
set_option linter.unusedVariables false

/-! The bytes of a dictionary, in plain words. -/
def arB (a : Ar) : List UInt8 := UInt8.ofNat a.1.toNat :: putL a.2.1.toNat
def stB (s : St) : List UInt8 := putL (2 * s.2.length + (if s.1 then 1 else 0)) ++ s.2.flatMap arB
def dB (S : List St) : List UInt8 := putL S.length ++ S.flatMap stB
def four (n : Nat) : List UInt8 := [UInt8.ofNat (n / 16777216), UInt8.ofNat (n / 65536 % 256), UInt8.ofNat (n / 256 % 256), UInt8.ofNat (n % 256)]
def bytesD (S : List St) : List UInt8 := dB S ++ four (sumL (dB S))
/-- What DictBytes tells. -/
def bytesO (S : List St) (d : Option (List Tx)) : List UInt8 × Int := match d with
  | none => ([], 1)
  | some _ => (bytesD S, 0)
theorem sumL_lt (bs : List UInt8) : sumL bs < 4294967296 := by
  unfold sumL
  split
  · omega
  · exact sumG_lt bs
/-- A text so far. -/
def preB (S : List St) (k : Nat) : List UInt8 := putL S.length ++ (S.take k).flatMap stB
def midB (S : List St) (k : Nat) (l : List Ar) (n j : Nat) : List UInt8 := preB S k ++ putL n ++ (l.take j).flatMap arB
theorem preB_zero (S : List St) : preB S 0 = putL S.length := by simp [preB]
theorem preB_all (S : List St) : preB S S.length = dB S := by simp [preB, dB]
theorem take_st {S : List St} {k : Nat} (h : k < S.length) : S.take (k + 1) = S.take k ++ [S.getD k st0] := by
  rw [List.take_succ_eq_append_getElem h]; simp [h]
theorem take_ar {l : List Ar} {k : Nat} (h : k < l.length) : l.take (k + 1) = l.take k ++ [l.getD k ar0] := by
  rw [List.take_succ_eq_append_getElem h]; simp [h]
theorem midB_zero (S : List St) (k : Nat) (l : List Ar) (n : Nat) : midB S k l n 0 = preB S k ++ putL n := by simp [midB]
theorem midB_step {S : List St} {k : Nat} {l : List Ar} {n j : Nat} (h : j < l.length) : midB S k l n (j + 1) = midB S k l n j ++ [UInt8.ofNat (l.getD j ar0).1.toNat] ++ putL (l.getD j ar0).2.1.toNat := by
  unfold midB
  rw [take_ar h]
  simp [arB, List.append_assoc]
theorem midB_all {S : List St} {k : Nat} (h : k < S.length) : midB S k (S.getD k st0).2 (2 * (S.getD k st0).2.length + (if (S.getD k st0).1 then 1 else 0)) (S.getD k st0).2.length = preB S (k + 1) := by
  unfold midB preB
  rw [take_st h]
  simp [stB, List.append_assoc]
theorem arB_len (a : Ar) (h : a.2.1.toNat < 4611686018427387904) : (arB a).length ≤ 10 := by
  have := putL_length9 a.2.1.toNat h
  simp [arB]; omega
theorem arcs_len : ∀ {l : List Ar}, (∀ a ∈ l, a.2.1.toNat < 4611686018427387904) → (l.flatMap arB).length ≤ l.length * 10
  | [], _ => by simp
  | a :: t, h => by
    have h1 := arB_len a (h a (by simp))
    have h2 := arcs_len (l := t) (fun x hx => h x (by simp [hx]))
    simp only [List.flatMap_cons, List.length_append, List.length_cons]
    omega
theorem stB_len (s : St) (h0 : s.2.length ≤ 256) (h : ∀ a ∈ s.2, a.2.1.toNat < 4611686018427387904) : (stB s).length ≤ 2600 := by
  have h1 := arcs_len h
  have h2 := putL_length9 (2 * s.2.length + (if s.1 then 1 else 0)) (by split <;> omega)
  simp only [stB, List.length_append]
  omega
theorem sts_len : ∀ {S : List St}, (∀ s ∈ S, s.2.length ≤ 256 ∧ ∀ a ∈ s.2, a.2.1.toNat < 4611686018427387904) → (S.flatMap stB).length ≤ S.length * 2600
  | [], _ => by simp
  | s :: t, h => by
    have h1 := stB_len s (h s (by simp)).1 (h s (by simp)).2
    have h2 := sts_len (S := t) (fun x hx => h x (by simp [hx]))
    simp only [List.flatMap_cons, List.length_append, List.length_cons]
    omega
/-- The states of a dictionary are small. -/
theorem IsDict.small {c : Int} {S : List St} {ts : List Tx} (h : IsDict (c, S) ts) : Fine S := by
  by_cases e : ts = []
  · subst e
    have e2 := (Prod.mk.inj (IsDict.none.1 h)).2
    intro i hi
    rw [e2] at hi ⊢
    have : i = 0 := by simp at hi; omega
    subst this
    exact ⟨by simp [arcsAt], fun a ha => by simp [arcsAt] at ha⟩
  · exact h.fine e
theorem fine_sts {S : List St} (h : Fine S) (hn : S.length ≤ 16384) : ∀ s ∈ S, s.2.length ≤ 256 ∧ ∀ a ∈ s.2, a.2.1.toNat < 4611686018427387904 := fun s hs => by
  obtain ⟨i, hi, rfl⟩ := List.getElem_of_mem hs
  have e : arcsAt S i = S[i].2 := by simp [arcsAt, hi]
  have := h i hi
  rw [e] at this
  exact ⟨this.1, fun a ha => by have := (this.2 a ha).2.2.2; omega⟩
theorem preB_len {S : List St} (h : Fine S) (hn : S.length ≤ 16384) (k : Nat) : (preB S k).length ≤ 50000000 := by
  have h1 := sts_len (S := S.take k) (fun s hs => fine_sts h hn s (List.mem_of_mem_take hs))
  have h2 := putL_length9 S.length (by omega)
  have h3 : (S.take k).length ≤ S.length := by rw [List.length_take]; exact Nat.min_le_right _ _
  have h4 : (S.take k).length * 2600 ≤ 16384 * 2600 := Nat.mul_le_mul_right _ (by omega)
  simp only [preB, List.length_append]
  omega
theorem midB_len {S : List St} (h : Fine S) (hn : S.length ≤ 16384) {k : Nat} {l : List Ar} (hl : l.length ≤ 256) (ha : ∀ a ∈ l, a.2.1.toNat < 4611686018427387904) {n : Nat} (hn2 : n < 4611686018427387904) (j : Nat) : (midB S k l n j).length ≤ 60000000 := by
  have h1 := preB_len h hn k
  have h2 := arcs_len (l := l.take j) (fun a hx => ha a (List.mem_of_mem_take hx))
  have h3 : (l.take j).length ≤ l.length := by rw [List.length_take]; exact Nat.min_le_right _ _
  have h4 := putL_length9 n hn2
  simp only [midB, List.length_append]
  omega
end Go.Proofs.Ytbkedgpligcicaa

namespace Go.Proofs.Ytbkedgpligcicaa
open Go Go.RowKit
set_option linter.unusedVariables false

/-! The states that stand in bytes, in plain words: n is the bound of an arc's aim. -/
def bareA (a : Ar) : Ar := (a.1, a.2.1, 0)
def bareS (s : St) : St := (s.1, s.2.map bareA)
def rdArcs (n : Nat) : Nat → List UInt8 → Option (List Ar × List UInt8)
  | 0, bs => some ([], bs)
  | _ + 1, [] => none
  | k + 1, b :: bs => (getL bs).bind fun p => if p.1 < n then (rdArcs n k (bs.drop p.2)).map fun q => (((b.toNat : Int), (p.1 : Int), (0 : Int)) :: q.1, q.2) else none
def rdSt (n : Nat) (bs : List UInt8) : Option (St × List UInt8) :=
  (getL bs).bind fun p => if p.1 ≤ 513 then (rdArcs n (p.1 / 2) (bs.drop p.2)).map fun q => ((p.1 % 2 == 1, q.1), q.2) else none
def rdSts (n : Nat) : Nat → List UInt8 → Option (List St × List UInt8)
  | 0, bs => some ([], bs)
  | k + 1, bs => (rdSt n bs).bind fun p => (rdSts n k p.2).map fun q => (p.1 :: q.1, q.2)
/-- An arc's numbers as bytes tell them. -/
def FitA (n : Nat) (a : Ar) : Prop := 0 ≤ a.1 ∧ a.1 < 256 ∧ 0 ≤ a.2.1 ∧ a.2.1 < (n : Int)
def FitS (n : Nat) (s : St) : Prop := s.2.length ≤ 256 ∧ ∀ a ∈ s.2, FitA n a

theorem getL_split {bs : List UInt8} {v s : Nat} (h : getL bs = some (v, s)) : bs = putL v ++ bs.drop s ∧ v < 4611686018427387904 := by
  obtain ⟨h1, h2, h3⟩ := getL_inv h
  refine ⟨?_, h2⟩
  rw [← h1]; exact (List.take_append_drop s bs).symm
theorem arB_bare (a : Ar) : arB (bareA a) = arB a := rfl
theorem arcs_bare (l : List Ar) : (l.map bareA).flatMap arB = l.flatMap arB := by
  induction l with
  | nil => rfl
  | cons a l ih => simp only [List.map_cons, List.flatMap_cons, ih, arB_bare]
theorem stB_bare (s : St) : stB (bareS s) = stB s := by
  unfold stB bareS
  simp only [List.length_map, arcs_bare]
theorem sts_bare (S : List St) : (S.map bareS).flatMap stB = S.flatMap stB := by
  induction S with
  | nil => rfl
  | cons a l ih => simp only [List.map_cons, List.flatMap_cons, ih, stB_bare]
theorem dB_bare (S : List St) : dB (S.map bareS) = dB S := by
  unfold dB
  simp only [List.length_map, sts_bare]
theorem bytesD_bare (S : List St) : bytesD (S.map bareS) = bytesD S := by
  unfold bytesD
  simp only [dB_bare]

theorem rdArcs_inv (n : Nat) : ∀ (k : Nat) (bs : List UInt8) (l : List Ar) (r : List UInt8), rdArcs n k bs = some (l, r) → bs = l.flatMap arB ++ r ∧ l.length = k ∧ (∀ a ∈ l, FitA n a) ∧ l.map bareA = l := by
  intro k
  induction k with
  | zero =>
    intro bs l r h
    simp only [rdArcs, Option.some.injEq, Prod.mk.injEq] at h
    obtain ⟨rfl, rfl⟩ := h
    simp
  | succ k ih =>
    intro bs l r h
    cases bs with
    | nil => simp [rdArcs] at h
    | cons b bs =>
      rw [rdArcs] at h
      cases hg : getL bs with
      | none => rw [hg] at h; simp at h
      | some p =>
        obtain ⟨v, s⟩ := p
        rw [hg, Option.bind_some] at h
        by_cases hv : v < n
        · rw [if_pos hv] at h
          cases hr : rdArcs n k (bs.drop s) with
          | none => rw [hr] at h; simp at h
          | some q =>
            obtain ⟨l', r'⟩ := q
            rw [hr] at h
            simp only [Option.map_some, Option.some.injEq, Prod.mk.injEq] at h
            obtain ⟨rfl, rfl⟩ := h
            obtain ⟨e1, e2, e3, e4⟩ := ih _ _ _ hr
            obtain ⟨g1, g2⟩ := getL_split hg
            have hb : b.toNat < 256 := UInt8.toNat_lt b
            refine ⟨?_, by simp [e2], ?_, ?_⟩
            · rw [List.flatMap_cons, List.append_assoc, ← e1]
              show b :: bs = UInt8.ofNat ((b.toNat : Int).toNat) :: (putL (v : Int).toNat ++ bs.drop s)
              rw [Int.toNat_natCast, Int.toNat_natCast, ← g1, UInt8.ofNat_toNat]
            · intro a ha
              rcases List.mem_cons.mp ha with rfl | ha
              · exact ⟨by show (0 : Int) ≤ (b.toNat : Int); omega, by show (b.toNat : Int) < 256; omega, by show (0 : Int) ≤ (v : Int); omega, by show (v : Int) < (n : Int); omega⟩
              · exact e3 a ha
            · rw [List.map_cons, e4]; rfl
        · rw [if_neg hv] at h; simp at h

theorem rdArcs_put (n : Nat) (hn : n ≤ 4611686018427387904) : ∀ (l : List Ar) (r : List UInt8), (∀ a ∈ l, FitA n a) → rdArcs n l.length (l.flatMap arB ++ r) = some (l.map bareA, r) := by
  intro l
  induction l with
  | nil => intro r h; rfl
  | cons a l ih =>
    intro r h
    obtain ⟨h1, h2, h3, h4⟩ := h a List.mem_cons_self
    have e : (a :: l).flatMap arB ++ r = UInt8.ofNat a.1.toNat :: (putL a.2.1.toNat ++ (l.flatMap arB ++ r)) := by
      rw [List.flatMap_cons, List.append_assoc]; rfl
    rw [e, List.length_cons, rdArcs, getL_put _ _ (by omega), Option.bind_some, if_pos (by show a.2.1.toNat < n; omega)]
    have ed : (putL a.2.1.toNat ++ (l.flatMap arB ++ r)).drop (putL a.2.1.toNat).length = l.flatMap arB ++ r := List.drop_left
    rw [ed, ih r fun x hx => h x (List.mem_cons_of_mem _ hx), Option.map_some, ofNat_toNatP _ (by omega), Int.toNat_of_nonneg h1, Int.toNat_of_nonneg h3]
    rfl

theorem rdSt_inv {n : Nat} {bs : List UInt8} {s : St} {r : List UInt8} (h : rdSt n bs = some (s, r)) : bs = stB s ++ r ∧ FitS n s ∧ bareS s = s := by
  unfold rdSt at h
  cases hg : getL bs with
  | none => rw [hg] at h; simp at h
  | some p =>
    obtain ⟨v, z⟩ := p
    rw [hg, Option.bind_some] at h
    by_cases hv : v ≤ 513
    · rw [if_pos hv] at h
      cases hr : rdArcs n (v / 2) (bs.drop z) with
      | none => rw [hr] at h; simp at h
      | some q =>
        obtain ⟨l, r'⟩ := q
        rw [hr] at h
        simp only [Option.map_some, Option.some.injEq, Prod.mk.injEq] at h
        obtain ⟨rfl, rfl⟩ := h
        obtain ⟨e1, e2, e3, e4⟩ := rdArcs_inv n _ _ _ _ hr
        obtain ⟨g1, g2⟩ := getL_split hg
        refine ⟨?_, ⟨by show l.length ≤ 256; omega, e3⟩, ?_⟩
        · unfold stB
          rw [List.append_assoc]
          show bs = putL (2 * l.length + if (v % 2 == 1) = true then 1 else 0) ++ (l.flatMap arB ++ r')
          rw [← e1, e2]
          have : (2 * (v / 2) + if (v % 2 == 1) = true then 1 else 0) = v := by
            by_cases h1 : v % 2 = 1
            · rw [if_pos (by simp [h1])]; omega
            · rw [if_neg (by simp [h1])]; omega
          rw [this]; exact g1
        · show (_, l.map bareA) = _
          rw [e4]
    · rw [if_neg hv] at h; simp at h

theorem rdSt_put {n : Nat} (hn : n ≤ 4611686018427387904) {s : St} (r : List UInt8) (h : FitS n s) : rdSt n (stB s ++ r) = some (bareS s, r) := by
  obtain ⟨f, l⟩ := s
  obtain ⟨h1, h2⟩ := h
  have h1 : l.length ≤ 256 := h1
  unfold rdSt stB
  obtain ⟨m, hm⟩ : ∃ m : Nat, m = 2 * l.length + (if f = true then 1 else 0) := ⟨_, rfl⟩
  have hm1 : m ≤ 513 := by rw [hm]; split <;> omega
  have hm2 : m / 2 = l.length := by rw [hm]; split <;> omega
  have hm3 : (m % 2 == 1) = f := by
    rw [hm]; cases f
    · simp
    · simp
  show ((getL (putL (2 * l.length + if f = true then 1 else 0) ++ l.flatMap arB ++ r)).bind _) = _
  rw [← hm, List.append_assoc, getL_put _ _ (by omega), Option.bind_some, if_pos hm1]
  have ed : (putL m ++ (l.flatMap arB ++ r)).drop (putL m).length = l.flatMap arB ++ r := List.drop_left
  rw [ed, hm2, rdArcs_put n hn l r h2, Option.map_some, hm3]
  rfl

theorem rdSts_inv (n : Nat) : ∀ (k : Nat) (bs : List UInt8) (S : List St) (r : List UInt8), rdSts n k bs = some (S, r) → bs = S.flatMap stB ++ r ∧ S.length = k ∧ (∀ s ∈ S, FitS n s) ∧ S.map bareS = S := by
  intro k
  induction k with
  | zero =>
    intro bs S r h
    simp only [rdSts, Option.some.injEq, Prod.mk.injEq] at h
    obtain ⟨rfl, rfl⟩ := h
    simp
  | succ k ih =>
    intro bs S r h
    rw [rdSts] at h
    cases hs : rdSt n bs with
    | none => rw [hs] at h; simp at h
    | some p =>
      obtain ⟨s, r1⟩ := p
      rw [hs, Option.bind_some] at h
      cases hr : rdSts n k r1 with
      | none => rw [hr] at h; simp at h
      | some q =>
        obtain ⟨S', r'⟩ := q
        rw [hr] at h
        simp only [Option.map_some, Option.some.injEq, Prod.mk.injEq] at h
        obtain ⟨rfl, rfl⟩ := h
        obtain ⟨e1, e2, e3, e4⟩ := ih _ _ _ hr
        obtain ⟨g1, g2, g3⟩ := rdSt_inv hs
        refine ⟨by rw [List.flatMap_cons, List.append_assoc, ← e1]; exact g1, by simp [e2], ?_, by rw [List.map_cons, e4, g3]⟩
        intro x hx
        rcases List.mem_cons.mp hx with rfl | hx
        · exact g2
        · exact e3 x hx

theorem rdSts_put (n : Nat) (hn : n ≤ 4611686018427387904) : ∀ (S : List St) (r : List UInt8), (∀ s ∈ S, FitS n s) → rdSts n S.length (S.flatMap stB ++ r) = some (S.map bareS, r) := by
  intro S
  induction S with
  | nil => intro r h; rfl
  | cons s S ih =>
    intro r h
    rw [List.flatMap_cons, List.append_assoc, List.length_cons, rdSts, rdSt_put hn _ (h s List.mem_cons_self), Option.bind_some, ih r fun x hx => h x (List.mem_cons_of_mem _ hx)]
    rfl

/-- What impl's statesOf tells. -/
def rdI (bs : List UInt8) : Option (List St) :=
  if 4 ≤ bs.length ∧ four (sumL (bs.take (bs.length - 4))) = bs.drop (bs.length - 4) then
    (getL (bs.take (bs.length - 4))).bind fun p => if p.1 ≤ 16384 then (rdSts 16384 p.1 ((bs.take (bs.length - 4)).drop p.2)).bind fun q => if q.2 = [] then some q.1 else none else none
  else none
/-- What spec's l04Parse tells. -/
def rdP (bs : List UInt8) : Option (List St) :=
  (getL bs).bind fun p => if 1 ≤ p.1 ∧ p.1 ≤ 16384 then (rdSts p.1 p.1 (bs.drop p.2)).map Prod.fst else none

theorem four_len (n : Nat) : (four n).length = 4 := rfl
theorem rdI_inv {bs : List UInt8} {S : List St} (h : rdI bs = some S) : bytesD S = bs ∧ S.length ≤ 16384 ∧ (∀ s ∈ S, FitS 16384 s) ∧ S.map bareS = S := by
  unfold rdI at h
  by_cases hc : 4 ≤ bs.length ∧ four (sumL (bs.take (bs.length - 4))) = bs.drop (bs.length - 4)
  · rw [if_pos hc] at h
    obtain ⟨c1, c2⟩ := hc
    obtain ⟨m, hm⟩ : ∃ m, m = bs.take (bs.length - 4) := ⟨_, rfl⟩
    rw [← hm] at h c2
    cases hg : getL m with
    | none => rw [hg] at h; simp at h
    | some p =>
      obtain ⟨v, z⟩ := p
      rw [hg, Option.bind_some] at h
      by_cases hv : v ≤ 16384
      · rw [if_pos hv] at h
        cases hr : rdSts 16384 v (m.drop z) with
        | none => rw [hr] at h; simp at h
        | some q =>
          obtain ⟨S', r⟩ := q
          rw [hr, Option.bind_some] at h
          by_cases hq : r = []
          · rw [if_pos hq] at h
            have h := Option.some.inj h
            subst hq
            have h : S' = S := h
            subst h
            obtain ⟨e1, e2, e3, e4⟩ := rdSts_inv _ _ _ _ _ hr
            obtain ⟨g1, g2⟩ := getL_split hg
            have hd : dB S' = m := by
              unfold dB
              rw [List.append_nil] at e1
              rw [e2, ← e1]
              exact g1.symm
            refine ⟨?_, by omega, e3, e4⟩
            unfold bytesD
            rw [hd, c2, hm]
            exact List.take_append_drop _ _
          · rw [if_neg hq] at h; simp at h
      · rw [if_neg hv] at h; simp at h
  · rw [if_neg hc] at h; simp at h

theorem rdI_put {S : List St} (hl : S.length ≤ 16384) (hf : ∀ s ∈ S, FitS 16384 s) : rdI (bytesD S) = some (S.map bareS) := by
  have e1 : (bytesD S).length - 4 = (dB S).length := by unfold bytesD; rw [List.length_append, four_len]; omega
  have e2 : (bytesD S).take (dB S).length = dB S := List.take_left
  have e3 : (bytesD S).drop (dB S).length = four (sumL (dB S)) := List.drop_left
  unfold rdI
  rw [e1, e2, e3, if_pos ⟨by unfold bytesD; rw [List.length_append, four_len]; omega, rfl⟩]
  have e4 : getL (dB S) = some (S.length, (putL S.length).length) := getL_put _ _ (by omega)
  have e5 : (dB S).drop (putL S.length).length = S.flatMap stB ++ [] := by rw [List.append_nil]; exact List.drop_left
  rw [e4, Option.bind_some, if_pos hl, e5, rdSts_put 16384 (by omega) S [] hf, Option.bind_some, if_pos rfl]

theorem rdP_put {S : List St} (h1 : 1 ≤ S.length) (hl : S.length ≤ 16384) (hf : ∀ s ∈ S, FitS S.length s) : rdP (bytesD S) = some (S.map bareS) := by
  have e0 : bytesD S = putL S.length ++ (S.flatMap stB ++ four (sumL (dB S))) := by
    show dB S ++ _ = _
    rw [← List.append_assoc]; rfl
  unfold rdP
  have e5 : (putL S.length ++ (S.flatMap stB ++ four (sumL (dB S)))).drop (putL S.length).length = S.flatMap stB ++ four (sumL (dB S)) := List.drop_left
  rw [e0, getL_put _ _ (by omega), Option.bind_some, if_pos ⟨h1, hl⟩, e5, rdSts_put S.length (by omega) S _ hf]
  rfl
theorem rdP_inv {bs : List UInt8} {S : List St} (h : rdP bs = some S) : 1 ≤ S.length ∧ S.length ≤ 16384 ∧ (∀ s ∈ S, FitS S.length s) ∧ S.map bareS = S ∧ dB S <+: bs := by
  unfold rdP at h
  cases hg : getL bs with
  | none => rw [hg] at h; simp at h
  | some p =>
    obtain ⟨v, z⟩ := p
    rw [hg, Option.bind_some] at h
    by_cases hv : 1 ≤ v ∧ v ≤ 16384
    · rw [if_pos hv] at h
      cases hr : rdSts v v (bs.drop z) with
      | none => rw [hr] at h; simp at h
      | some q =>
        obtain ⟨S', r⟩ := q
        rw [hr, Option.map_some] at h
        have h := Option.some.inj h
        have h : S' = S := h
        subst h
        obtain ⟨e1, e2, e3, e4⟩ := rdSts_inv _ _ _ _ _ hr
        obtain ⟨g1, g2⟩ := getL_split hg
        refine ⟨by omega, by omega, by rw [e2]; exact e3, e4, r, ?_⟩
        unfold dB
        rw [e2, List.append_assoc, ← e1]
        exact g1.symm
    · rw [if_neg hv] at h; simp at h
end Go.Proofs.Ytbkedgpligcicaa

namespace Go.Proofs.Ytbkedgpligcicaa
open Go Go.RowKit
set_option linter.unusedVariables false

/-! Bytes and the dictionary that they tell of: there is at most one. -/
theorem getD_bare (S : List St) (i : Nat) : (S.map bareS).getD i st0 = bareS (S.getD i st0) := by
  simp only [List.getD_eq_getElem?_getD, List.getElem?_map]
  cases S[i]? with
  | none => rfl
  | some s => rfl
theorem langF_bare (S : List St) : ∀ (f i : Nat), langF (S.map bareS) f i = langF S f i := by
  intro f
  induction f with
  | zero => intro i; rfl
  | succ f ih =>
    intro i
    rw [langF, langF, getD_bare]
    show joinT (S.getD i st0).1 (((S.getD i st0).2.map bareA).map _) = _
    rw [List.map_map]
    congr 1
    exact List.map_congr_left fun a _ => by
      show (a.1.toNat, langF (S.map bareS) f a.2.1.toNat) = _
      rw [ih]
theorem IsDict.n1 {c : Int} {S : List St} {ts : List Tx} (h : IsDict (c, S) ts) : 1 ≤ S.length := by
  by_cases e : ts = []
  · subst e
    rw [(Prod.mk.inj (IsDict.none.1 h)).2]; exact Nat.le_refl 1
  · exact (h.checks e).n1
theorem IsDict.n2 {c : Int} {S : List St} {ts : List Tx} (h : IsDict (c, S) ts) : S.length ≤ 16384 := by
  by_cases e : ts = []
  · subst e
    rw [(Prod.mk.inj (IsDict.none.1 h)).2]; show 1 ≤ 16384; omega
  · exact (h.checks e).n2
theorem IsDict.fit {c : Int} {S : List St} {ts : List Tx} (h : IsDict (c, S) ts) : ∀ s ∈ S, FitS S.length s := by
  intro s hs
  obtain ⟨i, hi, rfl⟩ := List.getElem_of_mem hs
  have e : arcsAt S i = S[i].2 := by simp [arcsAt, hi]
  have h1 := h.small i hi
  rw [e] at h1
  refine ⟨h1.1, fun a ha => ?_⟩
  have h2 := h1.2 a ha
  unfold ArcIn at h2
  refine ⟨?_, ?_, ?_, ?_⟩ <;> omega
theorem FitS.le {n m : Nat} {s : St} (h : FitS n s) (hm : n ≤ m) : FitS m s := ⟨h.1, fun a ha => by
  have := h.2 a ha
  exact ⟨this.1, this.2.1, this.2.2.1, by have := this.2.2.2; omega⟩⟩
/-- What both readers tell of the bytes of a dictionary. -/
theorem IsDict.rdI {c : Int} {S : List St} {ts : List Tx} (h : IsDict (c, S) ts) : rdI (bytesD S) = some (S.map bareS) := rdI_put h.n2 fun s hs => (h.fit s hs).le h.n2
theorem IsDict.rdP {c : Int} {S : List St} {ts : List Tx} (h : IsDict (c, S) ts) : rdP (bytesD S) = some (S.map bareS) := rdP_put h.n1 h.n2 h.fit
/-- Two dictionaries that are told by the same states, Aheads aside, are one. -/
theorem IsDict.bareEq {d e : Int × List St} {ts us : List Tx} (h : IsDict d ts) (h' : IsDict e us) (hb : d.2.map bareS = e.2.map bareS) : d = e ∧ ts = us := by
  have e1 : ts = us := by
    rw [← h.langIs, ← h'.langIs, ← langF_bare d.2, ← langF_bare e.2, hb]
  subst e1
  exact ⟨h.fun h', rfl⟩
theorem IsDict.bytesEq {d e : Int × List St} {ts us : List Tx} (h : IsDict d ts) (h' : IsDict e us) (hb : bytesD d.2 = bytesD e.2) : d = e ∧ ts = us := by
  refine h.bareEq h' ?_
  have h1 := IsDict.rdI (c := d.1) (S := d.2) h
  have h2 := IsDict.rdI (c := e.1) (S := e.2) h'
  rw [hb, h2] at h1
  exact (Option.some.inj h1).symm

/-- What ReadDict tells: the one dictionary of these bytes, or that there is none. -/
noncomputable def readD (bs : List UInt8) : Option (Int × List St) := @dite _ (∃ d ts, IsDict d ts ∧ bytesD d.2 = bs) (Classical.propDecidable _) (fun h => some h.choose) (fun _ => none)
theorem readD_some {bs : List UInt8} {d : Int × List St} {ts : List Tx} (h : IsDict d ts) (hb : bytesD d.2 = bs) : readD bs = some d := by
  have hex : ∃ d ts, IsDict d ts ∧ bytesD d.2 = bs := ⟨d, ts, h, hb⟩
  unfold readD
  rw [dif_pos hex]
  obtain ⟨us, g1, g2⟩ := hex.choose_spec
  rw [(g1.bytesEq h (g2.trans hb.symm)).1]
theorem readD_none {bs : List UInt8} (h : ∀ d ts, IsDict d ts → bytesD d.2 ≠ bs) : readD bs = none := by
  unfold readD
  rw [dif_neg]
  rintro ⟨d, ts, h1, h2⟩
  exact h d ts h1 h2
/-- The spec's way: read, tell the terms, build anew, compare. -/
theorem readD_spec_none {bs : List UInt8} (h : rdP bs = none) : readD bs = none := readD_none fun d ts hd hb => by
  have := IsDict.rdP (c := d.1) (S := d.2) hd
  rw [hb, h] at this
  cases this
theorem readD_spec {bs : List UInt8} {S : List St} (h : rdP bs = some S) {d : Int × List St} {ts : List Tx} (hd : IsDict d ts) (hts : langF S 65 0 = ts) : readD bs = if bytesD d.2 = bs then some d else none := by
  by_cases hb : bytesD d.2 = bs
  · rw [if_pos hb]; exact readD_some hd hb
  · rw [if_neg hb]
    refine readD_none fun e us he hbe => ?_
    have h1 := IsDict.rdP (c := e.1) (S := e.2) he
    rw [hbe, h] at h1
    have h1 := Option.some.inj h1
    have e1 : ts = us := by rw [← hts, ← he.langIs, h1, langF_bare]
    subst e1
    have := hd.fun he
    subst this
    exact hb hbe
/-- When the terms that the states tell are no good terms, there is no dictionary. -/
theorem readD_spec_bad {bs : List UInt8} {S : List St} (h : rdP bs = some S) (hbad : ∀ d, ¬ IsDict d (langF S 65 0)) : readD bs = none := readD_none fun e us he hbe => by
  have h1 := IsDict.rdP (c := e.1) (S := e.2) he
  rw [hbe, h] at h1
  have h1 := Option.some.inj h1
  refine hbad e ?_
  rw [h1, langF_bare, he.langIs]
  exact he
/-- The program's way: read, check, tell the Aheads. -/
theorem readD_impl_none {bs : List UInt8} (h : rdI bs = none) : readD bs = none := readD_none fun d ts hd hb => by
  have := IsDict.rdI (c := d.1) (S := d.2) hd
  rw [hb, h] at this
  cases this
theorem readD_impl {bs : List UInt8} {S : List St} (h : rdI bs = some S) {d : Int × List St} {ts : List Tx} (hd : IsDict d ts) (hS : d.2.map bareS = S) : readD bs = some d := by
  refine readD_some hd ?_
  rw [← bytesD_bare, hS]
  exact (rdI_inv h).1
theorem readD_impl_bad {bs : List UInt8} {S : List St} (h : rdI bs = some S) (hbad : ∀ d ts, IsDict d ts → d.2.map bareS ≠ S) : readD bs = none := readD_none fun e us he hbe => by
  have h1 := IsDict.rdI (c := e.1) (S := e.2) he
  rw [hbe, h] at h1
  exact hbad e us he (Option.some.inj h1).symm
end Go.Proofs.Ytbkedgpligcicaa

namespace Go.Proofs.Ytbkedgpligcicaa
open Go Go.RowKit
set_option linter.unusedVariables false

def getV (bs : List UInt8) : Int := match getL bs with | none => 0 | some (v, _) => (v : Int)
def getS (bs : List UInt8) : Int := match getL bs with | none => 0 | some (_, s) => (s : Int)
theorem getVS_none {bs : List UInt8} (h : getL bs = none) : getV bs = 0 ∧ getS bs = 0 := by simp [getV, getS, h]
theorem getVS_some {bs : List UInt8} {v s : Nat} (h : getL bs = some (v, s)) : getV bs = v ∧ getS bs = s := by simp [getV, getS, h]

theorem pow128_2 (k : Nat) : 128 ^ k = 2 ^ (7 * k) := by rw [Nat.pow_mul]
theorem lead_step (y k : Nat) (c : UInt8) (hy : y < 128 ^ k) (hk : k ≤ 8) : ∃ m s y2 : Nat, bits .and .u8 (c.toNat : Int) 127 = (m : Int) ∧ IntKind.u64.wrap (m : Int) = (m : Int) ∧ IntKind.u64.wrap ((m : Int) * 2 ^ (7 * k)) = (s : Int) ∧ bits .or .u64 (y : Int) (s : Int) = (y2 : Int) ∧
    m = c.toNat % 128 ∧ y2 = y + c.toNat % 128 * 128 ^ k ∧ y2 < 128 ^ (k + 1) ∧ y2 < 9223372036854775808 := by
  have hc : c.toNat < 256 := c.toNat_lt
  have hP : 128 ^ k ≤ 128 ^ 8 := Nat.pow_le_pow_right (by omega) hk
  have hP8 : (128 : Nat) ^ 8 = 72057594037927936 := by decide
  have hm : c.toNat % 128 < 128 := Nat.mod_lt _ (by omega)
  have hs : c.toNat % 128 * 128 ^ k ≤ 127 * 128 ^ k := Nat.mul_le_mul_right _ (by omega)
  have e2 : ((c.toNat % 128 : Nat) : Int) * 2 ^ (7 * k) = ((c.toNat % 128 * 128 ^ k : Nat) : Int) := by
    rw [pow128_2, Int.natCast_mul, Int.natCast_pow]; rfl
  refine ⟨c.toNat % 128, c.toNat % 128 * 128 ^ k, y + c.toNat % 128 * 128 ^ k, ?_, ?_, ?_, ?_, rfl, rfl, ?_, ?_⟩
  · have := u8_and_nat c.toNat 127 hc (by omega)
    rw [nat_mask7] at this; exact this
  · exact IntWalk.u64_in _ ⟨by omega, by omega⟩
  · rw [e2]; exact IntWalk.u64_in _ ⟨by omega, by omega⟩
  · rw [u64_or_nat y _ (by omega) (by omega), Nat.or_comm, nat_join (7 * k) _ y (by rw [pow128_2]; exact Nat.mul_mod_left _ _) (by rw [← pow128_2]; exact hy), Nat.add_comm]
  · rw [Nat.pow_succ]; omega
  · omega

set_option maxHeartbeats 1000000 in
set_option maxRecDepth 100000 in
theorem leadingInt_some (b off cap : Nat) (bs : List UInt8) (w : World) (hl : bs.length ≤ 1048576) (hc : BytesAt w b off bs) :
    Calls Try.prog 100 #[.slice (some ⟨b, off, none⟩) bs.length cap] w fun e w' => e = .returned (.tuple #[.int .i64 (getV bs), .int .i64 (getS bs)]) ∧ w' = w := by
  have Hc := hidd hc
  clear hc
  go_enter Try.func100, Try.ntmps100
  go_wp2
  go_loop [4, 10] (fun sv i => ∃ k y : Nat, k ≤ bs.length ∧ k ≤ 9 ∧ i = .int .i64 k ∧ sv = .int .u64 (y : Int) ∧ y < 128 ^ k ∧ (k = 9 → getL bs = none) ∧ (k < 9 → getL bs = getGo (bs.drop k) k y)) (fun _ i => bs.length - (intOf i).toNat)
  case atStart => exact ⟨0, 0, Nat.zero_le _, by omega, rfl, rfl, by omega, by omega, fun _ => rfl⟩
  case round =>
    obtain ⟨k, y, hk, hk9, rfl, rfl, hy, h9, hget⟩ := hrel
    by_cases hlt : k < bs.length
    · have g1 := Hc.out k hlt
      have hc256 : (bs.getD k 0).toNat < 256 := UInt8.toNat_lt _
      have Hd : Hid (bs.drop k = bs.getD k 0 :: bs.drop (k + 1)) := by show _ = _; rw [List.drop_eq_getElem_cons hlt]; simp [hlt]
      generalize hcc : bs.getD k 0 = cb at *
      clear hcc
      by_cases hk8 : k = 9
      · have HN := hidd (h9 hk8)
        subst hk8
        clear h9 hget
        go_wp2
        go_ret2
        obtain ⟨e1, e2⟩ := getVS_none HN.out
        rw [e1, e2]; exact ⟨rfl, rfl⟩
      · have HG := hidd (hget (by omega))
        clear h9 hget
        have hsh : ¬ (62 : Int) ≤ 7 * (k : Int) := by omega
        obtain ⟨m, sh, y2, hm1, hm2, hm3, hm4, hm, hy2, hy3, hy4⟩ := lead_step y k cb hy (by omega)
        have Hm := hidd hm
        have Hy2 := hidd hy2
        have Hy3 := hidd hy3
        have Hsome : Hid (¬ 128 ≤ cb.toNat → ¬ 4611686018427387903 < y2 → (k = 0 ∨ 0 < cb.toNat) → getL bs = some (y2, k + 1)) := by
          intro h1 h2 h3
          rw [HG.out, Hd.out, getGo, if_neg, if_pos (by omega), if_pos h3, hy2]
          rintro (h | ⟨rfl, h⟩)
          · omega
          · have : 64 * 128 ^ 8 ≤ cb.toNat % 128 * 128 ^ 8 := Nat.mul_le_mul_right _ (by omega)
            omega
        have Hnone : Hid (¬ 128 ≤ cb.toNat → (4611686018427387903 < y2 ∨ (cb.toNat = 0 ∧ 0 < k)) → getL bs = none) := by
          intro h1 h2
          rw [HG.out, Hd.out, getGo]
          rcases h2 with h2 | ⟨h2, h3⟩
          · rw [if_pos]
            refine Or.inr ?_
            by_cases h8 : k = 8
            · subst h8; exact ⟨rfl, by omega⟩
            · have hP : 128 ^ (k + 1) ≤ 128 ^ 8 := Nat.pow_le_pow_right (by omega) (by omega)
              omega
          · by_cases h8 : 9 ≤ k ∨ k = 8 ∧ 63 < cb.toNat
            · rw [if_pos h8]
            · rw [if_neg h8, if_pos (by omega), if_neg (by omega)]
        have Hnext : Hid (128 ≤ cb.toNat → (k + 1 = 9 → getL bs = none) ∧ (k + 1 < 9 → getL bs = getGo (bs.drop (k + 1)) (k + 1) y2)) := by
          intro h1
          constructor
          · intro h8; rw [HG.out, Hd.out, getGo, if_pos (Or.inr ⟨by omega, by omega⟩)]
          · intro h8; rw [HG.out, Hd.out, getGo, if_neg (by omega), if_neg (by omega), hy2]
        clear hm hy2 hy3 Hd HG hy
        by_cases hbig : 128 ≤ cb.toNat
        · have hbz : (127 : Int) < (cb.toNat : Int) := by omega
          go_wp2
          go_round
          case rel => exact ⟨k + 1, y2, by omega, by omega, by go_num, rfl, Hy3.out, (Hnext.out hbig).1, (Hnext.out hbig).2⟩
          case measure => simp [intOf]; omega
        · have hbz : ¬ (127 : Int) < (cb.toNat : Int) := by omega
          by_cases hmax : 4611686018427387903 < y2
          · have hmz : (4611686018427387903 : Int) < (y2 : Int) := by omega
            have HE := hidd (getVS_none (Hnone.out hbig (Or.inl hmax)))
            skip
            go_wp2
            go_ret2
            rw [HE.out.1, HE.out.2]
            exact ⟨rfl, rfl⟩
          · have hmz : ¬ (4611686018427387903 : Int) < (y2 : Int) := by omega
            by_cases hc0 : cb.toNat = 0
            · have hcz : (cb.toNat : Int) = 0 := by omega
              have hm0 : bits .and .u8 0 127 = (m : Int) := by rw [← hcz]; exact hm1
              clear hm1
              by_cases hk0 : k = 0
              · have hkz : ¬ (0 : Int) < (k : Int) := by omega
                have HE := hidd (getVS_some (Hsome.out hbig hmax (Or.inl hk0)))
                clear hk0
                clear hc0
                go_wp2
                go_ret2
                rw [HE.out.1, HE.out.2]
                exact ⟨by simp, rfl⟩
              · have hkz : (0 : Int) < (k : Int) := by omega
                have HE := hidd (getVS_none (Hnone.out hbig (Or.inr ⟨hc0, by omega⟩)))
                clear hc0
                go_wp2
                go_ret2
                rw [HE.out.1, HE.out.2]
                exact ⟨rfl, rfl⟩
            · have hcz : ¬ (cb.toNat : Int) = 0 := by omega
              have HE := hidd (getVS_some (Hsome.out hbig hmax (Or.inr (by omega))))
              clear hc0
              go_wp2
              go_ret2
              rw [HE.out.1, HE.out.2]
              exact ⟨by simp, rfl⟩
    · have HN : Hid (getL bs = none) := by
        show _ = _
        by_cases hk8 : k = 9
        · exact h9 hk8
        · rw [hget (by omega), List.drop_of_length_le (by omega)]; rfl
      have HE := hidd (getVS_none HN.out)
      clear h9 hget
      go_wp2
      go_ret2
      rw [HE.out.1, HE.out.2]
      exact ⟨rfl, rfl⟩
set_option maxHeartbeats 400000 in
set_option maxRecDepth 100000 in
theorem leadingInt_none (ao : Option Addr) (cap : Nat) (w : World) :
    Calls Try.prog 100 #[.slice ao 0 cap] w fun e w' => e = .returned (.tuple #[.int .i64 (getV []), .int .i64 (getS [])]) ∧ w' = w := by
  obtain ⟨e1, e2⟩ := getVS_none (bs := []) rfl
  rw [e1, e2]
  go_enter Try.func100, Try.ntmps100
  go_wp2
  refine wp_loop_rounds 1 ?_
  rw [rounds_succ]
  go_wp2
  go_ret2
  exact ⟨rfl, rfl⟩
end Go.Proofs.Ytbkedgpligcicaa

namespace Go.Proofs.Ytbkedgpligcicaa
open Go Go.RowKit
set_option linter.unusedVariables false
set_option maxRecDepth 100000

/-- A reader as it lies in a world: bs is what is left, sh that it came short. -/
structure RdrAt (w0 W : World) (B : Nat) (bs : List UInt8) (sh : Bool) : Prop where
  old : Below w0.heap.size w0 W
  new : w0.heap.size ≤ B
  box : ∃ v, W.heap[B]? = some (.cells #[v, .bool sh] 143) ∧ ((bs = [] ∧ ∃ a c, v = .slice a 0 c) ∨ ∃ b off c, v = .slice (some ⟨b, off, none⟩) bs.length c ∧ bs.length ≤ c ∧ b < w0.heap.size ∧ BytesAt w0 b off bs)
/-- What a call on the reader leaves as it was. -/
def RdFr (B : Nat) (W W' : World) : Prop := W.heap.size ≤ W'.heap.size ∧ ∀ b, b < W.heap.size → b ≠ B → W'.heap[b]? = W.heap[b]?
theorem RdFr.refl (B : Nat) (W : World) : RdFr B W W := ⟨Nat.le_refl _, fun _ _ _ => rfl⟩
theorem RdFr.trans {B : Nat} {W W' W'' : World} (h : RdFr B W W') (h' : RdFr B W' W'') : RdFr B W W'' := ⟨Nat.le_trans h.1 h'.1, fun b hb hne => (h'.2 b (Nat.lt_of_lt_of_le hb h.1) hne).trans (h.2 b hb hne)⟩
theorem RdFr.set (B k : Nat) (u : Value) (W : World) : RdFr B W (W.setCell ⟨B, k, none⟩ u) := ⟨by simp, fun b hb hne => heap_set_other W B k u b hne⟩
/-- A byte, in plain words. -/
def nextR (bs : List UInt8) (sh : Bool) : Int × List UInt8 × Bool := match bs with
  | [] => (0, [], true)
  | x :: r => ((x.toNat : Int), r, sh)
def numR (most : Nat) (bs : List UInt8) (sh : Bool) : Int × List UInt8 × Bool := match getL bs with
  | none => (0, [], true)
  | some (v, s) => if v ≤ most then ((v : Int), bs.drop s, sh) else (0, [], true)

set_option maxHeartbeats 1000000 in
theorem stop_any {w0 W : World} {B : Nat} {bs : List UInt8} {sh : Bool} (h : RdrAt w0 W B bs sh) :
    Calls Try.prog 101 #[.pointer (some ⟨B, 0, none⟩)] W fun e w' => e = .returned (.int .i64 0) ∧ RdrAt w0 w' B [] true ∧ RdFr B W w' := by
  obtain ⟨v, hb, _⟩ := h.box
  have x0 := blkc hb 0
  have x1 := blkc hb 1
  have f0 := blkf hb 0
  have f1 := blkf hb 1
  have HP : Hid (RdrAt w0 ((W.setCell ⟨B, 0, none⟩ (.slice none 0 0)).setCell ⟨B, 1, none⟩ (.bool true)) B [] true ∧ RdFr B W ((W.setCell ⟨B, 0, none⟩ (.slice none 0 0)).setCell ⟨B, 1, none⟩ (.bool true))) :=
    ⟨⟨(h.old.setCell (p := ⟨B, 0, none⟩) h.new _).setCell (p := ⟨B, 1, none⟩) h.new _, h.new, .slice none 0 0, blk_set2 hb, Or.inl ⟨rfl, none, 0, rfl⟩⟩, (RdFr.set B 0 _ W).trans (RdFr.set B 1 _ _)⟩
  clear h hb
  go_enter Try.func101, Try.ntmps101
  go_wp2
  go_ret
  exact ⟨rfl, HP.out⟩

theorem BytesAt.dropR {w : World} {b off : Nat} {bs : List UInt8} (h : BytesAt w b off bs) (k : Nat) : BytesAt w b (off + k) (bs.drop k) := by
  intro t ht
  rw [List.length_drop] at ht
  have := h (k + t) (by omega)
  rw [show off + k + t = off + (k + t) by omega, this]
  simp [List.getD_eq_getElem?_getD, List.getElem?_drop]
theorem RdrAt.cut {w0 W : World} {B : Nat} {bs : List UInt8} {sh : Bool} {b off c : Nat} (h : RdrAt w0 W B bs sh) (hb : W.heap[B]? = some (.cells #[.slice (some ⟨b, off, none⟩) bs.length c, .bool sh] 143)) (hc : bs.length ≤ c) (hlt : b < w0.heap.size) (hB : BytesAt w0 b off bs) (k n : Nat) (hk : k + n = bs.length) (a' : Option Addr) (c' : Nat) (hq : n = 0 ∨ (a' = some ⟨b, off + k, none⟩ ∧ c' = c - k)) :
    RdrAt w0 (W.setCell ⟨B, 0, none⟩ (.slice a' n c')) B (bs.drop k) sh ∧ RdFr B W (W.setCell ⟨B, 0, none⟩ (.slice a' n c')) := by
  refine ⟨⟨h.old.setCell (p := ⟨B, 0, none⟩) h.new _, h.new, .slice a' n c', (blk_setk hb 0 _).trans (by simp), ?_⟩, RdFr.set B 0 _ W⟩
  rcases hq with rfl | ⟨rfl, rfl⟩
  · exact Or.inl ⟨List.drop_of_length_le (by omega), a', c', rfl⟩
  · exact Or.inr ⟨b, off + k, c - k, by rw [List.length_drop, show bs.length - k = n by omega], by rw [List.length_drop]; omega, hlt, hB.dropR k⟩

set_option maxHeartbeats 1000000 in
theorem next_any {w0 W : World} {B : Nat} {bs : List UInt8} {sh : Bool} (hn : bs.length ≤ 1048576) (h : RdrAt w0 W B bs sh) :
    Calls Try.prog 102 #[.pointer (some ⟨B, 0, none⟩)] W fun e w' => e = .returned (.int .i64 (nextR bs sh).1) ∧ RdrAt w0 w' B (nextR bs sh).2.1 (nextR bs sh).2.2 ∧ RdFr B W w' := by
  obtain ⟨v, hb, hv⟩ := h.box
  have HH := hidd h
  cases bs with
  | nil =>
    obtain ⟨a, c, rfl⟩ : ∃ a c, v = .slice a 0 c := by
      rcases hv with ⟨_, a, c, e⟩ | ⟨b, off, c, e, _⟩
      · exact ⟨a, c, e⟩
      · exact ⟨_, c, e⟩
    have x0 := blkc hb 0
    clear h hb hv
    go_enter Try.func102, Try.ntmps102
    go_wp2_with fail
    refine (stop_any HH.out).mono ?_
    rintro e w2 ⟨rfl, h2, h3⟩
    have HP := hidd (And.intro h2 h3)
    clear h2 h3
    go_wp2_with fail
    go_ret
    exact ⟨rfl, HP.out⟩
  | cons x r =>
    obtain ⟨b, off, c, rfl, hc, hlt, hB⟩ := hv.resolve_left (fun h => by simp at h)
    have x0 := blkc hb 0
    have f0 := blkf hb 0
    have c0 : W.cell? ⟨b, off, none⟩ = some (.int .u8 (x.toNat : Int)) := (h.old.cell (p := ⟨b, off, none⟩) hlt).trans (by have := hB 0 (by simp); simpa using this)
    have HP := hidd (h.cut hb hc hlt hB 1 r.length (by simp; omega))
    have hx : x.toNat < 256 := UInt8.toNat_lt x
    obtain ⟨n, hnl⟩ : ∃ n, r.length = n := ⟨_, rfl⟩
    simp only [List.length_cons, hnl] at x0 HP hc hn
    clear h hb hB
    go_enter Try.func102, Try.ntmps102
    go_wp2_with fail
    all_goals
      go_ret
      exact ⟨rfl, HP.out _ _ (by first | exact Or.inr ⟨rfl, rfl⟩ | (left; omega))⟩
end Go.Proofs.Ytbkedgpligcicaa
