import Derived.Test.YtpdiaddgialanaaGreatDoorLogJ19
namespace Go.Proofs.YtpdiaddgialanaaGreatDoor
open Go Go.RowKit
set_option linter.unusedVariables false
set_option maxRecDepth 100000

/-- A row of bytes that grew by B. -/
def AppP (base : Nat) (M B : List UInt8) (w : World) (e : Ending) (w' : World) : Prop := ∃ v', e = .returned v' ∧ w'.ownsRow base 5 1 v' (M ++ B).length (Lib.byteCells (M ++ B)) ∧ Below base w w' ∧ KeepB w w'
theorem appInt_any (base : Nat) (v : Value) (M : List UInt8) (x : Nat) (w : World) (hx : x < 4611686018427387904) (hn : M.length ≤ 1000000000000) (hb : base ≤ w.heap.size) (h : w.ownsRow base 5 1 v M.length (Lib.byteCells M)) :
    Calls Tryz.prog 40 #[v, .int .i64 (x : Int)] w (AppP base M (putL x) w) := by
  refine (appendInt_any base M.length v M x w hx rfl (by omega) hb h).mono ?_
  rintro e w' ⟨v', rfl, h1, h2, _⟩
  exact ⟨v', rfl, by rw [List.length_append]; exact h1, (Below.refl _ _).grown h2.1 hb (fun b hb' => (own_blk h hb').1), .grown h h2.1⟩
set_option maxHeartbeats 2000000 in
theorem appText_any (base : Nat) (v : Value) (M t : List UInt8) (w : World) (ht : t.length ≤ 65536) (hn : M.length ≤ 900000000000) (hb : base ≤ w.heap.size) (h : w.ownsRow base 5 1 v M.length (Lib.byteCells M)) :
    Calls Tryz.prog 21 #[v, .string ⟨t.toArray⟩] w (AppP base M (txB t) w) := by
  obtain ⟨i1, hi1, hy0, hy1, hy2⟩ := info_parts Tryz.infoByte
  have HI := hidd (appInt_any base v M t.length w (by omega) (by omega) hb h)
  have hsl : (⟨t.toArray⟩ : ByteArray).size = t.length := by rw [Lib.size_eq]
  have hpl := putL_length9 t.length (by omega)
  have HE : Hid (M ++ txB t = M ++ putL t.length ++ t) := by show _ = _; simp [txB]
  have hL : (M ++ putL t.length).length ≤ 900000000009 := by rw [List.length_append]; omega
  clear h
  unfold AppP at HI
  generalize M ++ putL t.length = N at HE hL HI
  go_enter Tryz.func21, Tryz.ntmps21
  go_wp2_with fail
  refine HI.out.mono ?_
  rintro e w1 ⟨v1, rfl, ho1, hb1, hk1⟩
  have HO1 := hidd ho1
  have HB1 := hidd hb1
  have HK1 := hidd hk1
  have hz1 := hb1.size
  clear ho1 hb1 hk1 HI
  dsimp only
  go_wp2_with (at_builtin; refine Lib.wpList_append_own_string _ rfl _ _ 22 9 rfl base 5 i1 Tryz.underlying22 Tryz.underlying9 hi1 hy0 hy1 hy2 v1 N.length (Lib.byteCells N) rfl HO1.out ⟨t.toArray⟩ rfl (by rw [hsl]; unfold maxLen; omega) (by rw [hsl]; omega) (by omega) ?_)
  intro v7 w7 hown7 hgrow7 hnil7
  rw [strCells_eq] at hown7
  have HO7 := hidd hown7
  have HB7 : Hid (Below base w w7) := HB1.out.grown hgrow7 (by omega) (fun k hk => (own_blk HO1.out hk).1)
  have HK7 : Hid (KeepB w w7) := HK1.out.trans (.grown HO1.out hgrow7)
  clear hown7 hgrow7 hnil7
  go_wp2_with fail
  go_ret
  exact ⟨v7, rfl, by rw [HE.out, List.length_append, Lib.byteCells_append]; exact HO7.out, HB7.out, HK7.out⟩
theorem unsignedI_any (z : Int) (w : World) (hz : nuOK z = true) : Calls Tryz.prog 92 #[.int .i64 z] w fun e w' => e = .returned (.int .i64 (unS z : Int)) ∧ w' = w := by
  simp [nuOK] at hz
  have hU : ((unS z : Nat) : Int) = if z < 0 then -2 * z - 1 else 2 * z := by unfold unS; split <;> omega
  go_enter Tryz.func92, Tryz.ntmps92
  by_cases hz0 : z < 0
  · rw [if_pos hz0] at hU
    have HU := hidd hU
    clear hU
    go_wp2_with fail
    go_ret
    exact ⟨by rw [HU.out]; go_num, rfl⟩
  · rw [if_neg hz0] at hU
    have HU := hidd hU
    clear hU
    go_wp2_with fail
    go_ret
    exact ⟨by rw [HU.out]; go_num, rfl⟩
theorem txCount_any (a : Option Addr) (n c : Nat) (w : World) (hn : n ≤ 1048576) : Calls Tryz.prog 171 #[.slice a n c] w fun e w' => e = .returned (.int .i64 (n : Int)) ∧ w' = w := by
  go_enter Tryz.func171, Tryz.ntmps171
  go_wp2_with fail
  go_ret
  exact ⟨rfl, rfl⟩
theorem nuCount_any (a : Option Addr) (n c : Nat) (w : World) (hn : n ≤ 1048576) : Calls Tryz.prog 174 #[.slice a n c] w fun e w' => e = .returned (.int .i64 (n : Int)) ∧ w' = w := by
  go_enter Tryz.func174, Tryz.ntmps174
  go_wp2_with fail
  go_ret
  exact ⟨rfl, rfl⟩
set_option maxHeartbeats 2000000 in
theorem txStor_any (a : Option Addr) (c : Nat) (l : List (List UInt8)) (w : World) (hn : l.length ≤ 1048576) (h : HoldTx w a l) : Calls Tryz.prog 172 #[.slice a l.length c] w fun e w' => e = .returned (.bool (l.all txOK)) ∧ w' = w := by
  have HH := hidd h
  clear h
  go_enter Tryz.func172, Tryz.ntmps172
  go_wp2_with fail
  go_loopw [7] (fun kv wr => ∃ k : Nat, k ≤ l.length ∧ kv = .int .i64 (k : Int) ∧ (l.take k).all txOK = true ∧ wr = w) (fun kv _ => l.length - (intOf kv).toNat)
  case atStart => exact ⟨0, Nat.zero_le _, rfl, by simp, rfl⟩
  case round =>
    obtain ⟨k, hk, rfl, hal, hww⟩ := hrel
    have hww' := hww.symm
    subst hww'
    clear hww
    have HAl := hidd hal
    clear hal
    by_cases hkt : k < l.length
    · have hktz : (k : Int) < (l.length : Int) := by omega
      obtain ⟨bt, ot, rfl, hbt, hct⟩ := HH.out.resolve_left (fun e => by rw [e] at hkt; simp at hkt)
      have t1 := hct k hkt
      obtain ⟨ti, hti⟩ : ∃ ti, l.getD k [] = ti := ⟨_, rfl⟩
      rw [hti] at t1
      have Hti := hidd hti
      have htl : (⟨ti.toArray⟩ : ByteArray).size = ti.length := by rw [Lib.size_eq]
      clear hti hct
      by_cases hlong : 65536 < ti.length
      · have hlz : (ti.length : Int) > 65536 := by omega
        have HO : Hid (l.all txOK = false) := all_not txOK l [] hkt (by rw [Hti.out]; unfold txOK; exact decide_eq_false (by omega))
        go_wp2_with fail
        go_ret
        exact ⟨by rw [HO.out]; rfl, rfl⟩
      · have hlz : ¬ (ti.length : Int) > 65536 := by omega
        have HA2 := hidd (all_take txOK l [] hkt HAl.out (by rw [Hti.out]; unfold txOK; exact decide_eq_true (by omega)))
        go_wp2_with fail
        go_roundw
        case rel => exact ⟨k + 1, by omega, by go_num, HA2.out, by first | trivial | rfl⟩
        case measure => simp [intOf]; omega
    · have hktz : ¬ (k : Int) < (l.length : Int) := by omega
      have HAx : Hid (l.all txOK = true) := by show _ = _; have := HAl.out; rwa [show k = l.length by omega, List.take_length] at this
      go_wp2_with fail
      go_ret
      exact ⟨by rw [HAx.out]; rfl, rfl⟩
set_option maxHeartbeats 2000000 in
theorem nuStor_any (a : Option Addr) (c : Nat) (l : List Int) (w : World) (hn : l.length ≤ 1048576) (h : HoldZ w a l) : Calls Tryz.prog 175 #[.slice a l.length c] w fun e w' => e = .returned (.bool (l.all nuOK)) ∧ w' = w := by
  have HH := hidd h
  clear h
  go_enter Tryz.func175, Tryz.ntmps175
  go_wp2_with fail
  go_loopw [7] (fun kv wr => ∃ k : Nat, k ≤ l.length ∧ kv = .int .i64 (k : Int) ∧ (l.take k).all nuOK = true ∧ wr = w) (fun kv _ => l.length - (intOf kv).toNat)
  case atStart => exact ⟨0, Nat.zero_le _, rfl, by simp, rfl⟩
  case round =>
    obtain ⟨k, hk, rfl, hal, hww⟩ := hrel
    have hww' := hww.symm
    subst hww'
    clear hww
    have HAl := hidd hal
    clear hal
    by_cases hkt : k < l.length
    · have hktz : (k : Int) < (l.length : Int) := by omega
      obtain ⟨bt, ot, rfl, hbt, hct⟩ := HH.out.resolve_left (fun e => by rw [e] at hkt; simp at hkt)
      have t1 := hct k hkt
      obtain ⟨z, hz⟩ : ∃ z, l.getD k 0 = z := ⟨_, rfl⟩
      rw [hz] at t1
      have Hz := hidd hz
      clear hz hct
      have HW : Hid (Calls Tryz.prog 36 #[.int .i64 z, .int .i64 (-1000000000000), .int .i64 1000000000000] w fun e w' => e = .returned (.bool (nuOK z)) ∧ w' = w) := (within_any z (-1000000000000) 1000000000000 w).mono (fun e w' h => ⟨by rw [h.1, nuOK, Bool.decide_and], h.2⟩)
      go_wp2_with fail
      refine HW.out.mono ?_
      rintro e w' ⟨rfl, hw'⟩
      have hw2 := hw'.symm
      subst hw2
      clear hw'
      dsimp only
      cases hnz : nuOK z with
      | false =>
        have HO : Hid (l.all nuOK = false) := all_not nuOK l 0 hkt (by rw [Hz.out]; exact hnz)
        clear HW
        go_wp2_with fail
        go_ret
        exact ⟨by rw [HO.out]; rfl, rfl⟩
      | true =>
        have HA2 := hidd (all_take nuOK l 0 hkt HAl.out (by rw [Hz.out]; exact hnz))
        clear HW
        go_wp2_with fail
        go_roundw
        case rel => exact ⟨k + 1, by omega, by go_num, HA2.out, by first | trivial | rfl⟩
        case measure => simp [intOf]; omega
    · have hktz : ¬ (k : Int) < (l.length : Int) := by omega
      have HAx : Hid (l.all nuOK = true) := by show _ = _; have := HAl.out; rwa [show k = l.length by omega, List.take_length] at this
      go_wp2_with fail
      go_ret
      exact ⟨by rw [HAx.out]; rfl, rfl⟩
set_option maxHeartbeats 4000000 in
theorem txApp_any (base : Nat) (v : Value) (M : List UInt8) (a : Option Addr) (c : Nat) (l : List (List UInt8)) (w : World) (hn : l.length ≤ 4096) (ht : ∀ t ∈ l, t.length ≤ 65536) (hm : M.length ≤ 800000000) (hb : base ≤ w.heap.size) (w0 : World) (h0 : w0.heap.size ≤ base) (hB0 : Below w0.heap.size w0 w) (hH : HoldTx w0 a l) (h : w.ownsRow base 5 1 v M.length (Lib.byteCells M)) :
    Calls Tryz.prog 170 #[.slice a l.length c, v] w (AppP base M (l.flatMap txB) w) := by
  have HH := hidd hH
  have HO := hidd h
  have HT := hidd ht
  have HA := hidd hB0
  have HLen := hidd (fun k => preF_len txB M l 65545 (fun t ht' => txB_len (HT.out t ht')) 4096 hn k)
  clear h hH ht hB0
  go_enter Tryz.func170, Tryz.ntmps170
  go_wp2_with fail
  go_loopw [1, 9] (fun u kv wr => ∃ k : Nat, k ≤ l.length ∧ kv = .int .i64 (k : Int) ∧ wr.ownsRow base 5 1 u (preF txB M l k).length (Lib.byteCells (preF txB M l k)) ∧ Below base w wr ∧ KeepB w wr) (fun _ kv _ => l.length - (intOf kv).toNat)
  case atStart => exact ⟨0, Nat.zero_le _, rfl, by rw [preF_zero]; exact HO.out, Below.refl _ _, KeepB.refl _⟩
  case round =>
    obtain ⟨k, hk, rfl, hown, hbel, hkp⟩ := hrel
    clear HO
    have HOw := hidd hown
    have HB := hidd hbel
    have HK := hidd hkp
    have hwz := hbel.size
    have hpl := HLen.out k
    clear hown hbel hkp
    by_cases hkt : k < l.length
    · have hktz : (k : Int) < (l.length : Int) := by omega
      obtain ⟨bt, ot, rfl, hbt, hct⟩ := HH.out.resolve_left (fun e => by rw [e] at hkt; simp at hkt)
      have t1 := ((HA.out.trans (HB.out.mono h0)).cell (p := ⟨bt, ot + k, none⟩) hbt).trans (hct k hkt)
      have HS := hidd (preF_step txB M l [] hkt)
      have htj := HT.out (l.getD k []) (getD_mem hkt)
      obtain ⟨t, hte⟩ : ∃ t, l.getD k [] = t := ⟨_, rfl⟩
      rw [hte] at t1 HS htj
      clear hte hct
      have HP := hidd (appText_any base u1 _ t wr htj (by omega) (by omega) HOw.out)
      unfold AppP at HP
      go_wp2_with fail
      refine HP.out.mono ?_
      rintro e w8 ⟨v8, rfl, hown8, hb8, hk8⟩
      rw [← HS.out] at hown8
      have HO8 := hidd hown8
      have HB8 := hidd (HB.out.trans hb8)
      have HK8 := hidd (HK.out.trans hk8)
      clear hown8 hb8 hk8 HP t1 HOw
      dsimp only
      go_wp2_with fail
      go_roundw
      case rel => exact ⟨k + 1, by omega, by go_num, HO8.out, HB8.out, HK8.out⟩
      case measure => simp [intOf]; omega
    · have hktz : ¬ (k : Int) < (l.length : Int) := by omega
      obtain rfl : k = l.length := by omega
      have HE := hidd (preF_all txB M l)
      go_wp2_with fail
      go_ret
      exact ⟨_, rfl, by rw [← HE.out]; exact HOw.out, HB.out, HK.out⟩
theorem nuB_put (M : List UInt8) (z : Int) : M ++ putL (unS z) = M ++ nuB z := rfl
set_option maxHeartbeats 4000000 in
theorem nuApp_any (base : Nat) (v : Value) (M : List UInt8) (a : Option Addr) (c : Nat) (l : List Int) (w : World) (hn : l.length ≤ 4096) (ht : ∀ t ∈ l, nuOK t = true) (hm : M.length ≤ 800000000) (hb : base ≤ w.heap.size) (w0 : World) (h0 : w0.heap.size ≤ base) (hB0 : Below w0.heap.size w0 w) (hH : HoldZ w0 a l) (h : w.ownsRow base 5 1 v M.length (Lib.byteCells M)) :
    Calls Tryz.prog 173 #[.slice a l.length c, v] w (AppP base M (l.flatMap nuB) w) := by
  have HH := hidd hH
  have HO := hidd h
  have HT := hidd ht
  have HA := hidd hB0
  have HLen := hidd (fun k => preF_len nuB M l 9 (fun t ht' => nuB_len (HT.out t ht')) 4096 hn k)
  clear h hH ht hB0
  go_enter Tryz.func173, Tryz.ntmps173
  go_wp2_with fail
  go_loopw [1, 9] (fun u kv wr => ∃ k : Nat, k ≤ l.length ∧ kv = .int .i64 (k : Int) ∧ wr.ownsRow base 5 1 u (preF nuB M l k).length (Lib.byteCells (preF nuB M l k)) ∧ Below base w wr ∧ KeepB w wr) (fun _ kv _ => l.length - (intOf kv).toNat)
  case atStart => exact ⟨0, Nat.zero_le _, rfl, by rw [preF_zero]; exact HO.out, Below.refl _ _, KeepB.refl _⟩
  case round =>
    obtain ⟨k, hk, rfl, hown, hbel, hkp⟩ := hrel
    clear HO
    have HOw := hidd hown
    have HB := hidd hbel
    have HK := hidd hkp
    have hwz := hbel.size
    have hpl := HLen.out k
    clear hown hbel hkp
    by_cases hkt : k < l.length
    · have hktz : (k : Int) < (l.length : Int) := by omega
      obtain ⟨bt, ot, rfl, hbt, hct⟩ := HH.out.resolve_left (fun e => by rw [e] at hkt; simp at hkt)
      have t1 := ((HA.out.trans (HB.out.mono h0)).cell (p := ⟨bt, ot + k, none⟩) hbt).trans (hct k hkt)
      have HS := hidd (preF_step nuB M l 0 hkt)
      have htj := HT.out (l.getD k 0) (getD_mem hkt)
      obtain ⟨t, hte⟩ : ∃ t, l.getD k 0 = t := ⟨_, rfl⟩
      rw [hte] at t1 HS htj
      clear hte hct
      have HP := hidd (appInt_any base u1 _ (unS t) wr (unS_lt htj) (by omega) (by omega) HOw.out)
      have HU := hidd (unsignedI_any t wr htj)
      unfold AppP at HP
      go_wp2_with (go_at_call 92; refine HU.out.mono ?_; rintro e w' ⟨rfl, hw'⟩; have hw2 := hw'.symm; subst hw2; clear hw')
      refine HP.out.mono ?_
      rintro e w8 ⟨v8, rfl, hown8, hb8, hk8⟩
      rw [nuB_put, ← HS.out] at hown8
      have HO8 := hidd hown8
      have HB8 := hidd (HB.out.trans hb8)
      have HK8 := hidd (HK.out.trans hk8)
      clear hown8 hb8 hk8 HP t1 HOw
      dsimp only
      go_wp2_with fail
      go_roundw
      case rel => exact ⟨k + 1, by omega, by go_num, HO8.out, HB8.out, HK8.out⟩
      case measure => simp [intOf]; omega
    · have hktz : ¬ (k : Int) < (l.length : Int) := by omega
      obtain rfl : k = l.length := by omega
      have HE := hidd (preF_all nuB M l)
      go_wp2_with fail
      go_ret
      exact ⟨_, rfl, by rw [← HE.out]; exact HOw.out, HB.out, HK.out⟩
theorem contents_any (f : List UInt8) (at_ an : Option Addr) (n ct m cn : Nat) (w : World) : Calls Tryz.prog 61 #[.agg #[.string ⟨f.toArray⟩, .slice at_ n ct, .slice an m cn]] w fun e w' => e = .returned (.agg #[.iface 152 (.slice at_ n ct), .iface 153 (.slice an m cn)]) ∧ Below w.heap.size w w' := by
  go_enter Tryz.func61, Tryz.ntmps61
  go_wp2_with fail
  refine bodyPost_ret (v := .agg #[.iface 152 (.slice at_ n ct), .iface 153 (.slice an m cn)]) (by simp [results, Tryz.results61, go_sem, *]) rfl ?_
  exact ⟨rfl, ((Below.refl _ _).alloc (Nat.le_refl _) _).alloc (by simp) _⟩
end Go.Proofs.YtpdiaddgialanaaGreatDoor

namespace Go.Proofs.YtpdiaddgialanaaGreatDoor
open Go Go.RowKit
set_option linter.unusedVariables false
set_option maxRecDepth 100000

theorem ixA0 (x y : Value) (w : World) : (Instr.index 120 (.agg #[x, y]) (.int .i64 0)).run Tryz.prog w = .ok x w := by
  simp [Instr.index, go_sem]
theorem ixA1 (x y : Value) (w : World) : (Instr.index 120 (.agg #[x, y]) (.int .i64 1)).run Tryz.prog w = .ok y w := by
  simp [Instr.index, go_sem]
theorem mTxcount (a : Option Addr) (n c : Nat) (w : World) : (method 302 152 (.slice a n c) "loop.example/g00018/impl.count").run Tryz.prog w = .ok (171, .slice a n c) w := by kernel_rfl
theorem mTxstorable (a : Option Addr) (n c : Nat) (w : World) : (method 302 152 (.slice a n c) "loop.example/g00018/impl.storable").run Tryz.prog w = .ok (172, .slice a n c) w := by kernel_rfl
theorem mTxappendTo (a : Option Addr) (n c : Nat) (w : World) : (method 302 152 (.slice a n c) "loop.example/g00018/impl.appendTo").run Tryz.prog w = .ok (170, .slice a n c) w := by kernel_rfl
theorem mNucount (a : Option Addr) (n c : Nat) (w : World) : (method 302 153 (.slice a n c) "loop.example/g00018/impl.count").run Tryz.prog w = .ok (174, .slice a n c) w := by kernel_rfl
theorem mNustorable (a : Option Addr) (n c : Nat) (w : World) : (method 302 153 (.slice a n c) "loop.example/g00018/impl.storable").run Tryz.prog w = .ok (175, .slice a n c) w := by kernel_rfl
theorem mNuappendTo (a : Option Addr) (n c : Nat) (w : World) : (method 302 153 (.slice a n c) "loop.example/g00018/impl.appendTo").run Tryz.prog w = .ok (173, .slice a n c) w := by kernel_rfl
set_option maxHeartbeats 8000000 in
theorem implStor_any (id : List UInt8) (a : Option Addr) (c : Nat) (V : List Vl) (w : World) (hn : V.length ≤ 1048576) (hT : ∀ i, (V.getD i vl0).2.1.length ≤ 1048576 ∧ (V.getD i vl0).2.2.length ≤ 1048576) (h : HoldV w a V) :
    Calls Tryz.prog 38 #[.agg #[.string ⟨id.toArray⟩, .slice a V.length c]] w fun e w' => e = .returned (.bool (dcOK (id, V))) ∧ Below w.heap.size w w' := by
  have HV := hidd h
  have HT := hidd hT
  clear h hT
  have HBa := hidd ((Below.refl w.heap.size w).alloc (Nat.le_refl _) (.cells #[.string ⟨id.toArray⟩, .slice a V.length c] 26))
  have HX := hidd (heap_alloc_new w (.cells #[.string ⟨id.toArray⟩, .slice a V.length c] 26))
  have hsl : (⟨id.toArray⟩ : ByteArray).size = id.length := by rw [Lib.size_eq]
  have ix0 : ∀ (x y : Value) (w : World), (Instr.index 120 (.agg #[x, y]) (.int .i64 0)).run Tryz.prog w = .ok x w := ixA0
  have ix1 : ∀ (x y : Value) (w : World), (Instr.index 120 (.agg #[x, y]) (.int .i64 1)).run Tryz.prog w = .ok y w := ixA1
  have m1 := mTxcount
  have m2 := mTxstorable
  have m3 := mNucount
  have m4 := mNustorable
  go_enter Tryz.func38, Tryz.ntmps38
  go_upto_region 1 with fail
  obtain ⟨wa, hwa⟩ : ∃ wa, w.alloc (.cells #[.string ⟨id.toArray⟩, .slice a V.length c] 26) = wa := ⟨_, rfl⟩
  rw [hwa] at HBa HX
  try rw [hwa]
  clear hwa
  have x0 := blkc HX.out 0
  have x1 := blkc HX.out 1
  by_cases hid : 65536 < id.length
  · have hidz : (id.length : Int) > 65536 := by omega
    have HO : Hid (dcOK (id, V) = false) := by show _ = _; unfold dcOK; rw [decide_eq_false (by dsimp only; omega)]; rfl
    go_wp2_with fail
    go_ret
    exact ⟨by rw [HO.out]; rfl, HBa.out⟩
  have hidz : ¬ (id.length : Int) > 65536 := by omega
  by_cases hVl : 4096 < V.length
  · have hVz : (V.length : Int) > 4096 := by omega
    have HO : Hid (dcOK (id, V) = false) := by show _ = _; unfold dcOK; rw [decide_eq_false (by dsimp only; omega)]; rfl
    go_wp2_with fail
    go_ret
    exact ⟨by rw [HO.out]; rfl, HBa.out⟩
  have hVz : ¬ (V.length : Int) > 4096 := by omega
  clear x0 x1
  have x0 := blkc HX.out 0
  have x1 := blkc HX.out 1
  go_wp2_with fail
  go_loopw [20] (fun iv wr => ∃ i : Nat, i ≤ V.length ∧ iv = .int .i64 (i : Int) ∧ (V.take i).all vlOK = true ∧ Below wa.heap.size wa wr) (fun iv _ => V.length - (intOf iv).toNat)
  case atStart => exact ⟨0, Nat.zero_le _, rfl, by simp, Below.refl _ _⟩
  case round =>
    obtain ⟨i, hi, rfl, hall, hbel⟩ := hrel
    clear x0 x1
    have HB := hidd hbel
    have HAll := hidd hall
    clear hbel hall
    by_cases hlt : i < V.length
    · have hltz : (i : Int) < (V.length : Int) := by omega
      obtain ⟨b, off, rfl, hb, hc⟩ := (HV.out.below (HBa.out.trans (HB.out.mono HBa.out.size))).resolve_left (fun e => by rw [e] at hlt; simp at hlt)
      obtain ⟨c0, ⟨at_, ct, c1, hTx⟩, an, cn, c2, hZ⟩ := hc i hlt
      have hTi := HT.out i
      obtain ⟨v, hv⟩ : ∃ v, V.getD i vl0 = v := ⟨_, rfl⟩
      rw [hv] at c0 c1 c2 hTx hZ hTi
      have Hv := hidd hv
      obtain ⟨f, tx, nz⟩ := v
      dsimp only at c0 c1 c2 hTx hZ hTi
      have HTx := hidd hTx
      have HZ := hidd hZ
      clear hc hTx hZ hv
      have hfl : (⟨f.toArray⟩ : ByteArray).size = f.length := by rw [Lib.size_eq]
      have HBv := hidd ((Below.refl wr.heap.size wr).alloc (Nat.le_refl _) (.cells #[.string ⟨f.toArray⟩, .slice at_ tx.length ct, .slice an nz.length cn] 88))
      have HXv := hidd (heap_alloc_new wr (.cells #[.string ⟨f.toArray⟩, .slice at_ tx.length ct, .slice an nz.length cn] 88))
      have HNo : Hid (vlOK (f, tx, nz) = false → dcOK (id, V) = false) := fun h => dcOK_bad (d := (id, V)) hlt (by show vlOK (V.getD i vl0) = false; rw [Hv.out]; exact h)
      go_upto_region 6 with fail
      obtain ⟨wv, hwv⟩ : ∃ wv, wr.alloc (.cells #[.string ⟨f.toArray⟩, .slice at_ tx.length ct, .slice an nz.length cn] 88) = wv := ⟨_, rfl⟩
      rw [hwv] at HBv HXv
      try rw [hwv]
      clear hwv c0 c1 c2
      have HBw := hidd (HBa.out.trans ((HB.out.trans (HBv.out.mono HB.out.size)).mono HBa.out.size))
      have v0 := blkc HXv.out 0
      have v1 := blkc HXv.out 1
      have v2 := blkc HXv.out 2
      by_cases hf : 65536 < f.length
      · have hfz : (f.length : Int) > 65536 := by omega
        have HO := hidd (HNo.out (by unfold vlOK; rw [decide_eq_false (by dsimp only; omega)]; rfl))
        go_wp2_with fail
        go_ret
        exact ⟨by rw [HO.out]; rfl, HBw.out⟩
      have hfz : ¬ (f.length : Int) > 65536 := by omega
      have HC := hidd (contents_any f at_ an tx.length ct nz.length cn wv)
      go_wp2_with fail
      refine HC.out.mono ?_
      rintro e w5 ⟨rfl, hb5⟩
      have HB5 := hidd hb5
      have HBo := hidd (HBw.out.trans (hb5.mono HBw.out.size))
      clear hb5 HC v0 v1 v2
      dsimp only
      go_wp2_with fail
      go_loopw [30] (fun kv wx => ∃ k : Nat, k ≤ 2 ∧ kv = .int .i64 (k : Int) ∧ (1 ≤ k → tx.length ≤ 4096 ∧ tx.all txOK = true) ∧ (2 ≤ k → nz.length ≤ 4096 ∧ nz.all nuOK = true) ∧ Below w5.heap.size w5 wx) (fun kv _ => 2 - (intOf kv).toNat)
      case atStart => exact ⟨0, by omega, rfl, fun h => absurd h (by omega), fun h => absurd h (by omega), Below.refl _ _⟩
      case round =>
        obtain ⟨k, hk, rfl, h1, h2, hbx⟩ := hrel
        have HBx := hidd hbx
        clear hbx
        have hk3 : k = 0 ∨ k = 1 ∨ k = 2 := by omega
        rcases hk3 with rfl | rfl | rfl
        · clear h1 h2
          have HC1 := hidd (txCount_any at_ tx.length ct wr hTi.1)
          have HS1 := hidd (txStor_any at_ ct tx wr hTi.1 (HTx.out.below (HBv.out.trans ((HB5.out.trans (HBx.out.mono HB5.out.size)).mono HBv.out.size))))
          go_wp2_with fail
          refine HC1.out.mono ?_
          rintro e w6 ⟨rfl, hw6⟩
          have hw7 := hw6.symm
          subst hw7
          clear hw6 HC1
          dsimp only
          by_cases hxl : 4096 < tx.length
          · have hxz : (tx.length : Int) > 4096 := by omega
            have HO := hidd (HNo.out (by unfold vlOK; rw [decide_eq_false (by dsimp only; omega)]; rfl))
            clear HS1
            go_wp2_with fail
            go_ret
            exact ⟨by rw [HO.out]; rfl, HBo.out.trans (HBx.out.mono HBo.out.size)⟩
          have hxz : ¬ (tx.length : Int) > 4096 := by omega
          go_wp2_with fail
          refine HS1.out.mono ?_
          rintro e w6 ⟨rfl, hw6⟩
          have hw7 := hw6.symm
          subst hw7
          clear hw6 HS1
          dsimp only
          cases hal : tx.all txOK with
          | false =>
            have HO := hidd (HNo.out (by unfold vlOK; dsimp only; rw [hal]; simp))
            clear hal
            go_wp2_with fail
            go_ret
            exact ⟨by rw [HO.out]; rfl, HBo.out.trans (HBx.out.mono HBo.out.size)⟩
          | true =>
            have Hal := hidd hal
            clear hal
            go_wp2_with fail
            go_roundw
            case rel => exact ⟨1, by omega, by go_num, fun _ => ⟨by omega, Hal.out⟩, fun h => absurd h (by omega), HBx.out⟩
            case measure => simp [intOf]
        · have H1 := hidd (h1 (by omega))
          clear h1 h2
          have HC1 := hidd (nuCount_any an nz.length cn wr hTi.2)
          have HS1 := hidd (nuStor_any an cn nz wr hTi.2 (HZ.out.below (HBv.out.trans ((HB5.out.trans (HBx.out.mono HB5.out.size)).mono HBv.out.size))))
          go_wp2_with fail
          refine HC1.out.mono ?_
          rintro e w6 ⟨rfl, hw6⟩
          have hw7 := hw6.symm
          subst hw7
          clear hw6 HC1
          dsimp only
          by_cases hxl : 4096 < nz.length
          · have hxz : (nz.length : Int) > 4096 := by omega
            have HO := hidd (HNo.out (by unfold vlOK; rw [decide_eq_false (by dsimp only; omega)]; rfl))
            clear HS1
            go_wp2_with fail
            go_ret
            exact ⟨by rw [HO.out]; rfl, HBo.out.trans (HBx.out.mono HBo.out.size)⟩
          have hxz : ¬ (nz.length : Int) > 4096 := by omega
          go_wp2_with fail
          refine HS1.out.mono ?_
          rintro e w6 ⟨rfl, hw6⟩
          have hw7 := hw6.symm
          subst hw7
          clear hw6 HS1
          dsimp only
          cases hal : nz.all nuOK with
          | false =>
            have HO := hidd (HNo.out (by unfold vlOK; dsimp only; rw [hal]; simp))
            clear hal
            go_wp2_with fail
            go_ret
            exact ⟨by rw [HO.out]; rfl, HBo.out.trans (HBx.out.mono HBo.out.size)⟩
          | true =>
            have Hal := hidd hal
            clear hal
            go_wp2_with fail
            go_roundw
            case rel => exact ⟨2, by omega, by go_num, fun _ => H1.out, fun _ => ⟨by omega, Hal.out⟩, HBx.out⟩
            case measure => simp [intOf]
        · have h1 := h1 (by omega)
          have h2 := h2 (by omega)
          have HA3 := hidd (all_take vlOK V vl0 hlt HAll.out (by rw [Hv.out]; unfold vlOK; dsimp only; rw [h1.2, h2.2, decide_eq_true (by omega)]; rfl))
          clear h1 h2
          go_wp2_with fail
          go_roundw
          case rel => exact ⟨i + 1, by omega, by go_num, HA3.out, HB.out.trans ((HBv.out.trans ((HB5.out.trans (HBx.out.mono HB5.out.size)).mono HBv.out.size)).mono HB.out.size)⟩
          case measure => simp [intOf]; omega
    · have hltz : ¬ (i : Int) < (V.length : Int) := by omega
      have HO : Hid (dcOK (id, V) = true) := by
        show _ = _
        have := HAll.out
        rw [show i = V.length by omega, List.take_length] at this
        unfold dcOK
        rw [decide_eq_true (by dsimp only; omega), this]; rfl
      go_wp2_with fail
      go_ret
      exact ⟨by rw [HO.out]; rfl, HBa.out.trans (HB.out.mono HBa.out.size)⟩
end Go.Proofs.YtpdiaddgialanaaGreatDoor
