import Derived.Test.YtefhmbnhhkgifaaDoS
namespace Go.Proofs.Ytefhmbnhhkgifaa
open Go Go.RowKit
set_option linter.unusedVariables false
set_option maxRecDepth 100000

/-- A row of bytes that grew by B. -/
def AppP (base : Nat) (M B : List UInt8) (w : World) (e : Ending) (w' : World) : Prop := ∃ v', e = .returned v' ∧ w'.ownsRow base 5 1 v' (M ++ B).length (Lib.byteCells (M ++ B)) ∧ Below base w w' ∧ KeepB w w'
theorem appInt_any (base : Nat) (v : Value) (M : List UInt8) (x : Nat) (w : World) (hx : x < 4611686018427387904) (hn : M.length ≤ 1000000000000) (hb : base ≤ w.heap.size) (h : w.ownsRow base 5 1 v M.length (Lib.byteCells M)) :
    Calls Try.prog 37 #[v, .int .i64 (x : Int)] w (AppP base M (putL x) w) := by
  refine (appendInt_any base M.length v M x w hx rfl (by omega) hb h).mono ?_
  rintro e w' ⟨v', rfl, h1, h2, _⟩
  exact ⟨v', rfl, by rw [List.length_append]; exact h1, (Below.refl _ _).grown h2.1 hb (fun b hb' => (own_blk h hb').1), .grown h h2.1⟩
set_option maxHeartbeats 2000000 in
theorem appText_any (base : Nat) (v : Value) (M t : List UInt8) (w : World) (ht : t.length ≤ 65536) (hn : M.length ≤ 900000000000) (hb : base ≤ w.heap.size) (h : w.ownsRow base 5 1 v M.length (Lib.byteCells M)) :
    Calls Try.prog 21 #[v, .string ⟨t.toArray⟩] w (AppP base M (txB t) w) := by
  obtain ⟨i1, hi1, hy0, hy1, hy2⟩ := info_parts Try.infoByte
  have HI := hidd (appInt_any base v M t.length w (by omega) (by omega) hb h)
  have hsl : (⟨t.toArray⟩ : ByteArray).size = t.length := by rw [Lib.size_eq]
  have hpl := putL_length9 t.length (by omega)
  have HE : Hid (M ++ txB t = M ++ putL t.length ++ t) := by show _ = _; simp [txB]
  have hL : (M ++ putL t.length).length ≤ 900000000009 := by rw [List.length_append]; omega
  clear h
  unfold AppP at HI
  generalize M ++ putL t.length = N at HE hL HI
  go_enter Try.func21, Try.ntmps21
  go_wp2_with fail
  refine HI.out.mono ?_
  rintro e w1 ⟨v1, rfl, ho1, hb1, hk1⟩
  have HO1 := hidd ho1
  have HB1 := hidd hb1
  have HK1 := hidd hk1
  have hz1 := hb1.size
  clear ho1 hb1 hk1 HI
  dsimp only
  go_wp2_with (at_builtin; refine Lib.wpList_append_own_string _ rfl _ _ 28 9 rfl base 5 i1 Try.underlying28 Try.underlying9 hi1 hy0 hy1 hy2 v1 N.length (Lib.byteCells N) rfl HO1.out ⟨t.toArray⟩ rfl (by rw [hsl]; unfold maxLen; omega) (by rw [hsl]; omega) (by omega) ?_)
  intro v7 w7 hown7 hgrow7 hnil7
  rw [strCells_eq] at hown7
  have HO7 := hidd hown7
  have HB7 : Hid (Below base w w7) := HB1.out.grown hgrow7 (by omega) (fun k hk => (own_blk HO1.out hk).1)
  have HK7 : Hid (KeepB w w7) := HK1.out.trans (.grown HO1.out hgrow7)
  clear hown7 hgrow7 hnil7
  go_wp2_with fail
  go_ret
  exact ⟨v7, rfl, by rw [HE.out, List.length_append, Lib.byteCells_append]; exact HO7.out, HB7.out, HK7.out⟩
theorem unsigned_any (z : Int) (w : World) (hz : nuOK z = true) : Calls Try.prog 79 #[.int .i64 z] w fun e w' => e = .returned (.int .i64 (unS z : Int)) ∧ w' = w := by
  simp [nuOK] at hz
  have hU : ((unS z : Nat) : Int) = if z < 0 then -2 * z - 1 else 2 * z := by unfold unS; split <;> omega
  go_enter Try.func79, Try.ntmps79
  by_cases hz0 : z < 0
  · rw [if_pos hz0] at hU
    have HU := hidd hU
    clear hU
    go_wp2_with fail
    go_ret
    exact ⟨by rw [HU.out]; go_num, rfl⟩
  · rw [if_neg hz0] at hU
    have HU := hidd hU
    clear hU
    go_wp2_with fail
    go_ret
    exact ⟨by rw [HU.out]; go_num, rfl⟩
theorem txCount_any (a : Option Addr) (n c : Nat) (w : World) (hn : n ≤ 1048576) : Calls Try.prog 74 #[.slice a n c] w fun e w' => e = .returned (.int .i64 (n : Int)) ∧ w' = w := by
  go_enter Try.func74, Try.ntmps74
  go_wp2_with fail
  go_ret
  exact ⟨rfl, rfl⟩
theorem nuCount_any (a : Option Addr) (n c : Nat) (w : World) (hn : n ≤ 1048576) : Calls Try.prog 77 #[.slice a n c] w fun e w' => e = .returned (.int .i64 (n : Int)) ∧ w' = w := by
  go_enter Try.func77, Try.ntmps77
  go_wp2_with fail
  go_ret
  exact ⟨rfl, rfl⟩
set_option maxHeartbeats 2000000 in
theorem txStor_any (a : Option Addr) (c : Nat) (l : List (List UInt8)) (w : World) (hn : l.length ≤ 1048576) (h : HoldTx w a l) : Calls Try.prog 75 #[.slice a l.length c] w fun e w' => e = .returned (.bool (l.all txOK)) ∧ w' = w := by
  have HH := hidd h
  clear h
  go_enter Try.func75, Try.ntmps75
  go_wp2_with fail
  go_loopw [7] (fun kv wr => ∃ k : Nat, k ≤ l.length ∧ kv = .int .i64 (k : Int) ∧ (l.take k).all txOK = true ∧ wr = w) (fun kv _ => l.length - (intOf kv).toNat)
  case atStart => exact ⟨0, Nat.zero_le _, rfl, by simp, rfl⟩
  case round =>
    obtain ⟨k, hk, rfl, hal, hww⟩ := hrel
    have hww' := hww.symm
    subst hww'
    clear hww
    have HAl := hidd hal
    clear hal
    by_cases hkt : k < l.length
    · have hktz : (k : Int) < (l.length : Int) := by omega
      obtain ⟨bt, ot, rfl, hbt, hct⟩ := HH.out.resolve_left (fun e => by rw [e] at hkt; simp at hkt)
      have t1 := hct k hkt
      obtain ⟨ti, hti⟩ : ∃ ti, l.getD k [] = ti := ⟨_, rfl⟩
      rw [hti] at t1
      have Hti := hidd hti
      have htl : (⟨ti.toArray⟩ : ByteArray).size = ti.length := by rw [Lib.size_eq]
      clear hti hct
      by_cases hlong : 65536 < ti.length
      · have hlz : (ti.length : Int) > 65536 := by omega
        have HO : Hid (l.all txOK = false) := all_not txOK l [] hkt (by rw [Hti.out]; unfold txOK; exact decide_eq_false (by omega))
        go_wp2_with fail
        go_ret
        exact ⟨by rw [HO.out]; rfl, rfl⟩
      · have hlz : ¬ (ti.length : Int) > 65536 := by omega
        have HA2 := hidd (all_take txOK l [] hkt HAl.out (by rw [Hti.out]; unfold txOK; exact decide_eq_true (by omega)))
        go_wp2_with fail
        go_roundw
        case rel => exact ⟨k + 1, by omega, by go_num, HA2.out, by first | trivial | rfl⟩
        case measure => simp [intOf]; omega
    · have hktz : ¬ (k : Int) < (l.length : Int) := by omega
      have HAx : Hid (l.all txOK = true) := by show _ = _; have := HAl.out; rwa [show k = l.length by omega, List.take_length] at this
      go_wp2_with fail
      go_ret
      exact ⟨by rw [HAx.out]; rfl, rfl⟩
set_option maxHeartbeats 2000000 in
theorem nuStor_any (a : Option Addr) (c : Nat) (l : List Int) (w : World) (hn : l.length ≤ 1048576) (h : HoldZ w a l) : Calls Try.prog 78 #[.slice a l.length c] w fun e w' => e = .returned (.bool (l.all nuOK)) ∧ w' = w := by
  have HH := hidd h
  clear h
  go_enter Try.func78, Try.ntmps78
  go_wp2_with fail
  go_loopw [7] (fun kv wr => ∃ k : Nat, k ≤ l.length ∧ kv = .int .i64 (k : Int) ∧ (l.take k).all nuOK = true ∧ wr = w) (fun kv _ => l.length - (intOf kv).toNat)
  case atStart => exact ⟨0, Nat.zero_le _, rfl, by simp, rfl⟩
  case round =>
    obtain ⟨k, hk, rfl, hal, hww⟩ := hrel
    have hww' := hww.symm
    subst hww'
    clear hww
    have HAl := hidd hal
    clear hal
    by_cases hkt : k < l.length
    · have hktz : (k : Int) < (l.length : Int) := by omega
      obtain ⟨bt, ot, rfl, hbt, hct⟩ := HH.out.resolve_left (fun e => by rw [e] at hkt; simp at hkt)
      have t1 := hct k hkt
      obtain ⟨z, hz⟩ : ∃ z, l.getD k 0 = z := ⟨_, rfl⟩
      rw [hz] at t1
      have Hz := hidd hz
      clear hz hct
      have HW : Hid (Calls Try.prog 33 #[.int .i64 z, .int .i64 (-1000000000000), .int .i64 1000000000000] w fun e w' => e = .returned (.bool (nuOK z)) ∧ w' = w) := (within_any z (-1000000000000) 1000000000000 w).mono (fun e w' h => ⟨by rw [h.1, nuOK, Bool.decide_and], h.2⟩)
      go_wp2_with fail
      refine HW.out.mono ?_
      rintro e w' ⟨rfl, hw'⟩
      have hw2 := hw'.symm
      subst hw2
      clear hw'
      dsimp only
      cases hnz : nuOK z with
      | false =>
        have HO : Hid (l.all nuOK = false) := all_not nuOK l 0 hkt (by rw [Hz.out]; exact hnz)
        clear HW
        go_wp2_with fail
        go_ret
        exact ⟨by rw [HO.out]; rfl, rfl⟩
      | true =>
        have HA2 := hidd (all_take nuOK l 0 hkt HAl.out (by rw [Hz.out]; exact hnz))
        clear HW
        go_wp2_with fail
        go_roundw
        case rel => exact ⟨k + 1, by omega, by go_num, HA2.out, by first | trivial | rfl⟩
        case measure => simp [intOf]; omega
    · have hktz : ¬ (k : Int) < (l.length : Int) := by omega
      have HAx : Hid (l.all nuOK = true) := by show _ = _; have := HAl.out; rwa [show k = l.length by omega, List.take_length] at this
      go_wp2_with fail
      go_ret
      exact ⟨by rw [HAx.out]; rfl, rfl⟩
set_option maxHeartbeats 4000000 in
theorem txApp_any (base : Nat) (v : Value) (M : List UInt8) (a : Option Addr) (c : Nat) (l : List (List UInt8)) (w : World) (hn : l.length ≤ 4096) (ht : ∀ t ∈ l, t.length ≤ 65536) (hm : M.length ≤ 800000000) (hb : base ≤ w.heap.size) (w0 : World) (h0 : w0.heap.size ≤ base) (hB0 : Below w0.heap.size w0 w) (hH : HoldTx w0 a l) (h : w.ownsRow base 5 1 v M.length (Lib.byteCells M)) :
    Calls Try.prog 73 #[.slice a l.length c, v] w (AppP base M (l.flatMap txB) w) := by
  have HH := hidd hH
  have HO := hidd h
  have HT := hidd ht
  have HA := hidd hB0
  have HLen := hidd (fun k => preF_len txB M l 65545 (fun t ht' => txB_len (HT.out t ht')) 4096 hn k)
  clear h hH ht hB0
  go_enter Try.func73, Try.ntmps73
  go_wp2_with fail
  go_loopw [1, 9] (fun u kv wr => ∃ k : Nat, k ≤ l.length ∧ kv = .int .i64 (k : Int) ∧ wr.ownsRow base 5 1 u (preF txB M l k).length (Lib.byteCells (preF txB M l k)) ∧ Below base w wr ∧ KeepB w wr) (fun _ kv _ => l.length - (intOf kv).toNat)
  case atStart => exact ⟨0, Nat.zero_le _, rfl, by rw [preF_zero]; exact HO.out, Below.refl _ _, KeepB.refl _⟩
  case round =>
    obtain ⟨k, hk, rfl, hown, hbel, hkp⟩ := hrel
    clear HO
    have HOw := hidd hown
    have HB := hidd hbel
    have HK := hidd hkp
    have hwz := hbel.size
    have hpl := HLen.out k
    clear hown hbel hkp
    by_cases hkt : k < l.length
    · have hktz : (k : Int) < (l.length : Int) := by omega
      obtain ⟨bt, ot, rfl, hbt, hct⟩ := HH.out.resolve_left (fun e => by rw [e] at hkt; simp at hkt)
      have t1 := ((HA.out.trans (HB.out.mono h0)).cell (p := ⟨bt, ot + k, none⟩) hbt).trans (hct k hkt)
      have HS := hidd (preF_step txB M l [] hkt)
      have htj := HT.out (l.getD k []) (getD_mem hkt)
      obtain ⟨t, hte⟩ : ∃ t, l.getD k [] = t := ⟨_, rfl⟩
      rw [hte] at t1 HS htj
      clear hte hct
      have HP := hidd (appText_any base u1 _ t wr htj (by omega) (by omega) HOw.out)
      unfold AppP at HP
      go_wp2_with fail
      refine HP.out.mono ?_
      rintro e w8 ⟨v8, rfl, hown8, hb8, hk8⟩
      rw [← HS.out] at hown8
      have HO8 := hidd hown8
      have HB8 := hidd (HB.out.trans hb8)
      have HK8 := hidd (HK.out.trans hk8)
      clear hown8 hb8 hk8 HP t1 HOw
      dsimp only
      go_wp2_with fail
      go_roundw
      case rel => exact ⟨k + 1, by omega, by go_num, HO8.out, HB8.out, HK8.out⟩
      case measure => simp [intOf]; omega
    · have hktz : ¬ (k : Int) < (l.length : Int) := by omega
      obtain rfl : k = l.length := by omega
      have HE := hidd (preF_all txB M l)
      go_wp2_with fail
      go_ret
      exact ⟨_, rfl, by rw [← HE.out]; exact HOw.out, HB.out, HK.out⟩
theorem nuB_put (M : List UInt8) (z : Int) : M ++ putL (unS z) = M ++ nuB z := rfl
set_option maxHeartbeats 4000000 in
theorem nuApp_any (base : Nat) (v : Value) (M : List UInt8) (a : Option Addr) (c : Nat) (l : List Int) (w : World) (hn : l.length ≤ 4096) (ht : ∀ t ∈ l, nuOK t = true) (hm : M.length ≤ 800000000) (hb : base ≤ w.heap.size) (w0 : World) (h0 : w0.heap.size ≤ base) (hB0 : Below w0.heap.size w0 w) (hH : HoldZ w0 a l) (h : w.ownsRow base 5 1 v M.length (Lib.byteCells M)) :
    Calls Try.prog 76 #[.slice a l.length c, v] w (AppP base M (l.flatMap nuB) w) := by
  have HH := hidd hH
  have HO := hidd h
  have HT := hidd ht
  have HA := hidd hB0
  have HLen := hidd (fun k => preF_len nuB M l 9 (fun t ht' => nuB_len (HT.out t ht')) 4096 hn k)
  clear h hH ht hB0
  go_enter Try.func76, Try.ntmps76
  go_wp2_with fail
  go_loopw [1, 9] (fun u kv wr => ∃ k : Nat, k ≤ l.length ∧ kv = .int .i64 (k : Int) ∧ wr.ownsRow base 5 1 u (preF nuB M l k).length (Lib.byteCells (preF nuB M l k)) ∧ Below base w wr ∧ KeepB w wr) (fun _ kv _ => l.length - (intOf kv).toNat)
  case atStart => exact ⟨0, Nat.zero_le _, rfl, by rw [preF_zero]; exact HO.out, Below.refl _ _, KeepB.refl _⟩
  case round =>
    obtain ⟨k, hk, rfl, hown, hbel, hkp⟩ := hrel
    clear HO
    have HOw := hidd hown
    have HB := hidd hbel
    have HK := hidd hkp
    have hwz := hbel.size
    have hpl := HLen.out k
    clear hown hbel hkp
    by_cases hkt : k < l.length
    · have hktz : (k : Int) < (l.length : Int) := by omega
      obtain ⟨bt, ot, rfl, hbt, hct⟩ := HH.out.resolve_left (fun e => by rw [e] at hkt; simp at hkt)
      have t1 := ((HA.out.trans (HB.out.mono h0)).cell (p := ⟨bt, ot + k, none⟩) hbt).trans (hct k hkt)
      have HS := hidd (preF_step nuB M l 0 hkt)
      have htj := HT.out (l.getD k 0) (getD_mem hkt)
      obtain ⟨t, hte⟩ : ∃ t, l.getD k 0 = t := ⟨_, rfl⟩
      rw [hte] at t1 HS htj
      clear hte hct
      have HP := hidd (appInt_any base u1 _ (unS t) wr (unS_lt htj) (by omega) (by omega) HOw.out)
      have HU := hidd (unsigned_any t wr htj)
      unfold AppP at HP
      go_wp2_with (go_at_call 79; refine HU.out.mono ?_; rintro e w' ⟨rfl, hw'⟩; have hw2 := hw'.symm; subst hw2; clear hw')
      refine HP.out.mono ?_
      rintro e w8 ⟨v8, rfl, hown8, hb8, hk8⟩
      rw [nuB_put, ← HS.out] at hown8
      have HO8 := hidd hown8
      have HB8 := hidd (HB.out.trans hb8)
      have HK8 := hidd (HK.out.trans hk8)
      clear hown8 hb8 hk8 HP t1 HOw
      dsimp only
      go_wp2_with fail
      go_roundw
      case rel => exact ⟨k + 1, by omega, by go_num, HO8.out, HB8.out, HK8.out⟩
      case measure => simp [intOf]; omega
    · have hktz : ¬ (k : Int) < (l.length : Int) := by omega
      obtain rfl : k = l.length := by omega
      have HE := hidd (preF_all nuB M l)
      go_wp2_with fail
      go_ret
      exact ⟨_, rfl, by rw [← HE.out]; exact HOw.out, HB.out, HK.out⟩
theorem contents_any (f : List UInt8) (at_ an : Option Addr) (n ct m cn : Nat) (w : World) : Calls Try.prog 46 #[.agg #[.string ⟨f.toArray⟩, .slice at_ n ct, .slice an m cn]] w fun e w' => e = .returned (.agg #[.iface 87 (.slice at_ n ct), .iface 88 (.slice an m cn)]) ∧ Below w.heap.size w w' := by
  go_enter Try.func46, Try.ntmps46
  go_wp2_with fail
  refine bodyPost_ret (v := .agg #[.iface 87 (.slice at_ n ct), .iface 88 (.slice an m cn)]) (by simp [results, Try.results46, go_sem, *]) rfl ?_
  exact ⟨rfl, ((Below.refl _ _).alloc (Nat.le_refl _) _).alloc (by simp) _⟩
end Go.Proofs.Ytefhmbnhhkgifaa
