import Derived.Test.YtpdiaddgialanaaGreatDoorFwF
namespace Go.Proofs.YtpdiaddgialanaaGreatDoor
open Go Go.RowKit
set_option linter.unusedVariables false
set_option linter.unusedSimpArgs false
set_option maxRecDepth 100000

/-! The field ahead of a clause, and where there is none. -/
theorem idxAny_no : ∀ l : List UInt8, (∀ c ∈ l, c ∉ sgL) → Lib.indexAny l sgL = -1
  | [], _ => rfl
  | b :: l, h => by
    have h1 : sgL.contains b = false := by simpa using h b (List.mem_cons_self ..)
    have ih := idxAny_no l fun c hc => h c (List.mem_cons_of_mem _ hc)
    unfold Lib.indexAny
    rw [h1, ih]; rfl
theorem idxAny_at (c : UInt8) (hc : c ∈ sgL) (r : List UInt8) : ∀ l : List UInt8, (∀ c ∈ l, c ∉ sgL) → Lib.indexAny (l ++ c :: r) sgL = (l.length : Int)
  | [], _ => by
    have h1 : sgL.contains c = true := by simpa using hc
    rw [List.nil_append]
    unfold Lib.indexAny
    rw [h1]; rfl
  | b :: l, h => by
    have h1 : sgL.contains b = false := by simpa using h b (List.mem_cons_self ..)
    have ih := idxAny_at c hc r l fun c hc => h c (List.mem_cons_of_mem _ hc)
    rw [List.cons_append]
    unfold Lib.indexAny
    rw [h1, ih]
    have : (((l.length : Int)) == -1) = false := by rw [beq_eq_false_iff_ne]; omega
    rw [this]
    simp
theorem hv_set : ∀ w, (zeroValue 196).run Tryz.prog w = .ok (.agg (Array.replicate 256 (.bool false))) w := (zero_of_info (n := 256) (by kernel_rfl)).1
theorem sg_ascii : ∀ (j : Nat) b, sgB.data.toList[j]? = some b → b.toNat < 128 := fun j b h => by
  have hm : b ∈ sgL := List.mem_of_getElem? h
  have ha : ∀ b ∈ sgL, b.toNat < 128 := by decide
  exact ha b hm
theorem sgAny_none (s : ByteArray) (w : World) (hs : s.size ≤ 65536) (hb : ∀ c ∈ lst s, c ∉ sgL) (hr : ∀ r ∈ runes s, r ∈ wdR) :
    Calls Tryz.prog 98 #[.string s, .string sgB] w fun e w' => e = .returned (.int .i64 (-1)) ∧ Below w.heap.size w w' := by
  by_cases h8 : s.size ≤ 8
  · exact sgAny_short s w h8 hr
  · refine (Tryz.strings_IndexAny_long hv_set s sgB w (by decide) (by omega) (by omega) (by decide) sg_ascii).mono ?_
    rintro e w' ⟨rfl, rfl⟩
    refine ⟨?_, ((Below.refl _ _).alloc (Nat.le_refl _) _).alloc (by simp) _⟩
    rw [show sgB.data.toList = sgL from rfl, show s.data.toList = lst s from rfl, idxAny_no _ hb]
theorem sgAny_some (s : ByteArray) (w : World) (wd rest : List UInt8) (c : UInt8) (hs : s.size ≤ 65536) (h8 : 8 < s.size) (hl : lst s = wd ++ c :: rest) (hb : ∀ c ∈ wd, c ∉ sgL) (hc : c ∈ sgL) :
    Calls Tryz.prog 98 #[.string s, .string sgB] w fun e w' => e = .returned (.int .i64 (wd.length : Int)) ∧ Below w.heap.size w w' := by
  refine (Tryz.strings_IndexAny_long hv_set s sgB w (by decide) (by omega) (by omega) (by decide) sg_ascii).mono ?_
  rintro e w' ⟨rfl, rfl⟩
  refine ⟨?_, ((Below.refl _ _).alloc (Nat.le_refl _) _).alloc (by simp) _⟩
  rw [show sgB.data.toList = sgL from rfl, show s.data.toList = lst s from rfl, hl, idxAny_at c hc rest wd hb]
set_option maxHeartbeats 4000000 in
theorem field_none (W : World) (b : Nat) (T : ByteArray) (p : Nat) (hs : T.size ≤ 65536) (h : PsAt W b T p) (hp : p ≤ T.size) (hb : ∀ c ∈ lst (T.extract p T.size), c ∉ sgL) (hr : ∀ r ∈ runes (T.extract p T.size), r ∈ wdR) :
    Calls Tryz.prog 83 #[.pointer (some ⟨b, 0, none⟩)] W (PsR W b T (.string ⟨#[]⟩) p) := by
  obtain ⟨c0, c1, f1⟩ := h.cell
  have H := hidd h
  have hz : (T.extract p T.size).size ≤ 65536 := by rw [ByteArray.size_extract]; omega
  have HI : Hid (∀ V, Calls Tryz.prog 98 #[.string (T.extract p T.size), .string sgB] V fun e w' => e = .returned (.int .i64 (-1)) ∧ Below V.heap.size V w') := fun V => sgAny_none _ V hz hb hr
  have hpz : (p : Int) ≤ (T.size : Int) := by omega
  clear h hb hr
  go_enter Tryz.func83, Tryz.ntmps83
  go_wp2_with fail
  go_quiet (fail)
  have H2 := hidd (show PsAt (W.drewN nq) b T p from H.out)
  have HG2 := hidd (grown_drewP W nq (some b))
  clear H c0 c1 f1
  generalize W.drewN nq = w2 at *
  go_wp2_with fail
  refine (HI.out _).mono ?_
  rintro e w3 ⟨rfl, hb3⟩
  have H3 := hidd (H2.out.below hb3)
  have HG3 := hidd (grown_trans HG2.out (grown_belowP hb3 (some b)))
  clear hb3
  go_wp2
  go_ret
  exact ⟨rfl, H3.out, HG3.out⟩
set_option maxHeartbeats 4000000 in
theorem field_some (W : World) (b : Nat) (T R : ByteArray) (p : Nat) (rest : List UInt8) (hs : T.size ≤ 65536) (h : PsAt W b T p) (hp : p ≤ T.size) (hR : T.extract p T.size = R) (h8 : 8 < R.size) (hl : lst R = [102, 49] ++ 58 :: rest) :
    Calls Tryz.prog 83 #[.pointer (some ⟨b, 0, none⟩)] W (PsR W b T (.string ⟨#[102, 49]⟩) (p + 3)) := by
  obtain ⟨c0, c1, f1⟩ := h.cell
  have H := hidd h
  have hz : R.size ≤ 65536 := by rw [← hR, ByteArray.size_extract]; omega
  have hpR : p + R.size = T.size := by rw [← hR, ByteArray.size_extract]; omega
  have HI : Hid (∀ V, Calls Tryz.prog 98 #[.string R, .string sgB] V fun e w' => e = .returned (.int .i64 2) ∧ Below V.heap.size V w') := fun V => sgAny_some R V [102, 49] rest 58 hz h8 hl (by decide) (by decide)
  have hcut : R.extract 0 2 = ⟨#[102, 49]⟩ := by
    apply ByteArray.ext
    apply Array.ext'
    rw [ByteArray.data_extract]
    have : R.data.toList = [102, 49] ++ 58 :: rest := hl
    simp [this]
  obtain ⟨h2, hv2⟩ := byte_in (T := R) (p := 2) (c := 58) (by rw [hl]; rfl)
  have h2z : (2 : Int) < (R.size : Int) := by omega
  have h2y : (2 : Int) ≤ (R.size : Int) := by omega
  have HN : Hid (∀ V, Calls Tryz.prog 99 #[.string ⟨#[102, 49]⟩] V fun e w' => e = .returned (.bool true) ∧ w' = V) := fun V => by
    refine (nameOK_any ⟨#[102, 49]⟩ V (by decide)).mono ?_
    rintro e w' ⟨rfl, hb⟩
    exact ⟨by rw [show nmOK (lst ⟨#[102, 49]⟩) = true from by decide], hb⟩
  have HC : Hid (∀ V, Calls Tryz.prog 100 #[.string ⟨#[102, 49]⟩] V fun e w' => e = .returned (.string ⟨#[102, 49]⟩) ∧ Below V.heap.size V w') := fun V => clone_any _ V (by decide)
  have hpz : (p : Int) ≤ (T.size : Int) := by omega
  clear h hl
  go_enter Tryz.func83, Tryz.ntmps83
  go_wp2_with fail
  go_quiet (fail)
  have H2 := hidd (show PsAt (W.drewN nq) b T p from H.out)
  have HG2 := hidd (grown_drewP W nq (some b))
  clear H c0 c1 f1
  generalize W.drewN nq = w2 at *
  go_wp2_with fail
  refine (HI.out _).mono ?_
  rintro e w3 ⟨rfl, hb3⟩
  have H3 := hidd (H2.out.below hb3)
  have HG3 := hidd (grown_trans HG2.out (grown_belowP hb3 (some b)))
  clear hb3 H2 HG2
  obtain ⟨c0, c1, f1⟩ := H3.out.cell
  go_wp2_with fail
  refine (HN.out _).mono ?_
  rintro e w4 ⟨rfl, hw⟩
  obtain rfl := hw.symm
  go_wp2_with fail
  have HX := hidd (PsAt.set H3.out (p + 3))
  have HGX := hidd (grown_trans HG3.out (grown_setP w3 b 1 (.int .i64 ((p + 3 : Nat) : Int))))
  have hcast : ((p + 3 : Nat) : Int) = (p : Int) + 3 := by omega
  rw [hcast] at HX HGX
  clear hcast
  generalize w3.setCell ⟨b, 1, none⟩ (.int .i64 ((p : Int) + 3)) = w5 at *
  refine (HC.out _).mono ?_
  rintro e w6 ⟨rfl, hb6⟩
  have H6 := hidd (HX.out.below hb6)
  have HG6 := hidd (grown_trans HGX.out (grown_belowP hb6 (some b)))
  clear hb6
  go_wp2
  go_ret
  exact ⟨rfl, H6.out, HG6.out⟩
end Go.Proofs.YtpdiaddgialanaaGreatDoor
