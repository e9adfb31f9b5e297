import Derived.Test.YtefhmbnhhkgifaaDoorReadLogJ11
import Derived.Test.YtefhmbnhhkgifaaDoorReadLogJ15
import Derived.Test.YtefhmbnhhkgifaaDoorReadLogJ16
namespace Go.Proofs.YtefhmbnhhkgifaaDoor
open Go Go.RowKit
set_option linter.unusedVariables false
set_option linter.unusedSimpArgs false
set_option maxRecDepth 100000

theorem lst_mk (l : List UInt8) : lst ⟨l.toArray⟩ = l := by simp [lst]
/-- The cells of a record. -/
def rcC (kd sq : Int) (id did : List UInt8) (a : Option Addr) (n c : Nat) : Array Value := #[.int .i64 kd, .int .i64 sq, .string ⟨id.toArray⟩, .string ⟨did.toArray⟩, .slice a n c]
theorem str_eq (l : List UInt8) : l.isEmpty = decide (l.length = 0) := by cases l <;> simp
set_option maxHeartbeats 2000000 in
theorem specEmpty_any (did : List UInt8) (a : Option Addr) (n c : Nat) (w : World) (hn : n ≤ 1048576) :
    Calls Tryd.prog 34 #[.agg #[.string ⟨did.toArray⟩, .slice a n c]] w fun e w' => e = .returned (.bool (decide (did.length = 0) && decide (n = 0))) ∧ Below w.heap.size w w' := by
  have HBa := hidd ((Below.refl w.heap.size w).alloc (Nat.le_refl _) (.cells #[.string ⟨did.toArray⟩, .slice a n c] 34))
  have hs := str_eq did
  go_enter Tryd.func34, Tryd.ntmps34
  by_cases h1 : did.length = 0
  · rw [decide_eq_true h1] at hs ⊢
    by_cases h2 : n = 0
    · subst h2
      clear h1
      go_wp2_with fail
      go_ret
      exact ⟨rfl, HBa.out⟩
    · rw [decide_eq_false h2]
      have h3 : ((n : Int) == 0) = false := by simp; omega
      clear h1
      go_wp2_with fail
      go_ret
      exact ⟨rfl, HBa.out⟩
  · rw [decide_eq_false h1] at hs ⊢
    clear h1
    go_wp2_with fail
    go_ret
    exact ⟨rfl, HBa.out⟩
set_option maxHeartbeats 4000000 in
theorem specRecOK_any (kd sq : Int) (id did : List UInt8) (a : Option Addr) (c : Nat) (V : List Vl) (w : World) (hid : id.length ≤ 1048576) (hdid : did.length ≤ 1048576) (hn : V.length ≤ 1048576) (hT : ∀ i, (V.getD i vl0).2.1.length ≤ 1048576 ∧ (V.getD i vl0).2.2.length ≤ 1048576) (h : HoldV w a V) :
    Calls Tryd.prog 20 #[.agg #[.int .i64 kd, .int .i64 sq, .string ⟨id.toArray⟩, .string ⟨did.toArray⟩, .slice a V.length c]] w fun e w' => e = .returned (.bool (rcOK (kd, sq, id, (did, V)))) ∧ Below w.heap.size w w' := by
  have HBa := hidd ((Below.refl w.heap.size w).alloc (Nat.le_refl _) (.cells #[.int .i64 kd, .int .i64 sq, .string ⟨id.toArray⟩, .string ⟨did.toArray⟩, .slice a V.length c] 36))
  have HX := hidd (heap_alloc_new w (.cells #[.int .i64 kd, .int .i64 sq, .string ⟨id.toArray⟩, .string ⟨did.toArray⟩, .slice a V.length c] 36))
  have HI := hidd (fun (l : List UInt8) (W : World) (hl : l.length ≤ 1048576) => specId_any ⟨l.toArray⟩ W (by rw [Lib.size_eq]; exact hl))
  have HF := hidd (fun (W : World) (hW : Below w.heap.size w W) => specFits_any did a c V W hn hT (h.below hW))
  have HE := hidd (fun (W : World) => specEmpty_any did a V.length c W hn)
  clear h hT
  have hs := str_eq id
  have HR : Hid (rcOK (kd, sq, id, (did, V)) = (seqOK sq && if kd = 1 then decide (id.length = 0) && idV did && dcOK (did, V) else decide (kd = 2) && idV id && decide (did.length = 0) && decide (V.length = 0))) := rfl
  go_enter Tryd.func20, Tryd.ntmps20
  go_upto_region 1 with fail
  obtain ⟨wa, hwa⟩ : ∃ wa, w.alloc (.cells #[.int .i64 kd, .int .i64 sq, .string ⟨id.toArray⟩, .string ⟨did.toArray⟩, .slice a V.length c] 36) = wa := ⟨_, rfl⟩
  rw [hwa] at HBa HX
  try rw [hwa]
  clear hwa
  have x0 := blkc HX.out 0
  have x1 := blkc HX.out 1
  have x2 := blkc HX.out 2
  have x3 := blkc HX.out 3
  have x4 := blkc HX.out 4
  by_cases hq1 : sq < 1
  · have HQ : Hid (rcOK (kd, sq, id, (did, V)) = false) := by show _ = _; rw [HR.out, seqOK, decide_eq_false (by omega)]; rfl
    go_wp2_with fail
    go_ret
    exact ⟨by rw [HQ.out]; rfl, HBa.out⟩
  by_cases hq2 : sq > 4611686018427387903
  · have HQ : Hid (rcOK (kd, sq, id, (did, V)) = false) := by show _ = _; rw [HR.out, seqOK, decide_eq_false (p := sq ≤ 4611686018427387903) (by omega), Bool.and_false]; rfl
    go_wp2_with fail
    go_ret
    exact ⟨by rw [HQ.out]; rfl, HBa.out⟩
  have hqq : seqOK sq = true := by rw [seqOK, decide_eq_true (by omega), decide_eq_true (by omega)]; rfl
  rw [hqq, Bool.true_and] at HR
  clear hqq
  by_cases hk : kd = 1
  · rw [if_pos hk] at HR
    subst hk
    by_cases h1 : id.length = 0
    · rw [decide_eq_true h1] at hs HR
      rw [Bool.true_and] at HR
      clear h1
      go_wp2_with fail
      refine (HI.out did _ hdid).mono ?_
      rintro e w1 ⟨rfl, hw1⟩
      obtain rfl := hw1.symm
      clear hw1
      rw [lst_mk]
      cases hi : idV did with
      | false =>
        rw [hi] at HR
        go_wp2_with fail
        go_ret
        exact ⟨by rw [HR.out]; rfl, HBa.out⟩
      | true =>
        rw [hi, Bool.true_and] at HR
        clear hi
        go_wp2_with fail
        refine (HF.out _ HBa.out).mono ?_
        rintro e w2 ⟨rfl, hb2⟩
        have HB2 := hidd (HBa.out.trans (hb2.mono HBa.out.size))
        clear hb2
        go_wp2_with fail
        go_ret
        exact ⟨by rw [HR.out]; first | rfl | simp, HB2.out⟩
    · rw [decide_eq_false h1] at hs HR
      clear h1
      go_wp2_with fail
      go_ret
      exact ⟨by rw [HR.out]; rfl, HBa.out⟩
  · rw [if_neg hk] at HR
    by_cases hk2 : kd = 2
    · rw [decide_eq_true hk2, Bool.true_and] at HR
      subst hk2
      clear hs
      go_wp2_with fail
      refine (HI.out id _ hid).mono ?_
      rintro e w1 ⟨rfl, hw1⟩
      obtain rfl := hw1.symm
      clear hw1
      rw [lst_mk]
      cases hi : idV id with
      | false =>
        rw [hi] at HR
        go_wp2_with fail
        go_ret
        exact ⟨by rw [HR.out]; rfl, HBa.out⟩
      | true =>
        rw [hi, Bool.true_and] at HR
        clear hi
        go_wp2_with fail
        refine (HE.out _).mono ?_
        rintro e w2 ⟨rfl, hb2⟩
        have HB2 := hidd (HBa.out.trans (hb2.mono HBa.out.size))
        clear hb2
        go_wp2_with fail
        go_ret
        exact ⟨by rw [HR.out]; first | rfl | simp, HB2.out⟩
    · rw [decide_eq_false hk2] at HR
      clear hs
      go_wp2_with fail
      go_ret
      exact ⟨by rw [HR.out]; rfl, HBa.out⟩
end Go.Proofs.YtefhmbnhhkgifaaDoor

namespace Go.Proofs.YtefhmbnhhkgifaaDoor
open Go Go.RowKit
set_option linter.unusedVariables false
set_option linter.unusedSimpArgs false
set_option maxRecDepth 100000

set_option maxHeartbeats 4000000 in
theorem valid_any (kd sq : Int) (id did : List UInt8) (a : Option Addr) (c : Nat) (V : List Vl) (w : World) (hid : id.length ≤ 1048576) (hdid : did.length ≤ 1048576) (hn : V.length ≤ 1048576) (hT : ∀ i, (V.getD i vl0).2.1.length ≤ 1048576 ∧ (V.getD i vl0).2.2.length ≤ 1048576) (h : HoldV w a V) :
    Calls Tryd.prog 44 #[.agg #[.int .i64 kd, .int .i64 sq, .string ⟨id.toArray⟩, .string ⟨did.toArray⟩, .slice a V.length c]] w fun e w' => e = .returned (.bool (rcOK (kd, sq, id, (did, V)))) ∧ Below w.heap.size w w' := by
  have HBa := hidd ((Below.refl w.heap.size w).alloc (Nat.le_refl _) (.cells #[.int .i64 kd, .int .i64 sq, .string ⟨id.toArray⟩, .string ⟨did.toArray⟩, .slice a V.length c] 36))
  have HX := hidd (heap_alloc_new w (.cells #[.int .i64 kd, .int .i64 sq, .string ⟨id.toArray⟩, .string ⟨did.toArray⟩, .slice a V.length c] 36))
  have HI := hidd (fun (l : List UInt8) (W : World) (hl : l.length ≤ 1048576) => implId_any ⟨l.toArray⟩ W (by rw [Lib.size_eq]; exact hl))
  have HF := hidd (fun (W : World) (hW : Below w.heap.size w W) => implStor_any did a c V W hn hT (h.below hW))
  have HW : Hid (∀ W, Calls Tryd.prog 53 #[.int .i64 sq, .int .i64 1, .int .i64 4611686018427387903] W fun e w' => e = .returned (.bool (seqOK sq)) ∧ w' = W) := fun W => within_any sq 1 4611686018427387903 W
  clear h hT
  have HR : Hid (rcOK (kd, sq, id, (did, V)) = (seqOK sq && if kd = 1 then decide (id.length = 0) && idV did && dcOK (did, V) else decide (kd = 2) && idV id && decide (did.length = 0) && decide (V.length = 0))) := rfl
  go_enter Tryd.func44, Tryd.ntmps44
  go_upto_region 1 with fail
  obtain ⟨wa, hwa⟩ : ∃ wa, w.alloc (.cells #[.int .i64 kd, .int .i64 sq, .string ⟨id.toArray⟩, .string ⟨did.toArray⟩, .slice a V.length c] 36) = wa := ⟨_, rfl⟩
  rw [hwa] at HBa HX
  try rw [hwa]
  clear hwa
  have x0 := blkc HX.out 0
  have x1 := blkc HX.out 1
  have x2 := blkc HX.out 2
  have x3 := blkc HX.out 3
  have x4 := blkc HX.out 4
  go_wp2_with fail
  refine (HW.out _).mono ?_
  rintro e w1 ⟨rfl, hw1⟩
  obtain rfl := hw1.symm
  clear hw1 HW
  cases hq : seqOK sq with
  | false =>
    rw [hq] at HR
    go_wp2_with fail
    go_ret
    exact ⟨by rw [HR.out]; rfl, HBa.out⟩
  | true =>
    rw [hq, Bool.true_and] at HR
    clear hq
    by_cases hk : kd = 1
    · rw [if_pos hk] at HR
      subst hk
      have hs := str_eq id
      by_cases h1 : id.length = 0
      · rw [decide_eq_true h1] at hs HR
        rw [Bool.true_and] at HR
        clear h1
        go_wp2_with fail
        refine (HI.out did _ hdid).mono ?_
        rintro e w1 ⟨rfl, hw1⟩
        obtain rfl := hw1.symm
        clear hw1
        rw [lst_mk]
        cases hi : idV did with
        | false =>
          rw [hi] at HR
          go_wp2_with fail
          go_ret
          exact ⟨by rw [HR.out]; rfl, HBa.out⟩
        | true =>
          rw [hi, Bool.true_and] at HR
          clear hi
          go_wp2_with fail
          refine (HF.out _ HBa.out).mono ?_
          rintro e w2 ⟨rfl, hb2⟩
          have HB2 := hidd (HBa.out.trans (hb2.mono HBa.out.size))
          clear hb2
          go_wp2_with fail
          go_ret
          exact ⟨by rw [HR.out]; first | rfl | simp, HB2.out⟩
      · rw [decide_eq_false h1] at hs HR
        clear h1
        go_wp2_with fail
        go_ret
        exact ⟨by rw [HR.out]; rfl, HBa.out⟩
    · rw [if_neg hk] at HR
      by_cases hk2 : kd = 2
      · rw [decide_eq_true hk2, Bool.true_and] at HR
        subst hk2
        have hs := str_eq did
        go_wp2_with fail
        refine (HI.out id _ hid).mono ?_
        rintro e w1 ⟨rfl, hw1⟩
        obtain rfl := hw1.symm
        clear hw1
        rw [lst_mk]
        cases hi : idV id with
        | false =>
          rw [hi] at HR
          go_wp2_with fail
          go_ret
          exact ⟨by rw [HR.out]; rfl, HBa.out⟩
        | true =>
          rw [hi, Bool.true_and] at HR
          clear hi
          by_cases h1 : did.length = 0
          · rw [decide_eq_true h1] at hs HR
            rw [Bool.true_and] at HR
            clear h1
            have hv : ((V.length : Int) == 0) = decide (V.length = 0) := by
              by_cases h : V.length = 0
              · rw [decide_eq_true h, h]; rfl
              · rw [decide_eq_false h]; simp; exact fun e => h (by rw [e]; rfl)
            cases hv2 : decide (V.length = 0) with
            | false =>
              rw [hv2] at hv HR
              clear hv2
              go_wp2_with fail
              go_ret
              exact ⟨by rw [HR.out]; first | rfl | simp, HBa.out⟩
            | true =>
              rw [hv2] at hv HR
              clear hv2
              go_wp2_with fail
              go_ret
              exact ⟨by rw [HR.out]; first | rfl | simp, HBa.out⟩
          · rw [decide_eq_false h1] at hs HR
            clear h1
            go_wp2_with fail
            go_ret
            exact ⟨by rw [HR.out]; rfl, HBa.out⟩
      · rw [decide_eq_false hk2] at HR
        go_wp2_with fail
        go_ret
        exact ⟨by rw [HR.out]; rfl, HBa.out⟩
end Go.Proofs.YtefhmbnhhkgifaaDoor
