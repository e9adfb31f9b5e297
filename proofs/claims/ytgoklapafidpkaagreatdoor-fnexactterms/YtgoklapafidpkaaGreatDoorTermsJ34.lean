import Derived.Test.YtgoklapafidpkaaGreatDoorTermsJ10
import Derived.Test.YtgoklapafidpkaaGreatDoorTermsJ33
namespace Go.Proofs.YtgoklapafidpkaaGreatDoor
open Go Go.RowKit
set_option linter.unusedVariables false
set_option maxRecDepth 100000

set_option maxHeartbeats 4000000 in
theorem refuses_any (f : Fd) (aS aY : Option Addr) (cS cY : Nat) (t : List UInt8) (w : World) (hT : Tabs w) (hz : FdSz f) (hS : HoldS w aS f.stops) (hY : HoldY w aY f.syns) (ht : t.length ≤ 1048576) :
    Calls Tryz.prog 112 #[.agg #[.string (bs f.name), .int .i64 f.kind, .bool f.bf, .bool f.bsm, .bool f.bp, .slice aS f.stops.length cS, .slice aY f.syns.length cY, .int .i64 f.lo, .int .i64 f.hi], .string (bs t)] w fun e w' => e = .returned (.bool (!txFit f t)) ∧ Below w.heap.size w w' := by
  have HBa := hidd ((Below.refl w.heap.size w).alloc (Nat.le_refl _) (.cells #[.string (bs f.name), .int .i64 f.kind, .bool f.bf, .bool f.bsm, .bool f.bp, .slice aS f.stops.length cS, .slice aY f.syns.length cY, .int .i64 f.lo, .int .i64 f.hi] 79))
  have hbt : (bs t).size ≤ 1048576 := by rw [bs_size]; exact ht
  have HCt := hidd (fun W (hW : Below w.heap.size w W) => implTermOK_any t W hbt (hT.below hW))
  have HCa : Hid (∀ W, Below w.heap.size w W → Calls Tryz.prog 125 #[.agg #[.bool f.bf, .bool f.bsm, .bool f.bp, .slice aS f.stops.length cS, .slice aY f.syns.length cY, .int .i64 f.lo, .int .i64 f.hi], .string (bs t)] W fun e w' => ∃ v, e = .returned (.tuple #[v, .int .i64 (anC f t)]) ∧ Below W.heap.size W w') := fun W hW => (implAnalyze_any f.bf f.bsm f.bp aS aY cS cY f.stops f.syns f.lo f.hi (bs t) W (hT.below hW) (hS.below hW) (hY.below hW) hz.2.2.2.1 hz.2.2.2.2 hz.2.1 hz.2.2.1 hbt).mono fun e w' h => by obtain ⟨v, h1, _, h3⟩ := h; exact ⟨v, h1, h3⟩
  clear hT hS hY hz ht
  go_enter Tryz.func112, Tryz.ntmps112
  by_cases h2 : f.kind = 2
  · have HR : Hid (txFit f t = tOK t) := by show _ = _; rw [txFit, if_pos h2]
    go_wp2_with fail
    refine (HCt.out _ ((Below.refl _ _).alloc (Nat.le_refl _) _)).mono ?_
    rintro e w3 ⟨rfl, hb3⟩
    go_wp2_with fail
    go_ret
    rw [HR.out]
    exact ⟨rfl, ((Below.refl _ _).alloc (Nat.le_refl _) _).trans (hb3.mono (by simp))⟩
  · have HR : Hid (txFit f t = decide (anC f t = 0)) := by show _ = _; rw [txFit, if_neg h2]
    generalize anC f t = C at *
    go_wp2_with fail
    refine (HCa.out _ HBa.out).mono ?_
    rintro e w3 ⟨v, rfl, hb3⟩
    dsimp only
    go_wp2_with fail
    go_ret
    rw [HR.out]
    refine ⟨?_, HBa.out.trans (hb3.mono HBa.out.size)⟩
    show Ending.returned (Value.bool (C != 0)) = _
    by_cases hC : C = 0 <;> simp [hC]
/-- A function that tells of texts, wherever the world has come to. -/
def PredS (g : FuncId) (bd : Array Value) (p : List UInt8 → Bool) (wb : World) : Prop :=
  ∀ (W : World) (x : List UInt8), Below wb.heap.size wb W → x.length ≤ 1048576 → Calls Tryz.prog g (bd ++ #[.string (bs x)]) W fun e w' => e = .returned (.bool (p x)) ∧ Below W.heap.size W w'
set_option maxHeartbeats 8000000 in
theorem txIndex_any (p : List UInt8 → Bool) (a : Option Addr) (cap : Nat) (l : List (List UInt8)) (f : Fd) (aS aY : Option Addr) (cS cY : Nat) (w : World) (hn : l.length ≤ 1048576) (hS : HoldTx w a l) (hsz : ∀ k, k < l.length → (l.getD k []).length ≤ 1048576)
    (hP : PredS 112 #[.agg #[.string (bs f.name), .int .i64 f.kind, .bool f.bf, .bool f.bsm, .bool f.bp, .slice aS f.stops.length cS, .slice aY f.syns.length cY, .int .i64 f.lo, .int .i64 f.hi]] p w) :
    Calls Tryz.prog 139 #[.slice a l.length cap, .func (.func 112) #[.agg #[.string (bs f.name), .int .i64 f.kind, .bool f.bf, .bool f.bsm, .bool f.bp, .slice aS f.stops.length cS, .slice aY f.syns.length cY, .int .i64 f.lo, .int .i64 f.hi]] #[]] w fun e w' => ∃ z : Int, e = .returned (.int .i64 z) ∧ (0 ≤ z ↔ l.any p = true) ∧ Below w.heap.size w w' := by
  have HS := hidd hS
  have HP := hidd hP
  have HZ := hidd hsz
  clear hS hP hsz
  go_enter Tryz.func139, Tryz.ntmps139
  go_wp2_with fail
  go_loopw [8] (fun i wx => ∃ k : Nat, k ≤ l.length ∧ i = .int .i64 k ∧ (∀ j, j < k → p (l.getD j []) = false) ∧ Below w.heap.size w wx) (fun i _ => l.length - (intOf i).toNat)
  case atStart => exact ⟨0, by omega, rfl, fun j hj => absurd hj (by omega), Below.refl _ _⟩
  case round =>
    obtain ⟨k, hk, rfl, hno, hbx⟩ := hrel
    have HN := hidd hno
    have HB := hidd hbx
    clear hno hbx
    by_cases hlt : k < l.length
    · obtain ⟨b, off, rfl, hbl, hc⟩ := (HS.out.below HB.out).resolve_left (fun h => by rw [h] at hlt; simp at hlt)
      have q0 : wr.cell? ⟨b, off + k, none⟩ = some (.string (bs (l.getD k []))) := hc k hlt
      clear hc
      have HPk := hidd (HP.out wr (l.getD k []) HB.out (HZ.out k hlt))
      have HF : Hid (l.getD k [] ∈ l) := getD_in hlt
      obtain ⟨t, ht⟩ : ∃ t, l.getD k [] = t := ⟨_, rfl⟩
      have HT := hidd ht
      rw [ht] at q0 HPk HF
      clear ht
      cases hp : p t with
      | false =>
        have HPn : Hid (∀ j, j < k + 1 → p (l.getD j []) = false) := fun j hj => by
          by_cases h : j < k
          · exact HN.out j h
          · have : j = k := by omega
            subst this
            rw [HT.out]; exact hp
        rw [hp] at HPk
        clear hp
        go_wp2_with (go_at_call 112; refine HPk.out.mono ?_; rintro e w2 ⟨rfl, hb2⟩)
        go_roundw
        case rel => exact ⟨k + 1, by omega, by go_num, HPn.out, HB.out.trans (hb2.mono HB.out.size)⟩
        case measure => simp [intOf]; omega
      | true =>
        have HR : Hid (l.any p = true) := List.any_eq_true.2 ⟨t, HF.out, hp⟩
        rw [hp] at HPk
        clear hp
        go_wp2_with (go_at_call 112; refine HPk.out.mono ?_; rintro e w2 ⟨rfl, hb2⟩)
        go_ret
        exact ⟨(k : Int), rfl, ⟨fun _ => HR.out, fun _ => by omega⟩, HB.out.trans (hb2.mono HB.out.size)⟩
    · have HR : Hid (¬ l.any p = true) := by
        intro h
        obtain ⟨x, hx, hp⟩ := List.any_eq_true.1 h
        obtain ⟨j, hj, e⟩ := List.mem_iff_getElem.1 hx
        have := HN.out j (by omega)
        rw [List.getD_eq_getElem?_getD, List.getElem?_eq_getElem hj, Option.getD_some, e, hp] at this
        cases this
      go_wp2_with fail
      go_ret
      exact ⟨-1, rfl, ⟨fun h => by omega, fun h => absurd h HR.out⟩, HB.out⟩
set_option maxHeartbeats 4000000 in
theorem txContains_any (p : List UInt8 → Bool) (a : Option Addr) (cap : Nat) (l : List (List UInt8)) (f : Fd) (aS aY : Option Addr) (cS cY : Nat) (w : World) (hn : l.length ≤ 1048576) (hS : HoldTx w a l) (hsz : ∀ k, k < l.length → (l.getD k []).length ≤ 1048576)
    (hP : PredS 112 #[.agg #[.string (bs f.name), .int .i64 f.kind, .bool f.bf, .bool f.bsm, .bool f.bp, .slice aS f.stops.length cS, .slice aY f.syns.length cY, .int .i64 f.lo, .int .i64 f.hi]] p w) :
    Calls Tryz.prog 111 #[.slice a l.length cap, .func (.func 112) #[.agg #[.string (bs f.name), .int .i64 f.kind, .bool f.bf, .bool f.bsm, .bool f.bp, .slice aS f.stops.length cS, .slice aY f.syns.length cY, .int .i64 f.lo, .int .i64 f.hi]] #[]] w fun e w' => e = .returned (.bool (l.any p)) ∧ Below w.heap.size w w' := by
  have HI := hidd (txIndex_any p a cap l f aS aY cS cY w hn hS hsz hP)
  clear hP hS hsz
  go_enter Tryz.func111, Tryz.ntmps111
  go_wp2_with fail
  refine HI.out.mono ?_
  rintro e w3 ⟨z, rfl, hz, hb3⟩
  have HZ := hidd hz
  clear hz
  go_wp2_with fail
  go_ret
  refine ⟨?_, hb3⟩
  show Ending.returned (Value.bool (decide (0 ≤ z))) = _
  congr 2
  rw [Bool.eq_iff_iff, decide_eq_true_eq]
  exact HZ.out
end Go.Proofs.YtgoklapafidpkaaGreatDoor

namespace Go.Proofs.YtgoklapafidpkaaGreatDoor
open Go Go.RowKit
set_option linter.unusedVariables false
set_option maxRecDepth 100000

theorem taTx (a : Option Addr) (n c : Nat) (w : World) : (Instr.typeAssert (.iface 146 (.slice a n c)) 99 146 true).run Tryz.prog w = .ok (.tuple #[.slice a n c, .bool true]) w := by kernel_rfl
theorem taNu (a : Option Addr) (n c : Nat) (w : World) : (Instr.typeAssert (.iface 147 (.slice a n c)) 99 147 true).run Tryz.prog w = .ok (.tuple #[.slice a n c, .bool true]) w := by kernel_rfl
theorem taTxNu (a : Option Addr) (n c : Nat) (w : World) : (Instr.typeAssert (.iface 147 (.slice a n c)) 99 146 true).run Tryz.prog w = .ok (.tuple #[.slice none 0 0, .bool false]) w := by kernel_rfl
theorem taTxNil (w : World) : (Instr.typeAssert .nilIface 99 146 true).run Tryz.prog w = .ok (.tuple #[.slice none 0 0, .bool false]) w := by kernel_rfl
theorem taNuNil (w : World) : (Instr.typeAssert .nilIface 99 147 true).run Tryz.prog w = .ok (.tuple #[.slice none 0 0, .bool false]) w := by kernel_rfl
theorem any_not {X : Type} (p : X → Bool) (l : List X) : (!l.any fun x => !p x) = l.all p := by
  rw [List.all_eq_not_any_not]
set_option maxHeartbeats 8000000 in
theorem takes_any (f : Fd) (aS aY : Option Addr) (cS cY : Nat) (fn : List UInt8) (at_ an : Option Addr) (ct cn : Nat) (tx : List (List UInt8)) (nz : List Int) (w : World) (hT : Tabs w) (hz : FdSz f) (hS : HoldS w aS f.stops) (hY : HoldY w aY f.syns) (hxl : tx.length ≤ 1048576) (hnl : nz.length ≤ 1048576) (hsz : ∀ k, k < tx.length → (tx.getD k []).length ≤ 1048576) (hTx : HoldTx w at_ tx) (hZ : HoldZ w an nz) :
    Calls Tryz.prog 74 #[.agg #[.string (bs f.name), .int .i64 f.kind, .bool f.bf, .bool f.bsm, .bool f.bp, .slice aS f.stops.length cS, .slice aY f.syns.length cY, .int .i64 f.lo, .int .i64 f.hi], ctV at_ an tx.length ct nz.length cn] w fun e w' => e = .returned (.bool (takesV f (fn, tx, nz))) ∧ Below w.heap.size w w' := by
  have HBa := hidd ((Below.refl w.heap.size w).alloc (Nat.le_refl _) (.cells #[.string (bs f.name), .int .i64 f.kind, .bool f.bf, .bool f.bsm, .bool f.bp, .slice aS f.stops.length cS, .slice aY f.syns.length cY, .int .i64 f.lo, .int .i64 f.hi] 79))
  have HCc : Hid (∀ W, Below w.heap.size w W → Calls Tryz.prog 111 #[.slice at_ tx.length ct, .func (.func 112) #[.agg #[.string (bs f.name), .int .i64 f.kind, .bool f.bf, .bool f.bsm, .bool f.bp, .slice aS f.stops.length cS, .slice aY f.syns.length cY, .int .i64 f.lo, .int .i64 f.hi]] #[]] W fun e w' => e = .returned (.bool (tx.any fun t => !txFit f t)) ∧ Below W.heap.size W w') := fun W hW =>
    txContains_any (fun t => !txFit f t) at_ ct tx f aS aY cS cY W hxl (hTx.below hW) hsz (fun W' x hW' hx => refuses_any f aS aY cS cY x W' ((hT.below hW).below hW') hz ((hS.below hW).below hW') ((hY.below hW).below hW') hx)
  have HCs : Hid (∀ W, Below w.heap.size w W → Calls Tryz.prog 114 #[.slice an nz.length cn] W fun e w' => e = .returned (.bool (nz.all nuOK)) ∧ w' = W) := fun W hW => nuStor_any an cn nz W hnl (hZ.below hW)
  have HCt : Hid (∀ W, Calls Tryz.prog 110 #[.slice at_ tx.length ct] W fun e w' => e = .returned (.int .i64 (tx.length : Int)) ∧ w' = W) := fun W => txCount_any at_ tx.length ct W hxl
  have HCn : Hid (∀ W, Calls Tryz.prog 113 #[.slice an nz.length cn] W fun e w' => e = .returned (.int .i64 (nz.length : Int)) ∧ w' = W) := fun W => nuCount_any an nz.length cn W hnl
  clear hT hz hS hY hsz hTx hZ
  have m1 := taTx
  have m2 := taNu
  have m3 := taTxNu
  have m4 := taTxNil
  have m5 := taNuNil
  obtain ⟨R, hR⟩ : ∃ R, takesV f (fn, tx, nz) = R := ⟨_, rfl⟩
  rw [hR]
  rw [takesV, nzFit, txsFit] at hR
  dsimp only at hR
  have HR := hidd hR
  clear hR
  by_cases hA : nz.length = 0 ∧ 0 < tx.length
  · rw [show ctV at_ an tx.length ct nz.length cn = .iface 146 (.slice at_ tx.length ct) by rw [ctV, if_pos hA]]
    obtain ⟨hA1, hA2⟩ := hA
    go_enter Tryz.func74, Tryz.ntmps74
    by_cases h3 : f.kind = 3
    · have HE : Hid (R = false) := by show _ = _; rw [← HR.out, if_pos h3, decide_eq_false (p := tx.length = 0) (by omega)]; rfl
      clear HR
      go_wp2_with fail
      go_ret
      rw [HE.out]
      exact ⟨rfl, (Below.refl _ _).alloc (Nat.le_refl _) _⟩
    · rw [if_neg h3, decide_eq_true hA1, decide_eq_true (p := 1 ≤ tx.length) (by omega)] at HR
      by_cases h16 : tx.length ≤ 16
      · have z16 : (tx.length : Int) ≤ 16 := by omega
        have HE : Hid (R = tx.all (txFit f)) := by show _ = _; rw [← HR.out, decide_eq_true h16]; rfl
        clear HR
        go_wp2_with fail
        refine (HCt.out _).mono ?_
        rintro e w' ⟨rfl, hw⟩
        subst hw
        go_wp2_with fail
        refine (HCc.out _ HBa.out).mono ?_
        rintro e w3 ⟨rfl, hb3⟩
        go_wp2_with fail
        go_ret
        rw [HE.out, ← any_not]
        refine ⟨?_, HBa.out.trans (hb3.mono HBa.out.size)⟩
        show Ending.returned (Value.bool ((f.kind != 3) && !tx.any fun t => !txFit f t)) = _
        rw [show (f.kind != 3) = true by simpa using h3, Bool.true_and]
      · have z16 : ¬ (tx.length : Int) ≤ 16 := by omega
        have HE : Hid (R = false) := by show _ = _; rw [← HR.out, decide_eq_false h16]; rfl
        clear HR
        go_wp2_with fail
        refine (HCt.out _).mono ?_
        rintro e w' ⟨rfl, hw⟩
        subst hw
        go_wp2_with fail
        go_ret
        rw [HE.out]
        exact ⟨rfl, HBa.out⟩
  by_cases hB : tx.length = 0 ∧ 0 < nz.length
  · rw [show ctV at_ an tx.length ct nz.length cn = .iface 147 (.slice an nz.length cn) by rw [ctV, if_neg hA, if_pos hB]]
    obtain ⟨hB1, hB2⟩ := hB
    clear hA
    go_enter Tryz.func74, Tryz.ntmps74
    by_cases h3 : f.kind = 3
    · rw [if_pos h3, decide_eq_true hB1, decide_eq_true (p := 1 ≤ nz.length) (by omega)] at HR
      by_cases h16 : nz.length ≤ 16
      · have z16 : (nz.length : Int) ≤ 16 := by omega
        have HE : Hid (R = nz.all nuOK) := by show _ = _; rw [← HR.out, decide_eq_true h16]; rfl
        clear HR
        go_wp2_with fail
        refine (HCn.out _).mono ?_
        rintro e w' ⟨rfl, hw⟩
        subst hw
        go_wp2_with fail
        refine (HCs.out _ ((Below.refl _ _).alloc (Nat.le_refl _) _)).mono ?_
        rintro e w' ⟨rfl, hw⟩
        subst hw
        go_wp2_with fail
        go_ret
        rw [HE.out]
        exact ⟨rfl, (Below.refl _ _).alloc (Nat.le_refl _) _⟩
      · have z16 : ¬ (nz.length : Int) ≤ 16 := by omega
        have HE : Hid (R = false) := by show _ = _; rw [← HR.out, decide_eq_false h16]; rfl
        clear HR
        go_wp2_with fail
        refine (HCn.out _).mono ?_
        rintro e w' ⟨rfl, hw⟩
        subst hw
        go_wp2_with fail
        go_ret
        rw [HE.out]
        exact ⟨rfl, (Below.refl _ _).alloc (Nat.le_refl _) _⟩
    · have HE : Hid (R = false) := by show _ = _; rw [← HR.out, if_neg h3, decide_eq_false (p := nz.length = 0) (by omega)]; rfl
      clear HR
      go_wp2_with fail
      go_ret
      rw [HE.out]
      exact ⟨rfl, HBa.out⟩
  · rw [show ctV at_ an tx.length ct nz.length cn = .nilIface by rw [ctV, if_neg hA, if_neg hB]]
    have HE : Hid (R = false) := by
      show _ = _
      rw [← HR.out]
      split
      · by_cases h1 : tx.length = 0
        · rw [decide_eq_false (p := 1 ≤ nz.length) (by omega)]; simp
        · rw [decide_eq_false h1]; rfl
      · by_cases h1 : nz.length = 0
        · rw [decide_eq_false (p := 1 ≤ tx.length) (by omega)]; simp
        · rw [decide_eq_false h1]; rfl
    clear hA hB HR
    go_enter Tryz.func74, Tryz.ntmps74
    go_wp2_with fail
    go_ret
    rw [HE.out]
    exact ⟨rfl, HBa.out⟩
end Go.Proofs.YtgoklapafidpkaaGreatDoor
