import Derived.Test.YtoinajfliogcdaaDoorNearJ18
import Derived.Deep.RegionHeld3
import Derived.Deep.AppendLies
import Derived.Deep.RegionLaw
import Derived.Deep.RegionWith
import Derived.Test.YtoinajfliogcdaaDoorProg
import Derived.Test.YtoinajfliogcdaaDoorNearJ00
import Derived.WalkLawsBesides
namespace Go.Proofs.YtoinajfliogcdaaDoor
open Go Go.RowKit
set_option linter.unusedVariables false
set_option linter.unusedSimpArgs false
set_option maxRecDepth 100000

def below (key : (Int × Int) → Int) (T : Int) (l : List (Int × Int)) : Nat := l.countP fun a => decide (key a < T)
def foundAt (key : (Int × Int) → Int) (T : Int) (l : List (Int × Int)) : Bool := match l[below key T l]? with
 | some a => decide (key a = T)
 | none => false
theorem below_edge (key : (Int × Int) → Int) (T : Int) : ∀ (l : List (Int × Int)) (i : Nat), i ≤ l.length → (∀ t, t < i → key (l.getD t (0, 0)) < T) → (∀ t, i ≤ t → t < l.length → ¬ key (l.getD t (0, 0)) < T) → below key T l = i
 | [], i, hi, _, _ => by simp at hi; simp [below, hi]
 | a :: r, 0, _, _, h2 => by
  unfold below
  rw [List.countP_eq_zero]
  intro x hx
  obtain ⟨t, ht, rfl⟩ := List.getElem_of_mem hx
  have := h2 t (Nat.zero_le _) ht
  have e : (a :: r).getD t (0, 0) = (a :: r)[t] := by simp [List.getD_eq_getElem?_getD, List.getElem?_eq_getElem ht]
  rw [e] at this
  simpa using this
 | a :: r, i + 1, hi, h1, h2 => by
  have ha : key a < T := by simpa using h1 0 (Nat.succ_pos _)
  have ih := below_edge key T r i (by simpa using hi) (fun t ht => by simpa using h1 (t + 1) (by omega)) (fun t h3 h4 => by simpa using h2 (t + 1) (by omega) (by simpa using h4))
  unfold below at ih ⊢
  rw [List.countP_cons, ih]
  simp [ha]
theorem below_le (key : (Int × Int) → Int) (T : Int) (l : List (Int × Int)) : below key T l ≤ l.length := List.countP_le_length
def cmpI (x y : Int) : Int := if x < y then -1 else if y < x then 1 else 0
theorem isNaN_any (x : Int) (w : World) : Calls Tryd.prog 144 #[.int .i64 x] w fun e w' => e = .returned (.bool false) ∧ w' = w := by
 have hx : (x != x) = false := by simp
 go_enter Tryd.func144, Tryd.ntmps144
 go_wp2
 go_ret
 exact ⟨rfl, rfl⟩
set_option maxHeartbeats 1000000 in
theorem compare_any (x y : Int) (w : World) : Calls Tryd.prog 129 #[.int .i64 x, .int .i64 y] w fun e w' => e = .returned (.int .i64 (cmpI x y)) ∧ w' = w := by
 go_enter Tryd.func129, Tryd.ntmps129
 by_cases h1 : x < y
 ·have hc : cmpI x y = -1 := by rw [cmpI, if_pos h1]
  have HC := hidd hc
  clear hc
  go_wp2_with (go_at_call 144; refine (isNaN_any _ _).mono ?_; rintro e w' ⟨rfl, rfl⟩)
  go_ret
  exact ⟨by rw [HC.out]; rfl, rfl⟩
 ·by_cases h2 : y < x
  ·have hc : cmpI x y = 1 := by rw [cmpI, if_neg h1, if_pos h2]
   have HC := hidd hc
   have h3 : x > y := h2
   clear hc h2
   go_wp2_with (go_at_call 144; refine (isNaN_any _ _).mono ?_; rintro e w' ⟨rfl, rfl⟩)
   go_ret
   exact ⟨by rw [HC.out]; rfl, rfl⟩
  ·have hc : cmpI x y = 0 := by rw [cmpI, if_neg h1, if_neg h2]
   have HC := hidd hc
   have h3 : ¬ x > y := h2
   clear hc h2
   go_wp2_with (go_at_call 144; refine (isNaN_any _ _).mono ?_; rintro e w' ⟨rfl, rfl⟩)
   go_ret
   exact ⟨by rw [HC.out]; rfl, rfl⟩
theorem next1_any (a0 a1 T : Int) (w : World) : Calls Tryd.prog 128 #[.agg #[.int .i64 a0, .int .i64 a1], .int .i64 T] w fun e w' => e = .returned (.int .i64 (cmpI a0 T)) ∧ Below w.heap.size w w' := by
 have HB := hidd ((Below.refl w.heap.size w).alloc (Nat.le_refl _) (.cells #[.int .i64 a0, .int .i64 a1] 97))
 go_enter Tryd.func128, Tryd.ntmps128
 go_wp2_with (go_at_call 129; refine (compare_any _ _ _).mono ?_; rintro e w' ⟨rfl, rfl⟩)
 go_ret
 exact ⟨rfl, HB.out⟩
def CmpC (w : World) (g : Nat) (key : (Int × Int) → Int) (T : Int) : Prop := ∀ W, Below w.heap.size w W → ∀ x : (Int × Int), Calls Tryd.prog g #[.agg #[.int .i64 x.1, .int .i64 x.2], .int .i64 T] W fun e w' => e = .returned (.int .i64 (cmpI (key x) T)) ∧ Below W.heap.size W w'
theorem cmpI_lt {x T : Int} : cmpI x T < 0 ↔ x < T := by
 unfold cmpI
 by_cases h : x < T
 ·simp [h]
 ·rw [if_neg h]
  by_cases h2 : T < x
  ·simp [h2]; omega
  ·simp [h2]; omega
theorem cmpI_eq {x T : Int} : (cmpI x T == 0) = decide (x = T) := by
 unfold cmpI
 by_cases h : x < T
 ·have : ¬ x = T := by omega
  simp [h, this]
 ·rw [if_neg h]
  by_cases h2 : T < x
  ·have : ¬ x = T := by omega
   simp [h2, this]
  ·have : x = T := by omega
   simp [this]
set_option maxHeartbeats 4000000 in
theorem bsf_any (g : Nat) (hg : ∀ args W, (callFunc g args).run Tryd.prog W = .ok (.enter g args) W) (key : (Int × Int) → Int) (T : Int) (a : Option Addr) (c : Nat) (l : List (Int × Int)) (w : World) (hl : l.length ≤ 1048576) (hA : HDA w a l) (hC : CmpC w g key T) (hs : l.Pairwise fun x y => key x < key y) :
  Calls Tryd.prog 127 #[.slice a l.length c, .int .i64 T, .func (.func g) #[] #[]] w fun e w' => e = .returned (.tuple #[.int .i64 ((below key T l : Nat) : Int), .bool (foundAt key T l)]) ∧ Below w.heap.size w w' := by
 have HA := hidd hA
 have HC := hidd hC
 have HS := hidd hs
 clear hA hC hs
 go_enter Tryd.func127, Tryd.ntmps127
 go_wp2_with fail
 go_loopw [9, 10] (fun iv jv wr => ∃ i j : Nat, i ≤ j ∧ j ≤ l.length ∧ iv = .int .i64 (i : Int) ∧ jv = .int .i64 (j : Int) ∧ (∀ t, t < i → key (l.getD t (0, 0)) < T) ∧ (∀ t, j ≤ t → t < l.length → ¬ key (l.getD t (0, 0)) < T) ∧ Below w.heap.size w wr) (fun iv jv _ => (intOf jv).toNat - (intOf iv).toNat)
 case atStart => exact ⟨0, l.length, Nat.zero_le _, Nat.le_refl _, rfl, rfl, fun t h => by omega, fun t h1 h2 => by omega, Below.refl _ _⟩
 case round =>
  obtain ⟨i, j, hij, hj, rfl, rfl, hlo, hhi, hb⟩ := hrel
  have HLo := hidd hlo
  have HHi := hidd hhi
  have HB := hidd hb
  clear hlo hhi hb
  by_cases hlt : i < j
  ·have hltz : (i : Int) < (j : Int) := by omega
   obtain ⟨b, off, rfl, hbl, hc⟩ := HA.out.resolve_left (fun h => by rw [h] at hj; simp at hj; omega)
   go_upto_region 5 with fail
   obtain ⟨h, hh⟩ : ∃ h : Nat, ((i : Int) + (j : Int)) / 2 = (h : Int) := ⟨(i + j) / 2, by omega⟩
   simp only [hh]
   have hi1 : i ≤ h := by omega
   have hj1 : h < j := by omega
   clear hh
   have hhl : (h : Int) < (l.length : Int) := by omega
   obtain ⟨p0, p1⟩ := hc h (by omega)
   replace p0 := (HB.out.cell (p := ⟨b, off + h * 2, none⟩) hbl).trans p0
   replace p1 := (HB.out.cell (p := ⟨b, off + h * 2 + 1, none⟩) hbl).trans p1
   clear hc
   obtain ⟨x, hx⟩ : ∃ x, l.getD h (0, 0) = x := ⟨_, rfl⟩
   rw [hx] at p0 p1
   have Hx := hidd hx
   clear hx
   have HCx := hidd (HC.out wr HB.out x)
   obtain ⟨x0, x1⟩ := x
   dsimp only at p0 p1 HCx
   go_wp2_with fail
   refine HCx.out.mono ?_
   rintro e w1 ⟨rfl, hb1⟩
   have HB1 := hidd (HB.out.trans (hb1.mono HB.out.size))
   obtain ⟨K, hK⟩ : ∃ K, key (x0, x1) = K := ⟨_, rfl⟩
   have HK := hidd hK
   try rw [hK]
   clear hb1 hK p0 p1 HCx
   dsimp only
   by_cases hk : K < T
   ·have hk0 : cmpI K T < 0 := cmpI_lt.2 hk
    have HLo2 : Hid (∀ t, t < h + 1 → key (l.getD t (0, 0)) < T) := fun t ht => by
     by_cases e : t = h
     ·rw [e, Hx.out, HK.out]; exact hk
     ·have h1 := List.pairwise_iff_getElem.1 HS.out t h (by omega) (by omega) (by omega)
      have e1 : l.getD t (0, 0) = l[t] := by simp [List.getD_eq_getElem?_getD, List.getElem?_eq_getElem (show t < l.length by omega)]
      have e2 : l.getD h (0, 0) = l[h] := by simp [List.getD_eq_getElem?_getD, List.getElem?_eq_getElem (show h < l.length by omega)]
      rw [← e1, ← e2, Hx.out, HK.out] at h1
      omega
    go_wp2_with fail
    go_roundw
    case rel => exact ⟨h + 1, j, by omega, hj, by go_num, rfl, HLo2.out, fun t h1 h2 => by have := HHi.out t h1 h2; omega, HB1.out⟩
    case measure => simp [intOf]; omega
   ·have hk0 : ¬ cmpI K T < 0 := fun e => hk (cmpI_lt.1 e)
    have HHi2 : Hid (∀ t, h ≤ t → t < l.length → ¬ key (l.getD t (0, 0)) < T) := fun t ht1 ht2 => by
     by_cases e : t = h
     ·rw [e, Hx.out, HK.out]; exact hk
     ·have h1 := List.pairwise_iff_getElem.1 HS.out h t (by omega) (by omega) (by omega)
      have e1 : l.getD t (0, 0) = l[t] := by simp [List.getD_eq_getElem?_getD, List.getElem?_eq_getElem (show t < l.length by omega)]
      have e2 : l.getD h (0, 0) = l[h] := by simp [List.getD_eq_getElem?_getD, List.getElem?_eq_getElem (show h < l.length by omega)]
      rw [← e1, ← e2, Hx.out, HK.out] at h1
      omega
    go_wp2_with fail
    go_roundw
    case rel => exact ⟨i, h, hi1, by omega, rfl, rfl, HLo.out, HHi2.out, HB1.out⟩
    case measure => simp [intOf]; omega
  ·have hltz : ¬ (i : Int) < (j : Int) := by omega
   obtain rfl : i = j := by omega
   have HBe := hidd (below_edge key T l i hj HLo.out HHi.out)
   by_cases hin : i < l.length
   ·have hinz : (i : Int) < (l.length : Int) := by omega
    obtain ⟨b, off, rfl, hbl, hc⟩ := HA.out.resolve_left (fun h => by rw [h] at hin; simp at hin)
    obtain ⟨p0, p1⟩ := hc i hin
    replace p0 := (HB.out.cell (p := ⟨b, off + i * 2, none⟩) hbl).trans p0
    replace p1 := (HB.out.cell (p := ⟨b, off + i * 2 + 1, none⟩) hbl).trans p1
    clear hc
    obtain ⟨x, hx⟩ : ∃ x, l.getD i (0, 0) = x := ⟨_, rfl⟩
    rw [hx] at p0 p1
    have HFo : Hid (foundAt key T l = decide (key x = T)) := by
     show _ = _
     have e : l[i]? = some x := by rw [← hx, List.getD_eq_getElem?_getD, List.getElem?_eq_getElem hin]; rfl
     rw [foundAt, HBe.out, e]
    clear hx
    have HCx := hidd (HC.out wr HB.out x)
    obtain ⟨x0, x1⟩ := x
    dsimp only at p0 p1 HCx
    go_wp2_with fail
    refine HCx.out.mono ?_
    rintro e w1 ⟨rfl, hb1⟩
    have HB1 := hidd (HB.out.trans (hb1.mono HB.out.size))
    obtain ⟨K, hK⟩ : ∃ K, key (x0, x1) = K := ⟨_, rfl⟩
    rw [hK] at HFo
    try rw [hK]
    clear hb1 hK p0 p1 HCx
    dsimp only
    go_wp2_with fail
    go_ret2
    exact ⟨by rw [HBe.out, HFo.out, ← cmpI_eq]; rfl, HB1.out⟩
   ·have hinz : ¬ (i : Int) < (l.length : Int) := by omega
    have HFo : Hid (foundAt key T l = false) := by
     show _ = _
     rw [foundAt, HBe.out, List.getElem?_eq_none (by omega)]
    go_wp2_with fail
    go_ret2
    exact ⟨by rw [HBe.out, HFo.out]; rfl, HB.out⟩
theorem found_find : ∀ (l : List (Int × Int)) (T : Int), l.Pairwise (fun x y => x.1 < y.1) → (match l.find? (fun a => a.1 == T) with | some a => foundAt (fun a => a.1) T l = true ∧ l[below (fun a => a.1) T l]? = some a | none => foundAt (fun a => a.1) T l = false) := by
 intro l T hp
 have key : ∀ (l : List (Int × Int)), l.Pairwise (fun x y => x.1 < y.1) → ∀ a, l.find? (fun a => a.1 == T) = some a → l[below (fun a => a.1) T l]? = some a ∧ a.1 = T := by
  intro l
  induction l with
  | nil => intro _ a h; simp at h
  | cons x l ih =>
   intro hp a h
   obtain ⟨h1, h2⟩ := List.pairwise_cons.1 hp
   by_cases e : x.1 = T
   ·rw [List.find?_cons_of_pos (by simpa using e)] at h
    have hxa : x = a := by simpa using h
    subst hxa
    have hz : below (fun a => a.1) T (x :: l) = 0 := by
     unfold below
     rw [List.countP_eq_zero]
     intro y hy
     rcases List.mem_cons.1 hy with rfl | hy
     ·simp; omega
     ·have := h1 y hy; simp; omega
    rw [hz]
    exact ⟨rfl, e⟩
   ·rw [List.find?_cons_of_neg (by simpa using e)] at h
    obtain ⟨h3, h4⟩ := ih h2 a h
    have ha : a ∈ l := List.mem_of_find?_eq_some h
    have hx : x.1 < T := by have := h1 a ha; omega
    have hb : below (fun a => a.1) T (x :: l) = below (fun a => a.1) T l + 1 := by
     unfold below
     rw [List.countP_cons_of_pos (by simpa using hx)]
    rw [hb]
    exact ⟨h3, h4⟩
 cases hf : l.find? (fun a => a.1 == T) with
 | some a =>
  obtain ⟨h1, h2⟩ := key l hp a hf
  refine ⟨?_, h1⟩
  unfold foundAt
  rw [h1]
  simpa using h2
 | none =>
  show foundAt (fun a => a.1) T l = false
  unfold foundAt
  cases hg : l[below (fun a => a.1) T l]? with
  | none => rfl
  | some a =>
   have hm := List.mem_of_getElem? hg
   have := List.find?_eq_none.1 hf a hm
   simpa using this
end Go.Proofs.YtoinajfliogcdaaDoor

namespace Go.Proofs.YtoinajfliogcdaaDoor
open Go Go.RowKit
set_option linter.unusedVariables false

set_option maxHeartbeats 400000 in
theorem within_any (r lo hi : Int) (w : World) : Calls Tryd.prog 39 #[.int .i64 r, .int .i64 lo, .int .i64 hi] w fun e w' => e = .returned (.bool (decide (lo ≤ r) && decide (r ≤ hi))) ∧ w' = w := by
 by_cases h : lo ≤ r
 ·have HB : Hid (decide (lo ≤ r) = true) := decide_eq_true h
  go_enter Tryd.func39, Tryd.ntmps39
  go_wp2
  go_ret
  rw [HB.out, Bool.true_and]
  exact ⟨rfl, rfl⟩
 ·have HB : Hid (decide (lo ≤ r) = false) := decide_eq_false h
  go_enter Tryd.func39, Tryd.ntmps39
  go_wp2
  go_ret
  rw [HB.out, Bool.false_and]
  exact ⟨rfl, rfl⟩
end Go.Proofs.YtoinajfliogcdaaDoor

namespace Go.Proofs.YtoinajfliogcdaaDoor
open Go Go.RowKit
set_option linter.unusedVariables false
set_option linter.unusedSimpArgs false
set_option maxRecDepth 100000

def ArcsV (n : Nat) (l : List (Int × Int)) : Prop := l.Pairwise (fun x y => x.1 < y.1) ∧ (∀ a ∈ l, chr a.1 = true ∧ -1 ≤ a.2 ∧ a.2 < n) ∧ l.length ≤ 1048576
def ValD (D : List PSt) : Prop := 1 ≤ D.length ∧ D.length ≤ 256 ∧ ∀ s ∈ D, ArcsV D.length s.2.1 ∧ -1 ≤ s.2.2 ∧ s.2.2 < D.length
theorem isChr_any (r : Int) (w : World) (h : chr r = true) : Calls Tryd.prog 125 #[.int .i64 r] w fun e w' => e = .returned (.bool true) ∧ w' = w := by
 have hr := (chr_iff r).1 h
 have HW1 := hidd (within_any r 0 1114111 w)
 have HW2 := hidd (within_any r 55296 57343 w)
 rw [show (decide (0 ≤ r) && decide (r ≤ 1114111)) = true by simp; omega] at HW1
 rw [show (decide (55296 ≤ r) && decide (r ≤ 57343)) = false by
  rw [Bool.and_eq_false_iff]
  by_cases h4 : 55296 ≤ r
  ·exact Or.inr (decide_eq_false (by omega))
  ·exact Or.inl (decide_eq_false h4)] at HW2
 clear hr h
 go_enter Tryd.func125, Tryd.ntmps125
 go_wp2_with fail
 refine HW1.out.mono ?_
 rintro e w1 ⟨rfl, rfl⟩
 go_wp2_with fail
 refine HW2.out.mono ?_
 rintro e w2 ⟨rfl, rfl⟩
 go_wp2_with fail
 go_ret
 exact ⟨rfl, rfl⟩
set_option maxHeartbeats 4000000 in
theorem arcsOK_any (n c : Nat) (a : Option Addr) (l : List (Int × Int)) (last : Int) (w : World) (hlast : last = (n : Int) - 1) (hV : ArcsV n l) (h : HDA w a l) :
  Calls Tryd.prog 92 #[.slice a l.length c, .int .i64 last] w fun e w' => e = .returned (.bool true) ∧ Below w.heap.size w w' := by
 have H := hidd h
 have HV := hidd hV
 have hl := hV.2.2
 have HLa := hidd hlast
 clear h hV hlast
 go_enter Tryd.func92, Tryd.ntmps92
 go_wp2_with fail
 go_loopw [10, 5] (fun iv av wr => ∃ (i : Nat) (z : Int), i ≤ l.length ∧ iv = .int .i64 (i : Int) ∧ av = .int .i64 z ∧ (∀ x ∈ l.drop i, z < x.1) ∧ Below w.heap.size w wr) (fun iv _ _ => l.length - (intOf iv).toNat)
 case atStart =>
  refine ⟨0, -1, Nat.zero_le _, rfl, rfl, fun x hx => ?_, Below.refl _ _⟩
  have := (chr_iff _).1 (HV.out.2.1 x (by simpa using hx)).1
  omega
 case round =>
  obtain ⟨i, z, hi, rfl, rfl, hd, hb⟩ := hrel
  have HD := hidd hd
  have HB := hidd hb
  clear hd hb
  by_cases hlt : i < l.length
  ·have hltz : (i : Int) < (l.length : Int) := by omega
   obtain ⟨b, off, rfl, hb1, hc⟩ := (H.out.below HB.out).resolve_left (fun e => by rw [e] at hlt; simp at hlt)
   obtain ⟨x0, x1⟩ := hc i hlt
   have hx : l.getD i (0, 0) = l[i] := by rw [List.getD_eq_getElem?_getD, List.getElem?_eq_getElem hlt]; rfl
   rw [hx] at x0 x1
   have hdr : l.drop i = l[i] :: l.drop (i + 1) := (List.getElem_cons_drop hlt).symm
   have hz := HD.out l[i] (by rw [hdr]; exact List.mem_cons_self ..)
   obtain ⟨v1, v2, v3⟩ := HV.out.2.1 l[i] (List.getElem_mem hlt)
   have HN : Hid (∀ x ∈ l.drop (i + 1), l[i].1 < x.1) := fun x hx => by
    have hp := HV.out.1.sublist (List.drop_sublist i l)
    rw [hdr] at hp
    exact (List.pairwise_cons.1 hp).1 x hx
   clear hc hx hdr HD
   generalize l[i] = p at *
   obtain ⟨p0, p1⟩ := p
   dsimp only at x0 x1 hz v1 v2 v3 HN
   have hle : ¬ p0 ≤ z := by omega
   have dle : decide (p0 ≤ z) = false := decide_eq_false hle
   have HW : Hid (∀ W, Calls Tryd.prog 39 #[.int .i64 p1, .int .i64 (-1), .int .i64 last] W fun e w' => e = .returned (.bool true) ∧ w' = W) := fun W => by
    have := within_any p1 (-1) last W
    rw [show (decide (-1 ≤ p1) && decide (p1 ≤ last)) = true by have := HLa.out; simp; omega] at this
    exact this
   have HCh : Hid (∀ W, Calls Tryd.prog 125 #[.int .i64 p0] W fun e w' => e = .returned (.bool true) ∧ w' = W) := fun W => isChr_any p0 W v1
   have HBb := hidd (HB.out.alloc HB.out.size (.cells #[.int .i64 p0, .int .i64 p1] 97))
   clear v1 v2 v3 hz
   go_wp2_with fail
   refine (HCh.out _).mono ?_
   rintro e w1 ⟨rfl, hw1⟩
   have y1 : w1.cell? ⟨wr.heap.size, 1, none⟩ = some (.int .i64 p1) := by rw [hw1]; exact blkc (heap_alloc_new _ _) 1
   have y0 : w1.cell? ⟨wr.heap.size, 0, none⟩ = some (.int .i64 p0) := by rw [hw1]; exact blkc (heap_alloc_new _ _) 0
   have HBc : Hid (Below w.heap.size w w1) := by
    show Below _ _ _
    rw [hw1]; exact HBb.out
   clear hw1 x0 x1 HBb HCh
   go_wp2_with fail
   refine (HW.out _).mono ?_
   rintro e w2 ⟨rfl, hw2⟩
   obtain rfl := hw2
   go_wp2_with fail
   go_roundw
   case rel => exact ⟨i + 1, p0, by omega, by go_num, rfl, HN.out, HBc.out⟩
   case measure => simp [intOf]; omega
  ·have hltz : ¬ (i : Int) < (l.length : Int) := by omega
   go_wp2_with fail
   go_ret
   exact ⟨rfl, HB.out⟩
set_option maxHeartbeats 4000000 in
theorem dfaOK_any (c : Nat) (a : Option Addr) (D : List PSt) (w : World) (hV : ValD D) (h : HDS w a D) :
  Calls Tryd.prog 49 #[.agg #[.slice a D.length c]] w fun e w' => e = .returned (.bool true) ∧ Below w.heap.size w w' := by
 have hb0 : Below w.heap.size w (w.alloc (.cells #[.slice a D.length c] 27)) := (Below.refl _ _).alloc (Nat.le_refl _) _
 have hn0 := heap_alloc_new w (.cells #[.slice a D.length c] 27)
 have H := hidd (h.below hb0)
 have HV := hidd hV
 have hl1 := hV.1
 have hl2 := hV.2.1
 have HB0 := hidd hb0
 have x0 : (w.alloc (.cells #[.slice a D.length c] 27)).cell? ⟨w.heap.size, 0, none⟩ = some (.slice a D.length c) := blkc hn0 0
 have HW0 := hidd (within_any (D.length : Int) 1 256 (w.alloc (.cells #[.slice a D.length c] 27)))
 rw [show (decide (1 ≤ (D.length : Int)) && decide ((D.length : Int) ≤ 256)) = true by simp; omega] at HW0
 obtain ⟨last, hlast⟩ : ∃ last : Int, (D.length : Int) - 1 = last := ⟨_, rfl⟩
 have HLa := hidd hlast
 clear h hV hb0 hn0
 go_enter Tryd.func49, Tryd.ntmps49
 go_wp2_with fail
 refine HW0.out.mono ?_
 rintro e w1 ⟨rfl, hw1⟩
 rw [← hw1] at x0 H HB0
 clear hw1 HW0
 go_wp2_with fail
 clear hlast x0
 go_loopw [18] (fun iv wr => ∃ (i : Nat), i ≤ D.length ∧ iv = .int .i64 (i : Int) ∧ Below w1.heap.size w1 wr) (fun iv _ => D.length - (intOf iv).toNat)
 case atStart => exact ⟨0, Nat.zero_le _, rfl, Below.refl _ _⟩
 case round =>
  obtain ⟨i, hi, rfl, hb⟩ := hrel
  have HB := hidd hb
  clear hb
  by_cases hlt : i < D.length
  ·have hltz : (i : Int) < (D.length : Int) := by omega
   obtain ⟨b, off, rfl, hb1, hc⟩ := (H.out.below HB.out).resolve_left (fun e => by rw [e] at hlt; simp at hlt)
   obtain ⟨x0, ai, ci, x1, hx, x2⟩ := hc i hlt
   have hm : D.getD i ps0 ∈ D := by rw [List.getD_eq_getElem?_getD, List.getElem?_eq_getElem hlt]; exact List.getElem_mem hlt
   obtain ⟨v1, v2, v3⟩ := HV.out.2.2 _ hm
   clear hc hm
   generalize D.getD i ps0 = s at *
   obtain ⟨f, rs, z⟩ := s
   dsimp only at x0 x1 hx x2 v1 v2 v3
   obtain ⟨W2, hW2⟩ : ∃ W2, wr.alloc (.cells #[.bool f, .slice ai rs.length ci, .int .i64 z] 95) = W2 := ⟨_, rfl⟩
   have hb2 : Below wr.heap.size wr W2 := by rw [← hW2]; exact (Below.refl _ _).alloc (Nat.le_refl _) _
   have hn2 : W2.heap[wr.heap.size]? = some (.cells #[.bool f, .slice ai rs.length ci, .int .i64 z] 95) := by rw [← hW2]; exact heap_alloc_new _ _
   have HA := hidd (arcsOK_any D.length ci ai rs last W2 (by have := HLa.out; omega) v1 (hx.below hb2))
   have HW : Hid (Calls Tryd.prog 39 #[.int .i64 z, .int .i64 (-1), .int .i64 last] W2 fun e w' => e = .returned (.bool true) ∧ w' = W2) := by
    have := within_any z (-1) last W2
    rw [show (decide (-1 ≤ z) && decide (z ≤ last)) = true by have := HLa.out; simp; omega] at this
    exact this
   have y1 : W2.cell? ⟨wr.heap.size, 1, none⟩ = some (.slice ai rs.length ci) := blkc hn2 1
   have y2 : W2.cell? ⟨wr.heap.size, 2, none⟩ = some (.int .i64 z) := blkc hn2 2
   have HB2 := hidd (HB.out.trans (hb2.mono HB.out.size))
   clear hx v1 v2 v3 hb2 hn2
   go_upto_region 7 with fail
   try rw [hW2]
   clear hW2 x0 x1 x2
   go_wp2_with fail
   refine HW.out.mono ?_
   rintro e w2 ⟨rfl, hw2⟩
   subst hw2
   go_wp2_with fail
   refine HA.out.mono ?_
   rintro e w3 ⟨rfl, hb3⟩
   have HB3 := hidd (HB2.out.trans (hb3.mono HB2.out.size))
   clear hb3
   go_wp2_with fail
   go_roundw
   case rel => exact ⟨i + 1, by omega, by go_num, HB3.out⟩
   case measure => simp [intOf]; omega
  ·have hltz : ¬ (i : Int) < (D.length : Int) := by omega
   go_wp2_with fail
   go_ret
   exact ⟨rfl, HB0.out.trans (HB.out.mono HB0.out.size)⟩
end Go.Proofs.YtoinajfliogcdaaDoor
