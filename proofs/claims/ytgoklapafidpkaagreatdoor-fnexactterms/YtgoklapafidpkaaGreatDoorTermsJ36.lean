import Derived.Test.YtgoklapafidpkaaGreatDoorTermsJ06
import Derived.Test.YtgoklapafidpkaaGreatDoorTermsJ07
import Derived.Test.YtgoklapafidpkaaGreatDoorTermsJ35
import Derived.Test.YtgoklapafidpkaaGreatDoorTermsJ05
import Derived.Test.YtgoklapafidpkaaGreatDoorTermsJ32
import Derived.Test.YtgoklapafidpkaaGreatDoorTermsJ33
namespace Go.Proofs.YtgoklapafidpkaaGreatDoor
open Go Go.RowKit
set_option linter.unusedVariables false
set_option linter.unusedSimpArgs false
set_option maxRecDepth 100000

theorem valV_hit {V : List Vl} {n : List UInt8} {k : Nat} (hk : k < V.length) (h : ((V.getD k vl0).1 == n) = true) (hno : ∀ j, j < k → ((V.getD j vl0).1 == n) = false) : valV V n = V.getD k vl0 := by
  have h2 : (V.findIdx fun v => v.1 == n) = k := by
    rw [List.findIdx_eq hk]
    have e : ∀ j (hj : j < V.length), V.getD j vl0 = V[j] := fun j hj => by simp [hj]
    refine ⟨by rw [← e k hk]; exact h, fun j hj => ?_⟩
    rw [← e j (by omega)]; exact hno j hj
  rw [valV, h2]
theorem valV_miss {V : List Vl} {n : List UInt8} (hno : ∀ j, j < V.length → ((V.getD j vl0).1 == n) = false) : valV V n = vl0 := by
  have h2 : (V.findIdx fun v => v.1 == n) = V.length := by
    rw [List.findIdx_eq_length]
    intro v hv
    obtain ⟨j, hj, rfl⟩ := List.getElem_of_mem hv
    have := hno j hj
    simpa [hj] using this
  rw [valV, h2, List.getD_eq_getElem?_getD, List.getElem?_eq_none (by omega)]; rfl
def ValP (V : List Vl) (n : List UInt8) (w : World) (e : Ending) (w' : World) : Prop := ∃ at_ ct an cn, e = .returned (.agg #[.string ⟨(valV V n).1.toArray⟩, .slice at_ (valV V n).2.1.length ct, .slice an (valV V n).2.2.length cn]) ∧ HoldTx w at_ (valV V n).2.1 ∧ Below w.heap.size w w'
set_option maxHeartbeats 8000000 in
theorem implValue_any (id : List UInt8) (av : Option Addr) (cv : Nat) (V : List Vl) (n : List UInt8) (w : World) (hn : V.length ≤ 1048576) (hH : HoldV w av V) :
    Calls Tryz.prog 83 #[.agg #[.string ⟨id.toArray⟩, .slice av V.length cv], .string (bs n)] w (ValP V n w) := by
  have HH := hidd hH
  clear hH
  have HBa := hidd (((Below.refl w.heap.size w).alloc (Nat.le_refl _) (.cells #[.string ⟨id.toArray⟩, .slice av V.length cv] 37)).alloc (by simp) (.cells #[.string ⟨#[]⟩, .slice none 0 0, .slice none 0 0] 60))
  have HX := hidd (box_two w (.cells #[.string ⟨id.toArray⟩, .slice av V.length cv] 37) (.cells #[.string ⟨#[]⟩, .slice none 0 0, .slice none 0 0] 60))
  go_enter Tryz.func83, Tryz.ntmps83
  go_upto_region 1 with fail
  obtain ⟨wa, hwa⟩ : ∃ wa, (w.alloc (.cells #[.string ⟨id.toArray⟩, .slice av V.length cv] 37)).alloc (.cells #[.string ⟨#[]⟩, .slice none 0 0, .slice none 0 0] 60) = wa := ⟨_, rfl⟩
  rw [hwa] at HBa HX
  try rw [hwa]
  clear hwa
  have x1 : wa.cell? ⟨w.heap.size, 1, none⟩ = some (.slice av V.length cv) := blkc HX.out.1 1
  go_wp2_with fail
  go_loopw [10] (fun iv wr => ∃ i : Nat, i ≤ V.length ∧ iv = .int .i64 (i : Int) ∧ (∀ j, j < i → ((V.getD j vl0).1 == n) = false) ∧ Below wa.heap.size wa wr) (fun iv _ => V.length - (intOf iv).toNat)
  case atStart => exact ⟨0, Nat.zero_le _, rfl, fun j hj => absurd hj (by omega), Below.refl _ _⟩
  case round =>
    clear x1
    obtain ⟨k, hk, rfl, hno, hbel⟩ := hrel
    have HN := hidd hno
    have HBl := hidd hbel
    have HB := hidd (HBa.out.trans (hbel.mono HBa.out.size))
    have HRr := hidd (blko HX.out.2 hbel)
    have HDr := hidd (blko HX.out.1 hbel)
    clear hno hbel
    have x1 : wr.cell? ⟨w.heap.size, 1, none⟩ = some (.slice av V.length cv) := blkc HDr.out 1
    have hzr : w.heap.size + 1 < wr.heap.size := (Array.getElem?_eq_some_iff.1 HRr.out).1
    by_cases hlt : k < V.length
    · have hkz : (k : Int) < (V.length : Int) := by omega
      obtain ⟨b, off, rfl, hbl, hc⟩ := HH.out.resolve_left (fun h => by rw [h] at hlt; simp at hlt)
      obtain ⟨o0, ⟨at_, ct, o1, hTx⟩, an, cn, o2, hZ⟩ := hc k hlt
      have up : ∀ o u, w.cell? ⟨b, o, none⟩ = some u → wr.cell? ⟨b, o, none⟩ = some u := fun o u h => (HB.out.cell (p := ⟨b, o, none⟩) hbl).trans h
      have q0 := up _ _ o0
      have q1 := up _ _ o1
      have q2 := up _ _ o2
      have HTx := hidd hTx
      have HVh := hidd (fun h => valV_hit (n := n) hlt h HN.out)
      clear hc hTx hZ up o0 o1 o2
      obtain ⟨s, hs⟩ : ∃ s, V.getD k vl0 = s := ⟨_, rfl⟩
      rw [hs] at q0 q1 q2 HTx HVh
      have Hs := hidd hs
      clear hs
      obtain ⟨f, tx, nz⟩ := s
      dsimp only at q0 q1 q2 HTx
      cases hp : (f == n) with
      | false =>
        have hpb : ((bs f).toList == (bs n).toList) = false := by rw [bs_toList, bs_toList]; exact hp
        have HPn : Hid (∀ j, j < k + 1 → ((V.getD j vl0).1 == n) = false) := fun j hj => by
          by_cases h : j < k
          · exact HN.out j h
          · have : j = k := by omega
            subst this
            rw [Hs.out]; exact hp
        clear hp
        go_upto_region 4 with fail
        obtain ⟨wv, hwv⟩ : ∃ wv, wr.alloc (.cells #[.string ⟨f.toArray⟩, .slice at_ tx.length ct, .slice an nz.length cn] 60) = wv := ⟨_, rfl⟩
        have HBv := hidd ((Below.refl wr.heap.size wr).alloc (Nat.le_refl _) (.cells #[.string ⟨f.toArray⟩, .slice at_ tx.length ct, .slice an nz.length cn] 60))
        have HXv := hidd (heap_alloc_new wr (.cells #[.string ⟨f.toArray⟩, .slice at_ tx.length ct, .slice an nz.length cn] 60))
        rw [hwv] at HBv HXv
        try rw [hwv]
        clear hwv q0 q1 q2
        have HB2 := hidd (HBl.out.trans (HBv.out.mono HBl.out.size))
        have HR2 := hidd (blko HRr.out HBv.out)
        have q0 : wv.cell? ⟨wr.heap.size, 0, none⟩ = some (.string (bs f)) := blkc HXv.out 0
        have q1 : wv.cell? ⟨wr.heap.size, 1, none⟩ = some (.slice at_ tx.length ct) := blkc HXv.out 1
        have q2 : wv.cell? ⟨wr.heap.size, 2, none⟩ = some (.slice an nz.length cn) := blkc HXv.out 2
        have hzv : w.heap.size + 1 < wv.heap.size := (Array.getElem?_eq_some_iff.1 HR2.out).1
        have q0b : wv.cell? ⟨wr.heap.size, 0, none⟩ = some (.string (bs f)) := q0
        clear q0
        go_wp2_with fail
        go_roundw
        case rel => exact ⟨k + 1, by omega, by go_num, HPn.out, HB2.out⟩
        case measure => simp [intOf]; omega
      | true =>
        have hpb : ((bs f).toList == (bs n).toList) = true := by rw [bs_toList, bs_toList]; exact hp
        have HV : Hid (valV V n = (f, tx, nz)) := HVh.out hp
        clear hp
        go_upto_region 4 with fail
        obtain ⟨wv, hwv⟩ : ∃ wv, wr.alloc (.cells #[.string ⟨f.toArray⟩, .slice at_ tx.length ct, .slice an nz.length cn] 60) = wv := ⟨_, rfl⟩
        have HBv := hidd ((Below.refl wr.heap.size wr).alloc (Nat.le_refl _) (.cells #[.string ⟨f.toArray⟩, .slice at_ tx.length ct, .slice an nz.length cn] 60))
        have HXv := hidd (heap_alloc_new wr (.cells #[.string ⟨f.toArray⟩, .slice at_ tx.length ct, .slice an nz.length cn] 60))
        rw [hwv] at HBv HXv
        try rw [hwv]
        clear hwv q0 q1 q2
        have HB2 := hidd (HBl.out.trans (HBv.out.mono HBl.out.size))
        have HR2 := hidd (blko HRr.out HBv.out)
        have q0 : wv.cell? ⟨wr.heap.size, 0, none⟩ = some (.string (bs f)) := blkc HXv.out 0
        have q1 : wv.cell? ⟨wr.heap.size, 1, none⟩ = some (.slice at_ tx.length ct) := blkc HXv.out 1
        have q2 : wv.cell? ⟨wr.heap.size, 2, none⟩ = some (.slice an nz.length cn) := blkc HXv.out 2
        have hzv : w.heap.size + 1 < wv.heap.size := (Array.getElem?_eq_some_iff.1 HR2.out).1
        have q0b : wv.cell? ⟨wr.heap.size, 0, none⟩ = some (.string (bs f)) := q0
        clear q0
        have d0 := blkc HR2.out 0
        have z0 := blkf HR2.out 0
        have d1 := blkc HR2.out 1
        have z1 := blkf HR2.out 1
        have d2 := blkc HR2.out 2
        have z2 := blkf HR2.out 2
        simp only [List.getElem?_toArray, List.getElem?_cons_zero, List.getElem?_cons_succ] at d0 d1 d2
        go_wp2_with fail
        refine bodyPost_ret (v := .agg #[.string (bs f), .slice at_ tx.length ct, .slice an nz.length cn]) (by simp [results, Tryz.results83, go_sem, *]) rfl ?_
        have hb9 : Below w.heap.size w (((wv.setCell ⟨w.heap.size + 1, 0, none⟩ (.string (bs f))).setCell ⟨w.heap.size + 1, 1, none⟩ (.slice at_ tx.length ct)).setCell ⟨w.heap.size + 1, 2, none⟩ (.slice an nz.length cn)) := by
          iterate 3 refine Below.setCell ?_ (by dsimp only; omega) _
          exact HBa.out.trans (HB2.out.mono HBa.out.size)
        rw [ValP, HV.out]
        exact ⟨at_, ct, an, cn, rfl, HTx.out, hb9⟩
    · have hkz : ¬ (k : Int) < (V.length : Int) := by omega
      have HV : Hid (valV V n = vl0) := valV_miss (fun j hj => HN.out j (by omega))
      have d0 := blkc HRr.out 0
      have z0 := blkf HRr.out 0
      have d1 := blkc HRr.out 1
      have z1 := blkf HRr.out 1
      have d2 := blkc HRr.out 2
      have z2 := blkf HRr.out 2
      simp only [List.getElem?_toArray, List.getElem?_cons_zero, List.getElem?_cons_succ] at d0 d1 d2
      go_wp2_with fail
      refine bodyPost_ret (v := .agg #[.string ⟨#[]⟩, .slice none 0 0, .slice none 0 0]) (by simp [results, Tryz.results83, go_sem, *]) rfl ?_
      have hb9 : Below w.heap.size w (((wr.setCell ⟨w.heap.size + 1, 0, none⟩ (.string ⟨#[]⟩)).setCell ⟨w.heap.size + 1, 1, none⟩ (.slice none 0 0)).setCell ⟨w.heap.size + 1, 2, none⟩ (.slice none 0 0)) := by
        iterate 3 refine Below.setCell ?_ (by dsimp only; omega) _
        exact HB.out
      rw [ValP, HV.out]
      exact ⟨none, 0, none, 0, rfl, Or.inl rfl, hb9⟩
set_option maxHeartbeats 8000000 in
theorem specValue_any (id : List UInt8) (av : Option Addr) (cv : Nat) (V : List Vl) (n : List UInt8) (w : World) (hn : V.length ≤ 1048576) (hH : HoldV w av V) :
    Calls Tryz.prog 78 #[.agg #[.string ⟨id.toArray⟩, .slice av V.length cv], .string (bs n)] w (ValP V n w) := by
  have HH := hidd hH
  clear hH
  have HBa := hidd (((Below.refl w.heap.size w).alloc (Nat.le_refl _) (.cells #[.string ⟨id.toArray⟩, .slice av V.length cv] 37)).alloc (by simp) (.cells #[.string ⟨#[]⟩, .slice none 0 0, .slice none 0 0] 60))
  have HX := hidd (box_two w (.cells #[.string ⟨id.toArray⟩, .slice av V.length cv] 37) (.cells #[.string ⟨#[]⟩, .slice none 0 0, .slice none 0 0] 60))
  go_enter Tryz.func78, Tryz.ntmps78
  go_upto_region 1 with fail
  obtain ⟨wa, hwa⟩ : ∃ wa, (w.alloc (.cells #[.string ⟨id.toArray⟩, .slice av V.length cv] 37)).alloc (.cells #[.string ⟨#[]⟩, .slice none 0 0, .slice none 0 0] 60) = wa := ⟨_, rfl⟩
  rw [hwa] at HBa HX
  try rw [hwa]
  clear hwa
  have x1 : wa.cell? ⟨w.heap.size, 1, none⟩ = some (.slice av V.length cv) := blkc HX.out.1 1
  go_wp2_with fail
  go_loopw [5] (fun iv wr => ∃ i : Nat, i ≤ V.length ∧ iv = .int .i64 (i : Int) ∧ (∀ j, j < i → ((V.getD j vl0).1 == n) = false) ∧ Below wa.heap.size wa wr) (fun iv _ => V.length - (intOf iv).toNat)
  case atStart => exact ⟨0, Nat.zero_le _, rfl, fun j hj => absurd hj (by omega), Below.refl _ _⟩
  case round =>
    clear x1
    obtain ⟨k, hk, rfl, hno, hbel⟩ := hrel
    have HN := hidd hno
    have HBl := hidd hbel
    have HB := hidd (HBa.out.trans (hbel.mono HBa.out.size))
    have HRr := hidd (blko HX.out.2 hbel)
    have HDr := hidd (blko HX.out.1 hbel)
    clear hno hbel
    have x1 : wr.cell? ⟨w.heap.size, 1, none⟩ = some (.slice av V.length cv) := blkc HDr.out 1
    have hzr : w.heap.size + 1 < wr.heap.size := (Array.getElem?_eq_some_iff.1 HRr.out).1
    by_cases hlt : k < V.length
    · have hkz : (k : Int) < (V.length : Int) := by omega
      obtain ⟨b, off, rfl, hbl, hc⟩ := HH.out.resolve_left (fun h => by rw [h] at hlt; simp at hlt)
      obtain ⟨o0, ⟨at_, ct, o1, hTx⟩, an, cn, o2, hZ⟩ := hc k hlt
      have up : ∀ o u, w.cell? ⟨b, o, none⟩ = some u → wr.cell? ⟨b, o, none⟩ = some u := fun o u h => (HB.out.cell (p := ⟨b, o, none⟩) hbl).trans h
      have q0 := up _ _ o0
      have q1 := up _ _ o1
      have q2 := up _ _ o2
      have HTx := hidd hTx
      have HVh := hidd (fun h => valV_hit (n := n) hlt h HN.out)
      clear hc hTx hZ up o0 o1 o2
      obtain ⟨s, hs⟩ : ∃ s, V.getD k vl0 = s := ⟨_, rfl⟩
      rw [hs] at q0 q1 q2 HTx HVh
      have Hs := hidd hs
      clear hs
      obtain ⟨f, tx, nz⟩ := s
      dsimp only at q0 q1 q2 HTx
      cases hp : (f == n) with
      | false =>
        have hpb : ((bs f).toList == (bs n).toList) = false := by rw [bs_toList, bs_toList]; exact hp
        have HPn : Hid (∀ j, j < k + 1 → ((V.getD j vl0).1 == n) = false) := fun j hj => by
          by_cases h : j < k
          · exact HN.out j h
          · have : j = k := by omega
            subst this
            rw [Hs.out]; exact hp
        clear hp
        have HB2 := HBl
        have HR2 := HRr
        have q0b : wr.cell? ⟨b, off + k * 3, none⟩ = some (.string (bs f)) := q0
        clear q0
        go_wp2_with fail
        go_roundw
        case rel => exact ⟨k + 1, by omega, by go_num, HPn.out, HB2.out⟩
        case measure => simp [intOf]; omega
      | true =>
        have hpb : ((bs f).toList == (bs n).toList) = true := by rw [bs_toList, bs_toList]; exact hp
        have HV : Hid (valV V n = (f, tx, nz)) := HVh.out hp
        clear hp
        have HB2 := HBl
        have HR2 := HRr
        have q0b : wr.cell? ⟨b, off + k * 3, none⟩ = some (.string (bs f)) := q0
        clear q0
        have d0 := blkc HR2.out 0
        have z0 := blkf HR2.out 0
        have d1 := blkc HR2.out 1
        have z1 := blkf HR2.out 1
        have d2 := blkc HR2.out 2
        have z2 := blkf HR2.out 2
        simp only [List.getElem?_toArray, List.getElem?_cons_zero, List.getElem?_cons_succ] at d0 d1 d2
        go_wp2_with fail
        refine bodyPost_ret (v := .agg #[.string (bs f), .slice at_ tx.length ct, .slice an nz.length cn]) (by simp [results, Tryz.results78, go_sem, *]) rfl ?_
        have hb9 : Below w.heap.size w (((wr.setCell ⟨w.heap.size + 1, 0, none⟩ (.string (bs f))).setCell ⟨w.heap.size + 1, 1, none⟩ (.slice at_ tx.length ct)).setCell ⟨w.heap.size + 1, 2, none⟩ (.slice an nz.length cn)) := by
          iterate 3 refine Below.setCell ?_ (by dsimp only; omega) _
          exact HBa.out.trans (HB2.out.mono HBa.out.size)
        rw [ValP, HV.out]
        exact ⟨at_, ct, an, cn, rfl, HTx.out, hb9⟩
    · have hkz : ¬ (k : Int) < (V.length : Int) := by omega
      have HV : Hid (valV V n = vl0) := valV_miss (fun j hj => HN.out j (by omega))
      have d0 := blkc HRr.out 0
      have z0 := blkf HRr.out 0
      have d1 := blkc HRr.out 1
      have z1 := blkf HRr.out 1
      have d2 := blkc HRr.out 2
      have z2 := blkf HRr.out 2
      simp only [List.getElem?_toArray, List.getElem?_cons_zero, List.getElem?_cons_succ] at d0 d1 d2
      go_wp2_with fail
      refine bodyPost_ret (v := .agg #[.string ⟨#[]⟩, .slice none 0 0, .slice none 0 0]) (by simp [results, Tryz.results78, go_sem, *]) rfl ?_
      have hb9 : Below w.heap.size w (((wr.setCell ⟨w.heap.size + 1, 0, none⟩ (.string ⟨#[]⟩)).setCell ⟨w.heap.size + 1, 1, none⟩ (.slice none 0 0)).setCell ⟨w.heap.size + 1, 2, none⟩ (.slice none 0 0)) := by
        iterate 3 refine Below.setCell ?_ (by dsimp only; omega) _
        exact HB.out
      rw [ValP, HV.out]
      exact ⟨none, 0, none, 0, rfl, Or.inl rfl, hb9⟩
end Go.Proofs.YtgoklapafidpkaaGreatDoor

namespace Go.Proofs.YtgoklapafidpkaaGreatDoor
open Go Go.RowKit
set_option linter.unusedVariables false
set_option maxRecDepth 100000

set_option maxHeartbeats 8000000 in
theorem wordTerms_any (at_ : Option Addr) (ct : Nat) (tx : List (List UInt8)) (w : World) (hn : tx.length ≤ 16) (hsz : ∀ k, k < tx.length → (tx.getD k []).length ≤ 4000) (hT : HoldTx w at_ tx) :
    Calls Tryz.prog 84 #[.slice at_ tx.length ct] w fun e w' => ∃ v, e = .returned v ∧ w'.ownsRow w.heap.size 63 4 v (wordTo tx tx.length).length (toksCells (wordTo tx tx.length)) ∧ Below w.heap.size w w' := by
  obtain ⟨i0, hi0, hz0, hz1, hz2⟩ := info_parts Tryz.infoTok
  have HT := hidd hT
  have HZs := hidd hsz
  clear hT hsz
  go_enter Tryz.func84, Tryz.ntmps84
  go_wp2_with fail
  go_loopw [3, 8] (fun v iv wr => ∃ k : Nat, k ≤ tx.length ∧ iv = .int .i64 (k : Int) ∧ wr.ownsRow w.heap.size 63 4 v (wordTo tx k).length (toksCells (wordTo tx k)) ∧ Below w.heap.size w wr) (fun _ iv _ => tx.length - (intOf iv).toNat)
  case atStart => exact ⟨0, Nat.zero_le _, rfl, World.ownsRow_nil _ _ _ _, Below.refl _ _⟩
  case round =>
    obtain ⟨k, hk, rfl, hown, hbel⟩ := hrel
    have HO := hidd hown
    have HB := hidd hbel
    clear hown hbel
    by_cases hlt : k < tx.length
    · have hkz : (k : Int) < (tx.length : Int) := by omega
      obtain ⟨b, off, rfl, hbl, hc⟩ := (HT.out.below HB.out).resolve_left (fun h => by rw [h] at hlt; simp at hlt)
      have q0 : wr.cell? ⟨b, off + k, none⟩ = some (.string (bs (tx.getD k []))) := hc k hlt
      have hszk := HZs.out k hlt
      have HE := hidd (wordTo_succ tx k)
      clear hc
      generalize tx.getD k [] = t at *
      have hfl : (bs t).size = t.length := bs_size t
      have HC := hidd (fun W => clone_any (bs t) W (by rw [bs_size]; omega))
      have hlA : (wordTo tx k).length = k := wordTo_len tx k
      generalize wordTo tx k = A at *
      go_wp2_with fail
      refine (HC.out _).mono ?_
      rintro e w2 ⟨rfl, hb2⟩
      have HB2 := hidd (HB.out.trans (hb2.mono HB.out.size))
      have HO2 := hidd (own4_below HO.out hb2)
      have hz2' := HB2.out.size
      clear hb2 HO HC q0
      dsimp only
      go_wp2_with (at_builtin; refine wpList_append_own_at _ rfl _ _ 42 rfl w.heap.size 63 i0 (.agg #[.string ⟨#[]⟩, .int .i64 0, .int .i64 0, .int .i64 0]) 4 40 Tryz.underlying42 hi0 hz0 hz1 hz2 rfl (by decide) _ _ _ rfl (HO2.out.alloc _) ⟨w2.heap.size, 0, none⟩ 1 1 [.string (bs t), .int .i64 k, .int .i64 0, .int .i64 t.length] rfl rfl ?c1 ?c2 ?c3 ?c4 ?c5 ?_)
      case c1 =>
        intro q u hq
        match q, hq with
        | 0, hq => simp at hq; subst hq; simp [Addr.add]
        | 1, hq => simp at hq; subst hq; simp [Addr.add]
        | 2, hq => simp at hq; subst hq; simp [Addr.add]
        | 3, hq => simp at hq; subst hq; simp [Addr.add]
        | q + 4, hq => simp at hq
      case c2 =>
        intro u hu
        simp at hu
        rcases hu with rfl | rfl | rfl | rfl <;> rfl
      case c3 => unfold maxLen; omega
      case c4 => omega
      case c5 => simp; omega
      intro v' w3 hown' hgrow hne hat
      have RR : Hid (w3.ownsRow w.heap.size 63 4 v' (wordTo tx (k + 1)).length (toksCells (wordTo tx (k + 1))) ∧ Below w.heap.size w w3) := by
        rw [HE.out]
        refine ⟨?_, (HB2.out.alloc hz2' _).grown hgrow (by simp; omega) (own4_block HO2.out)⟩
        rw [toksCells_snoc, List.length_append, hlA]
        exact hown'
      clear hown' hgrow hne hat HO2 HB2
      go_wp2_with fail
      go_roundw
      case rel => exact ⟨k + 1, by omega, by go_num, RR.out⟩
      case measure => simp [intOf]; omega
    · have hkz : ¬ (k : Int) < (tx.length : Int) := by omega
      have e : k = tx.length := by omega
      subst e
      go_wp2_with fail
      go_ret
      exact ⟨_, rfl, HO.out, HB.out⟩
theorem textTo_succ (f : Fd) (l : List (List UInt8)) (k : Nat) : textTo f l (k + 1) = ((textTo f l k).1 ++ shiftTk (textTo f l k).2 (anT f (l.getD k [])), (textTo f l k).2 + (100 + brkN (l.getD k []))) := rfl
set_option maxHeartbeats 16000000 in
theorem textTerms_any (f : Fd) (aS aY : Option Addr) (cS cY : Nat) (at_ : Option Addr) (ct : Nat) (tx : List (List UInt8)) (w : World) (hTb : Tabs w) (hz : FdSz f) (hS : HoldS w aS f.stops) (hY : HoldY w aY f.syns) (hn : tx.length ≤ 16) (hsz : ∀ k, k < tx.length → (tx.getD k []).length ≤ 4000) (hT : HoldTx w at_ tx) :
    Calls Tryz.prog 85 #[.agg #[.bool f.bf, .bool f.bsm, .bool f.bp, .slice aS f.stops.length cS, .slice aY f.syns.length cY, .int .i64 f.lo, .int .i64 f.hi], .slice at_ tx.length ct] w fun e w' => ∃ v, e = .returned v ∧ w'.ownsRow w.heap.size 63 4 v (textTo f tx tx.length).1.length (toksCells (textTo f tx tx.length).1) ∧ Below w.heap.size w w' := by
  obtain ⟨i0, hi0, hz0, hz1, hz2⟩ := info_parts Tryz.infoTok
  have HT := hidd hT
  have HZs := hidd hsz
  have HBa := hidd ((Below.refl w.heap.size w).alloc (Nat.le_refl _) (.cells #[.bool f.bf, .bool f.bsm, .bool f.bp, .slice aS f.stops.length cS, .slice aY f.syns.length cY, .int .i64 f.lo, .int .i64 f.hi] 77))
  have HX := hidd (heap_alloc_new w (.cells #[.bool f.bf, .bool f.bsm, .bool f.bp, .slice aS f.stops.length cS, .slice aY f.syns.length cY, .int .i64 f.lo, .int .i64 f.hi] 77))
  have HCa : Hid (∀ t W, Below w.heap.size w W → t.length ≤ 4000 → Calls Tryz.prog 125 #[.agg #[.bool f.bf, .bool f.bsm, .bool f.bp, .slice aS f.stops.length cS, .slice aY f.syns.length cY, .int .i64 f.lo, .int .i64 f.hi], .string (bs t)] W fun e w' => ∃ v, e = .returned (.tuple #[v, .int .i64 (anC f t)]) ∧ w'.ownsRow W.heap.size 63 4 v (anT f t).length (toksCells (anT f t)) ∧ Below W.heap.size W w') := fun t W hW ht => implAnalyze_any f.bf f.bsm f.bp aS aY cS cY f.stops f.syns f.lo f.hi (bs t) W (hTb.below hW) (hS.below hW) (hY.below hW) hz.2.2.2.1 hz.2.2.2.2 hz.2.1 hz.2.2.1 (by rw [bs_size]; omega)
  have HCb : Hid (∀ t W, Below w.heap.size w W → t.length ≤ 4000 → Calls Tryz.prog 126 #[.string (bs t)] W fun e w' => ∃ v, e = .returned (.tuple #[v, .int .i64 (brkCode (bs t))]) ∧ w'.ownsRow W.heap.size 63 4 v (brkN t) (toksCells (brkList (bs t))) ∧ Below W.heap.size W w') := fun t W hW ht => implBreak_any (bs t) W (by rw [bs_size]; omega) (hTb.below hW)
  clear hT hsz hTb hS hY hz
  go_enter Tryz.func85, Tryz.ntmps85
  go_wp2_with fail
  obtain ⟨wa, hwa⟩ : ∃ wa, w.alloc (.cells #[.bool f.bf, .bool f.bsm, .bool f.bp, .slice aS f.stops.length cS, .slice aY f.syns.length cY, .int .i64 f.lo, .int .i64 f.hi] 77) = wa := ⟨_, rfl⟩
  rw [hwa] at HBa HX
  try rw [hwa]
  clear hwa
  have hwaz : w.heap.size < wa.heap.size := (Array.getElem?_eq_some_iff.1 HX.out).1
  go_loopw [5, 6, 17] (fun v bv iv wr => ∃ k : Nat, k ≤ tx.length ∧ iv = .int .i64 (k : Int) ∧ bv = .int .i64 ((textTo f tx k).2 : Int) ∧ wr.ownsRow wa.heap.size 63 4 v (textTo f tx k).1.length (toksCells (textTo f tx k).1) ∧ Below wa.heap.size wa wr) (fun _ _ iv _ => tx.length - (intOf iv).toNat)
  case atStart => exact ⟨0, Nat.zero_le _, rfl, rfl, World.ownsRow_nil _ _ _ _, Below.refl _ _⟩
  case round =>
    obtain ⟨k, hk, rfl, rfl, hown, hbel⟩ := hrel
    have HO := hidd hown
    have HBl := hidd hbel
    have HB := hidd (HBa.out.trans (hbel.mono HBa.out.size))
    have HXr := hidd (blko HX.out hbel)
    have hbz := hbel.size
    clear hown hbel
    by_cases hlt : k < tx.length
    · have hkz : (k : Int) < (tx.length : Int) := by omega
      obtain ⟨b, off, rfl, hbl, hc⟩ := (HT.out.below HB.out).resolve_left (fun h => by rw [h] at hlt; simp at hlt)
      have q0 : wr.cell? ⟨b, off + k, none⟩ = some (.string (bs (tx.getD k []))) := hc k hlt
      have hszk := HZs.out k hlt
      have HE := hidd (textTo_succ f tx k)
      have hsm := textTo_small f tx k
      have hbn := brkN_small (tx.getD k [])
      have hln := (anT_small f (tx.getD k [])).1
      have HPs := hidd (fun j => anT_at f (tx.getD k []) j)
      have HCat := hidd (fun W (hW : Below w.heap.size w W) => HCa.out (tx.getD k []) W hW hszk)
      have HCbt := hidd (fun W (hW : Below w.heap.size w W) => HCb.out (tx.getD k []) W hW hszk)
      clear hc
      generalize tx.getD k [] = t at *
      generalize anC f t = cod at *
      generalize brkCode (bs t) = bcod at *
      generalize toksCells (brkList (bs t)) = bcells at *
      generalize anT f t = L at *
      generalize brkN t = BN at *
      generalize (textTo f tx k).1 = A at *
      generalize (textTo f tx k).2 = B at *
      have x0 : wr.cell? ⟨w.heap.size, 0, none⟩ = some (.bool f.bf) := blkc HXr.out 0
      have x1 : wr.cell? ⟨w.heap.size, 1, none⟩ = some (.bool f.bsm) := blkc HXr.out 1
      have x2 : wr.cell? ⟨w.heap.size, 2, none⟩ = some (.bool f.bp) := blkc HXr.out 2
      have x3 : wr.cell? ⟨w.heap.size, 3, none⟩ = some (.slice aS f.stops.length cS) := blkc HXr.out 3
      have x4 : wr.cell? ⟨w.heap.size, 4, none⟩ = some (.slice aY f.syns.length cY) := blkc HXr.out 4
      have x5 : wr.cell? ⟨w.heap.size, 5, none⟩ = some (.int .i64 f.lo) := blkc HXr.out 5
      have x6 : wr.cell? ⟨w.heap.size, 6, none⟩ = some (.int .i64 f.hi) := blkc HXr.out 6
      go_wp2_with fail
      refine (HCat.out _ HB.out).mono ?_
      rintro e w2 ⟨v2, rfl, hown2, hb2⟩
      obtain ⟨aF, cF, rfl, hhF, hbF⟩ := holdT_row hown2
      have HHF := hidd hhF
      have HNe := hidd (own4_ne HO.out (fun b off e => (hbF b off e).1))
      have HO2 := hidd (own4_below HO.out hb2)
      have HB2 := hidd (HBl.out.trans (hb2.mono HBl.out.size))
      clear hown2 hb2 hhF hbF HO q0 x0 x1 x2 x3 x4 x5 x6 HCat
      dsimp only
      go_wp2_with fail
      go_loopw [5, 29] (fun v jv wx => ∃ j : Nat, j ≤ L.length ∧ jv = .int .i64 (j : Int) ∧ wx.ownsRow wa.heap.size 63 4 v (A ++ shiftTk B (L.take j)).length (toksCells (A ++ shiftTk B (L.take j))) ∧ HoldT wx aF L ∧ (∀ b off, aF = some ⟨b, off, none⟩ → some b ≠ v.ownBlock) ∧ Below wa.heap.size wa wx) (fun _ jv _ => L.length - (intOf jv).toNat)
      case atStart => exact ⟨0, Nat.zero_le _, rfl, by rw [show A ++ shiftTk B (L.take 0) = A from List.append_nil A]; exact HO2.out, HHF.out, HNe.out, HB2.out⟩
      case round =>
        obtain ⟨j, hj, rfl, hown, hh, hne, hby⟩ := hrel
        have HAo := hidd hown
        have HAh := hidd hh
        have HAe := hidd hne
        have HAb := hidd hby
        have h2r := hby.size
        clear hown hh hne hby HO2 HHF HNe HB2
        by_cases hjl : j < L.length
        · have hjz : (j : Int) < (L.length : Int) := by omega
          obtain ⟨bF, oF, rfl, hbFl, hcF⟩ := HAh.out.resolve_left (fun h => by rw [h] at hjl; simp at hjl)
          obtain ⟨t0, t1, t2, t3⟩ := hcF j hjl
          have hps := HPs.out j
          have HAD : Hid (A ++ shiftTk B (L.take (j + 1)) = (A ++ shiftTk B (L.take j)) ++ [((L.getD j tk0).1, (L.getD j tk0).2.1 + B, (L.getD j tk0).2.2)]) := by
            show _ = _
            rw [shiftTk_take _ _ hjl, List.append_assoc]
          have hal : (A ++ shiftTk B (L.take j)).length ≤ 139264 := by
            rw [List.length_append, shiftTk_len, List.length_take]; omega
          clear hcF
          generalize L.getD j tk0 = y at *
          obtain ⟨ty, p0, p1, p2⟩ := y
          dsimp only at t0 t1 t2 t3 hps HAD
          generalize A ++ shiftTk B (L.take j) = A1 at *
          go_wp2_with (at_builtin; refine wpList_append_own_at _ rfl _ _ 42 rfl wa.heap.size 63 i0 (.agg #[.string ⟨#[]⟩, .int .i64 0, .int .i64 0, .int .i64 0]) 4 40 Tryz.underlying42 hi0 hz0 hz1 hz2 rfl (by decide) _ _ _ rfl ((HAo.out.alloc _).alloc _) ⟨wr.heap.size + 1, 0, none⟩ 1 1 [.string (bs ty), .int .i64 ((p0 + B : Nat) : Int), .int .i64 p1, .int .i64 p2] rfl rfl ?c1 ?c2 ?c3 ?c4 ?c5 ?_)
          case c1 =>
            intro q u hq
            match q, hq with
            | 0, hq => simp at hq; subst hq; simp [Addr.add]
            | 1, hq => simp at hq; subst hq; simp [Addr.add]
            | 2, hq => simp at hq; subst hq; simp [Addr.add]
            | 3, hq => simp at hq; subst hq; simp [Addr.add]
            | q + 4, hq => simp at hq
          case c2 =>
            intro u hu
            simp at hu
            rcases hu with rfl | rfl | rfl | rfl <;> rfl
          case c3 => unfold maxLen; omega
          case c4 => omega
          case c5 => simp; omega
          intro v' w6 hown' hgrow hne hat
          have RR : Hid (w6.ownsRow wa.heap.size 63 4 v' (A1 ++ [(ty, p0 + B, p1, p2)]).length (toksCells (A1 ++ [(ty, p0 + B, p1, p2)])) ∧ HoldT w6 (some ⟨bF, oF, none⟩) L ∧ (∀ b' off', some (⟨bF, oF, none⟩ : Addr) = some ⟨b', off', none⟩ → some b' ≠ v'.ownBlock) ∧ Below wa.heap.size wa w6) := by
            refine ⟨?_, (HAh.out.below (((Below.refl _ _).alloc (Nat.le_refl _) _).alloc (by simp) _)).grown hgrow HAe.out, ?_, ((HAb.out.alloc h2r _).alloc (by simp; omega) _).grown hgrow (by simp; omega) (own4_block HAo.out)⟩
            · rw [toksCells_snoc, List.length_append]
              exact hown'
            · intro b1 off1 e1
              rcases hat with h | h
              · rw [h]; exact HAe.out b1 off1 e1
              · rw [h]
                cases e1
                intro e2
                have e3 := Option.some.inj e2
                try simp at e3
                omega
          clear hown' hgrow hne hat HAo HAh HAe HAb
          go_wp2_with fail
          go_roundw
          case rel => exact ⟨j + 1, by omega, by go_num, by rw [HAD.out]; exact RR.out.1, RR.out.2.1, RR.out.2.2.1, RR.out.2.2.2⟩
          case measure => simp [intOf]; omega
        · have hjz : ¬ (j : Int) < (L.length : Int) := by omega
          have HAf := HAo.out
          rw [List.take_of_length_le (by omega)] at HAf
          have HO5 := hidd HAf
          have HBx := hidd (HBa.out.trans (HAb.out.mono HBa.out.size))
          clear HAf HAo HAh HAe
          generalize A ++ shiftTk B L = A1 at *
          go_wp2_with fail
          refine (HCbt.out _ HBx.out).mono ?_
          rintro e w7 ⟨v7, rfl, hown7, hb7⟩
          obtain ⟨a7, c7, rfl⟩ := own4_len hown7
          have HO7 := hidd (own4_below HO5.out hb7)
          have HB7 := hidd (HAb.out.trans (hb7.mono HAb.out.size))
          clear hown7 hb7 HO5 HAb HBx
          dsimp only
          go_wp2_with fail
          go_roundw
          case rel => exact ⟨k + 1, by omega, by go_num, by rw [HE.out]; go_num, by rw [HE.out]; exact HO7.out, HB7.out⟩
          case measure => simp [intOf]; omega
    · have hkz : ¬ (k : Int) < (tx.length : Int) := by omega
      have e : k = tx.length := by omega
      subst e
      go_wp2_with fail
      go_ret
      exact ⟨_, rfl, ownG_mono HO.out (by omega), HB.out⟩
end Go.Proofs.YtgoklapafidpkaaGreatDoor
