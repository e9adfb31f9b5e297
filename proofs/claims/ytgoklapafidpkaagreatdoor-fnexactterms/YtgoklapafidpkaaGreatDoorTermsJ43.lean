import Derived.Test.YtgoklapafidpkaaGreatDoorTermsJ00
import Derived.Test.YtgoklapafidpkaaGreatDoorTermsJ39
import Derived.Test.YtgoklapafidpkaaGreatDoorTermsJ42
import Derived.Test.YtgoklapafidpkaaGreatDoorTermsJ03
namespace Go.Proofs.YtgoklapafidpkaaGreatDoor
open Go Go.RowKit
set_option linter.unusedVariables false
set_option linter.unusedSimpArgs false
set_option maxRecDepth 100000

theorem tmC_empty {r : List Tk × Int} {w wx : World} {c : Int} (hr : r = ([], c)) (hb : Below w.heap.size w wx) : TmC r w (.returned (.tuple #[.slice (some ⟨wx.heap.size, 0, none⟩) 0 0, .int .i64 c])) (wx.alloc (.cells #[] 63)) := by
  subst hr
  exact ⟨_, rfl, ownG_mono (own4_empty wx _) hb.size, hb.alloc hb.size _⟩
theorem specL06Terms_any (f : Fd) (aS aY : Option Addr) (cS cY : Nat) (id : List UInt8) (av : Option Addr) (cv : Nat) (V : List Vl) (w : World) (hz : FdSz f) (hS : HoldS w aS f.stops) (hY : HoldY w aY f.syns) (hn : V.length ≤ 1048576) (hH : HoldV w av V) (hsh : ShortV V f.name) :
    Calls Tryz.prog 39 #[.agg #[.string (bs f.name), .int .i64 f.kind, .bool f.bf, .bool f.bsm, .bool f.bp, .slice aS f.stops.length cS, .slice aY f.syns.length cY, .int .i64 f.lo, .int .i64 f.hi], .agg #[.string ⟨id.toArray⟩, .slice av V.length cv]] w (TmP (termsV f (valV V f.name).2.1) w) := by
  by_cases h2 : f.kind = 2
  · exact specWordTerms_any f aS aY cS cY id av cv V w h2 hn hH hsh
  · exact specTextTerms_any f aS aY cS cY id av cv V w h2 hz hS hY hn hH hsh
set_option maxHeartbeats 16000000 in
theorem specTerms_any (a : Option Addr) (cap : Nat) (l : List Fd) (id : List UInt8) (av : Option Addr) (cv : Nat) (V : List Vl) (n : List UInt8) (w : World) (hn : l.length ≤ 1048576) (hA : ∀ i, FdSz (l.getD i fd0)) (hS : HoldF w a l) (hid : id.length ≤ 1048576) (hV : VsSz V) (hH : HoldV w av V) (hf : n.length ≤ 1048576) :
    Calls Tryz.prog 14 #[.agg #[.slice a l.length cap], .agg #[.string ⟨id.toArray⟩, .slice av V.length cv], .string (bs n)] w (TmC (termsO l id V n) w) := by
  have HBa := hidd (((Below.refl w.heap.size w).alloc (Nat.le_refl _) (.cells #[.slice a l.length cap] 33)).alloc (by simp) (.cells #[.string ⟨id.toArray⟩, .slice av V.length cv] 37))
  have HX := hidd (box_two w (.cells #[.slice a l.length cap] 33) (.cells #[.string ⟨id.toArray⟩, .slice av V.length cv] 37))
  have HA := hidd hA
  have HS := hidd hS
  have HV := hidd hV
  have HH := hidd hH
  have HCd := hidd (fun W (hW : Below w.heap.size w W) => specDocOK_any a cap l id av cv V W hn hA (hS.below hW) hid hV (hH.below hW))
  have HSh := hidd (fun (h : (scOK l && dOK l id V) = true) => short_of (l := l) (id := id) (V := V) (by simp only [Bool.and_eq_true] at h; exact h.2) n)
  clear hA hS hV hH
  obtain ⟨O, hO⟩ : ∃ O, termsO l id V n = O := ⟨_, rfl⟩
  rw [hO]
  rw [termsO] at hO
  have HO := hidd hO
  clear hO
  have hfl : (bs n).size = n.length := bs_size n
  go_enter Tryz.func14, Tryz.ntmps14
  go_upto_region 1 with fail
  obtain ⟨wa, hwa⟩ : ∃ wa, (w.alloc (.cells #[.slice a l.length cap] 33)).alloc (.cells #[.string ⟨id.toArray⟩, .slice av V.length cv] 37) = wa := ⟨_, rfl⟩
  rw [hwa] at HBa HX
  try rw [hwa]
  clear hwa
  by_cases hlong : 65536 < n.length
  · rw [if_pos hlong] at HO
    have zl : (65536 : Int) < (n.length : Int) := by omega
    go_wp2_with fail
    go_ret2
    exact tmC_empty HO.out.symm HBa.out
  have zl : ¬ (65536 : Int) < (n.length : Int) := by omega
  rw [if_neg hlong] at HO
  have s0 : wa.cell? ⟨w.heap.size, 0, none⟩ = some (.slice a l.length cap) := blkc HX.out.1 0
  have y0 : wa.cell? ⟨w.heap.size + 1, 0, none⟩ = some (.string ⟨id.toArray⟩) := blkc HX.out.2 0
  have y1 : wa.cell? ⟨w.heap.size + 1, 1, none⟩ = some (.slice av V.length cv) := blkc HX.out.2 1
  go_wp2_with fail
  refine (HCd.out _ HBa.out).mono ?_
  rintro e w2 ⟨rfl, hb2⟩
  have HB2 := hidd (HBa.out.trans (hb2.mono HBa.out.size))
  have HX2 := hidd (And.intro (blko HX.out.1 hb2) (blko HX.out.2 hb2))
  clear hb2 s0 y0 y1 HCd HX HBa
  cases hok : (scOK l && dOK l id V) with
  | false =>
    rw [if_pos hok] at HO
    go_wp2_with fail
    go_ret2
    exact tmC_empty HO.out.symm HB2.out
  | true =>
  rw [if_neg (by rw [hok]; simp)] at HO
  have HSh2 := hidd (HSh.out hok)
  clear HSh hok
  have s0 : w2.cell? ⟨w.heap.size, 0, none⟩ = some (.slice a l.length cap) := blkc HX2.out.1 0
  have HFd := hidd (specField_any a cap l n w2 hn (HS.out.below HB2.out))
  by_cases hit : fldIx l n < l.length
  · rw [if_neg (fun h => h hit)] at HO
    rw [show fldZ l n = (fldIx l n : Int) by rw [fldZ, if_pos hit]] at HFd
    have hgn : (l.getD (fldIx l n) fd0).name = n := fldIx_mem hit
    go_wp2_with fail
    refine HFd.out.mono ?_
    rintro e w3 ⟨rfl, hb3⟩
    have HB3 := hidd (HB2.out.trans (hb3.mono HB2.out.size))
    have HX3 := hidd (And.intro (blko HX2.out.1 hb3) (blko HX2.out.2 hb3))
    clear hb3 s0 HFd
    generalize fldIx l n = ix at *
    have hixz : (ix : Int) < (l.length : Int) := by omega
    obtain ⟨bl, ofl, rfl, hbll, hcl⟩ := (HS.out.below HB3.out).resolve_left (fun h => by rw [h] at hit; simp at hit)
    obtain ⟨g0, g1, g2, g3, g4, ⟨aS, cS, g5, hSt⟩, ⟨aY, cY, g6, hYt⟩, g7, g8⟩ := hcl ix hit
    have HGz := hidd (HA.out ix)
    clear hcl
    generalize l.getD ix fd0 = g at *
    have HSg := hidd hSt
    have HYg := hidd hYt
    have HGn := hidd hgn
    clear hSt hYt hgn
    have s0 : w3.cell? ⟨w.heap.size, 0, none⟩ = some (.slice (some ⟨bl, ofl, none⟩) l.length cap) := blkc HX3.out.1 0
    dsimp only
    by_cases h3 : g.kind = 3
    · rw [if_pos h3] at HO
      go_wp2_with fail
      go_ret2
      exact tmC_empty HO.out.symm HB3.out
    · rw [if_neg h3] at HO
      have y0 : w3.cell? ⟨w.heap.size + 1, 0, none⟩ = some (.string ⟨id.toArray⟩) := blkc HX3.out.2 0
      have y1 : w3.cell? ⟨w.heap.size + 1, 1, none⟩ = some (.slice av V.length cv) := blkc HX3.out.2 1
      have hl0 : w.heap.size < w3.heap.size := (Array.getElem?_eq_some_iff.1 HX3.out.1).1
      have hl1 : w.heap.size + 1 < w3.heap.size := (Array.getElem?_eq_some_iff.1 HX3.out.2).1
      have HCt : Hid (∀ W, Below w3.heap.size w3 W → Calls Tryz.prog 39 #[.agg #[.string (bs g.name), .int .i64 g.kind, .bool g.bf, .bool g.bsm, .bool g.bp, .slice aS g.stops.length cS, .slice aY g.syns.length cY, .int .i64 g.lo, .int .i64 g.hi], .agg #[.string ⟨id.toArray⟩, .slice av V.length cv]] W (TmP (termsV g (valV V n).2.1) W)) := fun W hW => by
        have h := specL06Terms_any g aS aY cS cY id av cv V W HGz.out (HSg.out.below hW) (HYg.out.below hW) HV.out.1 ((HH.out.below HB3.out).below hW) (by rw [HGn.out]; exact HSh2.out)
        rw [show valV V g.name = valV V n by rw [HGn.out]] at h
        exact h
      go_upto_region 10 with fail
      refine wp_region_held_drew (S := (fun w' => w'.cell? ⟨w.heap.size, 0, none⟩ = some (.slice (some ⟨bl, ofl, none⟩) l.length cap) ∧ w'.cell? ⟨bl, ofl + ix * 9, none⟩ = some (.string (bs g.name)) ∧ w'.cell? ⟨bl, ofl + ix * 9 + 1, none⟩ = some (.int .i64 g.kind) ∧ w'.cell? ⟨bl, ofl + ix * 9 + 2, none⟩ = some (.bool g.bf) ∧ w'.cell? ⟨bl, ofl + ix * 9 + 3, none⟩ = some (.bool g.bsm) ∧ w'.cell? ⟨bl, ofl + ix * 9 + 4, none⟩ = some (.bool g.bp) ∧ w'.cell? ⟨bl, ofl + ix * 9 + 5, none⟩ = some (.slice aS g.stops.length cS) ∧ w'.cell? ⟨bl, ofl + ix * 9 + 6, none⟩ = some (.slice aY g.syns.length cY) ∧ w'.cell? ⟨bl, ofl + ix * 9 + 7, none⟩ = some (.int .i64 g.lo) ∧ w'.cell? ⟨bl, ofl + ix * 9 + 8, none⟩ = some (.int .i64 g.hi) ∧ w'.cell? ⟨w.heap.size + 1, 0, none⟩ = some (.string ⟨id.toArray⟩) ∧ w'.cell? ⟨w.heap.size + 1, 1, none⟩ = some (.slice av V.length cv))) (by kernel_rfl) ?_ (fun hHeld => ?_)
      · exact ⟨s0, g0, g1, g2, g3, g4, g5, g6, g7, g8, y0, y1⟩
      refine tkX 0 (h := ?_)
      refine tkX 1 (h := ?_)
      refine tkX 2 (h := ?_)
      refine tkX 3 (h := ?_)
      refine tkX 4 (h := ?_)
      (simp only [Act.put, List.getElem_toArray, List.getElem_cons_succ, List.getElem_cons_zero, List.setIfInBounds_toArray, List.set_cons_zero, List.set_cons_succ])
      refine tkX 5 (h := ?_)
      (simp only [Act.put, List.getElem_toArray, List.getElem_cons_succ, List.getElem_cons_zero, List.setIfInBounds_toArray, List.set_cons_zero, List.set_cons_succ])
      refine wpAnyH_ready (rs := [6]) (by kernel_rfl) (by simp) ?_
      refine AllReadyH.cons rfl (fun K hK => ?_) AllReadyH.nil
      go_simp
      refine (HCt.out _ (below_drewN (Below.refl w3.heap.size w3) 1)).mono ?_
      rintro e' wv1 ⟨v9, rfl, hown9, hbv1⟩
      have HBw1 : Hid (Below w3.heap.size w3 wv1) := Below.trans (below_drewN (Below.refl w3.heap.size w3) 1) (hbv1.mono (Below.size (below_drewN (Below.refl w3.heap.size w3) 1)))
      have HO9 := hidd (ownG_mono hown9 (show w3.heap.size ≤ w3.drew.heap.size from Nat.le_refl _))
      clear hbv1 hown9
      go_wp2_with fail
      refine hK.out _ _ ?_ (fun hHeld1 => ?_)
      · exact ⟨(HBw1.out.cell (p := ⟨w.heap.size, 0, none⟩) hl0).trans s0, (HBw1.out.cell (p := ⟨bl, ofl + ix * 9, none⟩) hbll).trans g0, (HBw1.out.cell (p := ⟨bl, ofl + ix * 9 + 1, none⟩) hbll).trans g1, (HBw1.out.cell (p := ⟨bl, ofl + ix * 9 + 2, none⟩) hbll).trans g2, (HBw1.out.cell (p := ⟨bl, ofl + ix * 9 + 3, none⟩) hbll).trans g3, (HBw1.out.cell (p := ⟨bl, ofl + ix * 9 + 4, none⟩) hbll).trans g4, (HBw1.out.cell (p := ⟨bl, ofl + ix * 9 + 5, none⟩) hbll).trans g5, (HBw1.out.cell (p := ⟨bl, ofl + ix * 9 + 6, none⟩) hbll).trans g6, (HBw1.out.cell (p := ⟨bl, ofl + ix * 9 + 7, none⟩) hbll).trans g7, (HBw1.out.cell (p := ⟨bl, ofl + ix * 9 + 8, none⟩) hbll).trans g8, (HBw1.out.cell (p := ⟨w.heap.size + 1, 0, none⟩) hl1).trans y0, (HBw1.out.cell (p := ⟨w.heap.size + 1, 1, none⟩) hl1).trans y1⟩
      clear hK K
      try simp only [Act.put, List.getElem_toArray, List.getElem_cons_succ, List.getElem_cons_zero, List.setIfInBounds_toArray, List.set_cons_zero, List.set_cons_succ]
      refine tkX 7 (h := ?_)
      refine tkX 8 (h := ?_)
      (simp only [Act.put, List.getElem_toArray, List.getElem_cons_succ, List.getElem_cons_zero, List.setIfInBounds_toArray, List.set_cons_zero, List.set_cons_succ])
      refine wpAnyH_done (by kernel_rfl) ?_ _
      clear hHeld hHeld1
      go_wp2_with fail
      go_ret2
      rw [TmC, ← HO.out]
      exact ⟨_, rfl, ownG_mono HO9.out HB3.out.size, HB3.out.trans (HBw1.out.mono HB3.out.size)⟩
  · rw [if_pos hit] at HO
    rw [show fldZ l n = -1 by rw [fldZ, if_neg hit]] at HFd
    go_wp2_with fail
    refine HFd.out.mono ?_
    rintro e w3 ⟨rfl, hb3⟩
    have HB3 := hidd (HB2.out.trans (hb3.mono HB2.out.size))
    clear hb3 s0 HFd
    dsimp only
    go_wp2_with fail
    go_ret2
    exact tmC_empty HO.out.symm HB3.out
end Go.Proofs.YtgoklapafidpkaaGreatDoor

namespace Go.Proofs.YtgoklapafidpkaaGreatDoor
open Go Go.RowKit
set_option linter.unusedVariables false
set_option maxRecDepth 100000

def szN (left : Int) (n : Nat) : Int := if left - (n : Int) < 0 then -1 else left - (n : Int)
theorem szN_le (left : Int) (n : Nat) (h0 : 0 ≤ left) : -1 ≤ szN left n ∧ szN left n ≤ left := by
  unfold szN; split <;> omega
def szG {X : Type} (g : Int → X → Int) : Int → List X → Int
  | left, [] => left
  | left, x :: t => if g left x < 0 then -1 else szG g (g left x) t
theorem szG_step {X : Type} (g : Int → X → Int) (l : List X) (d : X) (k : Nat) (left : Int) (h : k < l.length) : szG g left (l.drop k) = if g left (l.getD k d) < 0 then -1 else szG g (g left (l.getD k d)) (l.drop (k + 1)) := by
  rw [List.drop_eq_getElem_cons h, szG]; simp [h]
theorem szG_ge {X : Type} (g : Int → X → Int) : ∀ (l : List X) (left : Int), 0 ≤ left → -1 ≤ szG g left l
  | [], left, h => by simp only [szG]; omega
  | x :: t, left, h => by
    simp only [szG]
    split
    · omega
    · exact szG_ge g t _ (by omega)
theorem szG_le {X : Type} (g : Int → X → Int) (hg : ∀ a x, 0 ≤ a → g a x ≤ a) : ∀ (l : List X) (left : Int), 0 ≤ left → szG g left l ≤ left
  | [], left, h => by simp only [szG]; omega
  | x :: t, left, h => by
    simp only [szG]
    split
    · omega
    · have h1 := hg left x h
      have h2 := szG_le g hg t (g left x) (by omega)
      omega
theorem szG_mem {X : Type} (g : Int → X → Int) (hg : ∀ a x, 0 ≤ a → g a x ≤ a) : ∀ (l : List X) (left : Int), 0 ≤ left → 0 ≤ szG g left l → ∀ x ∈ l, ∃ a, 0 ≤ a ∧ a ≤ left ∧ 0 ≤ g a x
  | [], left, h, h0, x, hx => by simp at hx
  | y :: t, left, h, h0, x, hx => by
    simp only [szG] at h0
    split at h0
    · omega
    · rename_i hn
      rcases List.mem_cons.1 hx with rfl | hx
      · exact ⟨left, h, by omega, by omega⟩
      · obtain ⟨a, h1, h2, h3⟩ := szG_mem g hg t _ (by omega) h0 x hx
        have := hg left y h
        exact ⟨a, h1, by omega, h3⟩
theorem szG_sum {X : Type} (g : Int → X → Int) (f : X → Nat) (hg : ∀ a x, 0 ≤ a → 0 ≤ g a x → g a x ≤ a ∧ (f x : Int) ≤ a - g a x) : ∀ (l : List X) (left : Int), 0 ≤ left → 0 ≤ szG g left l → szG g left l ≤ left ∧ (((l.map f).sum : Nat) : Int) ≤ left - szG g left l
  | [], left, h, h0 => by simp only [szG]; simp
  | y :: t, left, h, h0 => by
    simp only [szG] at h0 ⊢
    split at h0
    · omega
    · rename_i hn
      rw [if_neg hn]
      obtain ⟨a1, a2⟩ := hg left y h (by omega)
      obtain ⟨b1, b2⟩ := szG_sum g f hg t (g left y) (by omega) h0
      simp only [List.map_cons, List.sum_cons]
      push_cast
      omega
def szTx (left : Int) (l : List (List UInt8)) : Int := if left - (l.length : Int) < 0 then -1 else szG (fun a t => szN a t.length) (left - (l.length : Int)) l
def szVl (left : Int) (v : Vl) : Int := if szN left v.1.length < 0 then -1 else if szTx (szN left v.1.length) v.2.1 < 0 then -1 else szN (szTx (szN left v.1.length) v.2.1) v.2.2.length
def szVs (left : Int) (V : List Vl) : Int := if left - (V.length : Int) < 0 then -1 else szG szVl (left - (V.length : Int)) V
def szDcL (left : Int) (d : Dc) : Int := if szN left d.1.length < 0 then -1 else szVs (szN left d.1.length) d.2
theorem szTx_le (left : Int) (l : List (List UInt8)) (h : 0 ≤ left) : -1 ≤ szTx left l ∧ szTx left l ≤ left := by
  unfold szTx
  split
  · omega
  · have h1 := szG_ge (fun a (t : List UInt8) => szN a t.length) l (left - (l.length : Int)) (by omega)
    have h2 := szG_le (fun a (t : List UInt8) => szN a t.length) (fun a t ha => (szN_le a t.length ha).2) l (left - (l.length : Int)) (by omega)
    omega
theorem szVl_le (left : Int) (v : Vl) (h : 0 ≤ left) : -1 ≤ szVl left v ∧ szVl left v ≤ left := by
  unfold szVl
  have h1 := szN_le left v.1.length h
  split
  · omega
  · have h2 := szTx_le (szN left v.1.length) v.2.1 (by omega)
    split
    · omega
    · have h3 := szN_le (szTx (szN left v.1.length) v.2.1) v.2.2.length (by omega)
      omega
theorem szVs_le (left : Int) (V : List Vl) (h : 0 ≤ left) : -1 ≤ szVs left V ∧ szVs left V ≤ left := by
  unfold szVs
  split
  · omega
  · have h1 := szG_ge szVl V (left - (V.length : Int)) (by omega)
    have h2 := szG_le szVl (fun a v ha => (szVl_le a v ha).2) V (left - (V.length : Int)) (by omega)
    omega
theorem szN_ok {left : Int} {n : Nat} (h : 0 ≤ szN left n) : szN left n = left - (n : Int) ∧ (n : Int) ≤ left := by
  unfold szN at h ⊢
  split at h
  · omega
  · rename_i hn; rw [if_neg hn]; omega
theorem szVl_ok {a : Int} {v : Vl} (h0 : 0 ≤ a) (h : 0 ≤ szVl a v) : 0 ≤ szN a v.1.length ∧ 0 ≤ szTx (szN a v.1.length) v.2.1 ∧ szVl a v = szN (szTx (szN a v.1.length) v.2.1) v.2.2.length := by
  unfold szVl at h ⊢
  split at h
  · omega
  · rename_i h1
    rw [if_neg h1]
    split at h
    · omega
    · rename_i h2
      rw [if_neg h2]
      exact ⟨by omega, by omega, rfl⟩
theorem szTx_ok {a : Int} {l : List (List UInt8)} (h : 0 ≤ szTx a l) : (l.length : Int) ≤ a ∧ szTx a l = szG (fun a t => szN a t.length) (a - (l.length : Int)) l := by
  unfold szTx at h ⊢
  split at h
  · omega
  · rename_i h1; rw [if_neg h1]; exact ⟨by omega, rfl⟩
theorem szVl_lens {a : Int} {v : Vl} (h0 : 0 ≤ a) (h1 : a ≤ 1048576) (h : 0 ≤ szVl a v) : v.1.length ≤ 1048576 ∧ v.2.1.length ≤ 1048576 ∧ v.2.2.length ≤ 1048576 := by
  obtain ⟨a1, a2, a3⟩ := szVl_ok h0 h
  have b1 := szN_ok a1
  have b2 := szTx_ok a2
  have b3 := szTx_le (szN a v.1.length) v.2.1 a1
  have b4 := szN_ok (left := szTx (szN a v.1.length) v.2.1) (n := v.2.2.length) (by rw [← a3]; exact h)
  omega
theorem szTx_sum {a : Int} {l : List (List UInt8)} (h0 : 0 ≤ a) (h : 0 ≤ szTx a l) : (txSum l : Int) ≤ a - szTx a l := by
  obtain ⟨h1, h2⟩ := szTx_ok h
  rw [h2] at h ⊢
  have := (szG_sum (fun a (t : List UInt8) => szN a t.length) List.length (fun x t hx hx2 => by have := szN_ok hx2; omega) l _ (by omega) h).2
  unfold txSum
  omega
theorem szVl_sum {a : Int} {v : Vl} (h0 : 0 ≤ a) (h : 0 ≤ szVl a v) : szVl a v ≤ a ∧ (txSum v.2.1 : Int) ≤ a - szVl a v := by
  obtain ⟨a1, a2, a3⟩ := szVl_ok h0 h
  have b1 := szN_ok a1
  have b2 := szTx_sum a1 a2
  have b4 := szN_ok (left := szTx (szN a v.1.length) v.2.1) (n := v.2.2.length) (by rw [← a3]; exact h)
  omega
theorem szDcL_ok {left : Int} {d : Dc} (hl0 : 0 ≤ left) (hl1 : left ≤ 1048576) (h : 0 ≤ szDcL left d) : d.1.length ≤ 1048576 ∧ d.2.length ≤ 1048576 ∧ (∀ i, (d.2.getD i vl0).1.length ≤ 1048576 ∧ (d.2.getD i vl0).2.1.length ≤ 1048576 ∧ (d.2.getD i vl0).2.2.length ≤ 1048576) ∧ bodyV d.2 ≤ 1048576 := by
  unfold szDcL at h
  split at h
  · omega
  · rename_i h1
    have b1 := szN_ok (left := left) (n := d.1.length) (by omega)
    unfold szVs at h
    split at h
    · omega
    · rename_i h2
      refine ⟨by omega, by omega, fun i => ?_, ?_⟩
      · by_cases hi : i < d.2.length
        · obtain ⟨a, q1, q2, q3⟩ := szG_mem szVl (fun a v ha => (szVl_le a v ha).2) d.2 _ (by omega) h _ (getD_in (d := vl0) hi)
          exact szVl_lens q1 (by omega) q3
        · simp [hi, vl0]
      · have := (szG_sum szVl (fun v => txSum v.2.1) (fun a v ha hv => szVl_sum ha hv) d.2 _ (by omega) h).2
        unfold bodyV
        omega
end Go.Proofs.YtgoklapafidpkaaGreatDoor

namespace Go.Proofs.YtgoklapafidpkaaGreatDoor
open Go Go.RowKit
set_option linter.unusedVariables false
set_option maxRecDepth 100000

set_option maxHeartbeats 1000000 in
theorem szInts_any (a : Option Addr) (n c : Nat) (left : Int) (w : World) (h0 : 0 ≤ left) (h1 : left ≤ 1048576) (hn : n ≤ 9223372036854775807) :
    Calls Tryz.prog 101 #[.slice a n c, .int .i64 left] w fun e w' => e = .returned (.int .i64 (szN left n)) ∧ w' = w := by
  by_cases h : left - (n : Int) < 0
  · have HE : Hid (szN left n = -1) := by show _ = _; rw [szN, if_pos h]
    go_enter Tryz.func101, Tryz.ntmps101
    go_wp2_with fail
    go_ret
    rw [HE.out]
    exact ⟨rfl, rfl⟩
  · have HE : Hid (szN left n = left - (n : Int)) := by show _ = _; rw [szN, if_neg h]
    go_enter Tryz.func101, Tryz.ntmps101
    go_wp2_with fail
    go_ret
    rw [HE.out]
    exact ⟨rfl, rfl⟩
set_option maxHeartbeats 2000000 in
theorem szTxs_any (a : Option Addr) (c : Nat) (l : List (List UInt8)) (left : Int) (w : World) (h0 : 0 ≤ left) (h1 : left ≤ 1048576) (hn : l.length ≤ 9223372036854775807) (hA : ∀ i, (l.getD i []).length ≤ 9223372036854775807) (hS : HoldTx w a l) :
    Calls Tryz.prog 100 #[.slice a l.length c, .int .i64 left] w fun e w' => e = .returned (.int .i64 (szTx left l)) ∧ w' = w := by
  have HS := hidd hS
  have HA := hidd hA
  clear hS hA
  by_cases h : left - (l.length : Int) < 0
  · have HE : Hid (szTx left l = -1) := by show _ = _; rw [szTx, if_pos h]
    go_enter Tryz.func100, Tryz.ntmps100
    go_wp2_with fail
    go_ret
    rw [HE.out]
    exact ⟨rfl, rfl⟩
  · obtain ⟨R, hR⟩ : ∃ R, szTx left l = R := ⟨_, rfl⟩
    rw [hR]
    have HE : Hid (szG (fun a t => szN a t.length) (left - (l.length : Int)) l = R) := by show _ = _; rw [← hR, szTx, if_neg h]
    clear hR
    go_enter Tryz.func100, Tryz.ntmps100
    go_wp2_with fail
    go_loopw [1, 5] (fun lv iv wr => ∃ (k : Nat) (x : Int), k ≤ l.length ∧ iv = .int .i64 (k : Int) ∧ lv = .int .i64 x ∧ 0 ≤ x ∧ x ≤ 1048576 ∧ szG (fun a t => szN a t.length) x (l.drop k) = R ∧ wr = w) (fun _ iv _ => l.length - (intOf iv).toNat)
    case atStart => exact ⟨0, _, Nat.zero_le _, rfl, rfl, by omega, by omega, by rw [List.drop_zero]; exact HE.out, rfl⟩
    case round =>
      clear HE
      obtain ⟨k, x, hk, rfl, rfl, hx0, hx1, hgo, hww⟩ := hrel
      have hww' := hww.symm
      subst hww'
      clear hww
      have HG := hidd hgo
      clear hgo
      by_cases hlt : k < l.length
      · have hkz : (k : Int) < (l.length : Int) := by omega
        obtain ⟨b, off, rfl, hbl, hc⟩ := HS.out.resolve_left (fun h => by rw [h] at hlt; simp at hlt)
        have x0 := hc k hlt
        rw [szG_step _ l [] k x hlt] at HG
        have hal := HA.out k
        clear hc
        generalize l.getD k [] = t at *
        have htl : (⟨t.toArray⟩ : ByteArray).size = t.length := by rw [Lib.size_eq]
        by_cases hX : x - (t.length : Int) < 0
        · have HR : Hid (R = -1) := by show _ = _; have := HG.out; rw [szN, if_pos hX, if_pos (by omega)] at this; exact this.symm
          go_wp2_with fail
          go_ret
          rw [HR.out]
          exact ⟨rfl, rfl⟩
        · have HR : Hid (szG (fun a (t : List UInt8) => szN a t.length) (x - (t.length : Int)) (l.drop (k + 1)) = R) := by show _ = _; have := HG.out; rw [szN, if_neg hX, if_neg hX] at this; exact this
          go_wp2_with fail
          go_roundw
          case rel => exact ⟨k + 1, x - (t.length : Int), by omega, by go_num, by go_num, by omega, by omega, HR.out, by first | trivial | rfl⟩
          case measure => simp [intOf]; omega
      · have hkz : ¬ (k : Int) < (l.length : Int) := by omega
        rw [List.drop_of_length_le (by omega), szG] at HG
        go_wp2_with fail
        go_ret
        rw [← HG.out]
        exact ⟨rfl, rfl⟩
/-- Lengths as the machine bounds them. -/
def VlLen (v : Vl) : Prop := v.1.length ≤ 9223372036854775807 ∧ v.2.1.length ≤ 9223372036854775807 ∧ v.2.2.length ≤ 9223372036854775807 ∧ ∀ i, (v.2.1.getD i []).length ≤ 9223372036854775807
set_option maxHeartbeats 2000000 in
theorem szVal_any (f : List UInt8) (at_ an : Option Addr) (ct cn : Nat) (tx : List (List UInt8)) (nz : List Int) (left : Int) (w : World) (h0 : 0 ≤ left) (h1 : left ≤ 1048576) (hL : VlLen (f, tx, nz)) (hT : HoldTx w at_ tx) :
    Calls Tryz.prog 61 #[.agg #[.string ⟨f.toArray⟩, .slice at_ tx.length ct, .slice an nz.length cn], .int .i64 left] w fun e w' => e = .returned (.int .i64 (szVl left (f, tx, nz))) ∧ Below w.heap.size w w' := by
  obtain ⟨hL1, hL2, hL3, hL4⟩ := hL
  dsimp only at hL1 hL2 hL3 hL4
  have HT := hidd hT
  have HL4 := hidd hL4
  clear hT hL4
  have hfl : (⟨f.toArray⟩ : ByteArray).size = f.length := by rw [Lib.size_eq]
  have HBa := hidd ((Below.refl w.heap.size w).alloc (Nat.le_refl _) (.cells #[.string ⟨f.toArray⟩, .slice at_ tx.length ct, .slice an nz.length cn] 115))
  obtain ⟨R, hR⟩ : ∃ R, szVl left (f, tx, nz) = R := ⟨_, rfl⟩
  have HR := hidd hR
  rw [hR]
  clear hR
  go_enter Tryz.func61, Tryz.ntmps61
  by_cases hf : left - (f.length : Int) < 0
  · have HE : Hid (R = -1) := by show _ = _; rw [← HR.out, szVl]; dsimp only; rw [szN, if_pos hf, if_pos (by omega)]
    go_wp2_with fail
    go_ret
    rw [HE.out]
    exact ⟨rfl, HBa.out⟩
  · have HR2 : Hid ((if szTx (left - (f.length : Int)) tx < 0 then -1 else szN (szTx (left - (f.length : Int)) tx) nz.length) = R) := by show _ = _; have := HR.out; rw [szVl] at this; dsimp only at this; rw [show szN left f.length = left - (f.length : Int) by rw [szN, if_neg hf], if_neg hf] at this; exact this
    clear HR
    have hle := szTx_le (left - (f.length : Int)) tx (by omega)
    have HS1 := hidd (fun W (hW : HoldTx W at_ tx) => szTxs_any at_ ct tx (left - (f.length : Int)) W (by omega) (by omega) hL2 HL4.out hW)
    generalize szTx (left - (f.length : Int)) tx = Y at *
    go_wp2_with fail
    refine (HS1.out _ (HT.out.below HBa.out)).mono ?_
    rintro e w3 ⟨rfl, hw3⟩
    subst hw3
    dsimp only
    by_cases hY : Y < 0
    · obtain rfl : Y = -1 := by omega
      rw [if_pos hY] at HR2
      go_wp2_with fail
      go_ret
      rw [← HR2.out]
      exact ⟨rfl, HBa.out⟩
    · rw [if_neg hY] at HR2
      have HS2 := hidd (fun W => szInts_any an nz.length cn Y W (by omega) (by omega) hL3)
      have hle2 := szN_le Y nz.length (by omega)
      rw [HR2.out] at HS2 hle2
      clear HR2
      go_wp2_with fail
      refine (HS2.out _).mono ?_
      rintro e w4 ⟨rfl, hw4⟩
      subst hw4
      dsimp only
      by_cases hRn : R < 0
      · obtain rfl : R = -1 := by omega
        go_wp2_with fail
        go_ret
        exact ⟨rfl, HBa.out⟩
      · go_wp2_with fail
        go_ret
        exact ⟨rfl, HBa.out⟩
set_option maxHeartbeats 2000000 in
theorem szVals_any (a : Option Addr) (c : Nat) (V : List Vl) (left : Int) (w : World) (h0 : 0 ≤ left) (h1 : left ≤ 1048576) (hn : V.length ≤ 9223372036854775807) (hA : ∀ i, VlLen (V.getD i vl0)) (hS : HoldV w a V) :
    Calls Tryz.prog 29 #[.slice a V.length c, .int .i64 left] w fun e w' => e = .returned (.int .i64 (szVs left V)) ∧ Below w.heap.size w w' := by
  have HS := hidd hS
  have HA := hidd hA
  clear hS hA
  by_cases h : left - (V.length : Int) < 0
  · have HE : Hid (szVs left V = -1) := by show _ = _; rw [szVs, if_pos h]
    go_enter Tryz.func29, Tryz.ntmps29
    go_wp2_with fail
    go_ret
    rw [HE.out]
    exact ⟨rfl, Below.refl _ _⟩
  · obtain ⟨R, hR⟩ : ∃ R, szVs left V = R := ⟨_, rfl⟩
    rw [hR]
    have HE : Hid (szG szVl (left - (V.length : Int)) V = R) := by show _ = _; rw [← hR, szVs, if_neg h]
    clear hR
    go_enter Tryz.func29, Tryz.ntmps29
    go_wp2_with fail
    go_loopw [1, 5] (fun lv iv wr => ∃ (k : Nat) (x : Int), k ≤ V.length ∧ iv = .int .i64 (k : Int) ∧ lv = .int .i64 x ∧ 0 ≤ x ∧ x ≤ 1048576 ∧ szG szVl x (V.drop k) = R ∧ Below w.heap.size w wr) (fun _ iv _ => V.length - (intOf iv).toNat)
    case atStart => exact ⟨0, _, Nat.zero_le _, rfl, rfl, by omega, by omega, by rw [List.drop_zero]; exact HE.out, Below.refl _ _⟩
    case round =>
      clear HE
      obtain ⟨k, x, hk, rfl, rfl, hx0, hx1, hgo, hbel⟩ := hrel
      have HG := hidd hgo
      have HB := hidd hbel
      clear hgo hbel
      by_cases hlt : k < V.length
      · have hkz : (k : Int) < (V.length : Int) := by omega
        obtain ⟨b, off, rfl, hbl, hc⟩ := (HS.out.below HB.out).resolve_left (fun h => by rw [h] at hlt; simp at hlt)
        obtain ⟨x0, ⟨at_, ct, x1, hTx⟩, an, cn, x2, hZ⟩ := hc k hlt
        clear hc hZ
        rw [szG_step szVl V vl0 k x hlt] at HG
        have hal := HA.out k
        generalize V.getD k vl0 = s at *
        obtain ⟨f, tx, nz⟩ := s
        dsimp only at x0 x1 x2 HG hTx
        have hs := szVl_le x (f, tx, nz) hx0
        have HV := hidd (szVal_any f at_ an ct cn tx nz x wr hx0 hx1 hal hTx)
        clear hTx hal
        generalize szVl x (f, tx, nz) = X at *
        go_wp2_with fail
        refine HV.out.mono ?_
        rintro e w3 ⟨rfl, hb3⟩
        have HB3 := hidd (HB.out.trans (hb3.mono HB.out.size))
        clear hb3 HV
        dsimp only
        by_cases hX : X < 0
        · obtain rfl : X = -1 := by omega
          rw [if_pos hX] at HG
          go_wp2_with fail
          go_ret
          rw [← HG.out]
          exact ⟨rfl, HB3.out⟩
        · rw [if_neg hX] at HG
          go_wp2_with fail
          go_roundw
          case rel => exact ⟨k + 1, X, by omega, by go_num, rfl, by omega, by omega, HG.out, HB3.out⟩
          case measure => simp [intOf]; omega
      · have hkz : ¬ (k : Int) < (V.length : Int) := by omega
        rw [List.drop_of_length_le (by omega), szG] at HG
        go_wp2_with fail
        go_ret
        rw [← HG.out]
        exact ⟨rfl, HB.out⟩
set_option maxHeartbeats 1000000 in
theorem szDoc_any (id : List UInt8) (a : Option Addr) (cap : Nat) (V : List Vl) (left : Int) (w : World) (h0 : 0 ≤ left) (h1 : left ≤ 1048576) (hi : id.length ≤ 9223372036854775807) (hn : V.length ≤ 9223372036854775807) (hA : ∀ i, VlLen (V.getD i vl0)) (hS : HoldV w a V) :
    Calls Tryz.prog 7 #[.agg #[.string ⟨id.toArray⟩, .slice a V.length cap], .int .i64 left] w fun e w' => e = .returned (.int .i64 (szDcL left (id, V))) ∧ Below w.heap.size w w' := by
  have HBa := hidd ((Below.refl w.heap.size w).alloc (Nat.le_refl _) (.cells #[.string ⟨id.toArray⟩, .slice a V.length cap] 27))
  have HS := hidd hS
  have HA := hidd hA
  clear hS hA
  have hfl : (⟨id.toArray⟩ : ByteArray).size = id.length := by rw [Lib.size_eq]
  obtain ⟨R, hR⟩ : ∃ R, szDcL left (id, V) = R := ⟨_, rfl⟩
  have HR := hidd hR
  rw [hR]
  clear hR
  go_enter Tryz.func7, Tryz.ntmps7
  by_cases hf : left - (id.length : Int) < 0
  · have HE : Hid (R = -1) := by show _ = _; rw [← HR.out, szDcL]; dsimp only; rw [szN, if_pos hf, if_pos (by omega)]
    go_wp2_with fail
    go_ret
    rw [HE.out]
    exact ⟨rfl, HBa.out⟩
  · have HR2 : Hid (szVs (left - (id.length : Int)) V = R) := by show _ = _; have := HR.out; rw [szDcL] at this; dsimp only at this; rw [show szN left id.length = left - (id.length : Int) by rw [szN, if_neg hf], if_neg hf] at this; exact this
    clear HR
    have hle := szVs_le (left - (id.length : Int)) V (by omega)
    have HS1 := hidd (fun W (hW : HoldV W a V) => szVals_any a cap V (left - (id.length : Int)) W (by omega) (by omega) hn HA.out hW)
    rw [HR2.out] at hle HS1
    clear HR2
    go_wp2_with fail
    refine (HS1.out _ (HS.out.below HBa.out)).mono ?_
    rintro e w3 ⟨rfl, hb3⟩
    have HB3 := hidd (HBa.out.trans (hb3.mono HBa.out.size))
    clear hb3
    dsimp only
    by_cases hX : R < 0
    · obtain rfl : R = -1 := by omega
      go_wp2_with fail
      go_ret
      exact ⟨rfl, HB3.out⟩
    · go_wp2_with fail
      go_ret
      exact ⟨rfl, HB3.out⟩
end Go.Proofs.YtgoklapafidpkaaGreatDoor
