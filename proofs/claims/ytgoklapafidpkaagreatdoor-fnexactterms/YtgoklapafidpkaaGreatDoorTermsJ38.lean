import Derived.Test.YtgoklapafidpkaaGreatDoorTermsJ36
import Derived.Test.YtgoklapafidpkaaGreatDoorTermsJ37
import Derived.Test.YtgoklapafidpkaaGreatDoorTermsJ00
import Derived.Test.YtgoklapafidpkaaGreatDoorTermsJ27
import Derived.Test.YtgoklapafidpkaaGreatDoorTermsJ26
import Derived.Test.YtgoklapafidpkaaGreatDoorTermsJ10
import Derived.Deep.RegionHeld3
namespace Go.Proofs.YtgoklapafidpkaaGreatDoor
open Go Go.RowKit
set_option linter.unusedVariables false
set_option maxRecDepth 100000

/-- A valid document's texts are few and short. -/
def ShortV (V : List Vl) (n : List UInt8) : Prop := (valV V n).2.1.length ≤ 16 ∧ ∀ k, k < (valV V n).2.1.length → ((valV V n).2.1.getD k []).length ≤ 4000
theorem short_of {l : List Fd} {id : List UInt8} {V : List Vl} (h : dOK l id V = true) (n : List UInt8) : ShortV V n := by
  unfold dOK at h
  simp only [Bool.and_eq_true, decide_eq_true_eq, List.all_eq_true, List.mem_range] at h
  obtain ⟨⟨_, hb⟩, hv⟩ := h
  unfold ShortV valV
  by_cases hk : (V.findIdx fun v => v.1 == n) < V.length
  · have h1 := hv _ hk
    unfold vlAt at h1
    simp only [Bool.and_eq_true] at h1
    have h2 := h1.1
    generalize (V.findIdx fun v => v.1 == n) = k at *
    have hm := bodyV_mem (getD_in (d := vl0) hk)
    refine ⟨?_, fun j hj => ?_⟩
    · unfold vlFit at h2
      simp only [Bool.and_eq_true] at h2
      have h3 := h2.2
      unfold takesV at h3
      split at h3
      · unfold nzFit at h3
        simp only [Bool.and_eq_true, decide_eq_true_eq] at h3
        omega
      · unfold txsFit at h3
        simp only [Bool.and_eq_true, decide_eq_true_eq] at h3
        omega
    · have := txSum_mem (getD_in (d := []) hj)
      omega
  · rw [List.getD_eq_getElem?_getD, List.getElem?_eq_none (by omega)]
    exact ⟨by simp [vl0], fun j hj => by simp [vl0] at hj⟩
theorem valField (s : ByteArray) (a b : Option Addr) (n c m d : Nat) (w : World) : (Instr.field 60 (.agg #[.string s, .slice a n c, .slice b m d]) 1).run Tryz.prog w = .ok (.slice a n c) w := by kernel_rfl
def TmP (L : List Tk) (w : World) (e : Ending) (w' : World) : Prop := ∃ v, e = .returned v ∧ w'.ownsRow w.heap.size 63 4 v L.length (toksCells L) ∧ Below w.heap.size w w'
def TmC (r : List Tk × Int) (w : World) (e : Ending) (w' : World) : Prop := ∃ v, e = .returned (.tuple #[v, .int .i64 r.2]) ∧ w'.ownsRow w.heap.size 63 4 v r.1.length (toksCells r.1) ∧ Below w.heap.size w w'
set_option maxHeartbeats 8000000 in
theorem terms_any (f : Fd) (aS aY : Option Addr) (cS cY : Nat) (id : List UInt8) (av : Option Addr) (cv : Nat) (V : List Vl) (w : World) (hTb : Tabs w) (hz : FdSz f) (hS : HoldS w aS f.stops) (hY : HoldY w aY f.syns) (hn : V.length ≤ 1048576) (hH : HoldV w av V) (hsh : ShortV V f.name) :
    Calls Tryz.prog 41 #[.agg #[.string (bs f.name), .int .i64 f.kind, .bool f.bf, .bool f.bsm, .bool f.bp, .slice aS f.stops.length cS, .slice aY f.syns.length cY, .int .i64 f.lo, .int .i64 f.hi], .agg #[.string ⟨id.toArray⟩, .slice av V.length cv]] w (TmP (termsV f (valV V f.name).2.1) w) := by
  have HBa := hidd (((Below.refl w.heap.size w).alloc (Nat.le_refl _) (.cells #[.string (bs f.name), .int .i64 f.kind, .bool f.bf, .bool f.bsm, .bool f.bp, .slice aS f.stops.length cS, .slice aY f.syns.length cY, .int .i64 f.lo, .int .i64 f.hi] 79)).alloc (by simp) (.cells #[.string ⟨id.toArray⟩, .slice av V.length cv] 37))
  have HX := hidd (box_two w (.cells #[.string (bs f.name), .int .i64 f.kind, .bool f.bf, .bool f.bsm, .bool f.bp, .slice aS f.stops.length cS, .slice aY f.syns.length cY, .int .i64 f.lo, .int .i64 f.hi] 79) (.cells #[.string ⟨id.toArray⟩, .slice av V.length cv] 37))
  obtain ⟨s, hs⟩ : ∃ s, valV V f.name = s := ⟨_, rfl⟩
  have HCv : Hid (∀ W, Below w.heap.size w W → Calls Tryz.prog 83 #[.agg #[.string ⟨id.toArray⟩, .slice av V.length cv], .string (bs f.name)] W fun e w' => ∃ at_ ct an cn, e = .returned (.agg #[.string ⟨s.1.toArray⟩, .slice at_ s.2.1.length ct, .slice an s.2.2.length cn]) ∧ HoldTx W at_ s.2.1 ∧ Below W.heap.size W w') := fun W hW => (implValue_any id av cv V f.name W hn (hH.below hW)).mono fun e w' h => by rw [ValP, hs] at h; exact h
  have HCw := hidd (fun at_ ct W (h : HoldTx W at_ s.2.1) => wordTerms_any at_ ct s.2.1 W (by rw [← hs]; exact hsh.1) (by rw [← hs]; exact hsh.2) h)
  have HCt := hidd (fun at_ ct W (hW : Below w.heap.size w W) (h : HoldTx W at_ s.2.1) => textTerms_any f aS aY cS cY at_ ct s.2.1 W (hTb.below hW) hz (hS.below hW) (hY.below hW) (by rw [← hs]; exact hsh.1) (by rw [← hs]; exact hsh.2) h)
  rw [hs]
  clear hTb hz hS hY hH hsh hs
  obtain ⟨fn, tx, nz⟩ := s
  dsimp only at HCv HCw HCt ⊢
  have m1 := valField
  go_enter Tryz.func41, Tryz.ntmps41
  go_upto_region 1 with fail
  obtain ⟨wa, hwa⟩ : ∃ wa, (w.alloc (.cells #[.string (bs f.name), .int .i64 f.kind, .bool f.bf, .bool f.bsm, .bool f.bp, .slice aS f.stops.length cS, .slice aY f.syns.length cY, .int .i64 f.lo, .int .i64 f.hi] 79)).alloc (.cells #[.string ⟨id.toArray⟩, .slice av V.length cv] 37) = wa := ⟨_, rfl⟩
  rw [hwa] at HBa HX
  try rw [hwa]
  clear hwa
  have y0 : wa.cell? ⟨w.heap.size + 1, 0, none⟩ = some (.string ⟨id.toArray⟩) := blkc HX.out.2 0
  have y1 : wa.cell? ⟨w.heap.size + 1, 1, none⟩ = some (.slice av V.length cv) := blkc HX.out.2 1
  have x0 : wa.cell? ⟨w.heap.size, 0, none⟩ = some (.string (bs f.name)) := blkc HX.out.1 0
  go_wp2_with fail
  refine (HCv.out _ HBa.out).mono ?_
  rintro e w2 ⟨at_, ct, an, cn, rfl, hTx, hb2⟩
  have HTx := hidd (hTx.below hb2)
  have HB2 := hidd (HBa.out.trans (hb2.mono HBa.out.size))
  have HX2 := hidd (blko HX.out.1 hb2)
  clear hTx hb2 x0 y0 y1 HCv
  dsimp only
  have x0 : w2.cell? ⟨w.heap.size, 0, none⟩ = some (.string (bs f.name)) := blkc HX2.out 0
  have x1 : w2.cell? ⟨w.heap.size, 1, none⟩ = some (.int .i64 f.kind) := blkc HX2.out 1
  have x2 : w2.cell? ⟨w.heap.size, 2, none⟩ = some (.bool f.bf) := blkc HX2.out 2
  have x3 : w2.cell? ⟨w.heap.size, 3, none⟩ = some (.bool f.bsm) := blkc HX2.out 3
  have x4 : w2.cell? ⟨w.heap.size, 4, none⟩ = some (.bool f.bp) := blkc HX2.out 4
  have x5 : w2.cell? ⟨w.heap.size, 5, none⟩ = some (.slice aS f.stops.length cS) := blkc HX2.out 5
  have x6 : w2.cell? ⟨w.heap.size, 6, none⟩ = some (.slice aY f.syns.length cY) := blkc HX2.out 6
  have x7 : w2.cell? ⟨w.heap.size, 7, none⟩ = some (.int .i64 f.lo) := blkc HX2.out 7
  have x8 : w2.cell? ⟨w.heap.size, 8, none⟩ = some (.int .i64 f.hi) := blkc HX2.out 8
  by_cases h2 : f.kind = 2
  · have HE : Hid (termsV f tx = wordTo tx tx.length) := by show _ = _; rw [termsV, if_pos h2]
    go_wp2_with fail
    refine (HCw.out at_ ct _ HTx.out).mono ?_
    rintro e w3 ⟨v3, rfl, hown3, hb3⟩
    dsimp only
    go_wp2_with fail
    go_ret
    rw [TmP, HE.out]
    have hz := HB2.out.size
    exact ⟨_, rfl, ownG_mono hown3 hz, HB2.out.trans (hb3.mono hz)⟩
  · have HE : Hid (termsV f tx = (textTo f tx tx.length).1) := by show _ = _; rw [termsV, if_neg h2]
    go_wp2_with fail
    refine (HCt.out at_ ct _ HB2.out HTx.out).mono ?_
    rintro e w3 ⟨v3, rfl, hown3, hb3⟩
    dsimp only
    go_wp2_with fail
    go_ret
    rw [TmP, HE.out]
    have hz := HB2.out.size
    exact ⟨_, rfl, ownG_mono hown3 hz, HB2.out.trans (hb3.mono hz)⟩
theorem tmC_nil {r : List Tk × Int} {w w' : World} {c : Int} (hr : r = ([], c)) (hb : Below w.heap.size w w') : TmC r w (.returned (.tuple #[.slice none 0 0, .int .i64 c])) w' := by
  subst hr
  exact ⟨_, rfl, World.ownsRow_nil _ _ _ _, hb⟩
set_option maxHeartbeats 8000000 in
theorem implTerms_any (a : Option Addr) (cap : Nat) (l : List Fd) (id : List UInt8) (av : Option Addr) (cv : Nat) (V : List Vl) (n : List UInt8) (w : World) (hT : Tabs w) (hn : l.length ≤ 1048576) (hA : ∀ i, FdSz (l.getD i fd0)) (hS : HoldF w a l) (hid : id.length ≤ 1048576) (hV : VsSz V) (hH : HoldV w av V) (hf : n.length ≤ 1048576) :
    Calls Tryz.prog 15 #[.agg #[.slice a l.length cap], .agg #[.string ⟨id.toArray⟩, .slice av V.length cv], .string (bs n)] w (TmC (termsO l id V n) w) := by
  have HBa := hidd (((Below.refl w.heap.size w).alloc (Nat.le_refl _) (.cells #[.slice a l.length cap] 33)).alloc (by simp) (.cells #[.string ⟨id.toArray⟩, .slice av V.length cv] 37))
  have HX := hidd (box_two w (.cells #[.slice a l.length cap] 33) (.cells #[.string ⟨id.toArray⟩, .slice av V.length cv] 37))
  have HT := hidd hT
  have HA := hidd hA
  have HS := hidd hS
  have HV := hidd hV
  have HH := hidd hH
  have HCd := hidd (fun W (hW : Below w.heap.size w W) => implDocOK_any a cap l id av cv V W (hT.below hW) hn hA (hS.below hW) hid hV (hH.below hW))
  have HSh := hidd (fun (h : (scOK l && dOK l id V) = true) => short_of (l := l) (id := id) (V := V) (by simp only [Bool.and_eq_true] at h; exact h.2) n)
  clear hT hA hS hV hH
  obtain ⟨O, hO⟩ : ∃ O, termsO l id V n = O := ⟨_, rfl⟩
  rw [hO]
  rw [termsO] at hO
  have HO := hidd hO
  clear hO
  have hfl : (bs n).size = n.length := bs_size n
  go_enter Tryz.func15, Tryz.ntmps15
  go_upto_region 1 with fail
  obtain ⟨wa, hwa⟩ : ∃ wa, (w.alloc (.cells #[.slice a l.length cap] 33)).alloc (.cells #[.string ⟨id.toArray⟩, .slice av V.length cv] 37) = wa := ⟨_, rfl⟩
  rw [hwa] at HBa HX
  try rw [hwa]
  clear hwa
  by_cases hlong : 65536 < n.length
  · rw [if_pos hlong] at HO
    have zl : (65536 : Int) < (n.length : Int) := by omega
    go_wp2_with fail
    go_ret2
    exact tmC_nil HO.out.symm HBa.out
  have zl : ¬ (65536 : Int) < (n.length : Int) := by omega
  rw [if_neg hlong] at HO
  have s0 : wa.cell? ⟨w.heap.size, 0, none⟩ = some (.slice a l.length cap) := blkc HX.out.1 0
  have y0 : wa.cell? ⟨w.heap.size + 1, 0, none⟩ = some (.string ⟨id.toArray⟩) := blkc HX.out.2 0
  have y1 : wa.cell? ⟨w.heap.size + 1, 1, none⟩ = some (.slice av V.length cv) := blkc HX.out.2 1
  go_wp2_with fail
  refine (HCd.out _ HBa.out).mono ?_
  rintro e w2 ⟨rfl, hb2⟩
  have HB2 := hidd (HBa.out.trans (hb2.mono HBa.out.size))
  have HX2 := hidd (And.intro (blko HX.out.1 hb2) (blko HX.out.2 hb2))
  clear hb2 s0 y0 y1 HCd HX HBa
  cases hok : (scOK l && dOK l id V) with
  | false =>
    rw [if_pos hok] at HO
    go_wp2_with fail
    go_ret2
    exact tmC_nil HO.out.symm HB2.out
  | true =>
  rw [if_neg (by rw [hok]; simp)] at HO
  have HSh2 := hidd (HSh.out hok)
  clear HSh hok
  have s0 : w2.cell? ⟨w.heap.size, 0, none⟩ = some (.slice a l.length cap) := blkc HX2.out.1 0
  by_cases hit : fldIx l n < l.length
  · rw [if_neg (fun h => h hit)] at HO
    obtain ⟨g, hg⟩ : ∃ g, l.getD (fldIx l n) fd0 = g := ⟨_, rfl⟩
    have HFld := hidd (fieldHit_any a cap l n w2 hn (HS.out.below HB2.out) hit g hg)
    have hgn : g.name = n := by rw [← hg]; exact fldIx_mem hit
    have hgz : FdSz g := by rw [← hg]; exact HA.out _
    rw [hg] at HO
    have HGz := hidd hgz
    have HGn := hidd hgn
    clear hg hgz hgn
    go_wp2_with fail
    refine HFld.out.mono ?_
    rintro e w8 ⟨aS, cS, aY, cY, rfl, hS8, hY8, hb8⟩
    have HS8 := hidd hS8
    have HY8 := hidd hY8
    have HB8 := hidd (HB2.out.trans (hb8.mono HB2.out.size))
    have HX8 := hidd (blko HX2.out.2 hb8)
    clear hS8 hY8 hb8 s0 HFld
    dsimp only
    go_upto_region 6 with fail
    have HB9a := hidd ((Below.refl w8.heap.size w8).alloc (Nat.le_refl _) (.cells #[.string (bs g.name), .int .i64 g.kind, .bool g.bf, .bool g.bsm, .bool g.bp, .slice aS g.stops.length cS, .slice aY g.syns.length cY, .int .i64 g.lo, .int .i64 g.hi] 79))
    have HX9 := hidd (heap_alloc_new w8 (.cells #[.string (bs g.name), .int .i64 g.kind, .bool g.bf, .bool g.bsm, .bool g.bp, .slice aS g.stops.length cS, .slice aY g.syns.length cY, .int .i64 g.lo, .int .i64 g.hi] 79))
    obtain ⟨w9, hw9⟩ : ∃ w9, w8.alloc (.cells #[.string (bs g.name), .int .i64 g.kind, .bool g.bf, .bool g.bsm, .bool g.bp, .slice aS g.stops.length cS, .slice aY g.syns.length cY, .int .i64 g.lo, .int .i64 g.hi] 79) = w9 := ⟨_, rfl⟩
    rw [hw9] at HB9a HX9
    try rw [hw9]
    clear hw9
    have HB9 := hidd (HB8.out.trans (HB9a.out.mono HB8.out.size))
    have HD9 := hidd (blko HX8.out HB9a.out)
    have x0 : w9.cell? ⟨w8.heap.size, 0, none⟩ = some (.string (bs g.name)) := blkc HX9.out 0
    have x1 : w9.cell? ⟨w8.heap.size, 1, none⟩ = some (.int .i64 g.kind) := blkc HX9.out 1
    have x2 : w9.cell? ⟨w8.heap.size, 2, none⟩ = some (.bool g.bf) := blkc HX9.out 2
    have x3 : w9.cell? ⟨w8.heap.size, 3, none⟩ = some (.bool g.bsm) := blkc HX9.out 3
    have x4 : w9.cell? ⟨w8.heap.size, 4, none⟩ = some (.bool g.bp) := blkc HX9.out 4
    have x5 : w9.cell? ⟨w8.heap.size, 5, none⟩ = some (.slice aS g.stops.length cS) := blkc HX9.out 5
    have x6 : w9.cell? ⟨w8.heap.size, 6, none⟩ = some (.slice aY g.syns.length cY) := blkc HX9.out 6
    have x7 : w9.cell? ⟨w8.heap.size, 7, none⟩ = some (.int .i64 g.lo) := blkc HX9.out 7
    have x8 : w9.cell? ⟨w8.heap.size, 8, none⟩ = some (.int .i64 g.hi) := blkc HX9.out 8
    by_cases h3 : g.kind = 3
    · rw [if_pos h3] at HO
      go_wp2_with fail
      go_ret2
      exact tmC_nil HO.out.symm HB9.out
    · rw [if_neg h3] at HO
      have y0 : w9.cell? ⟨w.heap.size + 1, 0, none⟩ = some (.string ⟨id.toArray⟩) := blkc HD9.out 0
      have y1 : w9.cell? ⟨w.heap.size + 1, 1, none⟩ = some (.slice av V.length cv) := blkc HD9.out 1
      have HCt : Hid (Calls Tryz.prog 41 #[.agg #[.string (bs g.name), .int .i64 g.kind, .bool g.bf, .bool g.bsm, .bool g.bp, .slice aS g.stops.length cS, .slice aY g.syns.length cY, .int .i64 g.lo, .int .i64 g.hi], .agg #[.string ⟨id.toArray⟩, .slice av V.length cv]] w9 (TmP (termsV g (valV V n).2.1) w9)) := by
        have h := terms_any g aS aY cS cY id av cv V w9 (HT.out.below HB9.out) HGz.out (HS8.out.below HB9a.out) (HY8.out.below HB9a.out) HV.out.1 (HH.out.below HB9.out) (by rw [HGn.out]; exact HSh2.out)
        rw [show valV V g.name = valV V n by rw [HGn.out]] at h
        exact h
      go_wp2_with fail
      refine HCt.out.mono ?_
      rintro e w3 ⟨v3, rfl, hown3, hb3⟩
      dsimp only
      go_wp2_with fail
      go_ret2
      rw [TmC, ← HO.out]
      have hz := HB9.out.size
      exact ⟨_, rfl, ownG_mono hown3 hz, HB9.out.trans (hb3.mono hz)⟩
  · rw [if_pos hit] at HO
    have HFld := hidd (fieldMiss_any a cap l n w2 hn (HS.out.below HB2.out) hit)
    go_wp2_with fail
    refine HFld.out.mono ?_
    rintro e w8 ⟨rfl, hb8⟩
    have HB8 := hidd (HB2.out.trans (hb8.mono HB2.out.size))
    clear hb8 s0 HFld
    dsimp only
    go_wp2_with fail
    go_ret2
    exact tmC_nil HO.out.symm (HB8.out.alloc HB8.out.size _)
end Go.Proofs.YtgoklapafidpkaaGreatDoor

namespace Go.Proofs.YtgoklapafidpkaaGreatDoor
open Go Go.RowKit
set_option linter.unusedVariables false
set_option linter.unusedSimpArgs false
set_option maxRecDepth 100000

theorem cell_grown {w w' : World} {row : Option Nat} {b o : Nat} {u : Value} (hg : w.grownBy w' row) (hb : b < w.heap.size) (hne : some b ≠ row) (h : w.cell? ⟨b, o, none⟩ = some u) : w'.cell? ⟨b, o, none⟩ = some u := by
  have := hg.block b hb hne
  simp only [World.cell?] at h ⊢
  rw [this]
  exact h
set_option maxHeartbeats 16000000 in
theorem specWordTerms_any (f : Fd) (aS aY : Option Addr) (cS cY : Nat) (id : List UInt8) (av : Option Addr) (cv : Nat) (V : List Vl) (w : World) (h2 : f.kind = 2) (hn : V.length ≤ 1048576) (hH : HoldV w av V) (hsh : ShortV V f.name) :
    Calls Tryz.prog 39 #[.agg #[.string (bs f.name), .int .i64 f.kind, .bool f.bf, .bool f.bsm, .bool f.bp, .slice aS f.stops.length cS, .slice aY f.syns.length cY, .int .i64 f.lo, .int .i64 f.hi], .agg #[.string ⟨id.toArray⟩, .slice av V.length cv]] w (TmP (termsV f (valV V f.name).2.1) w) := by
  obtain ⟨i0, hi0, hz0, hz1, hz2⟩ := info_parts Tryz.infoTok
  have HBa := hidd (((Below.refl w.heap.size w).alloc (Nat.le_refl _) (.cells #[.string (bs f.name), .int .i64 f.kind, .bool f.bf, .bool f.bsm, .bool f.bp, .slice aS f.stops.length cS, .slice aY f.syns.length cY, .int .i64 f.lo, .int .i64 f.hi] 79)).alloc (by simp) (.cells #[.string ⟨id.toArray⟩, .slice av V.length cv] 37))
  have HX := hidd (box_two w (.cells #[.string (bs f.name), .int .i64 f.kind, .bool f.bf, .bool f.bsm, .bool f.bp, .slice aS f.stops.length cS, .slice aY f.syns.length cY, .int .i64 f.lo, .int .i64 f.hi] 79) (.cells #[.string ⟨id.toArray⟩, .slice av V.length cv] 37))
  obtain ⟨s, hs⟩ : ∃ s, valV V f.name = s := ⟨_, rfl⟩
  have HCv : Hid (∀ W, Below w.heap.size w W → Calls Tryz.prog 78 #[.agg #[.string ⟨id.toArray⟩, .slice av V.length cv], .string (bs f.name)] W fun e w' => ∃ at_ ct an cn, e = .returned (.agg #[.string ⟨s.1.toArray⟩, .slice at_ s.2.1.length ct, .slice an s.2.2.length cn]) ∧ HoldTx W at_ s.2.1 ∧ Below W.heap.size W w') := fun W hW => (specValue_any id av cv V f.name W hn (hH.below hW)).mono fun e w' h => by rw [ValP, hs] at h; exact h
  unfold ShortV at hsh
  rw [hs] at hsh ⊢
  rw [show termsV f s.2.1 = wordTo s.2.1 s.2.1.length by rw [termsV, if_pos h2]]
  have HK2 := hidd h2
  clear hH hs h2
  obtain ⟨fn, tx, nz⟩ := s
  dsimp only at HCv hsh ⊢
  obtain ⟨hn16, hsz⟩ := hsh
  have HZs := hidd hsz
  clear hsz
  go_enter Tryz.func39, Tryz.ntmps39
  go_upto_region 1 with fail
  obtain ⟨wa, hwa⟩ : ∃ wa, (w.alloc (.cells #[.string (bs f.name), .int .i64 f.kind, .bool f.bf, .bool f.bsm, .bool f.bp, .slice aS f.stops.length cS, .slice aY f.syns.length cY, .int .i64 f.lo, .int .i64 f.hi] 79)).alloc (.cells #[.string ⟨id.toArray⟩, .slice av V.length cv] 37) = wa := ⟨_, rfl⟩
  rw [hwa] at HBa HX
  try rw [hwa]
  clear hwa
  have y0 : wa.cell? ⟨w.heap.size + 1, 0, none⟩ = some (.string ⟨id.toArray⟩) := blkc HX.out.2 0
  have y1 : wa.cell? ⟨w.heap.size + 1, 1, none⟩ = some (.slice av V.length cv) := blkc HX.out.2 1
  have x0 : wa.cell? ⟨w.heap.size, 0, none⟩ = some (.string (bs f.name)) := blkc HX.out.1 0
  go_wp2_with fail
  refine (HCv.out _ HBa.out).mono ?_
  rintro e w2 ⟨at_, ct, an, cn, rfl, hTx, hb2⟩
  have HTx2 := hidd (hTx.below hb2)
  have HB2 := hidd (HBa.out.trans (hb2.mono HBa.out.size))
  have HX2 := hidd (blko HX.out.1 hb2)
  clear hTx hb2 x0 y0 y1 HCv
  dsimp only
  go_upto_region 2 with fail
  have HB3a := hidd ((Below.refl w2.heap.size w2).alloc (Nat.le_refl _) (.cells #[.string ⟨fn.toArray⟩, .slice at_ tx.length ct, .slice an nz.length cn] 60))
  have HV3 := hidd (heap_alloc_new w2 (.cells #[.string ⟨fn.toArray⟩, .slice at_ tx.length ct, .slice an nz.length cn] 60))
  obtain ⟨w3, hw3⟩ : ∃ w3, w2.alloc (.cells #[.string ⟨fn.toArray⟩, .slice at_ tx.length ct, .slice an nz.length cn] 60) = w3 := ⟨_, rfl⟩
  rw [hw3] at HB3a HV3
  try rw [hw3]
  clear hw3
  have HB3 := hidd (HB2.out.trans (HB3a.out.mono HB2.out.size))
  have HX3 := hidd (blko HX2.out HB3a.out)
  have HT3 := hidd (HTx2.out.below HB3a.out)
  have hVBb : w2.heap.size < w3.heap.size := (Array.getElem?_eq_some_iff.1 HV3.out).1
  clear HB3a HX2 HTx2 HB2
  obtain ⟨VB, hVBe⟩ : ∃ VB, w2.heap.size = VB := ⟨_, rfl⟩
  rw [hVBe] at HV3 hVBb
  try rw [hVBe]
  clear hVBe
  go_wp2_with fail
  go_loopw [6, 8] (fun v iv wr => ∃ k : Nat, k ≤ tx.length ∧ iv = .int .i64 (k : Int) ∧ wr.ownsRow w3.heap.size 63 4 v (wordTo tx k).length (toksCells (wordTo tx k)) ∧ Below w3.heap.size w3 wr) (fun _ iv _ => tx.length - (intOf iv).toNat)
  case atStart => exact ⟨0, Nat.zero_le _, rfl, own4_empty w3 _, (Below.refl _ _).alloc (Nat.le_refl _) _⟩
  case round =>
    obtain ⟨k, hk, rfl, hown, hbel⟩ := hrel
    have HO := hidd hown
    have HBl := hidd hbel
    have HB := hidd (HB3.out.trans (hbel.mono HB3.out.size))
    have HXr := hidd (blko HX3.out hbel)
    have HVr := hidd (blko HV3.out hbel)
    have hbz := hbel.size
    clear hown hbel
    have hVB : VB < wr.heap.size := by omega
    have v1' : wr.cell? ⟨VB, 1, none⟩ = some (.slice at_ tx.length ct) := blkc HVr.out 1
    by_cases hlt : k < tx.length
    · have hkz : (k : Int) < (tx.length : Int) := by omega
      obtain ⟨b, off, rfl, hbb, hc⟩ := HT3.out.resolve_left (fun h => by rw [h] at hlt; simp at hlt)
      have hbl : b < wr.heap.size := by omega
      have q0 : wr.cell? ⟨b, off + k, none⟩ = some (.string (bs (tx.getD k []))) := (HBl.out.cell (p := ⟨b, off + k, none⟩) hbb).trans (hc k hlt)
      have v1 := v1'
      clear v1'
      have hszk := HZs.out k hlt
      have HE := hidd (wordTo_succ tx k)
      have hlA : (wordTo tx k).length = k := wordTo_len tx k
      clear hc
      generalize tx.getD k [] = t at *
      have hfl : (bs t).size = t.length := bs_size t
      generalize wordTo tx k = A at *
      have x1 : wr.cell? ⟨w.heap.size, 1, none⟩ = some (.int .i64 2) := by rw [← HK2.out]; exact blkc HXr.out 1
      go_upto_region 8 with fail
      go_cut [6] (fun v wy => wy.ownsRow w3.heap.size 63 4 v (wordTo tx (k + 1)).length (toksCells (wordTo tx (k + 1))) ∧ Below w3.heap.size w3 wy)
      case first =>
        refine wp_region_held_drew (S := (fun w' => w'.cell? ⟨VB, 1, none⟩ = some (.slice (some ⟨b, off, none⟩) tx.length ct) ∧ w'.cell? ⟨b, off + k, none⟩ = some (.string (bs t)))) (by kernel_rfl) ?_ (fun hHeld => ?_)
        · exact ⟨v1, q0⟩
        refine tkX 0 (h := ?_)
        refine tkX 1 (h := ?_)
        refine tkX 2 (h := ?_)
        refine tkX 3 (h := ?_)
        refine tkX 4 (h := ?_)
        (simp only [Act.put, List.getElem_toArray, List.getElem_cons_succ, List.getElem_cons_zero, List.setIfInBounds_toArray, List.set_cons_zero, List.set_cons_succ])
        refine tkX 5 (h := ?_)
        refine tkX 6 (h := ?_)
        refine tkX 7 (h := ?_)
        refine tkX 8 (h := ?_)
        refine tkX 9 (h := ?_)
        (simp only [Act.put, List.getElem_toArray, List.getElem_cons_succ, List.getElem_cons_zero, List.setIfInBounds_toArray, List.set_cons_zero, List.set_cons_succ])
        refine tkX 10 (h := ?_)
        refine tkX 11 (h := ?_)
        refine tkX 12 (h := ?_)
        refine tkX 13 (h := ?_)
        (simp only [Act.put, List.getElem_toArray, List.getElem_cons_succ, List.getElem_cons_zero, List.setIfInBounds_toArray, List.set_cons_zero, List.set_cons_succ])
        refine wpAnyH_one 14 (by kernel_rfl) ?_
        refine wpOp_val (.slice (some ⟨wr.drew.heap.size, 0, none⟩) 1 1) (wr.drew.alloc (.cells #[.string (bs t), .int .i64 k, .int .i64 0, .int .i64 t.length] 63)) rfl (by kernel_rfl) (exec_build _ _ _ _ rfl _ _ _ _ (by kernel_rfl)) ?_
        have hB11 : Below wr.heap.size wr (wr.drew.alloc (.cells #[.string (bs t), .int .i64 k, .int .i64 0, .int .i64 t.length] 63)) := (below_drewN (Below.refl _ wr) 1).alloc (Nat.le_refl _) _
        refine ⟨⟨(hB11.cell (p := ⟨VB, 1, none⟩) hVB).trans v1, (hB11.cell (p := ⟨b, off + k, none⟩) hbl).trans q0⟩, ?_⟩
        try simp only [Act.put, List.getElem_toArray, List.getElem_cons_succ, List.getElem_cons_zero, List.setIfInBounds_toArray, List.set_cons_zero, List.set_cons_succ]
        refine wpAnyH_one 15 (by kernel_rfl) ?_
        have HAo11 := own4_below HO.out hB11
        refine wpOp_wp rfl (by kernel_rfl) (wp_append_lies _ (.tmp 29) (.tmp 43) 42 rfl w3.heap.size 63 i0 (.agg #[.string ⟨#[]⟩, .int .i64 0, .int .i64 0, .int .i64 0]) 4 40 Tryz.underlying42 hi0 hz0 hz1 hz2 rfl (by decide) u6 _ _ (by kernel_rfl) HAo11 ⟨wr.drew.heap.size, 0, none⟩ 1 1 [.string (bs t), .int .i64 k, .int .i64 0, .int .i64 t.length] (by kernel_rfl) rfl (World.news_of_block (heap_alloc_new wr.drew _)) (by intro v hv; simp at hv; rcases hv with rfl | rfl | rfl | rfl <;> rfl) (by omega) (by unfold maxLen; omega) (by omega) (by have := hB11.size; omega) _ rfl ?_)
        intro g6 cp6 w12 hown12 hgrow12 hat12 hlt12
        have hv12 : w12.cell? ⟨VB, 1, none⟩ = some (.slice (some ⟨b, off, none⟩) tx.length ct) := cell_grown hgrow12 (by have := hB11.size; omega) (own4_low HAo11 hVBb) ((hB11.cell (p := ⟨VB, 1, none⟩) hVB).trans v1)
        have hq12 : w12.cell? ⟨b, off + k, none⟩ = some (.string (bs t)) := cell_grown hgrow12 (by have := hB11.size; omega) (own4_low HAo11 hbb) ((hB11.cell (p := ⟨b, off + k, none⟩) hbl).trans q0)
        refine ⟨⟨hv12, hq12⟩, ?_⟩
        try simp only [Act.put, List.getElem_toArray, List.getElem_cons_succ, List.getElem_cons_zero, List.setIfInBounds_toArray, List.set_cons_zero, List.set_cons_succ]
        refine wpAnyH_one 16 (by kernel_rfl) ?_
        refine wpOp_val (.slice (some ⟨g6, 0, none⟩) (A.length + 1) cp6) w12 rfl (by kernel_rfl) (exec_assign _ _ _ _ rfl _ (by kernel_rfl)) ?_
        refine ⟨⟨hv12, hq12⟩, ?_⟩
        try simp only [Act.put, List.getElem_toArray, List.getElem_cons_succ, List.getElem_cons_zero, List.setIfInBounds_toArray, List.set_cons_zero, List.set_cons_succ]
        refine wpAnyH_done (by kernel_rfl) ?_ _
        have RR : Hid (w12.ownsRow w3.heap.size 63 4 (.slice (some ⟨g6, 0, none⟩) (A.length + 1) cp6) (wordTo tx (k + 1)).length (toksCells (wordTo tx (k + 1))) ∧ Below w3.heap.size w3 w12) := by
          rw [HE.out]
          refine ⟨?_, ?_⟩
          · rw [toksCells_snoc, List.length_append]
            exact hown12
          · have h1 := HBl.out.trans (hB11.mono HBl.out.size)
            exact h1.grown hgrow12 h1.size (own4_block HAo11)
        clear hv12 hq12 hown12 hgrow12 hat12 hlt12 hB11 HAo11 hHeld
        generalize A.length + 1 = nn at *
        go_wp2_with fail
        go_meet
        exact RR.out
      case rest =>
        have RR := hidd hcut
        clear hcut v1 q0 x1
        go_wp2_with fail
        go_roundw
        case rel => exact ⟨k + 1, by omega, by go_num, RR.out⟩
        case measure => simp [intOf]; omega
    · have hkz : ¬ (k : Int) < (tx.length : Int) := by omega
      have e : k = tx.length := by omega
      subst e
      go_wp2_with fail
      go_ret
      exact ⟨_, rfl, ownG_mono HO.out HB3.out.size, HB.out⟩
end Go.Proofs.YtgoklapafidpkaaGreatDoor
