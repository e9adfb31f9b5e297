import Derived.Test.YtmnfioghhdgciaaDoorWildJ22
import Derived.Test.YtmnfioghhdgciaaDoorWildJ39
import Derived.Test.YtmnfioghhdgciaaDoorWildJ40
import Derived.Test.YtmnfioghhdgciaaDoorWildJ13
namespace Go.Proofs.YtmnfioghhdgciaaDoor
open Go Go.RowKit
set_option linter.unusedVariables false
set_option linter.unusedSimpArgs false
set_option maxRecDepth 100000

/-! spec.Wildcard, where it refuses, and whole. -/
set_option maxHeartbeats 4000000 in
theorem wild_many (s : ByteArray) (w : World) (hs : s.size ≤ 1048576) (hD : decCode s = 0) (hl : (decList s).length ≤ 30) (hany : 8 < (partsL (decList s)).count (-1)) :
    Calls Tryd.prog 4 #[.string s] w fun e w' => e = .returned (.tuple #[.agg #[.slice none 0 0], .int .i64 12]) ∧ Below w.heap.size w w' := by
  obtain ⟨i0, hi, hz0, hz1, hz2⟩ := info_parts Tryd.infoIntL
  have HDc := hidd hD
  clear hD
  go_enter Tryd.func4, Tryd.ntmps4
  go_wp2_with fail
  refine (specDecode_any s _ hs).mono ?_
  rintro e w2 ⟨vw, rfl, hown, hb2⟩
  rw [HDc.out]
  clear HDc
  generalize decList s = word at *
  have hbw : Below w.heap.size w w2 := ((Below.refl _ _).alloc (Nat.le_refl _) _).trans (hb2.mono (by simp))
  have hres : w2.heap[w.heap.size]? = some (.cells #[.slice none 0 0] 24) := blko (heap_alloc_new _ _) hb2
  have HPr := hidd (l05Parts_any word vw w2 (by omega) (HoldI.own hown))
  obtain ⟨aw, cw, hvw⟩ : ∃ a c, vw = .slice a word.length c := by
    rcases own_cases hown with ⟨h, h0⟩ | ⟨g, c, h, _, _⟩
    · exact ⟨none, 0, by rw [h, h0]⟩
    · exact ⟨_, c, h⟩
  subst hvw
  have hz30 : ¬ (30 : Int) < (word.length : Int) := by omega
  have HBw := hidd hbw
  have HRes := hidd hres
  clear hown hb2 hbw hres
  go_wp2_with fail
  refine HPr.out.mono ?_
  rintro e w3 ⟨vp, rfl, hownp, hb3⟩
  have hpl := partsL_len word
  generalize partsL word = P at *
  have hPl : P.length ≤ 30 := by omega
  have hB3 := HBw.out.trans (hb3.mono HBw.out.size)
  have HR3 := hidd (blko HRes.out hb3)
  have HOp : Hid (w3.ownsRow w.heap.size 3 1 vp P.length (zI P)) := own_mono hownp HBw.out.size
  have HHp := hidd (HoldI.own hownp)
  have HB3 := hidd hB3
  obtain ⟨ap, cp, hvp⟩ : ∃ a c, vp = .slice a P.length c := by
    rcases own_cases hownp with ⟨h, h0⟩ | ⟨g, c, h, _, _⟩
    · exact ⟨none, 0, by rw [h, h0]⟩
    · exact ⟨_, c, h⟩
  subst hvp
  have HPc : Hid (∀ k, k < P.length → ∃ g off, ap = some ⟨g, off, none⟩ ∧ g < w3.heap.size ∧ w3.cell? ⟨g, off + k, none⟩ = some (.int .i64 (P.getD k 0))) := fun k hk => HHp.out.cells hk
  clear hownp hb3 hB3 HPr HBw HRes
  go_wp2_with fail
  go_loop [7, 8] (fun cv iv => ∃ k : Nat, k ≤ P.length ∧ iv = .int .i64 (k : Int) ∧ cv = .int .i64 (((P.take k).count (-1) : Nat) : Int)) (fun _ iv => P.length - (intOf iv).toNat)
  case atStart => exact ⟨0, Nat.zero_le _, rfl, by simp⟩
  case round =>
    obtain ⟨k, hk, rfl, rfl⟩ := hrel
    have hcnt : (P.take k).count (-1) ≤ 30 := Nat.le_trans List.count_le_length (by rw [List.length_take]; omega)
    by_cases hlt : k < P.length
    · have hkz : (k : Int) < (P.length : Int) := by omega
      obtain ⟨g, off, rfl, hg, c1⟩ := HPc.out k hlt
      have HN := hidd (count_take hlt)
      generalize (P.take k).count (-1) = n at *
      generalize P.getD k 0 = z at *
      by_cases hz : z = -1
      · have hzb : (z == -1) = true := by simp [hz]
        have HE : Hid ((P.take (k + 1)).count (-1) = n + 1) := by show _ = _; rw [HN.out, if_pos hz]
        clear hz HN
        go_wp2
        exact ⟨⟨k + 1, by omega, by go_num, by rw [HE.out]; go_num⟩, by simp [intOf]; omega⟩
      · have hzb : (z == -1) = false := by simp [hz]
        have HE : Hid ((P.take (k + 1)).count (-1) = n) := by show _ = _; rw [HN.out, if_neg hz]; rfl
        clear hz HN
        go_wp2
        exact ⟨⟨k + 1, by omega, by go_num, by rw [HE.out]⟩, by simp [intOf]; omega⟩
    · have hkz : ¬ (k : Int) < (P.length : Int) := by omega
      obtain rfl : k = P.length := by omega
      rw [List.take_length]
      have hanz : (8 : Int) < ((P.count (-1) : Nat) : Int) := by omega
      generalize P.count (-1) = cnt at *
      obtain ⟨e1, e2, e3, e4⟩ := wd_fin HR3.out HB3.out
      have He3 := hidd e3
      have He4 := hidd e4
      clear e3 e4
      go_wp2_with fail
      refine bodyPost_ret (v := .tuple #[.agg #[.slice none 0 0], .int .i64 12]) (by have q := He3.out; simp [results, Tryd.results4, go_sem, q]) rfl ?_
      exact ⟨rfl, He4.out⟩
set_option maxHeartbeats 4000000 in
theorem wild_bad (s : ByteArray) (w : World) (hs : s.size ≤ 1048576) (hbad : ¬ (decCode s = 0 ∧ (decList s).length ≤ 30)) :
    Calls Tryd.prog 4 #[.string s] w fun e w' => e = .returned (.tuple #[.agg #[.slice none 0 0], .int .i64 (wcCode s)]) ∧ Below w.heap.size w w' := by
  go_enter Tryd.func4, Tryd.ntmps4
  go_wp2_with fail
  refine (specDecode_any s _ hs).mono ?_
  rintro e w2 ⟨vw, rfl, hown, hb2⟩
  obtain ⟨hr2, hB2⟩ := wd_end hb2
  obtain ⟨aw, cw, hvw⟩ : ∃ a c, vw = .slice a (decList s).length c := by
    rcases own_cases hown with ⟨h, h0⟩ | ⟨g, c, h, _, _⟩
    · exact ⟨none, 0, by rw [h, h0]⟩
    · exact ⟨_, c, h⟩
  subst hvw
  obtain ⟨e1, e2, e3, e4⟩ := wd_fin hr2 hB2
  have He3 := hidd e3
  have He4 := hidd e4
  clear e3 e4 hown hb2 hr2 hB2
  by_cases hc : decCode s = 0
  · have hl : 30 < (decList s).length := Nat.lt_of_not_le fun h => hbad ⟨hc, h⟩
    have HE : Hid (wcCode s = 12) := by show _ = _; rw [wcCode, if_pos hc, if_neg (fun h => by omega)]
    rw [hc]
    clear hbad hc
    generalize (decList s).length = n at *
    have hz : (30 : Int) < (n : Int) := by omega
    go_wp2_with fail
    refine bodyPost_ret (v := .tuple #[.agg #[.slice none 0 0], .int .i64 12]) (by have q := He3.out; simp [results, Tryd.results4, go_sem, q]) rfl ?_
    exact ⟨by rw [HE.out], He4.out⟩
  · have HE : Hid (wcCode s = decCode s) := by show _ = _; rw [wcCode, if_neg hc]
    obtain ⟨cd, hcd⟩ : ∃ cd, decCode s = cd := ⟨_, rfl⟩
    rw [hcd] at hc HE ⊢
    have hcb : (cd != 0) = true := by simpa using hc
    clear hbad hcd hc
    go_wp2_with fail
    refine bodyPost_ret (v := .tuple #[.agg #[.slice none 0 0], .int .i64 cd]) (by have q := He3.out; simp [results, Tryd.results4, go_sem, q]) rfl ?_
    exact ⟨by rw [HE.out], He4.out⟩
def WsAll (s : ByteArray) (w : World) (e : Ending) (w' : World) : Prop :=
  (wcCode s ≠ 0 ∧ e = .returned (.tuple #[.agg #[.slice none 0 0], .int .i64 (wcCode s)]) ∧ Below w.heap.size w w') ∨ (wcCode s = 0 ∧ WsPost (partsL (decList s)) w e w')
theorem least_all : LeastC := fun vl vf vn ls fins nxt w h1 h2 => least_any vl vf vn ls fins nxt w h1 h2
theorem specWild_any (s : ByteArray) (w : World) (hs : s.size ≤ 1048576) : Calls Tryd.prog 4 #[.string s] w (WsAll s w) := by
  by_cases h : decCode s = 0 ∧ (decList s).length ≤ 30
  · obtain ⟨h1, h2⟩ := h
    by_cases h3 : (partsL (decList s)).count (-1) ≤ 8
    · exact (wild_good least_all s w hs h1 h2 h3).mono fun e w' h => Or.inr ⟨by rw [wcCode, if_pos h1, if_pos ⟨h2, h3⟩], h⟩
    · have e : wcCode s = 12 := by rw [wcCode, if_pos h1, if_neg (fun h => h3 h.2)]
      refine (wild_many s w hs h1 h2 (by omega)).mono fun e' w' h => Or.inl ⟨by rw [e]; omega, by rw [e]; exact h.1, h.2⟩
  · refine (wild_bad s w hs h).mono fun e' w' h' => Or.inl ⟨?_, h'.1, h'.2⟩
    intro h0
    unfold wcCode at h0
    split at h0
    · rename_i hc
      split at h0
      · rename_i hd; exact h ⟨hc, hd.1⟩
      · omega
    · rename_i hc; exact hc h0
/-! Both tell the same. -/
def Tells (D : List PSt) (code : Int) (w : World) (e : Ending) (w' : World) : Prop := ∃ v l, e = .returned (.tuple #[.agg #[v], .int .i64 code]) ∧ l.map Prod.snd = D ∧ DfaM w' w.heap.size v l ∧ Below w.heap.size w w'
def Small (D : List PSt) : Prop := D.length ≤ 256 ∧ ∀ s ∈ D, s.2.1.length ≤ 30
theorem least_arcs {X : Type} [DecidableEq X] {T : Sys X} {m : Nat} {ls : List Int} {r : X} {D : List PSt} (h : T.Least m ls r D) : ∀ s ∈ D, s.2.1.length ≤ m := by
  obtain ⟨o, _, rfl⟩ := h
  intro s hs
  obtain ⟨x, _, rfl⟩ := List.mem_map.1 hs
  show ((T.told m x).map _).length ≤ m
  rw [List.length_map]
  exact Nat.le_trans (List.length_filter_le _ _) (by simp)
theorem tells_join {s : ByteArray} {w : World} {e : Ending} {w' : World} (h : WsAll s w e w') : ∃ D code, Small D ∧ Tells D code w e w' ∧ ∀ w2 e2 w2', WiAll s w2 e2 w2' → Tells D code w2 e2 w2' := by
  rcases h with ⟨h1, rfl, hb⟩ | ⟨h0, ls, L, hr, hm, hlsP, hL, hb, hcase⟩
  · refine ⟨[], wcCode s, ⟨by simp, by simp⟩, ⟨_, [], rfl, rfl, DfaM.nil _ _, hb⟩, fun w2 e2 w2' h2 => ?_⟩
    rcases h2 with ⟨_, rfl, hb2⟩ | ⟨h0, _⟩
    · exact ⟨_, [], rfl, rfl, DfaM.nil _ _, hb2⟩
    · exact absurd h0 h1
  · have hc : decCode s = 0 ∧ (decList s).length ≤ 30 := by
      unfold wcCode at h0
      split at h0
      · rename_i hc
        split at h0
        · rename_i hd; exact ⟨hc, hd.1⟩
        · omega
      · rename_i hc; exact absurd h0 hc
    have hok : ∀ x ∈ partsL (decList s), okP x := by rw [(dec_runes hc.1).1]; exact parts_ok s
    have hll : ls.length ≤ 30 := Nat.le_trans hlsP (Nat.le_trans (partsL_len _) hc.2)
    have hlang : ∀ (ls2 : List Int) (C : Nat → Nat), RiseZ ls2 → (∀ y, y ∈ ls2 ↔ y ∈ stW ((partsL (decList s)).map pieceI) ∧ 0 ≤ y) → CovOK (stW ((partsL (decList s)).map pieceI)) (lpN ((partsL (decList s)).map pieceI)).testBit C → ls2 = ls ∧ (wsK (partsL (decList s)) (letS ls)).lang (ls.length + 1) (cloN (partsL (decList s)) 1 (partsL (decList s)).length) = (wiK (stW ((partsL (decList s)).map pieceI)) (lpN ((partsL (decList s)).map pieceI)) C (letN ls)).lang (ls.length + 1) (prn (stW ((partsL (decList s)).map pieceI)) (lpN ((partsL (decList s)).map pieceI)) C 1) := by
      intro ls2 C h1 h2 h3
      refine ⟨rise_uniq _ _ h1 hr (fun x => ?_), both_lang h3 hok (fun x hx a h0' => ?_) _⟩
      · rw [h2, stW_pos hok, hm]
        unfold ltW
        rw [List.mem_filter, decide_eq_true_eq]
      · unfold letS letN
        by_cases ha : a < ls.length
        · rw [if_pos ha, if_pos ha]
        · rw [if_neg ha, if_neg ha]
          constructor <;> (intro h; omega)
    rcases hcase with ⟨hbig, rfl⟩ | ⟨hs, v, l, hl2, rfl, hM⟩
    · refine ⟨[], 11, ⟨by simp, by simp⟩, ⟨_, [], rfl, rfl, DfaM.nil _ _, hb⟩, fun w2 e2 w2' h2 => ?_⟩
      rcases h2 with ⟨h1, _⟩ | ⟨_, ls2, C, k1, k2, k3, k4, hb2, hcc⟩
      · exact absurd h0 h1
      · obtain ⟨rfl, hlg⟩ := hlang ls2 C k1 k2 k4
        rw [hlg] at hL
        rcases hcc with ⟨rfl, _⟩ | ⟨v2, l2, q1, q2, rfl, q3⟩
        · exact ⟨_, [], rfl, rfl, DfaM.nil _ _, hb2⟩
        · have e9 := congrArg List.length (Sys.Least.uniq hL q1)
          rw [List.length_map] at e9
          omega
    · refine ⟨L, 0, ⟨hs, fun x hx => Nat.le_trans (least_arcs hL x hx) hll⟩, ⟨v, l, rfl, hl2, hM, hb⟩, fun w2 e2 w2' h2 => ?_⟩
      rcases h2 with ⟨h1, _⟩ | ⟨_, ls2, C, k1, k2, k3, k4, hb2, hcc⟩
      · exact absurd h0 h1
      · obtain ⟨rfl, hlg⟩ := hlang ls2 C k1 k2 k4
        rw [hlg] at hL
        rcases hcc with ⟨rfl, q0⟩ | ⟨v2, l2, q1, q2, rfl, q3⟩
        · have := q0 L hL
          omega
        · exact ⟨v2, l2, rfl, Sys.Least.uniq q1 hL, q3, hb2⟩
end Go.Proofs.YtmnfioghhdgciaaDoor

namespace Go.Proofs.YtmnfioghhdgciaaDoor
open Go Go.RowKit
set_option linter.unusedVariables false
set_option linter.unusedSimpArgs false
set_option maxRecDepth 100000

/-! laws.FnExactWildcard. -/
theorem small_of {D : List PSt} {l : List MSt} (h : Small D) (e : l.map Prod.snd = D) : l.length ≤ 256 ∧ (∀ s ∈ l, s.2.2.1.length ≤ 30) ∧ l.length = D.length := by
  subst e
  obtain ⟨h1, h2⟩ := h
  rw [List.length_map] at h1
  exact ⟨h1, fun s hs => h2 s.2 (List.mem_map_of_mem hs), by rw [List.length_map]⟩
theorem small_at {D : List PSt} (h : Small D) (i : Nat) : (D.getD i ps0).2.1.length ≤ 1048576 := by
  rw [List.getD_eq_getElem?_getD]
  cases hx : D[i]? with
  | none => simp [ps0]
  | some s => have := h.2 s (List.mem_of_getElem? hx); simp; omega
theorem box_dfa (w : World) (v : Value) : Below w.heap.size w (w.alloc (.cells #[v] 24)) ∧ (w.alloc (.cells #[v] 24)).heap[w.heap.size]? = some (.cells #[v] 24) := ⟨(Below.refl _ _).alloc (Nat.le_refl _) _, heap_alloc_new _ _⟩
def TabW (w : World) : Prop := Tabs w ∧ TabAt (Tryd.laysTz_ren.g 1) Lib.deBruijn64tab w
theorem TabW.below {w w' : World} (h : TabW w) (hb : Below w.heap.size w w') : TabW w' := ⟨h.1.below hb, tab_below h.2 hb⟩
set_option maxHeartbeats 8000000 in
theorem wcLaw_any (s : ByteArray) (w : World) (hT : TabW w) :
    Calls Tryd.prog 3 #[.string s] w fun e w' => e = .returned (.bool true) ∧ Below w.heap.size w w' := by
  by_cases hs : s.size ≤ 1048576
  · have hsz : ¬ (1048576 : Int) < (s.size : Int) := by omega
    have HT := hidd hT
    clear hT
    go_enter Tryd.func3, Tryd.ntmps3
    go_wp2_with fail
    refine (specWild_any s w hs).mono ?_
    rintro e w1 hsp
    obtain ⟨D, code, hsm, ⟨v0, l0, rfl, hD0, hM0, hb1⟩, hall⟩ := tells_join hsp
    obtain ⟨a0, c0, rfl, hH0⟩ := hM0.hds
    rw [hD0] at hH0
    rw [hD0]
    have HSm := hidd hsm
    have HAll := hidd hall
    have HH0 := hidd hH0
    have HB1 := hidd hb1
    obtain ⟨hbx, hnx⟩ := box_dfa w1 (.slice a0 D.length c0)
    have HB2 := hidd (hb1.trans (hbx.mono hb1.size))
    have HX2 := hidd hnx
    have HH2 := hidd (hH0.below hbx)
    have hs12 := hbx.size
    have hs1 : w1.heap.size < (w1.alloc (.cells #[.slice a0 D.length c0] 24)).heap.size := by simp
    clear hsp hD0 hM0 hb1 hall hsm hH0 hbx hnx HB1 HH0
    go_upto_region 4 with fail
    generalize w1.alloc (.cells #[.slice a0 D.length c0] 24) = W2 at *
    generalize w1.heap.size = b0 at *
    have HH5c : Hid (∀ Wx, Below W2.heap.size W2 Wx → HDS Wx a0 D) := fun Wx hx => HH2.out.below hx
    have HI := hidd (implWild_any s W2 hs (HT.out.below HB2.out).1 (HT.out.below HB2.out).2)
    go_wp2_with fail
    refine HI.out.mono ?_
    rintro e w3 hi
    obtain ⟨v1, l1, rfl, hD1, hM1, hb3⟩ := HAll.out _ _ _ hi
    obtain ⟨hl1, ha1, hlen1⟩ := small_of HSm.out hD1
    have HM1 := hidd hM1
    obtain ⟨a1, c1, rfl, hH1⟩ := hM1.hds
    rw [hD1] at hH1
    rw [hD1]
    have HD1 := hidd hD1
    obtain ⟨hbx, hnx⟩ := box_dfa w3 (.slice a1 D.length c1)
    have HX4 := hidd hnx
    have HXb := hidd (blko (blko HX2.out hb3) hbx)
    have HH4 := hidd (hH1.below hbx)
    have HH4b := hidd ((HH2.out.below hb3).below hbx)
    have HB4 := hidd ((HB2.out.trans (hb3.mono HB2.out.size)).trans (hbx.mono (Nat.le_trans HB2.out.size hb3.size)))
    have HM4 := hidd (HM1.out.below hbx)
    rw [HD1.out] at HM4
    have HW24 := hidd (hb3.trans (hbx.mono hb3.size))
    clear hi hD1 hM1 hb3 hH1 hbx hnx HI HX2 HH2 HM1
    go_upto_region 5 with fail
    generalize w3.alloc (.cells #[.slice a1 D.length c1] 24) = W4 at *
    generalize w3.heap.size = b1 at *
    have x0 : W4.cell? ⟨b0, 0, none⟩ = some (.slice a0 D.length c0) := blkc HXb.out 0
    have x1 : W4.cell? ⟨b1, 0, none⟩ = some (.slice a1 D.length c1) := blkc HX4.out 0
    have hDl : D.length ≤ 1048576 := by have := HSm.out.1; omega
    have HE := hidd (eqDfa_same a1 a0 c1 c0 D W4 hDl (small_at HSm.out) HH4.out HH4b.out)
    have hcc : (code != code) = false := by simp
    go_wp2_with fail
    refine HE.out.mono ?_
    rintro e w5 ⟨rfl, hb5⟩
    obtain ⟨N, hN⟩ : ∃ N, N = mkK 1 l1 := ⟨_, rfl⟩
    have hW24 := HW24.out
    have HMk := hidd (markDfa_any W2.heap.size N (.slice a1 D.length c1) l1 w5 hN hl1 ha1 (Nat.le_trans hW24.size hb5.size) (HM4.out.below hb5))
    have x1' : w5.cell? ⟨b1, 0, none⟩ = some (.slice a1 D.length c1) := blkc (blko HX4.out hb5) 0
    have HX5 := hidd (blko HX4.out hb5)
    have HX5b := hidd (blko HXb.out hb5)
    have HB5 := hidd (HB4.out.trans (hb5.mono HB4.out.size))
    have HW25 := hidd (hW24.trans (hb5.mono hW24.size))
    have HH5b := hidd (HH4b.out.below hb5)
    have HNN := hidd hN
    clear hb5 hN hW24 x0 x1 HE HM4 HX4 HXb HB4 HW24 HH4 HH4b
    go_wp2_with fail
    refine HMk.out.mono ?_
    rintro e w6 ⟨rfl, hM6, hb6, ho6⟩
    have HX6 := hidd (ho6 _ _ _ (by decide) (by decide) HX5.out)
    have HX6b := hidd (ho6 _ _ _ (by decide) (by decide) HX5b.out)
    have HB6 := hidd (HB5.out.trans (hb6.mono HB2.out.size))
    have HW26 := hidd (HW25.out.trans hb6)
    have HH6 : Hid (HDS w6 a1 ((mkS 1 l1).map Prod.snd)) := by
      obtain ⟨a', c', e', h'⟩ := hM6.hds
      simp only [Value.slice.injEq] at e'
      obtain ⟨rfl, -, -⟩ := e'
      exact h'
    have x1' : w6.cell? ⟨b1, 0, none⟩ = some (.slice a1 D.length c1) := blkc HX6.out 0
    have hHl := heldDfa_any a1 c1 N l1 w6 HNN.out hl1 ha1 HH6.out
    rw [hlen1] at hHl
    have HHl := hidd hHl
    have hNp : ¬ (N : Int) < 0 := by omega
    have dN : decide ((N : Int) < 0) = false := decide_eq_false hNp
    have hNN : ((N : Int) != (N : Int)) = false := by simp
    clear hM6 hb6 ho6 hHl HMk HX5 HX5b HB5 HW25
    go_wp2_with fail
    refine HHl.out.mono ?_
    rintro e w7 ⟨rfl, hb7⟩
    have HB7 := hidd (HB6.out.trans (hb7.mono HB6.out.size))
    have HW27 := hidd (HW26.out.trans (hb7.mono HW26.out.size))
    have HX7 := hidd (blko HX6.out hb7)
    have HX7b := hidd (blko HX6b.out hb7)
    have HH7 := hidd (HH6.out.below hb7)
    have HI := hidd (implWild_any s w7 hs (HT.out.below HB7.out).1 (HT.out.below HB7.out).2)
    clear hb7 HHl HX6 HX6b HB6 HW26 HH6 x1'
    go_wp2_with fail
    refine HI.out.mono ?_
    rintro e w8 hi
    obtain ⟨v2, l2, rfl, hD2, hM2, hb8⟩ := HAll.out _ _ _ hi
    obtain ⟨a2, c2, rfl, hH2⟩ := hM2.hds
    rw [hD2] at hH2
    rw [hD2]
    obtain ⟨hbx, hnx⟩ := box_dfa w8 (.slice a2 D.length c2)
    have hb9 := hb8.trans (hbx.mono hb8.size)
    have HB9 := hidd (HB7.out.trans (hb9.mono HB7.out.size))
    have HW29 := hidd (HW27.out.trans (hb9.mono HW27.out.size))
    have HX9 := hidd (blko HX7.out hb9)
    have HX9b := hidd (blko HX7b.out hb9)
    have HX9n := hidd hnx
    have HH9 := hidd (HH7.out.below hb9)
    have HH9n := hidd (hH2.below hbx)
    clear hi hD2 hM2 hb8 hH2 hbx hnx hb9 HI HB7 HW27 HX7 HX7b HH7
    go_upto_region 16 with fail
    generalize w8.alloc (.cells #[.slice a2 D.length c2] 24) = W9 at *
    generalize w8.heap.size = b2 at *
    have x0 : W9.cell? ⟨b0, 0, none⟩ = some (.slice a0 D.length c0) := blkc HX9b.out 0
    have x2 : W9.cell? ⟨b2, 0, none⟩ = some (.slice a2 D.length c2) := blkc HX9n.out 0
    have HE := hidd (eqDfa_same a2 a0 c2 c0 D W9 hDl (small_at HSm.out) HH9n.out (HH5c.out W9 HW29.out))
    go_wp2_with fail
    refine HE.out.mono ?_
    rintro e w10 ⟨rfl, hb10⟩
    have x1' : w10.cell? ⟨b1, 0, none⟩ = some (.slice a1 D.length c1) := blkc (blko HX9.out hb10) 0
    have HB10 := hidd (HB9.out.trans (hb10.mono HB9.out.size))
    have hHl := heldDfa_any a1 c1 N l1 w10 HNN.out hl1 ha1 (HH9.out.below hb10)
    rw [hlen1] at hHl
    have HHl := hidd hHl
    clear hb10 hHl HE x0 x2 HX9 HX9b HX9n HB9 HW29
    go_wp2_with fail
    refine HHl.out.mono ?_
    rintro e w11 ⟨rfl, hb11⟩
    have HB11 := hidd (HB10.out.trans (hb11.mono HB10.out.size))
    clear hb11
    go_wp2_with fail
    go_ret
    exact ⟨rfl, HB11.out⟩
  · have hsz : (1048576 : Int) < (s.size : Int) := by omega
    go_enter Tryd.func3, Tryd.ntmps3
    go_wp2_with fail
    go_ret
    exact ⟨rfl, Below.refl _ _⟩
end Go.Proofs.YtmnfioghhdgciaaDoor
