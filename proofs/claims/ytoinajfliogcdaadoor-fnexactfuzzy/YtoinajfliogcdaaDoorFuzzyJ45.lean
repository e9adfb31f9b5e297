import Derived.Test.YtoinajfliogcdaaDoorFuzzyJ41
import Derived.Test.YtoinajfliogcdaaDoorFuzzyJ44
import Derived.Test.YtoinajfliogcdaaDoorFuzzyJ39
import Derived.Test.YtoinajfliogcdaaDoorFuzzyJ40
import Derived.Test.YtoinajfliogcdaaDoorFuzzyJ19
namespace Go.Proofs.YtoinajfliogcdaaDoor
open Go Go.RowKit
set_option linter.unusedVariables false
set_option maxRecDepth 100000

/-! spec.Fuzzy, whole. -/
def FzAll (s : ByteArray) (k head : Int) (w : World) (e : Ending) (w' : World) : Prop :=
  (fzCode s k head ≠ 0 ∧ e = .returned (.tuple #[.agg #[.slice none 0 0], .int .i64 (fzCode s k head)]) ∧ Below w.heap.size w w') ∨ (fzCode s k head = 0 ∧ FzPost (decList s) k head w e w')
theorem least_all : LeastC := fun vl vf vn ls fins nxt w h1 h2 => least_any vl vf vn ls fins nxt w h1 h2
theorem fzCode_ok {s : ByteArray} {k head : Int} (h : fzCode s k head = 0) : decCode s = 0 ∧ (decList s).length ≤ 30 ∧ 0 ≤ k ∧ k ≤ 2 ∧ 0 ≤ head ∧ head ≤ (decList s).length := by
  unfold fzCode at h
  split at h
  · split at h
    · exact ⟨by assumption, by assumption⟩
    · omega
  · exact absurd h (by assumption)
theorem specFuzzy_any (s : ByteArray) (k head : Int) (w : World) (hs : s.size ≤ 1048576) :
    Calls Tryd.prog 8 #[.string s, .int .i64 k, .int .i64 head] w (FzAll s k head w) := by
  by_cases hc : fzCode s k head = 0
  · obtain ⟨h1, h2, h3, h4, h5, h6⟩ := fzCode_ok hc
    exact (fuzzy_good least_all s k head w hs h1 h2 ⟨h3, h4⟩ ⟨h5, h6⟩).mono fun e w' h => Or.inr ⟨hc, h⟩
  · exact (fuzzy_bad s k head w hs hc).mono fun e w' h => Or.inl ⟨hc, h.1, h.2⟩
end Go.Proofs.YtoinajfliogcdaaDoor

namespace Go.Proofs.YtoinajfliogcdaaDoor
open Go Go.RowKit
set_option linter.unusedVariables false
set_option maxRecDepth 100000

/-! Both tell the same. -/
theorem hit_eq (word ls : List Int) (hz : ∀ z ∈ word, 0 ≤ z) (a : Nat) : hitZ word (letS ls a) = hitP word (letN ls a) := by
  funext i
  unfold hitZ hitP letS letN
  by_cases ha : a < ls.length
  · rw [if_pos ha, if_pos ha]
  · rw [if_neg ha, if_neg ha]
    have h0 : 0 ≤ word.getD i 0 := by
      rw [List.getD_eq_getElem?_getD]
      cases hx : word[i]? with
      | none => simp
      | some z => exact hz z (List.mem_of_getElem? hx)
    rw [decide_eq_false (by omega), decide_eq_false (by omega)]
theorem near_lang (word ls : List Int) (k head S : Nat) (hk : k ≤ 2) (hz : ∀ z ∈ word, 0 ≤ z) : (fzK word ls k head).lang S (firstS word.length k) = (nrK word ls k head).lang S (firstI word.length k) := by
  rw [← firstI_near (len := word.length) (head := head) hk]
  refine Kaut.lang_map (nearOf word.length k head) (RowOK word.length k head) (fun x hx a _ => hx.step (by omega) (by omega) _) (fun x hx a _ => ?_) (fun x hx => ?_) _ (firstS_ok (by omega) (by omega))
  · show nearOf word.length k head (stepS word.length k head (hitZ word (letS ls a)) x) = stepI word.length k head (hitP word (letN ls a)) (nearOf word.length k head x)
    rw [nearOf_step hx, hit_eq word ls hz]
  · exact nearOf_fin hx hk
def Tells (D : List PSt) (code : Int) (w : World) (e : Ending) (w' : World) : Prop := ∃ v l, e = .returned (.tuple #[.agg #[v], .int .i64 code]) ∧ l.map Prod.snd = D ∧ DfaM w' w.heap.size v l ∧ Below w.heap.size w w'
def Small (D : List PSt) : Prop := D.length ≤ 256 ∧ ∀ s ∈ D, s.2.1.length ≤ 30
theorem least_arcs {X : Type} [DecidableEq X] {T : Sys X} {m : Nat} {ls : List Int} {r : X} {D : List PSt} (h : T.Least m ls r D) : ∀ s ∈ D, s.2.1.length ≤ m := by
  obtain ⟨o, _, rfl⟩ := h
  intro s hs
  obtain ⟨x, _, rfl⟩ := List.mem_map.1 hs
  show ((T.told m x).map _).length ≤ m
  rw [List.length_map]
  exact Nat.le_trans (List.length_filter_le _ _) (by simp)
theorem tells_join {s : ByteArray} {k head : Int} {w : World} {e : Ending} {w' : World} (h : FzAll s k head w e w') : ∃ D code, Small D ∧ Tells D code w e w' ∧ ∀ w2 e2 w2', FiAll s k head w2 e2 w2' → Tells D code w2 e2 w2' := by
  rcases h with ⟨h1, rfl, hb⟩ | ⟨h0, ls, L, hr, hm, hL, hb, hcase⟩
  · refine ⟨[], fzCode s k head, ⟨by simp, by simp⟩, ⟨_, [], rfl, rfl, DfaM.nil _ _, hb⟩, fun w2 e2 w2' h2 => ?_⟩
    rcases h2 with ⟨_, rfl, hb2⟩ | ⟨h0, _⟩
    · exact ⟨_, [], rfl, rfl, DfaM.nil _ _, hb2⟩
    · exact absurd h0 h1
  · obtain ⟨_, hl, hk1, hk2, hh1, hh2⟩ := fzCode_ok h0
    obtain ⟨k, rfl⟩ : ∃ n : Nat, k = (n : Int) := ⟨k.toNat, by omega⟩
    obtain ⟨head, rfl⟩ : ∃ n : Nat, head = (n : Int) := ⟨head.toNat, by omega⟩
    have hz : ∀ z ∈ decList s, 0 ≤ z := fun z hz => (decList_bd s z hz).1
    have els : ls = lettersZ (decList s) := rise_uniq _ _ hr (lettersZ_rise _) (fun x => by rw [hm, lettersZ_mem])
    subst els
    rw [near_lang (decList s) _ k head _ (by omega) hz] at hL
    have hll := lettersZ_len (decList s)
    rcases hcase with ⟨hbig, rfl⟩ | ⟨hs, v, l, hl2, rfl, hM⟩
    · refine ⟨[], 11, ⟨by simp, by simp⟩, ⟨_, [], rfl, rfl, DfaM.nil _ _, hb⟩, fun w2 e2 w2' h2 => ?_⟩
      rcases h2 with ⟨h1, _⟩ | ⟨_, hb2, hc⟩
      · exact absurd h0 h1
      · rcases hc with ⟨rfl, _⟩ | ⟨v2, l2, q1, q2, rfl, q3⟩
        · exact ⟨_, [], rfl, rfl, DfaM.nil _ _, hb2⟩
        · rw [Int.toNat_natCast, Int.toNat_natCast] at q1
          have e9 := congrArg List.length (Sys.Least.uniq hL q1)
          rw [List.length_map] at e9
          omega
    · refine ⟨L, 0, ⟨hs, fun x hx => Nat.le_trans (least_arcs hL x hx) (by omega)⟩, ⟨v, l, rfl, hl2, hM, hb⟩, fun w2 e2 w2' h2 => ?_⟩
      rcases h2 with ⟨h1, _⟩ | ⟨_, hb2, hc⟩
      · exact absurd h0 h1
      · rcases hc with ⟨rfl, q0⟩ | ⟨v2, l2, q1, q2, rfl, q3⟩
        · have := q0 L (by rw [Int.toNat_natCast, Int.toNat_natCast]; exact hL)
          omega
        · rw [Int.toNat_natCast, Int.toNat_natCast] at q1
          exact ⟨v2, l2, rfl, Sys.Least.uniq q1 hL, q3, hb2⟩
end Go.Proofs.YtoinajfliogcdaaDoor

namespace Go.Proofs.YtoinajfliogcdaaDoor
open Go Go.RowKit
set_option linter.unusedVariables false
set_option linter.unusedSimpArgs false
set_option maxRecDepth 100000

/-! laws.FnExactFuzzy. -/
theorem small_of {D : List PSt} {l : List MSt} (h : Small D) (e : l.map Prod.snd = D) : l.length ≤ 256 ∧ (∀ s ∈ l, s.2.2.1.length ≤ 30) ∧ l.length = D.length := by
  subst e
  obtain ⟨h1, h2⟩ := h
  rw [List.length_map] at h1
  exact ⟨h1, fun s hs => h2 s.2 (List.mem_map_of_mem hs), by rw [List.length_map]⟩
theorem small_at {D : List PSt} (h : Small D) (i : Nat) : (D.getD i ps0).2.1.length ≤ 1048576 := by
  rw [List.getD_eq_getElem?_getD]
  cases hx : D[i]? with
  | none => simp [ps0]
  | some s => have := h.2 s (List.mem_of_getElem? hx); simp; omega
theorem box_dfa (w : World) (v : Value) : Below w.heap.size w (w.alloc (.cells #[v] 27)) ∧ (w.alloc (.cells #[v] 27)).heap[w.heap.size]? = some (.cells #[v] 27) := ⟨(Below.refl _ _).alloc (Nat.le_refl _) _, heap_alloc_new _ _⟩
set_option maxHeartbeats 8000000 in
theorem fzLaw_any (s : ByteArray) (k head : Int) (w : World) (hT : Tabs w) :
    Calls Tryd.prog 6 #[.string s, .int .i64 k, .int .i64 head] w fun e w' => e = .returned (.bool true) ∧ Below w.heap.size w w' := by
  by_cases hs : s.size ≤ 1048576
  · have hsz : ¬ (1048576 : Int) < (s.size : Int) := by omega
    have HT := hidd hT
    clear hT
    go_enter Tryd.func6, Tryd.ntmps6
    go_wp2_with fail
    refine (specFuzzy_any s k head w hs).mono ?_
    rintro e w1 hsp
    obtain ⟨D, code, hsm, ⟨v0, l0, rfl, hD0, hM0, hb1⟩, hall⟩ := tells_join hsp
    obtain ⟨a0, c0, rfl, hH0⟩ := hM0.hds
    rw [hD0] at hH0
    rw [hD0]
    have HSm := hidd hsm
    have HAll := hidd hall
    have HH0 := hidd hH0
    have HB1 := hidd hb1
    obtain ⟨hbx, hnx⟩ := box_dfa w1 (.slice a0 D.length c0)
    have HB2 := hidd (hb1.trans (hbx.mono hb1.size))
    have HX2 := hidd hnx
    have HH2 := hidd (hH0.below hbx)
    have hs12 := hbx.size
    have hs1 : w1.heap.size < (w1.alloc (.cells #[.slice a0 D.length c0] 27)).heap.size := by simp
    clear hsp hD0 hM0 hb1 hall hsm hH0 hbx hnx HB1 HH0
    go_upto_region 4 with fail
    generalize w1.alloc (.cells #[.slice a0 D.length c0] 27) = W2 at *
    generalize w1.heap.size = b0 at *
    have HH5c : Hid (∀ Wx, Below W2.heap.size W2 Wx → HDS Wx a0 D) := fun Wx hx => HH2.out.below hx
    have HI := hidd (implFuzzy_any s k head W2 hs (HT.out.below HB2.out))
    go_wp2_with fail
    refine HI.out.mono ?_
    rintro e w3 hi
    obtain ⟨v1, l1, rfl, hD1, hM1, hb3⟩ := HAll.out _ _ _ hi
    obtain ⟨hl1, ha1, hlen1⟩ := small_of HSm.out hD1
    have HM1 := hidd hM1
    obtain ⟨a1, c1, rfl, hH1⟩ := hM1.hds
    rw [hD1] at hH1
    rw [hD1]
    have HD1 := hidd hD1
    obtain ⟨hbx, hnx⟩ := box_dfa w3 (.slice a1 D.length c1)
    have HX4 := hidd hnx
    have HXb := hidd (blko (blko HX2.out hb3) hbx)
    have HH4 := hidd (hH1.below hbx)
    have HH4b := hidd ((HH2.out.below hb3).below hbx)
    have HB4 := hidd ((HB2.out.trans (hb3.mono HB2.out.size)).trans (hbx.mono (Nat.le_trans HB2.out.size hb3.size)))
    have HM4 := hidd (HM1.out.below hbx)
    rw [HD1.out] at HM4
    have HW24 := hidd (hb3.trans (hbx.mono hb3.size))
    clear hi hD1 hM1 hb3 hH1 hbx hnx HI HX2 HH2 HM1
    go_upto_region 5 with fail
    generalize w3.alloc (.cells #[.slice a1 D.length c1] 27) = W4 at *
    generalize w3.heap.size = b1 at *
    have x0 : W4.cell? ⟨b0, 0, none⟩ = some (.slice a0 D.length c0) := blkc HXb.out 0
    have x1 : W4.cell? ⟨b1, 0, none⟩ = some (.slice a1 D.length c1) := blkc HX4.out 0
    have hDl : D.length ≤ 1048576 := by have := HSm.out.1; omega
    have HE := hidd (eqDfa_same a1 a0 c1 c0 D W4 hDl (small_at HSm.out) HH4.out HH4b.out)
    have hcc : (code != code) = false := by simp
    go_wp2_with fail
    refine HE.out.mono ?_
    rintro e w5 ⟨rfl, hb5⟩
    obtain ⟨N, hN⟩ : ∃ N, N = mkK 1 l1 := ⟨_, rfl⟩
    have hW24 := HW24.out
    have HMk := hidd (markDfa_any W2.heap.size N (.slice a1 D.length c1) l1 w5 hN hl1 ha1 (Nat.le_trans hW24.size hb5.size) (HM4.out.below hb5))
    have x1' : w5.cell? ⟨b1, 0, none⟩ = some (.slice a1 D.length c1) := blkc (blko HX4.out hb5) 0
    have HX5 := hidd (blko HX4.out hb5)
    have HX5b := hidd (blko HXb.out hb5)
    have HB5 := hidd (HB4.out.trans (hb5.mono HB4.out.size))
    have HW25 := hidd (hW24.trans (hb5.mono hW24.size))
    have HH5b := hidd (HH4b.out.below hb5)
    have HNN := hidd hN
    clear hb5 hN hW24 x0 x1 HE HM4 HX4 HXb HB4 HW24 HH4 HH4b
    go_wp2_with fail
    refine HMk.out.mono ?_
    rintro e w6 ⟨rfl, hM6, hb6, ho6⟩
    have HX6 := hidd (ho6 _ _ _ (by decide) (by decide) HX5.out)
    have HX6b := hidd (ho6 _ _ _ (by decide) (by decide) HX5b.out)
    have HB6 := hidd (HB5.out.trans (hb6.mono HB2.out.size))
    have HW26 := hidd (HW25.out.trans hb6)
    have HH6 : Hid (HDS w6 a1 ((mkS 1 l1).map Prod.snd)) := by
      obtain ⟨a', c', e', h'⟩ := hM6.hds
      simp only [Value.slice.injEq] at e'
      obtain ⟨rfl, -, -⟩ := e'
      exact h'
    have x1' : w6.cell? ⟨b1, 0, none⟩ = some (.slice a1 D.length c1) := blkc HX6.out 0
    have hHl := heldDfa_any a1 c1 N l1 w6 HNN.out hl1 ha1 HH6.out
    rw [hlen1] at hHl
    have HHl := hidd hHl
    have hNp : ¬ (N : Int) < 0 := by omega
    have dN : decide ((N : Int) < 0) = false := decide_eq_false hNp
    have hNN : ((N : Int) != (N : Int)) = false := by simp
    clear hM6 hb6 ho6 hHl HMk HX5 HX5b HB5 HW25
    go_wp2_with fail
    refine HHl.out.mono ?_
    rintro e w7 ⟨rfl, hb7⟩
    have HB7 := hidd (HB6.out.trans (hb7.mono HB6.out.size))
    have HW27 := hidd (HW26.out.trans (hb7.mono HW26.out.size))
    have HX7 := hidd (blko HX6.out hb7)
    have HX7b := hidd (blko HX6b.out hb7)
    have HH7 := hidd (HH6.out.below hb7)
    have HI := hidd (implFuzzy_any s k head w7 hs (HT.out.below HB7.out))
    clear hb7 HHl HX6 HX6b HB6 HW26 HH6 x1'
    go_wp2_with fail
    refine HI.out.mono ?_
    rintro e w8 hi
    obtain ⟨v2, l2, rfl, hD2, hM2, hb8⟩ := HAll.out _ _ _ hi
    obtain ⟨a2, c2, rfl, hH2⟩ := hM2.hds
    rw [hD2] at hH2
    rw [hD2]
    obtain ⟨hbx, hnx⟩ := box_dfa w8 (.slice a2 D.length c2)
    have hb9 := hb8.trans (hbx.mono hb8.size)
    have HB9 := hidd (HB7.out.trans (hb9.mono HB7.out.size))
    have HW29 := hidd (HW27.out.trans (hb9.mono HW27.out.size))
    have HX9 := hidd (blko HX7.out hb9)
    have HX9b := hidd (blko HX7b.out hb9)
    have HX9n := hidd hnx
    have HH9 := hidd (HH7.out.below hb9)
    have HH9n := hidd (hH2.below hbx)
    clear hi hD2 hM2 hb8 hH2 hbx hnx hb9 HI HB7 HW27 HX7 HX7b HH7
    go_upto_region 16 with fail
    generalize w8.alloc (.cells #[.slice a2 D.length c2] 27) = W9 at *
    generalize w8.heap.size = b2 at *
    have x0 : W9.cell? ⟨b0, 0, none⟩ = some (.slice a0 D.length c0) := blkc HX9b.out 0
    have x2 : W9.cell? ⟨b2, 0, none⟩ = some (.slice a2 D.length c2) := blkc HX9n.out 0
    have HE := hidd (eqDfa_same a2 a0 c2 c0 D W9 hDl (small_at HSm.out) HH9n.out (HH5c.out W9 HW29.out))
    go_wp2_with fail
    refine HE.out.mono ?_
    rintro e w10 ⟨rfl, hb10⟩
    have x1' : w10.cell? ⟨b1, 0, none⟩ = some (.slice a1 D.length c1) := blkc (blko HX9.out hb10) 0
    have HB10 := hidd (HB9.out.trans (hb10.mono HB9.out.size))
    have hHl := heldDfa_any a1 c1 N l1 w10 HNN.out hl1 ha1 (HH9.out.below hb10)
    rw [hlen1] at hHl
    have HHl := hidd hHl
    clear hb10 hHl HE x0 x2 HX9 HX9b HX9n HB9 HW29
    go_wp2_with fail
    refine HHl.out.mono ?_
    rintro e w11 ⟨rfl, hb11⟩
    have HB11 := hidd (HB10.out.trans (hb11.mono HB10.out.size))
    clear hb11
    go_wp2_with fail
    go_ret
    exact ⟨rfl, HB11.out⟩
  · have hsz : (1048576 : Int) < (s.size : Int) := by omega
    go_enter Tryd.func6, Tryd.ntmps6
    go_wp2_with fail
    go_ret
    exact ⟨rfl, Below.refl _ _⟩
end Go.Proofs.YtoinajfliogcdaaDoor
