import Derived.Test.YtoinajfliogcdaaDoorFuzzyJ37
import Derived.Test.YtoinajfliogcdaaDoorFuzzyJ38
import Derived.Lib.OthersKept
import Derived.Test.YtoinajfliogcdaaDoorProg
import Derived.Test.YtoinajfliogcdaaDoorFuzzyJ00
import Derived.WalkLawsBesides
import Derived.Test.YtoinajfliogcdaaDoorFuzzyJ11
import Derived.Test.YtoinajfliogcdaaDoorFuzzyJ31
import Derived.Deep.Onto
import Derived.Test.YtoinajfliogcdaaDoorFuzzyJ36
namespace Go.Proofs.YtoinajfliogcdaaDoor
open Go Go.RowKit
set_option linter.unusedVariables false

theorem decCode_ne (s : ByteArray) (h : ¬ decCode s = 0) : decList s = [] := by
  unfold decCode at h
  unfold decList decL
  by_cases h1 : 65536 < s.size
  · rw [if_pos h1]
  · rw [if_neg h1] at h ⊢
    by_cases h2 : validB s = true
    · rw [if_pos h2] at h; exact absurd rfl h
    · rw [if_neg h2]
theorem decCode_eq (s : ByteArray) (h : decCode s = 0) : decList s = runes s ∧ s.size ≤ 65536 := by
  unfold decCode at h
  unfold decList decL
  by_cases h1 : 65536 < s.size
  · rw [if_pos h1] at h; omega
  · rw [if_neg h1] at h ⊢
    by_cases h2 : validB s = true
    · rw [if_pos h2]; exact ⟨rfl, by omega⟩
    · rw [if_neg h2] at h; omega
set_option maxHeartbeats 2000000 in
set_option maxRecDepth 100000 in
theorem implDecode_any (s : ByteArray) (w : World) (hs : s.size ≤ 1048576) (hT : Tabs w) :
    Calls Tryd.prog 38 #[.string s] w fun e w' => ∃ v, e = .returned (.tuple #[v, .int .i64 (decCode s)]) ∧ w'.ownsRow w.heap.size 3 1 v (decList s).length ((decList s).map (Value.int .i64)) ∧ Below w.heap.size w w' := by
  have HT := hidd hT
  clear hT
  obtain ⟨i0, hi, hz0, hz1, hz2⟩ := info_parts Tryd.infoInt
  by_cases hc : decCode s = 0
  · have HC := hidd hc
    have HL := hidd (decCode_eq s hc).1
    have hsz := (decCode_eq s hc).2
    clear hc
    have hrc := Lib.runeCount_le s
    go_enter Tryd.func38, Tryd.ntmps38
    go_wp2_with fail
    refine (textCode_any s _ hs HT.out).mono ?_
    rintro e w1 ⟨rfl, hb1⟩
    rw [HC.out]
    go_wp2_with fail
    refine (Tryd.utf8_RuneCountInString s _ (by omega)).mono ?_
    rintro e w2 ⟨rfl, q, rfl⟩
    have hb2 : Below w.heap.size w (w1.iter s q) := hb1.alloc hb1.size _
    generalize w1.iter s q = w2 at hb2 ⊢
    clear hb1
    generalize Lib.runeCount s = rc at *
    go_wp2_with (at_make; refine wpList_make_own _ rfl _ _ 30 rfl w.heap.size 3 i0 (.int .i64 0) 1 Tryd.underlying30 hi hz0 hz1 _ _ _ rc rfl rfl (by omega) ?b2 ?b3 hb2.size ?_)
    case b2 => rw [hz2]; omega
    case b3 => unfold maxLen; omega
    intro w3 hown3 hgrow3
    have hb3 : Below w.heap.size w w3 := hb2.grown hgrow3 hb2.size (fun k h => by cases h)
    generalize (Value.slice (some ⟨w2.heap.size, 0, none⟩) 0 rc) = v3 at hown3 ⊢
    have hI : w.heap.size ≤ w3.heap.size := hb3.size
    have hit0 := hidd (World.iter_heap w3 s 0)
    have hb4 : Below w.heap.size w (w3.iter s 0) := hb3.alloc hb3.size _
    have hown4 : (w3.iter s 0).ownsRow w.heap.size 3 1 v3 0 [] := hown3.alloc _
    clear hb2 hgrow3 hown3 hb3
    go_wp2
    generalize w3.iter s 0 = w4 at hit0 hb4 hown4 ⊢
    generalize w3.heap.size = B at *
    go_loopw [5] (fun v wr => ∃ (p f : Nat) (acc : List Int), wr.ownsRow w.heap.size 3 1 v acc.length (acc.map (Value.int .i64)) ∧ wr.heap[B]? = some (.stringIter s p) ∧ Below w.heap.size w wr ∧ acc ++ runesFrom s f p = runes s ∧ s.size ≤ p + f) (fun _ wr => s.size - wr.iterPos B)
    case atStart => exact ⟨0, s.size, [], hown4, hit0.out, hb4, rfl, by omega⟩
    case round =>
      obtain ⟨p, f, acc, hown, hit, hbel, hacc, hf⟩ := hrel
      have hlen : acc.length ≤ s.size := by have := congrArg List.length hacc; rw [List.length_append] at this; have := runes_le s; omega
      have HO := hidd hown
      clear hown hown4 hb4 hit0
      by_cases hlt : p < s.size
      · have hnx : ∀ ty, (Instr.next (.pointer (some ⟨B, 0, none⟩)) true ty).run Tryd.prog wr = _ := fun ty => Lib.run_next_any_at wr B s p ty hit hlt
        have hw := width_le s p hlt
        have hr := rune_le s p
        have HO2 := hidd (own_iterAt HO.out hit (p + (Utf8.decode s p).2))
        have hit2 := Lib.iterAt_heap wr B s p (p + (Utf8.decode s p).2) hit
        have hbel2 := Lib.below_iterAt hbel (k := B) hI s (p + (Utf8.decode s p).2)
        have Hst : Hid (acc ++ [((Utf8.decode s p).1 : Int)] ++ runesFrom s (f - 1) (p + (Utf8.decode s p).2) = runes s) := by
          show _ = _
          obtain ⟨g, rfl⟩ : ∃ g, f = g + 1 := ⟨f - 1, by omega⟩
          rw [runesFrom_step s g p hlt] at hacc
          rw [← hacc]
          simp
        have Hpos := hidd (iterPos_of hit)
        have Hit2 := hidd hit2
        have HB2 := hidd hbel2
        have hzw : w.heap.size ≤ (wr.iterAt B s (p + (Utf8.decode s p).2)).heap.size := hbel2.size
        have hzB : B < (wr.iterAt B s (p + (Utf8.decode s p).2)).heap.size := (Array.getElem?_eq_some_iff.1 hit2).1
        clear hacc HO hit2 hbel2 hbel
        generalize (Utf8.decode s p).1 = r at *
        generalize (Utf8.decode s p).2 = n at *
        generalize wr.iterAt B s (p + n) = wi at *
        go_wp2_with (at_builtin; refine wpList_append_own _ rfl _ _ 30 rfl w.heap.size 3 i0 (.int .i64 0) 1 8 Tryd.underlying30 hi hz0 hz1 hz2 rfl (by decide) _ _ _ rfl (HO2.out.alloc _) ⟨wi.heap.size, 0, none⟩ 1 1 [.int .i64 (r : Int)] rfl rfl ?c1 ?c2 ?c3 ?c4 ?c5 ?_)
        case c1 =>
          intro j u hj
          match j, hj with
          | 0, hj => simp at hj; subst hj; simp [Addr.add]
        case c2 => intro u hu; simp at hu; subst hu; rfl
        case c3 => unfold maxLen; omega
        case c4 => omega
        case c5 => simp; omega
        intro v' w5 hown' hgrow hne
        have R : Hid (w5.ownsRow w.heap.size 3 1 v' (acc ++ [(r : Int)]).length ((acc ++ [(r : Int)]).map (Value.int .i64)) ∧ w5.heap[B]? = some (.stringIter s (p + n)) ∧ Below w.heap.size w w5) := by
          refine ⟨?_, ?_, (HB2.out.alloc hzw _).grown hgrow (by simp; omega) (own_block HO2.out)⟩
          · rw [List.length_append, List.map_append]
            exact hown'
          · rw [hgrow.block B (by simp; omega) (own_ne_iter HO2.out Hit2.out), Below.heap_alloc _ _ _ hzB]
            exact Hit2.out
        clear hown' hgrow HO2 Hit2 HB2
        go_wp2
        go_roundw
        case rel => exact ⟨p + n, f - 1, acc ++ [(r : Int)], R.out.1, R.out.2.1, R.out.2.2, Hst.out, by omega⟩
        case measure => rw [iterPos_of R.out.2.1, Hpos.out]; omega
      · have hnx : ∀ ty, (Instr.next (.pointer (some ⟨B, 0, none⟩)) true ty).run Tryd.prog wr = _ := fun ty => Lib.run_next_end_at wr B s p ty hit hlt
        have HL2 : Hid (runes s = acc) := by show _ = _; rw [← hacc, runesFrom_end s f p hlt, List.append_nil]
        clear hacc hit
        go_wp2
        go_ret2
        rw [HL.out, HL2.out, HC.out]
        exact ⟨_, rfl, HO.out, hbel⟩
  · have hcn : (decCode s != 0) = true := by rw [bne_iff_ne]; exact hc
    have HL := hidd (decCode_ne s hc)
    clear hc
    go_enter Tryd.func38, Tryd.ntmps38
    go_wp2_with fail
    refine (textCode_any s _ hs HT.out).mono ?_
    rintro e w1 ⟨rfl, hb1⟩
    go_wp2
    go_ret2
    rw [HL.out]
    exact ⟨_, rfl, World.ownsRow_nil _ _ _ _, hb1⟩
end Go.Proofs.YtoinajfliogcdaaDoor

namespace Go.Proofs.YtoinajfliogcdaaDoor
open Go Go.RowKit
set_option linter.unusedVariables false

set_option maxHeartbeats 400000 in
theorem within_any (r lo hi : Int) (w : World) : Calls Tryd.prog 39 #[.int .i64 r, .int .i64 lo, .int .i64 hi] w fun e w' => e = .returned (.bool (decide (lo ≤ r) && decide (r ≤ hi))) ∧ w' = w := by
  by_cases h : lo ≤ r
  · have HB : Hid (decide (lo ≤ r) = true) := decide_eq_true h
    go_enter Tryd.func39, Tryd.ntmps39
    go_wp2
    go_ret
    rw [HB.out, Bool.true_and]
    exact ⟨rfl, rfl⟩
  · have HB : Hid (decide (lo ≤ r) = false) := decide_eq_false h
    go_enter Tryd.func39, Tryd.ntmps39
    go_wp2
    go_ret
    rw [HB.out, Bool.false_and]
    exact ⟨rfl, rfl⟩
end Go.Proofs.YtoinajfliogcdaaDoor

namespace Go.Proofs.YtoinajfliogcdaaDoor
open Go Go.RowKit
set_option linter.unusedVariables false
set_option maxRecDepth 100000
set_option linter.unusedSimpArgs false

/-! spec.l05Told: the least automaton, if it is not too great. -/
def LeastC : Prop := ∀ (vl vf vn : Value) (ls : List Int) (fins : List Bool) (nxt : List (List Nat)) (w : World), HoldI w vl ls → RawOK w vf vn fins nxt (ls.length + 1) → Calls Tryd.prog 78 #[.agg #[vl, vf, vn]] w (LsPost w ls fins nxt)
def TdPost (w : World) (ls : List Int) (fins : List Bool) (nxt : List (List Nat)) (e : Ending) (w' : World) : Prop :=
  ∃ L, sysL.Least ls.length ls ((autR fins nxt).lang (ls.length + 1) 0) L ∧ Below w.heap.size w w' ∧
    ((256 < L.length ∧ e = .returned (.tuple #[.agg #[.slice none 0 0], .int .i64 11])) ∨ (L.length ≤ 256 ∧ ∃ v l, l.map Prod.snd = L ∧ e = .returned (.tuple #[.agg #[v], .int .i64 0]) ∧ DfaM w' w.heap.size v l))
theorem DfaM.mono {W : World} {base base' : Nat} {v : Value} {l : List MSt} (h : DfaM W base v l) (hb : base' ≤ base) : DfaM W base' v l := ⟨h.row.mono hb, fun s hs => (h.arcs s hs).mono hb, h.apart⟩
set_option maxHeartbeats 4000000 in
theorem told_any (hC : LeastC) (vl vf vn : Value) (ls : List Int) (fins : List Bool) (nxt : List (List Nat)) (w : World) (hls : HoldI w vl ls) (hraw : RawOK w vf vn fins nxt (ls.length + 1)) :
    Calls Tryd.prog 37 #[.agg #[vl, vf, vn]] w (TdPost w ls fins nxt) := by
  obtain ⟨w1, hw1⟩ : ∃ w1, w1 = w.alloc (.cells #[vl, vf, vn] 62) := ⟨_, rfl⟩
  obtain ⟨w2, hw2⟩ : ∃ w2, w2 = w1.alloc (.cells #[.slice none 0 0] 27) := ⟨_, rfl⟩
  have hs1 : w1.heap.size = w.heap.size + 1 := by rw [hw1]; simp
  have hs2 : w2.heap.size = w.heap.size + 2 := by rw [hw2]; simp [hs1]
  have HB2 : Hid (Below w.heap.size w w2) := by
    rw [hw2, hw1]
    exact ((Below.refl _ _).alloc (Nat.le_refl _) _).alloc (by simp) _
  have HK : Hid (w2.heap[w.heap.size]? = some (.cells #[vl, vf, vn] 62) ∧ w2.heap[w.heap.size + 1]? = some (.cells #[.slice none 0 0] 27)) := by
    rw [hw2, hw1]
    exact box_two w _ _
  have HLS := hidd (hls.below HB2.out)
  have HR := hidd (hraw.below HB2.out)
  have Hs2 := hidd hs2
  clear hls hraw
  have c0 : w2.cell? ⟨w.heap.size, 0, none⟩ = some vl := blkc HK.out.1 0
  have c1 : w2.cell? ⟨w.heap.size, 1, none⟩ = some vf := blkc HK.out.1 1
  have c2 : w2.cell? ⟨w.heap.size, 2, none⟩ = some vn := blkc HK.out.1 2
  obtain ⟨ad, cp, hvl⟩ : ∃ ad cp, vl = .slice ad ls.length cp := by obtain ⟨ad, cp, h, _⟩ := HLS.out; exact ⟨ad, cp, h⟩
  obtain ⟨adf, cpf, hvf⟩ : ∃ ad cp, vf = .slice ad fins.length cp := by obtain ⟨ad, cp, h, _⟩ := HR.out.fin; exact ⟨ad, cp, h⟩
  obtain ⟨adn, cpn, hvn⟩ : ∃ ad cp, vn = .slice ad nxt.length cp := by obtain ⟨ad, cp, h, _⟩ := HR.out.nx; exact ⟨ad, cp, h⟩
  have HE : Hid (w2 = (w.alloc (.cells #[vl, vf, vn] 62)).alloc (.cells #[.slice none 0 0] 27)) := by show _ = _; rw [hw2, hw1]
  clear hw1 hw2
  subst hvl hvf hvn
  have Hs := hidd hs2
  clear hs1 hs2
  go_enter Tryd.func37, Tryd.ntmps37
  go_upto_region 1 with fail
  rw [← HE.out]
  go_wp2_with fail
  refine (hC _ _ _ ls fins nxt _ HLS.out HR.out).mono ?_
  rintro e w3 ⟨v, l, rfl, hD, hL, hl4, hb3⟩
  have HD := hidd (hD.mono (base' := w.heap.size) (by rw [Hs.out]; omega))
  have HL := hidd hL
  have HB3 := hidd (HB2.out.trans (hb3.mono (by rw [Hs.out]; omega)))
  have hk1 := blko HK.out.2 hb3
  have HK3 := hidd hk1
  have hsz : w.heap.size + 2 ≤ w3.heap.size := by have := hb3.size; rw [Hs.out] at this; exact this
  have Hsz := hidd hsz
  obtain ⟨adv, cpv, hv⟩ : ∃ ad cp, v = .slice ad l.length cp := by
    rcases hD.row.2 with ⟨h, h0⟩ | ⟨g7, c7, cur7, h, _⟩
    · exact ⟨none, 0, by rw [h, h0]⟩
    · exact ⟨_, c7, h⟩
  subst hv
  clear hD hL hb3 hk1 hsz
  have HKn : Hid ((w3.alloc (.cells #[.slice adv l.length cpv] 27)).heap[w3.heap.size]? = some (.cells #[.slice adv l.length cpv] 27) ∧ (w3.alloc (.cells #[.slice adv l.length cpv] 27)).heap[w.heap.size + 1]? = some (.cells #[.slice none 0 0] 27)) := by
    refine ⟨heap_alloc_new _ _, ?_⟩
    rw [Below.heap_alloc _ _ _ (by have := Hsz.out; omega)]
    exact HK3.out
  have HB4 : Hid (Below w.heap.size w (w3.alloc (.cells #[.slice adv l.length cpv] 27))) := HB3.out.alloc (by have := Hsz.out; omega) _
  have HD4 : Hid (DfaM (w3.alloc (.cells #[.slice adv l.length cpv] 27)) w.heap.size (.slice adv l.length cpv) l) := HD.out.below ((Below.refl _ _).alloc (Nat.le_refl _) _)
  go_upto_region 2 with fail
  generalize w3.alloc (.cells #[.slice adv l.length cpv] 27) = w4 at *
  clear c0 c1 c2
  have d0 : w4.cell? ⟨w3.heap.size, 0, none⟩ = some (.slice adv l.length cpv) := blkc HKn.out.1 0
  have r0 : w4.cell? ⟨w.heap.size + 1, 0, none⟩ = some (.slice none 0 0) := blkc HKn.out.2 0
  have f0 := blkf HKn.out.2 0
  have hset : ∀ x : Value, (w4.setCell ⟨w.heap.size + 1, 0, none⟩ x).cell? ⟨w.heap.size + 1, 0, none⟩ = some x := by
    intro x
    have := blk_setk HKn.out.2 0 x
    rw [blkc this 0]
    simp
  have HSet := hidd hset
  have hbs : ∀ x : Value, Below w.heap.size w (w4.setCell ⟨w.heap.size + 1, 0, none⟩ x) := fun x => HB4.out.trans (((But.refl (fun b => b = w.heap.size + 1) w4).set (w.heap.size + 1) 0 _ rfl).below HB4.out.size (fun j hj e => by omega))
  have HBs := hidd hbs
  have hds : ∀ x : Value, DfaM (w4.setCell ⟨w.heap.size + 1, 0, none⟩ x) w.heap.size (.slice adv l.length cpv) l := by
    intro x
    refine HD4.out.congr fun b cs t ht _ hh => ?_
    rw [heap_set_other w4 (w.heap.size + 1) 0 _ b (by
      rintro rfl
      rw [HKn.out.2] at hh
      simp only [Option.some.injEq, Obj.cells.injEq] at hh
      rcases ht with rfl | rfl
      · exact absurd hh.2.1 (by decide)
      · exact absurd hh.2.1 (by decide))]
    exact hh
  have HDs := hidd hds
  clear hset hbs hds
  by_cases hgt : 256 < l.length
  · have hgz : (256 : Int) < (l.length : Int) := by omega
    go_wp2
    refine bodyPost_ret (v := .tuple #[.agg #[.slice none 0 0], .int .i64 11]) (by simp [results, Tryd.results37, go_sem, HSet.out]) rfl ?_
    exact ⟨_, HL.out, HBs.out _, Or.inl ⟨by rw [List.length_map]; exact hgt, rfl⟩⟩
  · have hgz : ¬ (256 : Int) < (l.length : Int) := by omega
    go_wp2
    refine bodyPost_ret (v := .tuple #[.agg #[.slice adv l.length cpv], .int .i64 0]) (by simp [results, Tryd.results37, go_sem, HSet.out]) rfl ?_
    exact ⟨_, HL.out, HBs.out _, Or.inr ⟨by rw [List.length_map]; omega, _, l, rfl, rfl, HDs.out _⟩⟩
end Go.Proofs.YtoinajfliogcdaaDoor

namespace Go.Proofs.YtoinajfliogcdaaDoor
open Go Go.RowKit
set_option linter.unusedVariables false
set_option maxRecDepth 100000
set_option linter.unusedSimpArgs false

/-! spec.Fuzzy, where it refuses. -/
def fzCode (s : ByteArray) (k head : Int) : Int := if decCode s = 0 then (if (decList s).length ≤ 30 ∧ 0 ≤ k ∧ k ≤ 2 ∧ 0 ≤ head ∧ head ≤ (decList s).length then 0 else 12) else decCode s
set_option maxHeartbeats 2000000 in
theorem fuzzy_bad (s : ByteArray) (k head : Int) (w : World) (hs : s.size ≤ 1048576) (hbad : fzCode s k head ≠ 0) :
    Calls Tryd.prog 8 #[.string s, .int .i64 k, .int .i64 head] w fun e w' => e = .returned (.tuple #[.agg #[.slice none 0 0], .int .i64 (fzCode s k head)]) ∧ Below w.heap.size w w' := by
  have HEnd : Hid (∀ w2 : World, Below (w.alloc (.cells #[.slice none 0 0] 27)).heap.size (w.alloc (.cells #[.slice none 0 0] 27)) w2 → w2.cell? ⟨w.heap.size, 0, none⟩ = some (.slice none 0 0) ∧ w2.frozen? ⟨w.heap.size, 0, none⟩ = false ∧ (w2.setCell ⟨w.heap.size, 0, none⟩ (.slice none 0 0)).cell? ⟨w.heap.size, 0, none⟩ = some (.slice none 0 0) ∧ Below w.heap.size w (w2.setCell ⟨w.heap.size, 0, none⟩ (.slice none 0 0))) := by
    show ∀ _, _
    intro w2 hb2
    have hres : w2.heap[w.heap.size]? = some (.cells #[.slice none 0 0] 27) := blko (heap_alloc_new _ _) hb2
    have hbw : Below w.heap.size w w2 := ((Below.refl _ _).alloc (Nat.le_refl _) _).trans (hb2.mono (by simp))
    refine ⟨blkc hres 0, blkf hres 0, ?_, ?_⟩
    · have := blk_setk hres 0 (.slice none 0 0)
      rw [blkc this 0]; simp
    · exact hbw.trans (((But.refl (fun b => b = w.heap.size) w2).set (w.heap.size) 0 _ rfl).below hbw.size (fun j hj e => by omega))
  by_cases hc : decCode s = 0
  · have hne : ¬ ((decList s).length ≤ 30 ∧ 0 ≤ k ∧ k ≤ 2 ∧ 0 ≤ head ∧ head ≤ (decList s).length) := fun h => hbad (by rw [fzCode, if_pos hc, if_pos h])
    have HE : Hid (fzCode s k head = 12) := by show _ = _; rw [fzCode, if_pos hc, if_neg hne]
    have HC := hidd hc
    clear hbad hc
    go_enter Tryd.func8, Tryd.ntmps8
    go_wp2_with fail
    refine (specDecode_any s _ hs).mono ?_
    rintro e w2 ⟨vw, rfl, hown, hb2⟩
    rw [HC.out]
    obtain ⟨aw, cw, hvw⟩ : ∃ a c, vw = .slice a (decList s).length c := by
      rcases own_cases hown with ⟨h, h0⟩ | ⟨g, c, h, _, _⟩
      · exact ⟨none, 0, by rw [h, h0]⟩
      · exact ⟨_, c, h⟩
    subst hvw
    clear hown
    obtain ⟨e1, e2, e3, e4⟩ := HEnd.out w2 hb2
    have He3 := hidd e3
    have He4 := hidd e4
    clear hb2 e3 e4
    generalize (decList s).length = n at *
    have hn5 : 30 < n ∨ (n ≤ 30 ∧ k < 0) ∨ (n ≤ 30 ∧ ¬ k < 0 ∧ 2 < k) ∨ (n ≤ 30 ∧ ¬ k < 0 ∧ ¬ 2 < k ∧ head < 0) ∨ (n ≤ 30 ∧ ¬ k < 0 ∧ ¬ 2 < k ∧ ¬ head < 0 ∧ (n : Int) < head) := by omega
    clear hne
    have fin : ∀ (a : Act), a.tmps[6]? = some (.pointer (some ⟨w.heap.size, 0, none⟩)) → True := fun _ _ => trivial
    clear fin
    rcases hn5 with h1 | ⟨h1, h2⟩ | ⟨h1, h2, h3⟩ | ⟨h1, h2, h3, h4⟩ | ⟨h1, h2, h3, h4, h5⟩
    · have g1 : (30 : Int) < (n : Int) := by omega
      have d1 : decide ((30 : Int) < (n : Int)) = true := by simpa using g1
      go_wp2
      refine bodyPost_ret (v := .tuple #[.agg #[.slice none 0 0], .int .i64 12]) (by have q := He3.out; simp [results, Tryd.results8, go_sem, q]) rfl ?_
      exact ⟨by rw [HE.out], He4.out⟩
    · have g1 : ¬ (30 : Int) < (n : Int) := by omega
      have d1 : decide ((30 : Int) < (n : Int)) = false := by simpa using g1
      have d2 : decide (k < 0) = true := by simpa using h2
      go_wp2
      refine bodyPost_ret (v := .tuple #[.agg #[.slice none 0 0], .int .i64 12]) (by have q := He3.out; simp [results, Tryd.results8, go_sem, q]) rfl ?_
      exact ⟨by rw [HE.out], He4.out⟩
    · have g1 : ¬ (30 : Int) < (n : Int) := by omega
      have d1 : decide ((30 : Int) < (n : Int)) = false := by simpa using g1
      have d2 : decide (k < 0) = false := by simpa using h2
      have d3 : decide (2 < k) = true := by simpa using h3
      go_wp2
      refine bodyPost_ret (v := .tuple #[.agg #[.slice none 0 0], .int .i64 12]) (by have q := He3.out; simp [results, Tryd.results8, go_sem, q]) rfl ?_
      exact ⟨by rw [HE.out], He4.out⟩
    · have g1 : ¬ (30 : Int) < (n : Int) := by omega
      have d1 : decide ((30 : Int) < (n : Int)) = false := by simpa using g1
      have d2 : decide (k < 0) = false := by simpa using h2
      have d3 : decide (2 < k) = false := by simpa using h3
      have d4 : decide (head < 0) = true := by simpa using h4
      go_wp2
      refine bodyPost_ret (v := .tuple #[.agg #[.slice none 0 0], .int .i64 12]) (by have q := He3.out; simp [results, Tryd.results8, go_sem, q]) rfl ?_
      exact ⟨by rw [HE.out], He4.out⟩
    · have g1 : ¬ (30 : Int) < (n : Int) := by omega
      have d1 : decide ((30 : Int) < (n : Int)) = false := by simpa using g1
      have d2 : decide (k < 0) = false := by simpa using h2
      have d3 : decide (2 < k) = false := by simpa using h3
      have d4 : decide (head < 0) = false := by simpa using h4
      have d5 : decide ((n : Int) < head) = true := by simpa using h5
      go_wp2
      refine bodyPost_ret (v := .tuple #[.agg #[.slice none 0 0], .int .i64 12]) (by have q := He3.out; simp [results, Tryd.results8, go_sem, q]) rfl ?_
      exact ⟨by rw [HE.out], He4.out⟩
  · have HE : Hid (fzCode s k head = decCode s) := by show _ = _; rw [fzCode, if_neg hc]
    obtain ⟨cd, hcd⟩ : ∃ cd, decCode s = cd := ⟨_, rfl⟩
    rw [hcd] at hc HE
    have hcb : (cd != 0) = true := by simpa using hc
    have HC := hidd hcd
    clear hbad hcd hc
    go_enter Tryd.func8, Tryd.ntmps8
    go_wp2_with fail
    refine (specDecode_any s _ hs).mono ?_
    rintro e w2 ⟨vw, rfl, hown, hb2⟩
    rw [HC.out]
    obtain ⟨aw, cw, hvw⟩ : ∃ a c, vw = .slice a (decList s).length c := by
      rcases own_cases hown with ⟨h, h0⟩ | ⟨g, c, h, _, _⟩
      · exact ⟨none, 0, by rw [h, h0]⟩
      · exact ⟨_, c, h⟩
    subst hvw
    clear hown
    obtain ⟨e1, e2, e3, e4⟩ := HEnd.out w2 hb2
    have He3 := hidd e3
    have He4 := hidd e4
    clear hb2 e3 e4
    go_wp2
    refine bodyPost_ret (v := .tuple #[.agg #[.slice none 0 0], .int .i64 cd]) (by have q := He3.out; simp [results, Tryd.results8, go_sem, q]) rfl ?_
    exact ⟨by rw [HE.out], He4.out⟩
end Go.Proofs.YtoinajfliogcdaaDoor

namespace Go.Proofs.YtoinajfliogcdaaDoor
open Go Go.RowKit
set_option linter.unusedVariables false
set_option linter.unusedSimpArgs false
set_option maxRecDepth 100000

/-! impl.Fuzzy. -/
theorem runesFrom_bd (s : ByteArray) : ∀ (f p : Nat) (x : Int), x ∈ runesFrom s f p → 0 ≤ x ∧ x ≤ 1114111
  | 0, p, x, h => by simp [runesFrom] at h
  | f + 1, p, x, h => by
    by_cases hp : p < s.size
    · rw [runesFrom_step s f p hp] at h
      rcases List.mem_cons.1 h with rfl | h
      · have := rune_le s p; omega
      · exact runesFrom_bd s f _ x h
    · rw [runesFrom_end s _ p hp] at h; simp at h
theorem decList_bd (s : ByteArray) : ∀ x ∈ decList s, 0 ≤ x ∧ x ≤ 1114111 := by
  intro x hx
  unfold decList at hx
  split at hx
  · simp at hx
  · unfold decL at hx
    split at hx
    · exact runesFrom_bd s _ _ x hx
    · simp at hx
def FiAll (s : ByteArray) (k head : Int) (w : World) (e : Ending) (w' : World) : Prop :=
  (fzCode s k head ≠ 0 ∧ e = .returned (.tuple #[.agg #[.slice none 0 0], .int .i64 (fzCode s k head)]) ∧ Below w.heap.size w w') ∨ (fzCode s k head = 0 ∧ LnPost (decList s) (lettersZ (decList s)) k.toNat head.toNat w e w')
theorem fz_end (w w2 : World) (hb2 : Below (w.alloc (.cells #[.slice none 0 0] 27)).heap.size (w.alloc (.cells #[.slice none 0 0] 27)) w2) : w2.heap[w.heap.size]? = some (.cells #[.slice none 0 0] 27) ∧ w2.cell? ⟨w.heap.size, 0, none⟩ = some (.slice none 0 0) ∧ w2.frozen? ⟨w.heap.size, 0, none⟩ = false ∧ (w2.setCell ⟨w.heap.size, 0, none⟩ (.slice none 0 0)).cell? ⟨w.heap.size, 0, none⟩ = some (.slice none 0 0) ∧ Below w.heap.size w (w2.setCell ⟨w.heap.size, 0, none⟩ (.slice none 0 0)) ∧ Below w.heap.size w w2 := by
  have hres : w2.heap[w.heap.size]? = some (.cells #[.slice none 0 0] 27) := blko (heap_alloc_new _ _) hb2
  have hbw : Below w.heap.size w w2 := ((Below.refl _ _).alloc (Nat.le_refl _) _).trans (hb2.mono (by simp))
  refine ⟨hres, blkc hres 0, blkf hres 0, ?_, ?_, hbw⟩
  · have := blk_setk hres 0 (.slice none 0 0)
    rw [blkc this 0]; simp
  · exact hbw.trans (((But.refl (fun b => b = w.heap.size) w2).set (w.heap.size) 0 _ rfl).below hbw.size (fun j hj e => by omega))
set_option maxHeartbeats 8000000 in
theorem implFuzzy_bad (s : ByteArray) (k head : Int) (w : World) (hs : s.size ≤ 1048576) (hT : Tabs w) (hbad : fzCode s k head ≠ 0) :
    Calls Tryd.prog 9 #[.string s, .int .i64 k, .int .i64 head] w fun e w' => e = .returned (.tuple #[.agg #[.slice none 0 0], .int .i64 (fzCode s k head)]) ∧ Below w.heap.size w w' := by
  have HDec := hidd (implDecode_any s (w.alloc (.cells #[.slice none 0 0] 27)) hs (hT.below ((Below.refl _ _).alloc (Nat.le_refl _) _)))
  by_cases hc : decCode s = 0
  · have hne : ¬ ((decList s).length ≤ 30 ∧ 0 ≤ k ∧ k ≤ 2 ∧ 0 ≤ head ∧ head ≤ (decList s).length) := fun h => hbad (by rw [fzCode, if_pos hc, if_pos h])
    have HE : Hid (fzCode s k head = 12) := by show _ = _; rw [fzCode, if_pos hc, if_neg hne]
    have HC := hidd hc
    clear hbad hc
    go_enter Tryd.func9, Tryd.ntmps9
    go_wp2_with fail
    refine HDec.out.mono ?_
    rintro e w2 ⟨vw, rfl, hown, hb2⟩
    rw [HC.out]
    obtain ⟨aw, cw, rfl⟩ := own_sl1 hown
    obtain ⟨-, e1, e2, e3, e4, -⟩ := fz_end w w2 hb2
    have He3 := hidd e3
    have He4 := hidd e4
    clear hb2 e3 e4 hown HDec
    generalize (decList s).length = n at *
    by_cases h1 : 30 < n
    · have g1 : (30 : Int) < (n : Int) := by omega
      have d1 : decide ((30 : Int) < (n : Int)) = true := decide_eq_true g1
      go_wp2_with fail
      refine bodyPost_ret (v := .tuple #[.agg #[.slice none 0 0], .int .i64 12]) (by have q := He3.out; simp [results, Tryd.results9, go_sem, q]) rfl ?_
      exact ⟨by rw [HE.out], He4.out⟩
    · have g1 : ¬ (30 : Int) < (n : Int) := by omega
      have d1 : decide ((30 : Int) < (n : Int)) = false := decide_eq_false g1
      by_cases h2 : 0 ≤ k ∧ k ≤ 2
      · have h3 : ¬ (0 ≤ head ∧ head ≤ (n : Int)) := fun h => hne ⟨by omega, h2.1, h2.2, h.1, h.2⟩
        have d2 : (decide (0 ≤ k) && decide (k ≤ 2)) = true := by simp [h2]
        have d3 : (decide (0 ≤ head) && decide (head ≤ (n : Int))) = false := by
          rw [Bool.and_eq_false_iff]
          by_cases h4 : 0 ≤ head
          · exact Or.inr (decide_eq_false (fun h5 => h3 ⟨h4, h5⟩))
          · exact Or.inl (decide_eq_false h4)
        have HW1 := hidd (within_any k 0 2 w2)
        have HW2 := hidd (within_any head 0 n w2)
        rw [d2] at HW1
        rw [d3] at HW2
        clear hne h2 h3 d2 d3
        go_wp2_with fail
        refine HW1.out.mono ?_
        rintro e w3 ⟨rfl, rfl⟩
        go_wp2_with fail
        refine HW2.out.mono ?_
        rintro e w3 ⟨rfl, rfl⟩
        go_wp2_with fail
        refine bodyPost_ret (v := .tuple #[.agg #[.slice none 0 0], .int .i64 12]) (by have q := He3.out; simp [results, Tryd.results9, go_sem, q]) rfl ?_
        exact ⟨by rw [HE.out], He4.out⟩
      · have d2 : (decide (0 ≤ k) && decide (k ≤ 2)) = false := by
          rw [Bool.and_eq_false_iff]
          by_cases h4 : 0 ≤ k
          · exact Or.inr (decide_eq_false (fun h5 => h2 ⟨h4, h5⟩))
          · exact Or.inl (decide_eq_false h4)
        have HW1 := hidd (within_any k 0 2 w2)
        rw [d2] at HW1
        clear hne h2 d2
        go_wp2_with fail
        refine HW1.out.mono ?_
        rintro e w3 ⟨rfl, rfl⟩
        go_wp2_with fail
        refine bodyPost_ret (v := .tuple #[.agg #[.slice none 0 0], .int .i64 12]) (by have q := He3.out; simp [results, Tryd.results9, go_sem, q]) rfl ?_
        exact ⟨by rw [HE.out], He4.out⟩
  · have HE : Hid (fzCode s k head = decCode s) := by show _ = _; rw [fzCode, if_neg hc]
    have hcn := hc
    clear hbad
    go_enter Tryd.func9, Tryd.ntmps9
    go_wp2_with fail
    refine HDec.out.mono ?_
    rintro e w2 ⟨vw, rfl, hown, hb2⟩
    obtain ⟨aw, cw, rfl⟩ := own_sl1 hown
    obtain ⟨-, e1, e2, e3, e4, -⟩ := fz_end w w2 hb2
    have He3 := hidd e3
    have He4 := hidd e4
    clear hb2 e3 e4 hown HDec hcn
    generalize decCode s = dc at *
    have hbe : (dc == 0) = false := by simpa using hc
    go_wp2_with fail
    refine bodyPost_ret (v := .tuple #[.agg #[.slice none 0 0], .int .i64 dc]) (by have q := He3.out; simp [results, Tryd.results9, go_sem, q]) rfl ?_
    exact ⟨by rw [HE.out], He4.out⟩
end Go.Proofs.YtoinajfliogcdaaDoor
