import Derived.Test.YtifgcimmlonagaaDoorSuggestJ27
import Derived.Test.YtifgcimmlonagaaDoorSuggestJ18
import Derived.Test.YtifgcimmlonagaaDoorSuggestJ19
import Derived.Test.YtifgcimmlonagaaDoorSuggestJ24
namespace Go.Proofs.YtifgcimmlonagaaDoor
open Go Go.RowKit
set_option linter.unusedVariables false
set_option maxRecDepth 100000

/-! Words that are being drawn. -/
/-- The source, wherever it has come to (at most A bytes on), and the words so far. -/
structure Dw (w W : World) (ao : Option Addr) (n cap : Nat) (A : Int) (v : Value) (L : List Tx) : Prop where
  src : ∃ a sd : Int, 0 ≤ a ∧ a ≤ A ∧ 0 ≤ sd ∧ sd < 2147483648 ∧ SrcAt W w.heap.size (.slice ao n cap) a sd
  code : CodeIn w ao n
  bel : Below w.heap.size w W
  own : W.ownsRow (w.heap.size + 1) 9 1 v L.length (tmCells L)
  sm : ∀ x ∈ L, x.length ≤ 300
section
variable {w W W' : World} {ao : Option Addr} {n cap : Nat} {A : Int} {v : Value} {L : List Tx}
theorem CodeIn.at {w W : World} {ao : Option Addr} {n : Nat} (h : CodeIn w ao n) (hb : Below w.heap.size w W) : Code W w.heap.size ao n := fun j hj => by
  obtain ⟨blk, off, z, h1, h2, h3, h4, h5⟩ := h j hj
  exact ⟨blk, off, z, h1, by omega, h3, h4, (hb.cell (p := ⟨blk, off + j, none⟩) h2).trans h5⟩
theorem Dw.lt (h : Dw w W ao n cap A v L) : w.heap.size < W.heap.size := by
  obtain ⟨_, _, _, _, _, _, h⟩ := h.src
  exact h.lt
theorem Dw.mono (h : Dw w W ao n cap A v L) {A' : Int} (hA : A ≤ A') : Dw w W ao n cap A' v L := by
  obtain ⟨a, sd, h1, h2, h3, h4, h5⟩ := h.src
  exact ⟨⟨a, sd, h1, by omega, h3, h4, h5⟩, h.code, h.bel, h.own, h.sm⟩
/-- After a draw: the source's block alone has changed. -/
theorem Dw.draw (h : Dw w W ao n cap A v L) {A' : Int} {a sd : Int} (h0 : 0 ≤ a) (h1 : a ≤ A') (h2 : 0 ≤ sd) (h3 : sd < 2147483648) (hs : SrcAt W' w.heap.size (.slice ao n cap) a sd) (hg : W.grownBy W' (some w.heap.size)) : Dw w W' ao n cap A' v L := by
  refine ⟨⟨a, sd, h0, h1, h2, h3, hs⟩, h.code, h.bel.grown hg h.bel.size (fun k e => by cases e; exact Nat.le_refl _), own_congr h.own fun b hb => ?_, h.sm⟩
  have := h.own.lt b hb
  exact hg.block b this.2 (fun e => by cases e; omega)
theorem Dw.below (h : Dw w W ao n cap A v L) (hb : Below W.heap.size W W') : Dw w W' ao n cap A v L := by
  obtain ⟨a, sd, h1, h2, h3, h4, h5⟩ := h.src
  exact ⟨⟨a, sd, h1, h2, h3, h4, (hb.block _ h5.lt).trans h5⟩, h.code, h.bel.trans (hb.mono h.bel.size), own_below h.own hb, h.sm⟩
theorem Dw.alloc (h : Dw w W ao n cap A v L) (o : Obj) : Dw w (W.alloc o) ao n cap A v L := h.below ((Below.refl _ _).alloc (Nat.le_refl _) _)
theorem Dw.grow (h : Dw w W ao n cap A v L) {v' : Value} {L' : List Tx} (hg : W.grownBy W' v.ownBlock) (hown : W'.ownsRow (w.heap.size + 1) 9 1 v' L'.length (tmCells L')) (hsm : ∀ x ∈ L', x.length ≤ 300) : Dw w W' ao n cap A v' L' := by
  obtain ⟨a, sd, h1, h2, h3, h4, h5⟩ := h.src
  refine ⟨⟨a, sd, h1, h2, h3, h4, (hg.block _ h5.lt (fun e => ?_)).trans h5⟩, h.code, h.bel.grown hg h.bel.size (fun k hk => ?_), hown, hsm⟩
  · have := (h.own.lt _ e.symm).1
    omega
  · have := (h.own.lt _ hk).1
    omega
theorem Dw.next (h : Dw w W ao n cap A v L) (hn : n ≤ 1048576) (hA : A ≤ 274877906944) (m : Int) (hm : 1 ≤ m) (hm2 : m ≤ 16777216) :
    Calls Tryd.prog 15 #[.pointer (some ⟨w.heap.size, 0, none⟩), .int .i64 m] W fun e w' => ∃ x : Nat, e = .returned (.int .i64 (x : Int)) ∧ (x : Int) < m ∧ Dw w w' ao n cap (A + 3) v L := by
  obtain ⟨a, sd, h1, h2, h3, h4, h5⟩ := h.src
  refine (next_any w.heap.size ao n cap a sd m W hn hm hm2 h1 (by omega) h3 h4 h5 (h.code.at h.bel)).mono ?_
  rintro e w1 ⟨x, a1, sd1, rfl, hx0, hx1, ha3, ha4, hsd0, hsd1, hs1', hg1⟩
  obtain ⟨X, rfl⟩ := Int.eq_ofNat_of_zero_le hx0
  exact ⟨X, rfl, by omega, h.draw (by omega) (by omega) hsd0 hsd1 hs1' hg1⟩
theorem Dw.chance (h : Dw w W ao n cap A v L) (hn : n ≤ 1048576) (hA : A ≤ 274877906944) (m : Int) (hm : 1 ≤ m) (hm2 : m ≤ 16777216) :
    Calls Tryd.prog 20 #[.pointer (some ⟨w.heap.size, 0, none⟩), .int .i64 m] W fun e w' => ∃ x : Bool, e = .returned (.bool x) ∧ Dw w w' ao n cap (A + 3) v L := by
  obtain ⟨a, sd, h1, h2, h3, h4, h5⟩ := h.src
  refine (chance_any w.heap.size ao n cap a sd m W hn hm hm2 h1 (by omega) h3 h4 h5 (h.code.at h.bel)).mono ?_
  rintro e w1 ⟨x, a1, sd1, rfl, ha3, ha4, hsd0, hsd1, hs1', hg1⟩
  exact ⟨x, rfl, h.draw (by omega) (by omega) hsd0 hsd1 hs1' hg1⟩
theorem Dw.size (h : Dw w W ao n cap A v L) (hn : n ≤ 1048576) (m : Int) (hm : 1 ≤ m) (hm2 : m ≤ 16777216) :
    Calls Tryd.prog 16 #[.pointer (some ⟨w.heap.size, 0, none⟩), .int .i64 m] W fun e w' => ∃ x : Int, e = .returned (.int .i64 x) ∧ 1 ≤ x ∧ x ≤ m ∧ w' = W := by
  obtain ⟨a, sd, h1, h2, h3, h4, h5⟩ := h.src
  exact srcSize_any w.heap.size ao n cap a sd m W hn hm hm2 h5
theorem Dw.word (h : Dw w W ao n cap A v L) (hn : n ≤ 1048576) (hA : A ≤ 274877906944) :
    Calls Tryd.prog 17 #[.pointer (some ⟨w.heap.size, 0, none⟩)] W fun e w' => ∃ t : ByteArray, e = .returned (.string t) ∧ t.size ≤ 16 ∧ Dw w w' ao n cap (A + 3) v L := by
  obtain ⟨a, sd, h1, h2, h3, h4, h5⟩ := h.src
  refine (word_any w.heap.size ao n cap a sd W hn h1 (by omega) h3 h4 h5 (h.code.at h.bel)).mono ?_
  rintro e w1 ⟨x, a1, sd1, rfl, hx, ha3, ha4, hsd0, hsd1, hs1', hg1⟩
  exact ⟨x, rfl, hx, h.draw (by omega) (by omega) hsd0 hsd1 hs1' hg1⟩
theorem Dw.spoil (h : Dw w W ao n cap A v L) (hn : n ≤ 1048576) (hA : A ≤ 268435456) (t : ByteArray) (ht : t.size ≤ 65536) :
    Calls Tryd.prog 18 #[.pointer (some ⟨w.heap.size, 0, none⟩), .string t] W fun e w' => ∃ t' : ByteArray, e = .returned (.string t') ∧ t'.size ≤ t.size + 1 ∧ Dw w w' ao n cap (A + 12) v L := by
  obtain ⟨a, sd, h1, h2, h3, h4, h5⟩ := h.src
  refine (spoil_any w.heap.size ao n cap a sd t W hn ht h1 (by omega) h3 h4 h5 (h.code.at h.bel)).mono ?_
  rintro e w1 ⟨x, a1, sd1, rfl, hx, ha3, ha4, hsd0, hsd1, hs1', hg1⟩
  exact ⟨x, rfl, hx, h.draw (by omega) (by omega) hsd0 hsd1 hs1' hg1⟩
end
theorem tl_bs (t : ByteArray) : bs t.data.toList = t := by
  apply ByteArray.ext
  show t.data.toList.toArray = t.data
  simp
theorem tl_len (t : ByteArray) : t.data.toList.length = t.size := by rw [Array.length_toList]; rfl
end Go.Proofs.YtifgcimmlonagaaDoor

namespace Go.Proofs.YtifgcimmlonagaaDoor
open Go Go.RowKit
set_option linter.unusedVariables false
set_option maxRecDepth 100000
set_option linter.unusedSimpArgs false

/-! spec.DrawSuggest. -/
set_option maxHeartbeats 8000000 in
theorem drawSg_any (ao : Option Addr) (n cap : Nat) (w : World) (hn : n ≤ 1048576) (hc : CodeIn w ao n) :
    Calls Tryd.prog 5 #[.slice ao n cap] w fun e w' => ∃ (v : Value) (L : List Tx) (t : ByteArray) (most : Int), e = .returned (.tuple #[v, .string t, .int .i64 most]) ∧ w'.ownsRow w.heap.size 9 1 v L.length (tmCells L) ∧ L.length ≤ 64 ∧ (∀ x ∈ L, x.length ≤ 300) ∧ t.size ≤ 300 ∧ -1 ≤ most ∧ most ≤ 21 ∧ Below w.heap.size w w' := by
  obtain ⟨i0, hi0, hz0, hz1, hz2⟩ := info_parts Tryd.infoStrX
  have HC := hidd hc
  clear hc
  go_enter Tryd.func5, Tryd.ntmps5
  go_wp2_with fail
  refine (source_any ao n cap _ hn).mono ?_
  rintro e w1 ⟨rfl, hs1, hg1⟩
  have hm0 : 0 ≤ (n : Int) % 1000 := Int.emod_nonneg _ (by omega)
  have hm1 : (n : Int) % 1000 < 2147483648 := by have := Int.emod_lt_of_pos (n : Int) (by omega : (0 : Int) < 1000); omega
  have HB1 : Hid (Below w.heap.size w w1) := (Below.refl _ _).grown hg1 (Nat.le_refl _) (fun k h => by cases h)
  have HD0 : Hid (Dw w (w1.alloc (.cells #[] 9)) ao n cap 0 (.slice (some ⟨w1.heap.size, 0, none⟩) 0 0) []) := by
    refine ⟨⟨0, _, by omega, by omega, hm0, hm1, hs1.alloc _⟩, HC.out, HB1.out.alloc HB1.out.size _, own_mono (own_empty w1 _) ?_, fun x hx => by cases hx⟩
    exact hs1.lt
  clear hs1 hg1 HB1 hm0 hm1
  go_wp2_with fail
  try generalize w1.alloc (.cells #[] 9) = w2 at *
  try generalize (Value.slice (some ⟨w1.heap.size, 0, none⟩) 0 0) = v0 at *
  refine (HD0.out.size hn 30 (by omega) (by omega)).mono ?_
  rintro e w' ⟨x, rfl, hx0, hx1, hw'⟩
  obtain rfl := hw'.symm
  clear hw'
  go_wp2_with fail
  refine (HD0.out.next hn (by omega) (x + 1) (by omega) (by omega)).mono ?_
  rintro e w3 ⟨y, rfl, hy, hd3⟩
  have HD3 := hidd hd3
  clear hd3 HD0
  go_wp2_with fail
  go_loopw [6, 7] (fun vv iv wr => ∃ (i : Nat) (L : List Tx), iv = .int .i64 (i : Int) ∧ i + L.length ≤ 30 ∧ Dw w wr ao n cap (3 + 3 * (L.length : Int)) vv L) (fun _ iv _ => (intOf iv).toNat)
  case atStart => exact ⟨y, [], rfl, by simp; omega, HD3.out⟩
  case round =>
    clear HD3
    obtain ⟨i, L, rfl, hiL, hd⟩ := hrel
    have HD := hidd hd
    clear hd
    by_cases hi : 0 < i
    · have hiz : (i : Int) > 0 := by omega
      go_wp2_with fail
      refine (HD.out.word hn (by omega)).mono ?_
      rintro e w4 ⟨t, rfl, ht, hd4⟩
      have HD4 := hidd hd4
      have hlt4 := hd4.lt
      clear hd4 HD
      have HO4 := hidd (HD4.out.own.alloc (.cells #[.string t] 9))
      go_wp2_with (at_builtin; refine wpList_append_own_at _ rfl _ _ 23 rfl (w.heap.size + 1) 9 i0 (.string ⟨#[]⟩) 1 16 Tryd.underlying23 hi0 hz0 hz1 hz2 rfl (by decide) _ _ _ rfl HO4.out ⟨w4.heap.size, 0, none⟩ 1 1 [.string t] rfl rfl ?c1 ?c2 ?c3 ?c4 ?c5 ?_)
      case c1 => exact cell_one_new _ _ _
      case c2 => intro u hu; simp at hu; subst hu; rfl
      case c3 => unfold maxLen; omega
      case c4 => omega
      case c5 => simp; omega
      intro v6 w6 hown6 hgrow6 _ _
      have HD6 : Hid (Dw w w6 ao n cap (3 + 3 * ((L ++ [t.data.toList]).length : Int)) v6 (L ++ [t.data.toList])) := by
        refine ((HD4.out.alloc (.cells #[.string t] 9)).grow hgrow6 ?_ ?_).mono (by simp; omega)
        · rw [tmCells_snoc, tl_bs, List.length_append, List.length_singleton]
          exact hown6
        · intro x hx
          rcases List.mem_append.1 hx with hx | hx
          · exact HD4.out.sm x hx
          · have e : x = t.data.toList := by simpa using hx
            rw [e, tl_len]; omega
      clear hown6 hgrow6 HO4 HD4
      go_wp2_with fail
      go_roundw
      case rel => exact ⟨i - 1, L ++ [t.data.toList], by go_num, by rw [List.length_append, List.length_singleton]; omega, HD6.out⟩
      case measure => simp [intOf]; omega
    · have hiz : ¬ (i : Int) > 0 := by omega
      obtain rfl : i = 0 := by omega
      go_wp2_with fail
      refine (HD.out.word hn (by omega)).mono ?_
      rintro e w4 ⟨t, rfl, ht, hd4⟩
      have HD4 := hidd hd4
      clear hd4 HD
      go_wp2_with fail
      refine (HD4.out.next hn (by omega) 12 (by omega) (by omega)).mono ?_
      rintro e w5 ⟨z, rfl, hz, hd5⟩
      have HD5 := hidd hd5
      clear hd5 HD4
      have hL30 : L.length ≤ 30 := by omega
      have HD5' := hidd (HD5.out.mono (A' := 120) (by omega))
      clear HD5
      go_upto_block 2 with fail
      go_cut [6, 8] (fun vv tv wy => ∃ (L' : List Tx) (t' : ByteArray), tv = .string t' ∧ t'.size ≤ 300 ∧ L'.length ≤ 32 ∧ Dw w wy ao n cap 140 vv L')
      case first =>
        by_cases h01 : z = 0 ∨ z = 1
        · have hstep : Hid (∀ W, Dw w W ao n cap 120 u6 L → Calls Tryd.prog 18 #[.pointer (some ⟨w.heap.size, 0, none⟩), .string t] W fun e w' => ∃ t' : ByteArray, e = .returned (.string t') ∧ t'.size ≤ t.size + 1 ∧ Dw w w' ao n cap (120 + 12) u6 L) := fun W h => h.spoil hn (by omega) t (by omega)
          rcases h01 with rfl | rfl
          all_goals
            go_wp2_with fail
            refine (hstep.out _ HD5'.out).mono ?_
            rintro e w6 ⟨t', rfl, ht', hd6⟩
            have HD6 := hidd hd6
            clear hd6
            go_wp2_with fail
            go_meet
            case rel => exact ⟨L, t', rfl, by omega, by omega, HD6.out.mono (by omega)⟩
        · have hz0n : ((z : Int) == 0) = false := beq_eq_false_iff_ne.2 (by omega)
          have hz1n : ((z : Int) == 1) = false := beq_eq_false_iff_ne.2 (by omega)
          by_cases h2 : z = 2
          · subst h2
            go_wp2_with fail
            refine (HD5'.out.spoil hn (by omega) t (by omega)).mono ?_
            rintro e w6 ⟨t', rfl, ht', hd6⟩
            have HD6 := hidd hd6
            have hlt6 := hd6.lt
            clear hd6 HD5'
            have HO6 := hidd (HD6.out.own.alloc (.cells #[.string t'] 9))
            go_wp2_with (at_builtin; refine wpList_append_own_at _ rfl _ _ 23 rfl (w.heap.size + 1) 9 i0 (.string ⟨#[]⟩) 1 16 Tryd.underlying23 hi0 hz0 hz1 hz2 rfl (by decide) _ _ _ rfl HO6.out ⟨w6.heap.size, 0, none⟩ 1 1 [.string t'] rfl rfl ?c1 ?c2 ?c3 ?c4 ?c5 ?_)
            case c1 => exact cell_one_new _ _ _
            case c2 => intro u hu; simp at hu; subst hu; rfl
            case c3 => unfold maxLen; omega
            case c4 => omega
            case c5 => simp; omega
            intro v7 w7 hown7 hgrow7 _ _
            have HD7 : Hid (Dw w w7 ao n cap 140 v7 (L ++ [t'.data.toList])) := by
              refine ((HD6.out.alloc (.cells #[.string t'] 9)).grow hgrow7 ?_ ?_).mono (by omega)
              · rw [tmCells_snoc, tl_bs, List.length_append, List.length_singleton]
                exact hown7
              · intro x hx
                rcases List.mem_append.1 hx with hx | hx
                · exact HD6.out.sm x hx
                · have e : x = t'.data.toList := by simpa using hx
                  rw [e, tl_len]; omega
            clear hown7 hgrow7 HO6 HD6
            go_wp2_with fail
            go_meet
            case rel => exact ⟨L ++ [t'.data.toList], t, rfl, by omega, by rw [List.length_append, List.length_singleton]; omega, HD7.out⟩
          · have hz2n : ((z : Int) == 2) = false := beq_eq_false_iff_ne.2 (by omega)
            by_cases h3 : z = 3
            · subst h3
              go_wp2_with fail
              refine (HD5'.out.next hn (by omega) 2 (by omega) (by omega)).mono ?_
              rintro e w6 ⟨p, rfl, hp, hd6⟩
              have HD6 := hidd hd6
              clear hd6 HD5'
              have HRp := hidd (repeat_any ⟨#[115]⟩ (200 + p) w6 (by decide) (by omega))
              have hpz : ((200 + p : Nat) : Int) = 200 + (p : Int) := by omega
              rw [hpz] at HRp
              go_wp2_with fail
              refine HRp.out.mono ?_
              rintro e w7 ⟨r, rfl, hr, hb7⟩
              have HD7 := hidd (HD6.out.below hb7)
              have hr2 : r.size ≤ 201 := by
                have e : (⟨#[115]⟩ : ByteArray).size = 1 := rfl
                rw [e] at hr
                omega
              have hlt7 := HD7.out.lt
              clear hb7 HD6 HRp hr
              obtain ⟨r2, hr2e⟩ : ∃ r2, r ++ (⟨#[115]⟩ : ByteArray) = r2 := ⟨_, rfl⟩
              have hr2s : r2.size ≤ 202 := by
                rw [← hr2e, ByteArray.size_append]
                have e : (⟨#[115]⟩ : ByteArray).size = 1 := rfl
                omega
              have HO7 := hidd (HD7.out.own.alloc (.cells #[.string r2, .string r] 9))
              go_wp2_with (at_builtin; refine wpList_append_own_at _ rfl _ _ 23 rfl (w.heap.size + 1) 9 i0 (.string ⟨#[]⟩) 1 16 Tryd.underlying23 hi0 hz0 hz1 hz2 rfl (by decide) _ _ _ rfl HO7.out ⟨w7.heap.size, 0, none⟩ 2 2 [.string r2, .string r] rfl rfl ?c1 ?c2 ?c3 ?c4 ?c5 ?_)
              case c1 =>
                intro j u hj
                match j, hj with
                | 0, hj => simp at hj; subst hj; rw [add_head]; exact blkc (heap_alloc_new w7 _) 0
                | 1, hj => simp at hj; subst hj; exact blkc (heap_alloc_new w7 _) 1
                | j + 2, hj => simp at hj
              case c2 =>
                intro u hu
                simp at hu
                rcases hu with rfl | rfl <;> rfl
              case c3 => unfold maxLen; omega
              case c4 => omega
              case c5 => simp; omega
              intro v8 w8 hown8 hgrow8 _ _
              have HD8 : Hid (Dw w w8 ao n cap 140 v8 (L ++ [r2.data.toList, r.data.toList])) := by
                refine ((HD7.out.alloc (.cells #[.string r2, .string r] 9)).grow hgrow8 ?_ ?_).mono (by omega)
                · have e : tmCells (L ++ [r2.data.toList, r.data.toList]) = tmCells L ++ [.string r2, .string r] := by
                    simp [tmCells, tl_bs]
                  rw [e, List.length_append]
                  exact hown8
                · intro x hx
                  rcases List.mem_append.1 hx with hx | hx
                  · exact HD7.out.sm x hx
                  · have e : x = r2.data.toList ∨ x = r.data.toList := by simpa using hx
                    rcases e with e | e <;> rw [e, tl_len] <;> omega
              clear hown8 hgrow8 HO7 HD7
              go_wp2_with fail
              go_meet
              case rel => exact ⟨L ++ [r2.data.toList, r.data.toList], r, rfl, by omega, by rw [List.length_append]; simp; omega, HD8.out⟩
            · have hz3n : ((z : Int) == 3) = false := beq_eq_false_iff_ne.2 (by omega)
              go_wp2_with fail
              go_meet
              case rel => exact ⟨L, t, rfl, by omega, by omega, HD5'.out.mono (by omega)⟩
      case rest =>
        clear HD5' hL30 ht
        obtain ⟨L', t', rfl, ht', hL', hd6⟩ := hcut
        have HD6 := hidd hd6
        clear hd6
        go_wp2_with fail
        refine (HD6.out.next hn (by omega) 8 (by omega) (by omega)).mono ?_
        rintro e w7 ⟨q, rfl, hq, hd7⟩
        have HD7 := hidd hd7
        clear hd7 HD6
        go_wp2_with fail
        refine (HD7.out.chance hn (by omega) 10 (by omega) (by omega)).mono ?_
        rintro e w8 ⟨ch, rfl, hd8⟩
        have HD8 := hidd hd8
        clear hd8 HD7
        have HR : Hid (∀ W, Dw w W ao n cap 200 u6 L' → W.ownsRow w.heap.size 9 1 u6 L'.length (tmCells L') ∧ Below w.heap.size w W ∧ ∀ x ∈ L', x.length ≤ 300) := fun W h => ⟨own_mono h.own (by omega), h.bel, h.sm⟩
        cases ch with
        | false =>
          have HE := hidd (HR.out w8 (HD8.out.mono (by omega)))
          clear HR HD8
          go_wp2_with fail
          go_ret3
          exact ⟨_, L', t', (q : Int), rfl, HE.out.1, by omega, HE.out.2.2, ht', by omega, by omega, HE.out.2.1⟩
        | true =>
          have HD8a := hidd (HD8.out.alloc (.cells #[.int .i64 (-1), .int .i64 20, .int .i64 21] 3))
          have hz8 := HD8.out.lt
          clear HD8
          go_wp2_with fail
          obtain ⟨aa, sd, h1, h2, h3, h4, h5⟩ := HD8a.out.src
          refine (next_any w.heap.size ao n cap aa sd 3 _ hn (by omega) (by omega) h1 (by omega) h3 h4 h5 (HD8a.out.code.at HD8a.out.bel)).mono ?_
          rintro e w9 ⟨r, a1, sd1, rfl, hr0, hr1, ha3, ha4, hsd0, hsd1, hs1', hg1⟩
          obtain ⟨R, rfl⟩ := Int.eq_ofNat_of_zero_le hr0
          have HE := hidd (HR.out w9 (HD8a.out.draw (by omega) (by omega) hsd0 hsd1 hs1' hg1))
          have hblk : w9.heap[w8.heap.size]? = some (.cells #[.int .i64 (-1), .int .i64 20, .int .i64 21] 3) := (hg1.block _ (by simp) (fun e => by injection e with e; omega)).trans (heap_alloc_new w8 _)
          obtain ⟨mz, hmz, hmz0, hmz1⟩ : ∃ mz : Int, w9.cell? ⟨w8.heap.size, R, none⟩ = some (.int .i64 mz) ∧ -1 ≤ mz ∧ mz ≤ 21 := by
            rw [blkc hblk]
            match R, (by omega : R < 3) with
            | 0, _ => exact ⟨-1, rfl, by omega, by omega⟩
            | 1, _ => exact ⟨20, rfl, by omega, by omega⟩
            | 2, _ => exact ⟨21, rfl, by omega, by omega⟩
          have hRz : (R : Int) < 3 := by omega
          clear hblk hs1' hg1 HR HD8a h5
          go_wp2_with fail
          go_ret3
          exact ⟨_, L', t', mz, rfl, HE.out.1, by omega, HE.out.2.2, ht', by omega, by omega, HE.out.2.1⟩
end Go.Proofs.YtifgcimmlonagaaDoor

namespace Go.Proofs.YtifgcimmlonagaaDoor
open Go Go.RowKit
set_option linter.unusedVariables false

/-! impl.textsCode: what is wrong with texts. -/
def bs0 : ByteArray := ⟨#[]⟩
def txCode (l : List ByteArray) : Int := if l.any (fun s => decide (65536 < s.size)) = true then 2 else if l.all validB = true then 0 else 3
def TextsAt (w : World) (g : Nat) (l : List ByteArray) : Prop := ∀ t, t < l.length → w.cell? ⟨g, t, none⟩ = some (.string (l.getD t bs0))
theorem getD_mem' {l : List ByteArray} {k : Nat} (h : k < l.length) : l.getD k bs0 ∈ l := by
  rw [List.getD_eq_getElem?_getD, List.getElem?_eq_getElem h]; exact List.getElem_mem _
theorem mem_getD {l : List ByteArray} {s : ByteArray} (h : s ∈ l) : ∃ k, k < l.length ∧ l.getD k bs0 = s := by
  obtain ⟨k, hk, e⟩ := List.getElem_of_mem h
  exact ⟨k, hk, by rw [List.getD_eq_getElem?_getD, List.getElem?_eq_getElem hk]; exact e⟩
set_option maxHeartbeats 2000000 in
set_option maxRecDepth 100000 in
theorem textsCode_any (g cap : Nat) (l : List ByteArray) (w : World) (hl : l.length ≤ 4096) (hsz : ∀ s ∈ l, s.size ≤ 1048576) (hg : g < w.heap.size) (hc : TextsAt w g l) (hT : Tabs w) :
    Calls Tryd.prog 33 #[.slice (some ⟨g, 0, none⟩) l.length cap] w fun e w' => e = .returned (.int .i64 (txCode l)) ∧ Below w.heap.size w w' := by
  have HT := hidd hT
  have HC := hidd hc
  have HS := hidd hsz
  clear hT hc hsz
  go_enter Tryd.func33, Tryd.ntmps33
  go_wp2
  go_loopw [10] (fun kv wr => ∃ k : Nat, k ≤ l.length ∧ kv = .int .i64 (k : Int) ∧ (∀ j, j < k → ¬ 65536 < (l.getD j bs0).size) ∧ wr = w) (fun kv _ => l.length - (intOf kv).toNat)
  case atStart => exact ⟨0, Nat.zero_le _, rfl, fun j h => by omega, rfl⟩
  case round =>
    obtain ⟨k, hk, rfl, hsh, hw'⟩ := hrel
    obtain rfl := hw'.symm
    have HSh := hidd hsh
    clear hsh
    by_cases hlt : k < l.length
    · have hltz : (k : Int) < (l.length : Int) := by omega
      have c1 := HC.out k hlt
      have Hm := hidd (getD_mem' hlt)
      have Hnx : Hid (¬ 65536 < (l.getD k bs0).size → ∀ j, j < k + 1 → ¬ 65536 < (l.getD j bs0).size) := fun h j hj => by
        by_cases e : j = k
        · rw [e]; exact h
        · exact HSh.out j (by omega)
      generalize hsk : l.getD k bs0 = s at *
      clear hsk
      by_cases hlong : 65536 < s.size
      · have hlz : (65536 : Int) < (s.size : Int) := by omega
        have HX : Hid (txCode l = 2) := by show _ = _; rw [txCode, if_pos (List.any_eq_true.2 ⟨s, Hm.out, by simpa using hlong⟩)]
        go_wp2
        go_ret
        rw [HX.out]
        exact ⟨rfl, Below.refl _ _⟩
      · have hlz : ¬ (65536 : Int) < (s.size : Int) := by omega
        go_wp2
        go_roundw
        case rel => exact ⟨k + 1, by omega, by go_num, Hnx.out hlong, by first | rfl | trivial⟩
        case measure => simp [intOf]; omega
    · have hltz : ¬ (k : Int) < (l.length : Int) := by omega
      obtain rfl : k = l.length := by omega
      have HNo : Hid (¬ l.any (fun s => decide (65536 < s.size)) = true) := by
        intro h
        obtain ⟨s, hs, h1⟩ := List.any_eq_true.1 h
        obtain ⟨j, hj, e⟩ := mem_getD hs
        exact HSh.out j hj (by rw [e]; simpa using h1)
      go_wp2
      go_loopw [20] (fun kv wr => ∃ k : Nat, k ≤ l.length ∧ kv = .int .i64 (k : Int) ∧ (∀ j, j < k → validB (l.getD j bs0) = true) ∧ Below w.heap.size w wr) (fun kv _ => l.length - (intOf kv).toNat)
      case atStart => exact ⟨0, Nat.zero_le _, rfl, fun j h => by omega, Below.refl _ _⟩
      case round =>
        obtain ⟨k, hk2, rfl, hva, hbel⟩ := hrel
        have HVa := hidd hva
        have HB := hidd hbel
        clear hva hbel
        by_cases hlt : k < l.length
        · have hltz : (k : Int) < (l.length : Int) := by omega
          have c1 := (HB.out.cell (p := ⟨g, k, none⟩) hg).trans (HC.out k hlt)
          have Hm := hidd (getD_mem' hlt)
          have Hle := hidd (HSh.out k hlt)
          have Hnx : Hid (validB (l.getD k bs0) = true → ∀ j, j < k + 1 → validB (l.getD j bs0) = true) := fun h j hj => by
            by_cases e : j = k
            · rw [e]; exact h
            · exact HVa.out j (by omega)
          have hs1 := HS.out _ Hm.out
          have Htc := hidd (textCode_any (l.getD k bs0) wr hs1 (HT.out.below HB.out))
          generalize hsk : l.getD k bs0 = s at *
          clear hsk
          cases hv : validB s with
          | true =>
            have Hc0 : Hid (decCode s = 0) := (decList_ok Hle.out hv).2
            have HV2 := hidd (Hnx.out hv)
            clear hv
            go_wp2_with fail
            refine Htc.out.mono ?_
            rintro e w1 ⟨rfl, hb1⟩
            rw [Hc0.out]
            have HB1 := hidd (HB.out.trans (hb1.mono HB.out.size))
            clear hb1
            go_wp2
            go_roundw
            case rel => exact ⟨k + 1, by omega, by go_num, HV2.out, HB1.out⟩
            case measure => simp [intOf]; omega
          | false =>
            have Hc0 : Hid (decCode s = 3) := decCode_bad Hle.out hv
            have HX : Hid (txCode l = 3) := by
              show _ = _
              rw [txCode, if_neg HNo.out, if_neg]
              intro h
              have := List.all_eq_true.1 h s Hm.out
              rw [hv] at this
              cases this
            clear hv
            go_wp2_with fail
            refine Htc.out.mono ?_
            rintro e w1 ⟨rfl, hb1⟩
            rw [Hc0.out]
            have HB1 := hidd (HB.out.trans (hb1.mono HB.out.size))
            clear hb1
            go_wp2
            go_ret
            rw [HX.out]
            exact ⟨rfl, HB1.out⟩
        · have hltz : ¬ (k : Int) < (l.length : Int) := by omega
          obtain rfl : k = l.length := by omega
          have HX : Hid (txCode l = 0) := by
            show _ = _
            rw [txCode, if_neg HNo.out, if_pos]
            refine List.all_eq_true.2 fun s hs => ?_
            obtain ⟨j, hj, e⟩ := mem_getD hs
            rw [← e]; exact HVa.out j hj
          go_wp2
          go_ret
          rw [HX.out]
          exact ⟨rfl, HB.out⟩
end Go.Proofs.YtifgcimmlonagaaDoor
