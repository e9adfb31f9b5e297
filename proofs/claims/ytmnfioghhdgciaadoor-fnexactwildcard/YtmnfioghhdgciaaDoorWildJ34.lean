import Derived.Test.YtmnfioghhdgciaaDoorWildJ33
import Derived.Test.YtmnfioghhdgciaaDoorWildJ08
import Derived.Test.YtmnfioghhdgciaaDoorWildJ31
import Derived.Sort.OwnSortedInts
import Derived.Shelf.Slices.In.SortNone
import Derived.Test.YtmnfioghhdgciaaDoorWildJ32
import Derived.Test.YtmnfioghhdgciaaDoorWildJ17
import Derived.Test.YtmnfioghhdgciaaDoorWildJ30
namespace Go.Proofs.YtmnfioghhdgciaaDoor
open Go Go.RowKit Go.Sort
set_option linter.unusedVariables false
set_option maxRecDepth 100000
set_option linter.unusedSimpArgs false

/-! The alphabet of a word. -/
theorem grown_reflI (w : World) (o : Option Nat) : w.grownBy w o := ⟨rfl, rfl, rfl, Nat.le_refl _, fun _ _ _ => rfl⟩
theorem own_cutI {w : World} {base e n g cap i : Nat} {xs : List Value} (h : w.ownsRow base e 1 (.slice (some ⟨g, 0, none⟩) n cap) n xs) (hi : i ≤ n) : w.ownsRow base e 1 (.slice (some ⟨g, 0, none⟩) i cap) i (xs.take i) := by
  refine ⟨by rw [List.length_take, h.1]; omega, ?_⟩
  rcases h.2 with ⟨h', _⟩ | ⟨g', cap', cur, h1, h2, h3, h4, h5, h6, h7⟩
  · cases h'
  · simp only [Value.slice.injEq, Option.some.injEq, Addr.mk.injEq, and_true, true_and] at h1
    obtain ⟨rfl, rfl⟩ := h1
    refine Or.inr ⟨g, cap, cur, rfl, h2, h3, by omega, h5, h6, ?_⟩
    rw [← h7, List.take_take]
    congr 1
    omega
def srtZ (zs : List Int) : List Int := zs.mergeSort fun x y => decide (x ≤ y)
theorem srtZ_len (zs : List Int) : (srtZ zs).length = zs.length := List.length_mergeSort _
theorem sortRowI_any (F : List Int) (base : Nat) (v : Value) (w : World) (hl : F.length ≤ 1048576) (hown : w.ownsRow base 3 1 v F.length (zI F)) :
    Calls Tryd.prog 64 #[v] w fun e w' => e = .returned (.tuple #[]) ∧ w'.ownsRow base 3 1 v F.length (zI (srtZ F)) ∧ w.grownBy w' v.ownBlock := by
  have hsl : (srtZ F).length = F.length := srtZ_len F
  rcases hown.2 with ⟨rfl, h0⟩ | ⟨g, cap, cur, rfl, hb, hg, hc1, hc2, hc3, hc4⟩
  · have hF : F = [] := List.length_eq_zero_iff.1 h0
    subst hF
    refine (Any.slices_Sort_int_none Tryd.laysSortI none 0 w).mono ?_
    rintro e w' ⟨rfl, hw⟩
    obtain rfl := hw.symm
    have e0 : srtZ ([] : List Int) = [] := by simp [srtZ]
    exact ⟨rfl, by rw [e0]; exact hown, grown_reflI _ _⟩
  · have hH : Holds (Value.int .i64) w g 0 F.toArray := holds_of_blockI hg (by rw [Nat.mul_one] at hc4; exact hc4)
    refine (Any.slices_Sort_int Tryd.laysSortI g 0 cap F w hH (Array.getElem?_eq_some_iff.1 hg).1 (by omega)).mono ?_
    rintro e w' ⟨rfl, n, os, rfl⟩
    exact ⟨rfl, ownsRow_sortedI (ss := F) (ts := srtZ F) hsl hb hg hc1 hc2 hc3, grownBy_sortedI _⟩
theorem compRowI_any (S : List Int) (base : Nat) (v : Value) (w : World) (hl : S.length ≤ 1048576) (hown : w.ownsRow base 3 1 v S.length (zI S)) :
    Calls Tryd.prog 42 #[v] w fun e w' => ∃ v', e = .returned v' ∧ w'.ownsRow base 3 1 v' (Lib.compact S).length (zI (Lib.compact S)) ∧ w.grownBy w' v.ownBlock := by
  rcases hown.2 with ⟨rfl, h0⟩ | ⟨g, cap, cur, rfl, hb, hg, hc1, hc2, hc3, hc4⟩
  · have hF : S = [] := List.length_eq_zero_iff.1 h0
    subst hF
    refine (Any.slices_Compact_int_empty Tryd.laysCompI none 0 w).mono ?_
    rintro e w' ⟨rfl, hw⟩
    obtain rfl := hw.symm
    exact ⟨_, rfl, hown, grown_reflI _ _⟩
  · have hH : Holds (Value.int .i64) w g 0 S.toArray := holds_of_blockI hg (by rw [Nat.mul_one] at hc4; exact hc4)
    refine (Any.slices_Compact_int Tryd.laysCompI g 0 cap S w hH (by omega) hc1).mono ?_
    rintro e w' ⟨rfl, q, rfl⟩
    have hcl := compact_lenZ S
    have h1 := ownsRow_sortedI (n := q) (os := #[]) (ss := S) (ts := Lib.compact S ++ List.replicate (S.length - (Lib.compact S).length) 0) (by rw [List.length_append, List.length_replicate]; omega) hb hg hc1 hc2 hc3
    have h2 := grownBy_sortedI (w := w) (g := g) (n := q) (os := #[]) (Lib.compact S ++ List.replicate (S.length - (Lib.compact S).length) 0).toArray
    rw [grow_empty] at h1 h2
    have h3 := own_cutI h1 hcl
    rw [List.map_append, List.take_left' (by rw [List.length_map])] at h3
    exact ⟨_, rfl, h3, h2⟩
theorem grown_below {w0 w w' : World} {base : Nat} {v : Value} {n : Nat} {xs : List Value} {e : TypeId} (hb : Below w0.heap.size w0 w) (ho : w.ownsRow base e 1 v n xs) (hbase : w0.heap.size ≤ base) (hg : w.grownBy w' v.ownBlock) : Below w0.heap.size w0 w' :=
  ⟨hg.os.trans hb.os, hg.tape.trans hb.tape, hg.output.trans hb.output, Nat.le_trans hb.size hg.size, fun b hb' => (hg.block b (Nat.lt_of_lt_of_le hb' hb.size) (fun e => by have := (own_blk ho e.symm).1; omega)).trans (hb.block b hb')⟩
theorem atZ_hold {w : World} {v : Value} {zs : List Int} (h : HoldI w v zs) : ∃ ad cap, v = .slice ad zs.length cap ∧ ∀ i, i < zs.length → ∃ g off, ad = some ⟨g, off, none⟩ ∧ w.cell? ⟨g, off + i, none⟩ = some (.int .i64 (atZ zs i)) := by
  obtain ⟨ad, cap, rfl, h1⟩ := h
  refine ⟨ad, cap, rfl, fun i hi => ?_⟩
  rcases h1 with h1 | ⟨g, off, h2, _, h3⟩
  · rw [h1] at hi; simp at hi
  · exact ⟨g, off, h2, h3 i hi⟩
theorem collect_any (Bs cap : Nat) (ad : Option Addr) (zs : List Int) (w : World) (hN : zs.length ≤ 1048576) (hb : w.cell? ⟨Bs, 0, none⟩ = some (.slice ad zs.length cap)) (hz : ∀ i, i < zs.length → ∃ g off, ad = some ⟨g, off, none⟩ ∧ w.cell? ⟨g, off + i, none⟩ = some (.int .i64 (atZ zs i))) :
    Calls Tryd.prog 63 #[.func (.func 65) #[] #[.pointer (some ⟨Bs, 0, none⟩)]] w fun e w' => ∃ v, e = .returned v ∧ w'.ownsRow w.heap.size 3 1 v zs.length (zI zs) ∧ Below w.heap.size w w' := by
  have HC := hidd (appendSeq_any Bs cap ad zs w hN hb hz)
  clear hb hz
  go_enter Tryd.func63, Tryd.ntmps63
  go_wp2_with fail
  refine HC.out.mono ?_
  rintro e w1 ⟨v, rfl, h1, h2⟩
  obtain ⟨ad9, cp9, rfl⟩ := own_sl1 h1
  have H1 := hidd h1
  have H2 := hidd h2
  clear h1 h2
  go_wp2_with fail
  go_ret
  exact ⟨_, rfl, H1.out, H2.out⟩
theorem sorted_any (Bs cap : Nat) (ad : Option Addr) (zs : List Int) (w : World) (hN : zs.length ≤ 1048576) (hb : w.cell? ⟨Bs, 0, none⟩ = some (.slice ad zs.length cap)) (hz : ∀ i, i < zs.length → ∃ g off, ad = some ⟨g, off, none⟩ ∧ w.cell? ⟨g, off + i, none⟩ = some (.int .i64 (atZ zs i))) :
    Calls Tryd.prog 39 #[.func (.func 65) #[] #[.pointer (some ⟨Bs, 0, none⟩)]] w fun e w' => ∃ v, e = .returned v ∧ w'.ownsRow w.heap.size 3 1 v zs.length (zI (srtZ zs)) ∧ Below w.heap.size w w' := by
  have HC := hidd (collect_any Bs cap ad zs w hN hb hz)
  clear hb hz
  go_enter Tryd.func39, Tryd.ntmps39
  go_wp2_with fail
  refine HC.out.mono ?_
  rintro e w1 ⟨v, rfl, h1, h2⟩
  have HS := hidd (sortRowI_any zs w.heap.size v w1 hN h1)
  obtain ⟨ad9, cp9, rfl⟩ := own_sl1 h1
  have H1 := hidd h1
  have H2 := hidd h2
  clear h1 h2 HC
  go_wp2_with fail
  refine HS.out.mono ?_
  rintro e w2 ⟨rfl, h3, h4⟩
  have H3 := hidd h3
  have H4 := hidd (grown_below H2.out H1.out (Nat.le_refl _) h4)
  clear h3 h4
  go_wp2_with fail
  go_ret
  exact ⟨_, rfl, H3.out, H4.out⟩
theorem al_sub {w : World} {v : Value} {ls : List Int} {e : Ending} {w' : World} (h : AlPost w v ls e w') : ∃ vy vs vc, e = .returned (.agg #[v, vy, vs, vc]) ∧ HoldI w' vy (nat2 (List.range ls.length)) ∧ HoldI w' vs (ls ++ [-1]) ∧ HoldI w' vc (cntA ls.length) ∧ Below w.heap.size w w' := h
theorem HoldI.off {W W' : World} {v : Value} {zs : List Int} (b : Nat) (h : HoldI W v zs) (hb : ∀ j x, W.cell? ⟨b, j, none⟩ ≠ some (.int .i64 x)) (hk : ∀ g, g ≠ b → W'.heap[g]? = W.heap[g]?) (hs : W.heap.size ≤ W'.heap.size) : HoldI W' v zs := by
  obtain ⟨ad, cap, e, h1⟩ := h
  refine ⟨ad, cap, e, ?_⟩
  rcases h1 with h1 | ⟨g, off, h2, h3, h4⟩
  · exact Or.inl h1
  · refine Or.inr ⟨g, off, h2, Nat.lt_of_lt_of_le h3 hs, fun t ht => ?_⟩
    have h5 := h4 t ht
    have hg : g ≠ b := fun e => by subst e; exact hb _ _ h5
    rw [World.cell?_of_block (hk g hg)]
    exact h5
theorem no_int {W : World} {b : Nat} {t : TypeId} (h : W.heap[b]? = some (.cells #[.slice none 0 0, .slice none 0 0, .slice none 0 0, .slice none 0 0] t)) : ∀ j x, W.cell? ⟨b, j, none⟩ ≠ some (.int .i64 x) := by
  intro j x e
  rw [blkc h j] at e
  have : j < 4 := by
    have := (Array.getElem?_eq_some_iff.1 e).1
    simpa using this
  rcases j with _ | _ | _ | _ | j
  · simp at e
  · simp at e
  · simp at e
  · simp at e
  · omega
end Go.Proofs.YtmnfioghhdgciaaDoor

namespace Go.Proofs.YtmnfioghhdgciaaDoor
open Go Go.RowKit
set_option linter.unusedVariables false
set_option linter.unusedSimpArgs false
set_option maxRecDepth 100000

/-! impl.walk.least at sets of places. -/
theorem FgN.aut {K : Kaut Nat} {S : Nat} {x0 : Nat} {Z : List Nat} {nxt : List (List Nat)} {fins : List Bool} (h : FgN K S x0 Z.length Z nxt fins) : IsBfs (K.nexts S) x0 Z ∧ ∀ q, q < Z.length → (autR fins nxt).lang S q = (K.aut Z x0).lang S q := by
  have hb : IsBfs (K.nexts S) x0 Z := ⟨_, h.bf, Nat.le_refl _⟩
  have hto : ∀ q a, q < Z.length → a < S → (nxt.getD q []).getD a 0 = ix Z (K.step (Z.getD q x0) a) := by
    intro q a hq ha
    rw [h.nx q hq]
    simp [toN, ha]
  refine ⟨hb, fun q hq => ?_⟩
  refine (Aut.lang_congr (n := Z.length) (K.shut hb) (fun q hq => ?_) (fun q a hq ha => ?_) hq).symm
  · exact (h.fin q hq).symm
  · exact (hto q a hq ha).symm
theorem own_monoN {w : World} {base base' e n size : Nat} {v : Value} {xs : List Value} (h : w.ownsRow base e size v n xs) (hb : base' ≤ base) : w.ownsRow base' e size v n xs := by
  refine ⟨h.1, ?_⟩
  rcases h.2 with h1 | ⟨g, cap, cur, h1, h2, h3⟩
  · exact Or.inl h1
  · exact Or.inr ⟨g, cap, cur, h1, Nat.le_trans hb h2, h3⟩
theorem DfaM.lower {W : World} {base base' : Nat} {v : Value} {l : List MSt} (h : DfaM W base v l) (hb : base' ≤ base) : DfaM W base' v l := ⟨own_monoN h.row hb, fun s hs => own_monoN (h.arcs s hs) hb, h.apart⟩
def LwPost (K : Kaut Nat) (ls : List Int) (x0 : Nat) (w : World) (e : Ending) (w' : World) : Prop :=
  Below w.heap.size w w' ∧ ((e = .returned (.tuple #[.agg #[.slice none 0 0], .int .i64 11]) ∧ ∀ L, sysL.Least ls.length ls (K.lang (ls.length + 1) x0) L → 256 < L.length) ∨
    ∃ v l, sysL.Least ls.length ls (K.lang (ls.length + 1) x0) (l.map Prod.snd) ∧ l.length ≤ 256 ∧ e = .returned (.tuple #[.agg #[v], .int .i64 0]) ∧ DfaM w' w.heap.size v l)
theorem ls_start (w : World) (cw ca : Array Value) :
    let W := ((w.alloc (.cells cw 56)).alloc (.cells ca 59)).alloc (.cells #[.slice none 0 0] 24)
    W.heap[w.heap.size]? = some (.cells cw 56) ∧ W.heap[w.heap.size + 1]? = some (.cells ca 59) ∧ W.heap[w.heap.size + 1 + 1]? = some (.cells #[.slice none 0 0] 24) ∧ Below w.heap.size w W := by
  have hz1 : (w.alloc (.cells cw 56)).heap.size = w.heap.size + 1 := by simp
  have hz2 : ((w.alloc (.cells cw 56)).alloc (.cells ca 59)).heap.size = w.heap.size + 1 + 1 := by simp
  refine ⟨?_, ?_, ?_, (((Below.refl _ _).alloc (Nat.le_refl _) _).alloc (by rw [hz1]; omega) _).alloc (by rw [hz2]; omega) _⟩
  · rw [Below.heap_alloc _ _ _ (by rw [hz2]; omega), Below.heap_alloc _ _ _ (by rw [hz1]; omega)]; exact heap_alloc_new w _
  · rw [Below.heap_alloc _ _ _ (by rw [hz2]; omega), ← hz1]; exact heap_alloc_new _ _
  · rw [← hz2]; exact heap_alloc_new _ _
set_option maxHeartbeats 8000000 in
theorem least_place (wv a0 a1 a2 a3 : Value) (K : Kaut Nat) (ok : Nat → Prop) (x0 : Nat) (ls : List Int) (w : World) (hll : ls.length ≤ 30) (hok0 : ok x0) (hokS : ∀ x j, ok x → j < ls.length + 1 → ok (K.step x j)) (hokL : ∀ x, ok x → x < 2147483648)
    (hfo : ∀ (s j : Nat) (W : World), Below w.heap.size w W → ok s → j < ls.length + 1 → Calls Tryd.prog 22 #[wv, .agg (plV s), .int .i64 (letN ls j)] W fun e w' => e = .returned (.agg (plV (K.step s j))) ∧ Below W.heap.size W w')
    (hfi : ∀ (s : Nat) (W : World), Below w.heap.size w W → ok s → Calls Tryd.prog 23 #[wv, .agg (plV s)] W fun e w' => e = .returned (.bool (K.fin s)) ∧ Below W.heap.size W w')
    (hmany : Many ok → ∀ L, sysL.Least ls.length ls (K.lang (ls.length + 1) x0) L → 256 < L.length)
    (h0 : HoldI w a0 ls) (h1 : HoldI w a1 (nat2 (List.range ls.length))) (h2 : HoldI w a2 (ls ++ [-1])) (h3 : HoldI w a3 (cntA ls.length)) :
    Calls Tryd.prog 24 #[.agg (wkA x0 (folW wv) (finW wv)), .agg #[a0, a1, a2, a3]] w (LwPost K ls x0 w) := by
  have hS := ls_start w (wkA x0 (folW wv) (finW wv)) #[a0, a1, a2, a3]
  dsimp only at hS
  obtain ⟨s1, s2, s3, s4⟩ := hS
  have H0 := hidd h0
  have H1 := hidd h1
  have H2 := hidd h2
  have H3 := hidd h3
  have HFO := hidd hfo
  have HFI := hidd hfi
  have HMn := hidd hmany
  obtain ⟨ad0, c0, rfl, -⟩ := h0
  obtain ⟨ad1, c1, rfl, -⟩ := h1
  obtain ⟨ad2, c2, rfl, -⟩ := h2
  obtain ⟨ad3, c3, rfl, -⟩ := h3
  rw [nat2_len, List.length_range] at *
  rw [List.length_append, List.length_singleton] at *
  rw [cntA_len] at *
  have w0 := blkc s1 0
  have w1 := blkc s1 1
  have w2 := blkc s1 2
  have w3 := blkc s1 3
  have b0 := blkc s2 0
  have b1 := blkc s2 1
  have b2 := blkc s2 2
  have b3 := blkc s2 3
  have HS4 := hidd s4
  have HS3 := hidd s3
  have HOS := hidd hokS
  have HOL := hidd hokL
  have HO0 := hidd hok0
  clear s1 s2 s3 s4 hfo hfi hokS hokL hok0 hmany
  go_enter Tryd.func24, Tryd.ntmps24
  go_upto_region 1 with fail
  generalize ((w.alloc (.cells (wkA x0 (folW wv) (finW wv)) 56)).alloc (.cells #[.slice ad0 ls.length c0, .slice ad1 ls.length c1, .slice ad2 (ls.length + 1) c2, .slice ad3 (ls.length + 1) c3] 59)).alloc (.cells #[.slice none 0 0] 24) = W1 at *
  have HTb := hidd (tableOf_any wv (.slice ad0 ls.length c0) (.slice ad1 ls.length c1) (.slice ad2 (ls.length + 1) c2) (.slice ad3 (ls.length + 1) c3) K ok x0 ls W1 hll HO0.out HOS.out HOL.out (fun s j W hW => HFO.out s j W (HS4.out.trans (hW.mono HS4.out.size))) (fun s W hW => HFI.out s W (HS4.out.trans (hW.mono HS4.out.size))) (H2.out.below HS4.out) ⟨_, _, _, rfl⟩ ⟨_, _, _, rfl⟩ ⟨_, _, _, rfl⟩)
  go_wp2_with fail
  refine HTb.out.mono ?_
  rintro e W2 htb
  rcases htb with ⟨vrows, vfin, Z, nxt, bs, l, rfl, hG, hL, hR, hF, hb2, hZ⟩ | ⟨rfl, hMn, hb2⟩
  case' inr =>
    have hb3 : Below W2.heap.size W2 (W2.alloc (.cells #[nilS, nilS, nilS, nilS, nilS, nilS, nilS, nilS] 72)) := (Below.refl _ _).alloc (Nat.le_refl _) _
    have hB2 := HS4.out.trans (hb2.mono HS4.out.size)
    have hB3 := hB2.trans (hb3.mono hB2.size)
    have hr3 := blko (blko HS3.out hb2) hb3
    have rc := blkc hr3 0
    have fc := blkf hr3 0
    have HLg := hidd (HMn.out hMn)
    have HEnd : Hid (((W2.alloc (.cells #[nilS, nilS, nilS, nilS, nilS, nilS, nilS, nilS] 72)).setCell ⟨w.heap.size + 1 + 1, 0, none⟩ (.slice none 0 0)).cell? ⟨w.heap.size + 1 + 1, 0, none⟩ = some (.slice none 0 0) ∧ Below w.heap.size w ((W2.alloc (.cells #[nilS, nilS, nilS, nilS, nilS, nilS, nilS, nilS] 72)).setCell ⟨w.heap.size + 1 + 1, 0, none⟩ (.slice none 0 0))) := by
      refine ⟨?_, hB3.setCell (by show w.heap.size ≤ w.heap.size + 1 + 1; omega) _⟩
      rw [blkc (blk_setk hr3 0 (.slice none 0 0)) 0]; simp
    clear hb3 hB2 hB3 hr3 hMn hb2 HTb HS4 HS3 HFO HFI HMn HOS HOL HO0 H0 H1 H2 H3 w0 w1 w2 w3 b0 b1 b2 b3
    go_wp2_with fail
    refine bodyPost_ret (v := .tuple #[.agg #[.slice none 0 0], .int .i64 11]) (by have q := HEnd.out.1; simp [results, Tryd.results24, go_sem, q]) rfl ?_
    exact ⟨HEnd.out.2, Or.inl ⟨rfl, HLg.out⟩⟩
  have hZ0 : 0 < Z.length := by
    have := hG.bf
    obtain ⟨r, hr⟩ := bfs_pre (K.nexts (ls.length + 1)) Z.length 0 [x0]
    rw [← this, hr]
    simp
  have hln : l.length = Z.length := by
    have := congrArg List.length hL
    rw [List.length_map, List.length_map, hG.nlen] at this
    exact this
  have hbn : bs.length = Z.length := hG.flen
  obtain ⟨adr, cpr, rfl⟩ := own_slk hR.row
  obtain ⟨adf, cpf, rfl⟩ := own_slk hF
  have HG := hidd hG
  have HL := hidd hL
  have HR := hidd hR
  have HF := hidd hF
  have HB2 := hidd (HS4.out.trans (hb2.mono HS4.out.size))
  have HR2 := hidd (blko HS3.out hb2)
  have HW1 := hidd hb2.size
  have hdn := hG.done hZ0
  have HSn : Hid (∀ q, q < l.length → (nxt.getD q []).length = ls.length + 1 ∧ ∀ a, a < ls.length + 1 → (nxt.getD q []).getD a 0 < l.length) := fun q hq => by
    have := hdn.2.2 q (by omega)
    rw [hbn, ← hln] at this
    exact this
  have HLg := hidd hdn.2.1
  have hbl : bs.length = l.length := by omega
  have HBl := hidd hbl
  have HLn := hidd hln
  have hl0 : 0 < l.length := by omega
  have hlZ : l.length ≤ 1114112 := by omega
  have hnew := heap_alloc_new W2 (.cells #[.slice ad0 ls.length c0, .slice ad1 ls.length c1, .slice ad2 (ls.length + 1) c2, .slice ad3 (ls.length + 1) c3, .slice adr l.length cpr, .slice adf bs.length cpf, nilS, nilS] 72)
  have hb3 : Below W2.heap.size W2 (W2.alloc (.cells #[.slice ad0 ls.length c0, .slice ad1 ls.length c1, .slice ad2 (ls.length + 1) c2, .slice ad3 (ls.length + 1) c3, .slice adr l.length cpr, .slice adf bs.length cpf, nilS, nilS] 72)) := (Below.refl _ _).alloc (Nat.le_refl _) _
  have HPt := hidd (part_any W1.heap.size W2.heap.size 0 cpr 0 cpf adr adf (.slice ad0 ls.length c0) (.slice ad1 ls.length c1) (.slice ad2 (ls.length + 1) c2) (.slice ad3 (ls.length + 1) c3) l bs nxt (ls.length + 1) (W2.alloc (.cells #[.slice ad0 ls.length c0, .slice ad1 ls.length c1, .slice ad2 (ls.length + 1) c2, .slice ad3 (ls.length + 1) c3, .slice adr l.length cpr, .slice adf bs.length cpf, nilS, nilS] 72)) hnew (hR.congr fun b cs t _ _ hh => blko hh hb3) (own_congr hF (fun b hk => hb3.block b (Array.getElem?_eq_some_iff.1 (own_blk hF hk).2.choose_spec).1)) hL hbl HSn.out (by omega) hl0 hlZ (Nat.le_trans HW1.out hb3.size))
  have HB3 := hidd (HB2.out.trans (hb3.mono HB2.out.size))
  have HR3 := hidd (blko HR2.out hb3)
  have htb : w.heap.size + 1 + 1 < W2.heap.size := (Array.getElem?_eq_some_iff.1 HR2.out).1
  clear hG hL hR hF hb2 HTb w0 w1 w2 w3 b0 b1 b2 b3 HS3 hln hbn hbl hdn hnew hb3 HB2 HR2 HR HF
  go_upto_region 4 with fail
  generalize (W2.alloc (.cells #[.slice ad0 ls.length c0, .slice ad1 ls.length c1, .slice ad2 (ls.length + 1) c2, .slice ad3 (ls.length + 1) c3, .slice adr l.length cpr, .slice adf bs.length cpf, nilS, nilS] 72)) = W3 at *
  obtain ⟨tb, htb2⟩ : ∃ tb, W2.heap.size = tb := ⟨_, rfl⟩
  rw [htb2] at HPt htb
  simp only [htb2]
  clear htb2
  go_wp2_with fail
  refine HPt.out.mono ?_
  rintro e W4 hpt
  rcases hpt with ⟨rfl, bx, g3, c3', vpts, cl, us, parts, hP, hOK, hSt, hcl, hcz, hpl⟩ | ⟨rfl, hbut, κ, c, hco, hon, hc⟩
  · have hb4 : Below w.heap.size w W4 := HB3.out.trans (hP.but.below HB3.out.size (fun j hj e => by omega))
    have hr4 : W4.heap[w.heap.size + 1 + 1]? = some (.cells #[.slice none 0 0] 24) := by
      rw [hP.but.block _ (Array.getElem?_eq_some_iff.1 HR3.out).1 (by omega)]
      exact HR3.out
    obtain ⟨gp, cp, gf, cf, hI⟩ := dfIn_of W3 W4 W1.heap.size tb bx g3 c3' c2 ad2 _ _ _ _ _ _ l bs cl us parts nxt ls hP hOK hcl hcz hpl HL.out HBl.out HSn.out hll hl0 hlZ (H3.out.below hb4)
    have HDf := hidd (dfa_any tb gp cp gf cf g3 c3' l.length _ _ _ _ _ bs cl parts nxt ls W4 hI hOK hSt hcl HBl.out (fun z hz => (hcz z hz).1) hpl HSn.out hll hl0 hlZ (H0.out.below hb4) (H1.out.below hb4))
    have HB4 := hidd hb4
    have HR4 := hidd hr4
    clear hP hOK hSt hcl hcz hpl hI hb4 hr4 HPt HB3 HR3
    go_wp2_with fail
    refine HDf.out.mono ?_
    rintro e W5 ⟨v5, D, rfl, hM, hLs, hb5, hDl, ad5, c5, rfl⟩
    have hb6 : Below W5.heap.size W5 (W5.alloc (.cells #[.slice ad5 D.length c5] 24)) := (Below.refl _ _).alloc (Nat.le_refl _) _
    have hn6 := heap_alloc_new W5 (.cells #[.slice ad5 D.length c5] 24)
    have hbw6 : Below w.heap.size w (W5.alloc (.cells #[.slice ad5 D.length c5] 24)) := (HB4.out.trans (hb5.mono HB4.out.size)).trans (hb6.mono (Nat.le_trans HB4.out.size hb5.size))
    have hr6 := blko (blko HR4.out hb5) hb6
    have c6 : (W5.alloc (.cells #[.slice ad5 D.length c5] 24)).cell? ⟨W5.heap.size, 0, none⟩ = some (.slice ad5 D.length c5) := blkc hn6 0
    have rc := blkc hr6 0
    have fc := blkf hr6 0
    have hset := fun u => blk_setk hr6 0 u
    rw [HLg.out] at hLs
    have HLs := hidd hLs
    have HM : Hid (DfaM (W5.alloc (.cells #[.slice ad5 D.length c5] 24)) w.heap.size (.slice ad5 D.length c5) D) := (hM.lower HB4.out.size).below hb6
    have HBw6 := hidd hbw6
    have HSet := hidd hset
    have HR6 := hidd hr6
    clear hM hLs hb5 hb6 hn6 hbw6 hr6 hset HB4 HR4 HDf
    have HEnd : Hid (∀ u, ((W5.alloc (.cells #[.slice ad5 D.length c5] 24)).setCell ⟨w.heap.size + 1 + 1, 0, none⟩ u).cell? ⟨w.heap.size + 1 + 1, 0, none⟩ = some u ∧ Below w.heap.size w ((W5.alloc (.cells #[.slice ad5 D.length c5] 24)).setCell ⟨w.heap.size + 1 + 1, 0, none⟩ u) ∧ DfaM ((W5.alloc (.cells #[.slice ad5 D.length c5] 24)).setCell ⟨w.heap.size + 1 + 1, 0, none⟩ u) w.heap.size (.slice ad5 D.length c5) D) := fun u => by
      refine ⟨?_, HBw6.out.trans (((But.refl (fun b => b = w.heap.size + 1 + 1) _).set (w.heap.size + 1 + 1) 0 _ rfl).below HBw6.out.size (fun j hj e => by omega)), HM.out.congr fun b cs t ht _ hh => ?_⟩
      · rw [blkc (HSet.out u) 0]; simp
      · rw [heap_set_other _ (w.heap.size + 1 + 1) 0 _ b (by
          rintro rfl
          have hr := HR6.out
          rw [hr] at hh
          simp only [Option.some.injEq, Obj.cells.injEq] at hh
          rcases ht with rfl | rfl
          · exact absurd hh.2.1 (by decide)
          · exact absurd hh.2.1 (by decide))]
        exact hh
    clear HM HBw6 HSet HR6
    generalize hDn : D.length = N at *
    by_cases hN : 256 < N
    · have hNz : (256 : Int) < (N : Int) := by omega
      have dz : decide ((256 : Int) < (N : Int)) = true := decide_eq_true hNz
      go_wp2_with fail
      obtain ⟨e1, e2, -⟩ := HEnd.out (.slice none 0 0)
      refine bodyPost_ret (v := .tuple #[.agg #[.slice none 0 0], .int .i64 11]) (by simp [results, Tryd.results24, go_sem, e1]) rfl ?_
      refine ⟨e2, Or.inl ⟨rfl, fun L hL => ?_⟩⟩
      have e9 := congrArg List.length (Sys.Least.uniq hL HLs.out)
      rw [List.length_map, hDn] at e9
      omega
    · have hNz : ¬ (256 : Int) < (N : Int) := by omega
      have dz : decide ((256 : Int) < (N : Int)) = false := decide_eq_false hNz
      go_upto_region 10 with fail
      refine wp_region_list ?_
      refine wpL_loadDfa rfl _ rfl W5.heap.size ad5 N c5 (by kernel_rfl) c6 ?_
      refine wpL_storeDfa rfl _ _ rfl (w.heap.size + 1 + 1) ad5 N c5 (.slice none 0 0) (by kernel_rfl) (by kernel_rfl) rc fc ?_
      go_wp2_with fail
      obtain ⟨e1, e2, e3⟩ := HEnd.out (.slice ad5 N c5)
      refine bodyPost_ret (v := .tuple #[.agg #[.slice ad5 N c5], .int .i64 0]) (by simp [results, Tryd.results24, go_sem, e1]) rfl ?_
      refine ⟨e2, Or.inr ⟨_, D, ?_, by omega, rfl, e3⟩⟩
      exact HLs.out
  · have hb4 : Below w.heap.size w W4 := HB3.out.trans (hbut.below HB3.out.size (fun j hj e => by omega))
    have hr4 : W4.heap[w.heap.size + 1 + 1]? = some (.cells #[.slice none 0 0] 24) := by
      rw [hbut.block _ (Array.getElem?_eq_some_iff.1 HR3.out).1 (by omega)]
      exact HR3.out
    have rc := blkc hr4 0
    have fc := blkf hr4 0
    have HMany : Hid (∀ L, sysL.Least ls.length ls (K.lang (ls.length + 1) x0) L → 256 < L.length) := fun L hL => by
      obtain ⟨f1, f2⟩ := HG.out.aut
      have hzl := HLn.out
      have := Kaut.many f1 hL (κ := κ) (c := c) (fun q r hq hr e => hco q r (by omega) (by omega) (by rw [f2 q hq, f2 r hr]; exact e)) (fun y hy => by
        obtain ⟨q, hq, e⟩ := hon y hy
        exact ⟨q, by omega, e⟩)
      omega
    have HEnd : Hid ((W4.setCell ⟨w.heap.size + 1 + 1, 0, none⟩ (.slice none 0 0)).cell? ⟨w.heap.size + 1 + 1, 0, none⟩ = some (.slice none 0 0) ∧ Below w.heap.size w (W4.setCell ⟨w.heap.size + 1 + 1, 0, none⟩ (.slice none 0 0))) := by
      refine ⟨?_, hb4.trans (((But.refl (fun b => b = w.heap.size + 1 + 1) _).set (w.heap.size + 1 + 1) 0 _ rfl).below hb4.size (fun j hj e => by omega))⟩
      rw [blkc (blk_setk hr4 0 _) 0]; simp
    clear hb4 hr4 hbut hco hon HPt HB3 HR3
    go_wp2_with fail
    obtain ⟨e1, e2⟩ := HEnd.out
    refine bodyPost_ret (v := .tuple #[.agg #[.slice none 0 0], .int .i64 11]) (by simp [results, Tryd.results24, go_sem, e1]) rfl ?_
    refine ⟨e2, Or.inl ⟨rfl, fun L hL => ?_⟩⟩
    skip
    exact HMany.out L hL
end Go.Proofs.YtmnfioghhdgciaaDoor
