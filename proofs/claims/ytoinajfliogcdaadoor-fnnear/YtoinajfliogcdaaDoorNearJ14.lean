import Derived.Test.YtoinajfliogcdaaDoorNearJ10
import Derived.Test.YtoinajfliogcdaaDoorNearJ12
import Derived.Test.YtoinajfliogcdaaDoorNearJ09
namespace Go.Proofs.YtoinajfliogcdaaDoor
open Go Go.RowKit
set_option linter.unusedVariables false
set_option linter.unusedSimpArgs false
set_option maxRecDepth 100000

theorem Tryd.infoI : (Tryd.prog.info? 3).map (fun i => (i.zero, i.size, i.bytes)) = some (some (.int .i64 0), 1, 8) := by kernel_rfl
def keyI : KeyT Int := ⟨3, 175, 177, 1, (Value.int .i64 ·), fun x => #[Value.int .i64 x], (fun x => -9223372036854775808 ≤ x ∧ x ≤ 9223372036854775807)⟩
theorem okI : (keyI).Ok := ⟨Tryd.underlying175, Maps.int_keyed Tryd.underlying3, fun x h => ⟨_, Maps.keyOf_int_mk Tryd.underlying3 (WalkArith.wf_i64 (by unfold keyI at h; dsimp only at h; omega))⟩, fun x y h => by simpa [keyI] using h⟩
theorem nilMapI (w : World) : (binOp BinOp.eql 175 (.map none) (.map none)).run Tryd.prog w = .ok (.bool true) w := by first | kernel_rfl | simp [binOp, Tryd.underlying175] | go_simp
theorem someMapI (w : World) (mb : Nat) : (binOp BinOp.eql 175 (.map (some mb)) (.map none)).run Tryd.prog w = .ok (.bool false) w := by first | kernel_rfl | simp [binOp, Tryd.underlying175] | go_simp
theorem makeMapI (w : World) : (Instr.makeMap 175 none).run Tryd.prog w = .ok (.map (some w.heap.size)) (w.alloc (.map #[] 0)) := by first | kernel_rfl | simp [Instr.makeMap, Tryd.underlying175] | go_simp
set_option maxHeartbeats 4000000 in
theorem placeI_any (base sb : Nat) (vm vs : Value) (L : List Int) (x : Int) (W : World) (hok : (keyI).ok x) (hb : (L.length + 1) * 8 ≤ 140737488355328) (hbase : base ≤ W.heap.size) (h : SetAt keyI W base sb vm vs L) :
  Calls Tryd.prog 117 #[.pointer (some ⟨sb, 0, none⟩), (keyI).enc x] W (PlPost keyI W base sb vm vs L x) := by
 obtain ⟨i0, hi0, hz0, hz1, hz2⟩ := info_parts Tryd.infoI
 have c0 : W.cell? ⟨sb, 0, none⟩ = some vm := blkc h.box 0
 have c1 : W.cell? ⟨sb, 1, none⟩ = some vs := blkc h.box 1
 have hsb := h.lt
 have H := hidd h
 have hown := h.row
 have hmn := nilMapI
 have hms := someMapI
 have fz : ∀ j, W.frozen? ⟨sb, j, none⟩ = false := fun j => frozen_of_row W sb j _ _ h.box
 by_cases hx : x ∈ L
 ·obtain ⟨mb, rfl, hm1, hm2⟩ : ∃ mb, vm = .map (some mb) ∧ base ≤ mb ∧ MapK keyI W mb L := by
   rcases h.map with ⟨_, rfl⟩ | h1
   ·simp at hx
   ·exact h1
  rcases hm2.look okI h.oks x hok with ⟨h1, _⟩ | ⟨j, h1, h2⟩
  ·exact absurd hx h1
  have h2' : (Instr.lookup 175 (.map (some mb)) (.int .i64 x) true).run Tryd.prog W = .ok (.tuple #[.int .i64 (j : Int), .bool true]) W := h2
  have HJ : Hid (ix L x = j) := ix_of h.nodup h1
  have HM := hidd (meet_old hx)
  clear h h1 h2 hm2 hown hx
  show Calls Tryd.prog 117 #[.pointer (some ⟨sb, 0, none⟩), .int .i64 x] W _
  go_enter Tryd.func117, Tryd.ntmps117
  go_wp2_with fail
  go_ret
  exact ⟨by rw [HM.out, HJ.out]; rfl, _, _, by rw [HM.out]; exact H.out, But.refl _ _, fun b hb => Or.inl hb, fun b hb => Or.inl hb⟩
 ·have hI : ix (meet L x) x = L.length := by rw [meet_fresh hx, ix_new hx]
  have HI := hidd hI
  have HM := hidd (meet_fresh hx)
  have hln : ((L.length : Nat) : Int) ≤ 140737488355328 := by omega
  have HX := hidd hx
  have HOK := hidd h.oks
  have HOKS : Hid (∀ y ∈ L ++ [x], (keyI).ok y) := fun y hy => by
   rcases List.mem_append.1 hy with h1 | h1
   ·exact h.oks y h1
   ·rw [List.mem_singleton.1 h1]; exact hok
  have HND : Hid ((L ++ [x]).Nodup) := by
   show List.Nodup _
   rw [List.nodup_append]
   exact ⟨h.nodup, by simp, fun a ha b hb' e => hx (by rw [List.mem_singleton.1 hb'] at e; rw [← e]; exact ha)⟩
  have hlk : (∀ (mb : Nat), vm = .map (some mb) → (Instr.lookup 175 (.map (some mb)) (.int .i64 x) true).run Tryd.prog W = .ok (.tuple #[.int .i64 0, .bool false]) W) := by
   rintro mb rfl
   rcases h.map with ⟨h1, _⟩ | ⟨mb', h1, _, h2⟩
   ·cases h1
   ·cases h1
    rcases h2.look okI h.oks x hok with ⟨_, h4⟩ | ⟨j, h4, _⟩
    ·exact h4
    ·exact absurd (List.mem_of_getElem? h4) hx
  obtain ⟨ad, cp, rfl, _⟩ : ∃ ad cp, vs = .slice ad L.length cp ∧ True := by
   rcases hown.2 with ⟨h1, h2⟩ | ⟨g, cap, cur, h1, _⟩
   ·exact ⟨none, 0, by rw [h1, h2], trivial⟩
   ·exact ⟨_, cap, h1, trivial⟩
  rcases h.map with ⟨rfl, hl⟩ | ⟨mb, rfl, hmb, hmk⟩
  ·have hz1' : (((W.alloc (.map #[] 0)).setCell ⟨sb, 0, none⟩ (.map (some W.heap.size)))).heap.size = W.heap.size + 1 := by simp
   have hbA : (W.alloc (.map #[] 0)).heap[sb]? = some (.cells #[.map none, .slice ad L.length cp] 177) := by rw [Below.heap_alloc _ _ _ hsb]; exact h.box
   have hb1 : (((W.alloc (.map #[] 0)).setCell ⟨sb, 0, none⟩ (.map (some W.heap.size)))).heap[sb]? = some (.cells #[.map (some W.heap.size), .slice ad L.length cp] 177) := by
    have := blk_setk hbA 0 (.map (some W.heap.size))
    simpa using this
   have hM1 : MapK keyI ((W.alloc (.map #[] 0)).setCell ⟨sb, 0, none⟩ (.map (some W.heap.size))) W.heap.size L := by
    rw [hl]
    exact (mapK_new W).keep (heap_set_other _ sb 0 _ _ (by omega))
   have HO1 : Hid (((W.alloc (.map #[] 0)).setCell ⟨sb, 0, none⟩ (.map (some W.heap.size))).ownsRow base 3 1 (.slice ad L.length cp) L.length (rowK keyI L)) := own_congr hown (fun b hk => by
    obtain ⟨_, cur, h2⟩ := own_blk hown hk
    rw [heap_set_other _ sb 0 _ b (blk_ne h2 h.box (by decide)), Below.heap_alloc _ _ _ (Array.getElem?_eq_some_iff.1 h2).1])
   have HNE : Hid (W.heap.size ≠ sb) := by show _ ≠ _; omega
   have HBt1 : Hid (But (SetB sb (.map none) (.slice ad L.length cp)) W ((W.alloc (.map #[] 0)).setCell ⟨sb, 0, none⟩ (.map (some W.heap.size)))) := ((But.refl _ _).alloc _).set sb 0 _ (Or.inl rfl)
   have HMB2 : Hid (Value.map none = .map (some W.heap.size) ∨ W.heap.size ≤ W.heap.size) := Or.inr (Nat.le_refl _)
   have HMB : Hid (SetB sb (.map none) (.slice ad L.length cp) W.heap.size ∨ W.heap.size ≤ W.heap.size) := Or.inr (Nat.le_refl _)
   have HMBb : Hid (base ≤ W.heap.size) := hbase
   have hln0 := look_nil okI W x hok
   have hln0' : (Instr.lookup 175 (.map none) (.int .i64 x) true).run Tryd.prog W = .ok (.tuple #[.int .i64 0, .bool false]) W := hln0
   have fzA : ∀ j, (W.alloc (.map #[] 0)).frozen? ⟨sb, j, none⟩ = false := fun j => frozen_of_row _ sb j _ _ hbA
   have cA : (W.alloc (.map #[] 0)).cell? ⟨sb, 0, none⟩ = some (.map none) := blkc hbA 0
   have cB : ((W.alloc (.map #[] 0)).setCell ⟨sb, 0, none⟩ (.map (some W.heap.size))).cell? ⟨sb, 0, none⟩ = some (.map (some W.heap.size)) := blkc hb1 0
   have cC : ((W.alloc (.map #[] 0)).setCell ⟨sb, 0, none⟩ (.map (some W.heap.size))).cell? ⟨sb, 1, none⟩ = some (.slice ad L.length cp) := blkc hb1 1
   have hmk : (Instr.makeMap 175 none).run Tryd.prog W = .ok (.map (some W.heap.size)) (W.alloc (.map #[] 0)) := makeMapI W
   have HL0 := hidd hl
   clear h hown hln0 hlk hbA hl
   obtain ⟨W2, hput, hm2, hg2, hz2'⟩ := hM1.put okI HOK.out x hok HX.out
   have hput' : (Instr.mapUpdate 175 (.map (some W.heap.size)) (.int .i64 x) (.int .i64 (L.length : Int))).run Tryd.prog ((W.alloc (.map #[] 0)).setCell ⟨sb, 0, none⟩ (.map (some W.heap.size))) = .ok () W2 := hput
   have hb2 : W2.heap[sb]? = some (.cells #[.map (some W.heap.size), .slice ad L.length cp] 177) := by
    rw [hg2.block sb (by rw [hz1']; omega) (fun e => HNE.out (by simpa using e.symm))]; exact hb1
   have HO2 : Hid (W2.ownsRow base 3 1 (.slice ad L.length cp) L.length (rowK keyI L)) := own_congr HO1.out (fun b hk => hg2.block b (Array.getElem?_eq_some_iff.1 (own_blk HO1.out hk).2.choose_spec).1 (fun e => by
    obtain ⟨_, cur, h2⟩ := own_blk HO1.out hk
    obtain ⟨es, c, h3, _⟩ := hM1
    have e' : b = W.heap.size := by simpa using e
    rw [e', h3] at h2
    cases h2))
   have HBt2 : Hid (But (SetB sb (.map none) (.slice ad L.length cp)) W W2) := HBt1.out.grown hg2 (fun k hk => by
    have : W.heap.size = k := by simpa using hk
    subst this; exact HMB.out)
   have HM2 := hidd hm2
   have HB2 := hidd hb2
   have hcap2 : base ≤ W2.heap.size := by rw [hz2', hz1']; omega
   have d1 : W2.cell? ⟨sb, 1, none⟩ = some (.slice ad L.length cp) := blkc hb2 1
   have fz2 : ∀ j, W2.frozen? ⟨sb, j, none⟩ = false := fun j => frozen_of_row W2 sb j _ _ hb2
   have HSB := hidd hsb
   clear hput hm2 hg2 hz2' hM1 hsb
   show Calls Tryd.prog 117 #[.pointer (some ⟨sb, 0, none⟩), .int .i64 x] W _
   go_enter Tryd.func117, Tryd.ntmps117
   go_wp2_with (at_builtin; refine wp_pushk rfl _ _ 30 3 rfl i0 (.int .i64 0) 1 8 Tryd.underlying30 hi0 hz0 hz1 hz2 rfl (by decide) base _ _ _ rfl HO2.out ((keyI).cells x) rfl (by intro y hy; simp [keyI] at hy; subst hy; rfl) rfl hb (by decide) hcap2 ?_)
   intro v' W3 ho3 hbt3 hat3 hnn3
   obtain ⟨g3, c3, rfl⟩ : ∃ g c, v' = .slice (some ⟨g, 0, none⟩) (L.length + 1) c := by
    rcases ho3.2 with ⟨h1, _⟩ | ⟨g, cap, cur, h1, _⟩
    ·exact absurd h1 hnn3
    ·exact ⟨g, cap, h1⟩
   have HP := SetAt.pushed (K := keyI) (by decide) HB2.out HM2.out HMBb.out HO2.out hbt3 ho3 HND.out HOKS.out
   have hb3 : W3.heap[sb]? = some (.cells #[.map (some W.heap.size), .slice ad L.length cp] 177) := HP.2
   have HP1 := hidd HP.1
   have HBt3 : Hid (But (SetB sb (.map none) (.slice ad L.length cp)) W (W3.setCell ⟨sb, 1, none⟩ (.slice (some ⟨g3, 0, none⟩) (L.length + 1) c3))) := (HBt2.out.trans hbt3 (Z := SetB sb (.map none) (.slice ad L.length cp)) (fun _ _ h => h) (fun _ _ h => Or.inr (Or.inr h))).set sb 1 _ (Or.inl rfl)
   have HAT : Hid ((∀ b, (Value.slice (some ⟨g3, 0, none⟩) (L.length + 1) c3).ownBlock = some b → (Value.slice ad L.length cp).ownBlock = some b ∨ W.heap.size ≤ b) ∧ ∀ b, Value.map (some W.heap.size) = .map (some b) → (.map none) = Value.map (some b) ∨ W.heap.size ≤ b) := by
    refine ⟨fun b e => (hat3 b e).imp id (fun h => Nat.le_trans HBt2.out.size h), fun b e => ?_⟩
    have : W.heap.size = b := by simpa using e
    subst this
    first | exact HMB2.out | exact Or.inl rfl
   have e1 : W3.cell? ⟨sb, 1, none⟩ = some (.slice ad L.length cp) := blkc hb3 1
   have fz3 : ∀ j, W3.frozen? ⟨sb, j, none⟩ = false := fun j => frozen_of_row W3 sb j _ _ hb3
   clear ho3 hbt3 hat3 HP hb3 hb2 d1 fz2
   go_wp2_with fail
   go_ret
   exact ⟨by rw [HI.out]; rfl, _, _, by rw [HM.out]; exact HP1.out, HBt3.out, HAT.out.1, HAT.out.2⟩
  ·have hz1' : W.heap.size = W.heap.size + 0 := rfl
   have hb1 : W.heap[sb]? = some (.cells #[.map (some mb), .slice ad L.length cp] 177) := h.box
   have hM1 := hmk
   have HO1 := hidd hown
   have HNE : Hid (mb ≠ sb) := by
    show _ ≠ _
    rintro rfl
    obtain ⟨es, c, h3, _⟩ := hmk
    rw [h3] at hb1
    cases hb1
   have HBt1 : Hid (But (SetB sb (.map (some mb)) (.slice ad L.length cp)) W W) := But.refl _ _
   have HMB2 : Hid (Value.map (some mb) = .map (some mb) ∨ W.heap.size ≤ mb) := Or.inl rfl
   have HMB : Hid (SetB sb (.map (some mb)) (.slice ad L.length cp) mb ∨ W.heap.size ≤ mb) := Or.inl (Or.inr (Or.inl rfl))
   have HMBb := hidd hmb
   have hlk' := hlk mb rfl
   clear h hown hlk
   obtain ⟨W2, hput, hm2, hg2, hz2'⟩ := hM1.put okI HOK.out x hok HX.out
   have hput' : (Instr.mapUpdate 175 (.map (some mb)) (.int .i64 x) (.int .i64 (L.length : Int))).run Tryd.prog W = .ok () W2 := hput
   have hb2 : W2.heap[sb]? = some (.cells #[.map (some mb), .slice ad L.length cp] 177) := by
    rw [hg2.block sb (by rw [hz1']; omega) (fun e => HNE.out (by simpa using e.symm))]; exact hb1
   have HO2 : Hid (W2.ownsRow base 3 1 (.slice ad L.length cp) L.length (rowK keyI L)) := own_congr HO1.out (fun b hk => hg2.block b (Array.getElem?_eq_some_iff.1 (own_blk HO1.out hk).2.choose_spec).1 (fun e => by
    obtain ⟨_, cur, h2⟩ := own_blk HO1.out hk
    obtain ⟨es, c, h3, _⟩ := hM1
    have e' : b = mb := by simpa using e
    rw [e', h3] at h2
    cases h2))
   have HBt2 : Hid (But (SetB sb (.map (some mb)) (.slice ad L.length cp)) W W2) := HBt1.out.grown hg2 (fun k hk => by
    have : mb = k := by simpa using hk
    subst this; exact HMB.out)
   have HM2 := hidd hm2
   have HB2 := hidd hb2
   have hcap2 : base ≤ W2.heap.size := by rw [hz2', hz1']; omega
   have d1 : W2.cell? ⟨sb, 1, none⟩ = some (.slice ad L.length cp) := blkc hb2 1
   have fz2 : ∀ j, W2.frozen? ⟨sb, j, none⟩ = false := fun j => frozen_of_row W2 sb j _ _ hb2
   have HSB := hidd hsb
   clear hput hm2 hg2 hz2' hM1 hsb
   show Calls Tryd.prog 117 #[.pointer (some ⟨sb, 0, none⟩), .int .i64 x] W _
   go_enter Tryd.func117, Tryd.ntmps117
   go_wp2_with (at_builtin; refine wp_pushk rfl _ _ 30 3 rfl i0 (.int .i64 0) 1 8 Tryd.underlying30 hi0 hz0 hz1 hz2 rfl (by decide) base _ _ _ rfl HO2.out ((keyI).cells x) rfl (by intro y hy; simp [keyI] at hy; subst hy; rfl) rfl hb (by decide) hcap2 ?_)
   intro v' W3 ho3 hbt3 hat3 hnn3
   obtain ⟨g3, c3, rfl⟩ : ∃ g c, v' = .slice (some ⟨g, 0, none⟩) (L.length + 1) c := by
    rcases ho3.2 with ⟨h1, _⟩ | ⟨g, cap, cur, h1, _⟩
    ·exact absurd h1 hnn3
    ·exact ⟨g, cap, h1⟩
   have HP := SetAt.pushed (K := keyI) (by decide) HB2.out HM2.out HMBb.out HO2.out hbt3 ho3 HND.out HOKS.out
   have hb3 : W3.heap[sb]? = some (.cells #[.map (some mb), .slice ad L.length cp] 177) := HP.2
   have HP1 := hidd HP.1
   have HBt3 : Hid (But (SetB sb (.map (some mb)) (.slice ad L.length cp)) W (W3.setCell ⟨sb, 1, none⟩ (.slice (some ⟨g3, 0, none⟩) (L.length + 1) c3))) := (HBt2.out.trans hbt3 (Z := SetB sb (.map (some mb)) (.slice ad L.length cp)) (fun _ _ h => h) (fun _ _ h => Or.inr (Or.inr h))).set sb 1 _ (Or.inl rfl)
   have HAT : Hid ((∀ b, (Value.slice (some ⟨g3, 0, none⟩) (L.length + 1) c3).ownBlock = some b → (Value.slice ad L.length cp).ownBlock = some b ∨ W.heap.size ≤ b) ∧ ∀ b, Value.map (some mb) = .map (some b) → (.map (some mb)) = Value.map (some b) ∨ W.heap.size ≤ b) := by
    refine ⟨fun b e => (hat3 b e).imp id (fun h => Nat.le_trans HBt2.out.size h), fun b e => ?_⟩
    have : mb = b := by simpa using e
    subst this
    first | exact HMB2.out | exact Or.inl rfl
   have e1 : W3.cell? ⟨sb, 1, none⟩ = some (.slice ad L.length cp) := blkc hb3 1
   have fz3 : ∀ j, W3.frozen? ⟨sb, j, none⟩ = false := fun j => frozen_of_row W3 sb j _ _ hb3
   clear ho3 hbt3 hat3 HP hb3 hb2 d1 fz2
   go_wp2_with fail
   go_ret
   exact ⟨by rw [HI.out]; rfl, _, _, by rw [HM.out]; exact HP1.out, HBt3.out, HAT.out.1, HAT.out.2⟩
end Go.Proofs.YtoinajfliogcdaaDoor

namespace Go.Proofs.YtoinajfliogcdaaDoor
open Go Go.RowKit
set_option linter.unusedVariables false
set_option linter.unusedSimpArgs false
set_option maxRecDepth 100000

theorem RowsF.growX {W W' : World} {base : Nat} {R : RowMap} {X : Nat → Prop} (h : RowsF W base R) {i : Nat} {v v' : Value} {zs ys : List Int} (hi : R i = some (v, zs)) (hb : But X W W') (hX : ∀ b, X b → v.ownBlock = some b ∨ ∀ cur, W.heap[b]? ≠ some (.cells cur 3)) (hv : W'.ownsRow base 3 1 v' ys.length (zI ys)) (hat : ∀ b, v'.ownBlock = some b → v.ownBlock = some b ∨ W.heap.size ≤ b) : RowsF W' base (upd R i (some (v', ys))) := by
 have keep : ∀ a u xs, a ≠ i → R a = some (u, xs) → W'.ownsRow base 3 1 u xs.length (zI xs) := by
  intro a u xs ha hr
  refine own_congr (h.own a u xs hr) (fun b hk => ?_)
  obtain ⟨_, cur, h2⟩ := own_blk (h.own a u xs hr) hk
  refine hb.block b (Array.getElem?_eq_some_iff.1 h2).1 (fun hx => ?_)
  rcases hX b hx with h3 | h3
  ·rcases h.apart a i u xs v zs ha hr hi with h1 | h1
   ·rw [hk] at h1; cases h1
   ·exact h1 (hk.trans h3.symm)
  ·exact h3 cur h2
 have far : ∀ a u xs, a ≠ i → R a = some (u, xs) → u.ownBlock = none ∨ u.ownBlock ≠ v'.ownBlock := by
  intro a u xs ha hr
  cases hu : u.ownBlock with
  | none => exact Or.inl rfl
  | some l =>
   refine Or.inr ?_
   intro e
   rcases hat l e.symm with h1 | h1
   ·rcases h.apart a i u xs v zs ha hr hi with h2 | h2
    ·rw [hu] at h2; cases h2
    ·exact h2 (hu.trans h1.symm)
   ·have := h.lt hr hu
    omega
 refine ⟨fun a u xs ha => ?_, fun a b u xs x' ws hab ha hb => ?_⟩
 ·by_cases e : a = i
  ·subst e; rw [upd_same] at ha; cases ha; exact hv
  ·rw [upd_other _ _ e] at ha; exact keep a u xs e ha
 ·by_cases ea : a = i
  ·subst ea
   rw [upd_same] at ha
   cases ha
   rw [upd_other _ _ (Ne.symm hab)] at hb
   rcases far b x' ws (Ne.symm hab) hb with h1 | h1
   ·cases hu : v'.ownBlock with
    | none => exact Or.inl rfl
    | some l => exact Or.inr (by rw [h1]; simp)
   ·exact Or.inr (Ne.symm h1)
  ·rw [upd_other _ _ ea] at ha
   by_cases eb : b = i
   ·subst eb
    rw [upd_same] at hb
    cases hb
    exact far a u xs ea ha
   ·rw [upd_other _ _ eb] at hb
    exact h.apart a b u xs x' ws hab ha hb
theorem rowI (L : List Int) : rowK keyI L = zI L := by
 unfold rowK keyI zI
 induction L with
 | nil => rfl
 | cons x t ih => simp [ih]
theorem setI_X {W : World} {base sb : Nat} {vm vs : Value} {L : List Int} (h : SetAt keyI W base sb vm vs L) : ∀ b, SetB sb vm vs b → vs.ownBlock = some b ∨ ∀ cur, W.heap[b]? ≠ some (.cells cur 3) := by
 intro b hb
 rcases hb with rfl | rfl | hb
 ·refine Or.inr fun cur e => ?_
  rw [h.box] at e
  simp only [Option.some.injEq, Obj.cells.injEq] at e
  exact absurd e.2.1 (by decide)
 ·refine Or.inr fun cur e => ?_
  rcases h.map with ⟨h1, _⟩ | ⟨mb, h1, _, h2⟩
  ·cases h1
  ·cases h1
   obtain ⟨es, c, h3, _⟩ := h2
   rw [h3] at e
   cases e
 ·exact Or.inl hb
theorem RowsF.place {W W' : World} {base sb : Nat} {R : RowMap} {i : Nat} {vm vs vm' vs' : Value} {L L' : List Int} (h : RowsF W base R) (hi : R i = some (vs, L)) (hs : SetAt keyI W base sb vm vs L) (hs' : SetAt keyI W' base sb vm' vs' L') (hb : But (SetB sb vm vs) W W') (hat : ∀ b, vs'.ownBlock = some b → vs.ownBlock = some b ∨ W.heap.size ≤ b) : RowsF W' base (upd R i (some (vs', L'))) :=
 h.growX hi hb (setI_X hs) (by have := hs'.row; rw [rowI] at this; exact this) hat
end Go.Proofs.YtoinajfliogcdaaDoor

namespace Go.Proofs.YtoinajfliogcdaaDoor
open Go Go.RowKit
set_option linter.unusedVariables false
set_option linter.unusedSimpArgs false
set_option maxRecDepth 100000

abbrev nilS : Value := .slice none 0 0
structure AlG (w W : World) (ab sb : Nat) (cs : Array Value) (vm vmem : Value) (M : List Int) (R : RowMap) : Prop where
 box : W.heap[ab]? = some (.cells cs 80)
 zer : W.heap[w.heap.size]? = some (.cells #[nilS, nilS, nilS, nilS] 80)
 set : SetAt keyI W w.heap.size sb vm vmem M
 rows : RowsF W w.heap.size R
 mem : R 3 = some (vmem, M)
 bel : Below w.heap.size w W
 ge : w.heap.size < ab ∧ w.heap.size < sb
variable {w W W1 : World} {ab sb : Nat} {cs : Array Value} {vm vmem : Value} {M : List Int} {R : RowMap}
theorem AlG.push (h : AlG w W ab sb cs vm vmem M R) {i : Nat} (h3 : i ≠ 3) {v v' : Value} {zs : List Int} {x : Int} (hi : R i = some (v, zs)) (hb : But (fun b => v.ownBlock = some b) W W1) (ho : W1.ownsRow w.heap.size 3 1 v' (zs.length + 1) (zI zs ++ [.int .i64 x])) (hat : ∀ b, v'.ownBlock = some b → v.ownBlock = some b ∨ W.heap.size ≤ b) (j : Nat) :
  AlG w (W1.setCell ⟨ab, j, none⟩ v') ab sb (cs.setIfInBounds j v') vm vmem M (upd R i (some (v', zs ++ [x]))) ∧ W1.heap[ab]? = some (.cells cs 80) := by
 have hown := h.rows.own i v zs hi
 have hab : W1.heap[ab]? = some (.cells cs 80) := by
  rw [hb.block ab (Array.getElem?_eq_some_iff.1 h.box).1 (fun e => by
   obtain ⟨_, cur, h2⟩ := own_blk hown e
   exact blk_ne h.box h2 (by decide) rfl)]
  exact h.box
 have hset1 : SetAt keyI W1 w.heap.size sb vm vmem M := h.set.but hb (fun b hB e => by
  obtain ⟨_, cur, h2⟩ := own_blk hown e
  rcases setI_X h.set b hB with h1 | h1
  ·rcases h.rows.apart 3 i vmem M v zs (Ne.symm h3) h.mem hi with h4 | h4
   ·rw [h1] at h4; cases h4
   ·exact h4 (h1.trans e.symm)
  ·exact h1 cur h2)
 have hr1 : RowsF W1 w.heap.size (upd R i (some (v', zs ++ [x]))) := h.rows.growB hi hb (by rw [List.length_append, List.length_singleton, zI_snoc]; exact ho) hat
 have hz1 : W1.heap[w.heap.size]? = some (.cells #[nilS, nilS, nilS, nilS] 80) := by
  rw [hb.block _ (Array.getElem?_eq_some_iff.1 h.zer).1 (fun e => by
   obtain ⟨_, cur, h2⟩ := own_blk hown e
   exact blk_ne h.zer h2 (by decide) rfl)]
  exact h.zer
 have hB1 : Below w.heap.size w W1 := h.bel.trans (hb.below h.bel.size (fun k hk e => by have := own_block hown k e; omega))
 refine ⟨⟨?_, ?_, ?_, ?_, ?_, ?_, h.ge⟩, hab⟩
 ·exact blk_setk hab j v'
 ·rw [heap_set_other _ _ _ _ _ (by have := h.ge; omega)]; exact hz1
 ·refine hset1.keep (fun b hB => heap_set_other _ _ _ _ _ ?_)
  rintro rfl
  rcases hB with h1 | h1 | h1
  ·have h2 := hset1.box
   rw [← h1] at h2
   exact blk_ne hab h2 (by decide) rfl
  ·rcases hset1.map with ⟨h5, _⟩ | ⟨mb, h5, _, es, c, h6, _⟩
   ·rw [h5] at h1; cases h1
   ·rw [h5] at h1; cases h1; rw [hab] at h6; cases h6
  ·obtain ⟨_, cur, h2⟩ := own_blk hset1.row h1
   exact blk_ne hab h2 (by decide) rfl
 ·refine hr1.but ((But.refl (fun b => b = ab) W1).set ab j v' rfl) (fun b hB cur e => ?_)
  subst hB
  exact blk_ne hab e (by decide) rfl
 ·rw [upd_other _ _ (Ne.symm h3)]; exact h.mem
 ·exact hB1.setCell (by show w.heap.size ≤ ab; have := h.ge; omega) v'
theorem AlG.placed (h : AlG w W ab sb cs vm vmem M R) {vm' vmem' : Value} {M' : List Int} (hs' : SetAt keyI W1 w.heap.size sb vm' vmem' M') (hb : But (SetB sb vm vmem) W W1) (hat : ∀ b, vmem'.ownBlock = some b → vmem.ownBlock = some b ∨ W.heap.size ≤ b) : AlG w W1 ab sb cs vm' vmem' M' (upd R 3 (some (vmem', M'))) := by
 have far : ∀ b, (∃ cs', W.heap[b]? = some (.cells cs' 80)) → ¬ SetB sb vm vmem b := by
  rintro b ⟨cs', hb'⟩ hB
  rcases hB with rfl | h1 | h1
  ·exact blk_ne hb' h.set.box (by decide) rfl
  ·rcases h.set.map with ⟨h5, _⟩ | ⟨mb, h5, _, es, c, h6, _⟩
   ·rw [h5] at h1; cases h1
   ·rw [h5] at h1; cases h1; rw [hb'] at h6; cases h6
  ·obtain ⟨_, cur, h2⟩ := own_blk h.set.row h1
   exact blk_ne hb' h2 (by decide) rfl
 refine ⟨?_, ?_, hs', h.rows.place h.mem h.set hs' hb hat, upd_same _ _ _, h.bel.trans (hb.below h.bel.size (fun k hk hB => ?_)), h.ge⟩
 ·rw [hb.block ab (Array.getElem?_eq_some_iff.1 h.box).1 (far _ ⟨_, h.box⟩)]; exact h.box
 ·rw [hb.block _ (Array.getElem?_eq_some_iff.1 h.zer).1 (far _ ⟨_, h.zer⟩)]; exact h.zer
 ·rcases h.set.from_ hB with h1 | h1
  ·have := h.ge; omega
  ·omega
theorem AlG.put (h : AlG w W ab sb cs vm vmem M R) {i : Nat} (h3 : i ≠ 3) {g cap n : Nat} {zs : List Int} (hnl : zs.length = n) (hi : R i = some (.slice (some ⟨g, 0, none⟩) n cap, zs)) {k : Nat} (hk : k < n) (x : Int) : AlG w (W.setCell ⟨g, k, none⟩ (.int .i64 x)) ab sb cs vm vmem M (upd R i (some (.slice (some ⟨g, 0, none⟩) n cap, zs.set k x))) := by
 subst hnl
 have hown := h.rows.own i _ zs hi
 obtain ⟨hg, cur, hgb⟩ := own_blk hown (b := g) rfl
 refine ⟨?_, ?_, ?_, h.rows.set hi hk x, ?_, h.bel.setCell (by exact hg) _, h.ge⟩
 ·rw [heap_set_other _ _ _ _ _ (blk_ne h.box hgb (by decide))]; exact h.box
 ·rw [heap_set_other _ _ _ _ _ (blk_ne h.zer hgb (by decide))]; exact h.zer
 ·refine h.set.keep (fun b hB => heap_set_other _ _ _ _ _ ?_)
  rintro rfl
  rcases setI_X h.set b hB with h1 | h1
  ·rcases h.rows.apart 3 i vmem M _ zs (Ne.symm h3) h.mem hi with h4 | h4
   ·rw [h1] at h4; cases h4
   ·exact h4 h1
  ·exact h1 cur hgb
 ·rw [upd_other _ _ (Ne.symm h3)]; exact h.mem
end Go.Proofs.YtoinajfliogcdaaDoor
