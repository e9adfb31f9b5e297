import Derived.Test.YtmnfioghhdgciaaDoorWildJ03
import Derived.Test.YtmnfioghhdgciaaDoorProg
import Derived.Test.YtmnfioghhdgciaaDoorWildJ00
import Derived.WalkKit
import Derived.WalkLawsBesides
import Derived.BigQuiet
namespace Go.Proofs.YtmnfioghhdgciaaDoor
open Go Go.RowKit
set_option linter.unusedVariables false
set_option linter.unusedSimpArgs false
set_option maxRecDepth 100000

/-! place: the set of int. -/
theorem Tryd.infoI : (Tryd.prog.info? 3).map (fun i => (i.zero, i.size, i.bytes)) = some (some (.int .i64 0), 1, 8) := by kernel_rfl
def keyI : KeyT Int := ⟨3, 118, 120, 1, (Value.int .i64 ·), fun x => #[Value.int .i64 x], (fun x => -9223372036854775808 ≤ x ∧ x ≤ 9223372036854775807)⟩
theorem okI : (keyI).Ok := ⟨Tryd.underlying118, Maps.int_keyed Tryd.underlying3, fun x h => ⟨_, Maps.keyOf_int_mk Tryd.underlying3 (WalkArith.wf_i64 (by unfold keyI at h; dsimp only at h; omega))⟩, fun x y h => by simpa [keyI] using h⟩
theorem nilMapI (w : World) : (binOp BinOp.eql 118 (.map none) (.map none)).run Tryd.prog w = .ok (.bool true) w := by first | kernel_rfl | simp [binOp, Tryd.underlying118] | go_simp
theorem someMapI (w : World) (mb : Nat) : (binOp BinOp.eql 118 (.map (some mb)) (.map none)).run Tryd.prog w = .ok (.bool false) w := by first | kernel_rfl | simp [binOp, Tryd.underlying118] | go_simp
theorem makeMapI (w : World) : (Instr.makeMap 118 none).run Tryd.prog w = .ok (.map (some w.heap.size)) (w.alloc (.map #[] 0)) := by first | kernel_rfl | simp [Instr.makeMap, Tryd.underlying118] | go_simp
set_option maxHeartbeats 4000000 in
theorem placeI_any (base sb : Nat) (vm vs : Value) (L : List Int) (x : Int) (W : World) (hok : (keyI).ok x) (hb : (L.length + 1) * 8 ≤ 140737488355328) (hbase : base ≤ W.heap.size) (h : SetAt keyI W base sb vm vs L) :
    Calls Tryd.prog 58 #[.pointer (some ⟨sb, 0, none⟩), (keyI).enc x] W (PlPost keyI W base sb vm vs L x) := by
  obtain ⟨i0, hi0, hz0, hz1, hz2⟩ := info_parts Tryd.infoI
  have c0 : W.cell? ⟨sb, 0, none⟩ = some vm := blkc h.box 0
  have c1 : W.cell? ⟨sb, 1, none⟩ = some vs := blkc h.box 1
  have hsb := h.lt
  have H := hidd h
  have hown := h.row
  have hmn := nilMapI
  have hms := someMapI
  have fz : ∀ j, W.frozen? ⟨sb, j, none⟩ = false := fun j => frozen_of_row W sb j _ _ h.box
  by_cases hx : x ∈ L
  · obtain ⟨mb, rfl, hm1, hm2⟩ : ∃ mb, vm = .map (some mb) ∧ base ≤ mb ∧ MapK keyI W mb L := by
      rcases h.map with ⟨_, rfl⟩ | h1
      · simp at hx
      · exact h1
    rcases hm2.look okI h.oks x hok with ⟨h1, _⟩ | ⟨j, h1, h2⟩
    · exact absurd hx h1
    have h2' : (Instr.lookup 118 (.map (some mb)) (.int .i64 x) true).run Tryd.prog W = .ok (.tuple #[.int .i64 (j : Int), .bool true]) W := h2
    have HJ : Hid (ix L x = j) := ix_of h.nodup h1
    have HM := hidd (meet_old hx)
    clear h h1 h2 hm2 hown hx
    show Calls Tryd.prog 58 #[.pointer (some ⟨sb, 0, none⟩), .int .i64 x] W _
    go_enter Tryd.func58, Tryd.ntmps58
    go_wp2_with fail
    go_ret
    exact ⟨by rw [HM.out, HJ.out]; rfl, _, _, by rw [HM.out]; exact H.out, But.refl _ _, fun b hb => Or.inl hb, fun b hb => Or.inl hb⟩
  · have hI : ix (meet L x) x = L.length := by rw [meet_fresh hx, ix_new hx]
    have HI := hidd hI
    have HM := hidd (meet_fresh hx)
    have hln : ((L.length : Nat) : Int) ≤ 140737488355328 := by omega
    have HX := hidd hx
    have HOK := hidd h.oks
    have HOKS : Hid (∀ y ∈ L ++ [x], (keyI).ok y) := fun y hy => by
      rcases List.mem_append.1 hy with h1 | h1
      · exact h.oks y h1
      · rw [List.mem_singleton.1 h1]; exact hok
    have HND : Hid ((L ++ [x]).Nodup) := by
      show List.Nodup _
      rw [List.nodup_append]
      exact ⟨h.nodup, by simp, fun a ha b hb' e => hx (by rw [List.mem_singleton.1 hb'] at e; rw [← e]; exact ha)⟩
    have hlk : (∀ (mb : Nat), vm = .map (some mb) → (Instr.lookup 118 (.map (some mb)) (.int .i64 x) true).run Tryd.prog W = .ok (.tuple #[.int .i64 0, .bool false]) W) := by
      rintro mb rfl
      rcases h.map with ⟨h1, _⟩ | ⟨mb', h1, _, h2⟩
      · cases h1
      · cases h1
        rcases h2.look okI h.oks x hok with ⟨_, h4⟩ | ⟨j, h4, _⟩
        · exact h4
        · exact absurd (List.mem_of_getElem? h4) hx
    obtain ⟨ad, cp, rfl, _⟩ : ∃ ad cp, vs = .slice ad L.length cp ∧ True := by
      rcases hown.2 with ⟨h1, h2⟩ | ⟨g, cap, cur, h1, _⟩
      · exact ⟨none, 0, by rw [h1, h2], trivial⟩
      · exact ⟨_, cap, h1, trivial⟩
    rcases h.map with ⟨rfl, hl⟩ | ⟨mb, rfl, hmb, hmk⟩
    · have hz1' : (((W.alloc (.map #[] 0)).setCell ⟨sb, 0, none⟩ (.map (some W.heap.size)))).heap.size = W.heap.size + 1 := by simp
      have hbA : (W.alloc (.map #[] 0)).heap[sb]? = some (.cells #[.map none, .slice ad L.length cp] 120) := by rw [Below.heap_alloc _ _ _ hsb]; exact h.box
      have hb1 : (((W.alloc (.map #[] 0)).setCell ⟨sb, 0, none⟩ (.map (some W.heap.size)))).heap[sb]? = some (.cells #[.map (some W.heap.size), .slice ad L.length cp] 120) := by
        have := blk_setk hbA 0 (.map (some W.heap.size))
        simpa using this
      have hM1 : MapK keyI ((W.alloc (.map #[] 0)).setCell ⟨sb, 0, none⟩ (.map (some W.heap.size))) W.heap.size L := by
        rw [hl]
        exact (mapK_new W).keep (heap_set_other _ sb 0 _ _ (by omega))
      have HO1 : Hid (((W.alloc (.map #[] 0)).setCell ⟨sb, 0, none⟩ (.map (some W.heap.size))).ownsRow base 3 1 (.slice ad L.length cp) L.length (rowK keyI L)) := own_congr hown (fun b hk => by
        obtain ⟨_, cur, h2⟩ := own_blk hown hk
        rw [heap_set_other _ sb 0 _ b (blk_ne h2 h.box (by decide)), Below.heap_alloc _ _ _ (Array.getElem?_eq_some_iff.1 h2).1])
      have HNE : Hid (W.heap.size ≠ sb) := by show _ ≠ _; omega
      have HBt1 : Hid (But (SetB sb (.map none) (.slice ad L.length cp)) W ((W.alloc (.map #[] 0)).setCell ⟨sb, 0, none⟩ (.map (some W.heap.size)))) := ((But.refl _ _).alloc _).set sb 0 _ (Or.inl rfl)
      have HMB2 : Hid (Value.map none = .map (some W.heap.size) ∨ W.heap.size ≤ W.heap.size) := Or.inr (Nat.le_refl _)
      have HMB : Hid (SetB sb (.map none) (.slice ad L.length cp) W.heap.size ∨ W.heap.size ≤ W.heap.size) := Or.inr (Nat.le_refl _)
      have HMBb : Hid (base ≤ W.heap.size) := hbase
      have hln0 := look_nil okI W x hok
      have hln0' : (Instr.lookup 118 (.map none) (.int .i64 x) true).run Tryd.prog W = .ok (.tuple #[.int .i64 0, .bool false]) W := hln0
      have fzA : ∀ j, (W.alloc (.map #[] 0)).frozen? ⟨sb, j, none⟩ = false := fun j => frozen_of_row _ sb j _ _ hbA
      have cA : (W.alloc (.map #[] 0)).cell? ⟨sb, 0, none⟩ = some (.map none) := blkc hbA 0
      have cB : ((W.alloc (.map #[] 0)).setCell ⟨sb, 0, none⟩ (.map (some W.heap.size))).cell? ⟨sb, 0, none⟩ = some (.map (some W.heap.size)) := blkc hb1 0
      have cC : ((W.alloc (.map #[] 0)).setCell ⟨sb, 0, none⟩ (.map (some W.heap.size))).cell? ⟨sb, 1, none⟩ = some (.slice ad L.length cp) := blkc hb1 1
      have hmk : (Instr.makeMap 118 none).run Tryd.prog W = .ok (.map (some W.heap.size)) (W.alloc (.map #[] 0)) := makeMapI W
      have HL0 := hidd hl
      clear h hown hln0 hlk hbA hl
      obtain ⟨W2, hput, hm2, hg2, hz2'⟩ := hM1.put okI HOK.out x hok HX.out
      have hput' : (Instr.mapUpdate 118 (.map (some W.heap.size)) (.int .i64 x) (.int .i64 (L.length : Int))).run Tryd.prog ((W.alloc (.map #[] 0)).setCell ⟨sb, 0, none⟩ (.map (some W.heap.size))) = .ok () W2 := hput
      have hb2 : W2.heap[sb]? = some (.cells #[.map (some W.heap.size), .slice ad L.length cp] 120) := by
        rw [hg2.block sb (by rw [hz1']; omega) (fun e => HNE.out (by simpa using e.symm))]; exact hb1
      have HO2 : Hid (W2.ownsRow base 3 1 (.slice ad L.length cp) L.length (rowK keyI L)) := own_congr HO1.out (fun b hk => hg2.block b (Array.getElem?_eq_some_iff.1 (own_blk HO1.out hk).2.choose_spec).1 (fun e => by
        obtain ⟨_, cur, h2⟩ := own_blk HO1.out hk
        obtain ⟨es, c, h3, _⟩ := hM1
        have e' : b = W.heap.size := by simpa using e
        rw [e', h3] at h2
        cases h2))
      have HBt2 : Hid (But (SetB sb (.map none) (.slice ad L.length cp)) W W2) := HBt1.out.grown hg2 (fun k hk => by
        have : W.heap.size = k := by simpa using hk
        subst this; exact HMB.out)
      have HM2 := hidd hm2
      have HB2 := hidd hb2
      have hcap2 : base ≤ W2.heap.size := by rw [hz2', hz1']; omega
      have d1 : W2.cell? ⟨sb, 1, none⟩ = some (.slice ad L.length cp) := blkc hb2 1
      have fz2 : ∀ j, W2.frozen? ⟨sb, j, none⟩ = false := fun j => frozen_of_row W2 sb j _ _ hb2
      have HSB := hidd hsb
      clear hput hm2 hg2 hz2' hM1 hsb
      show Calls Tryd.prog 58 #[.pointer (some ⟨sb, 0, none⟩), .int .i64 x] W _
      go_enter Tryd.func58, Tryd.ntmps58
      go_wp2_with (at_builtin; refine wp_pushk rfl _ _ 30 3 rfl i0 (.int .i64 0) 1 8 Tryd.underlying30 hi0 hz0 hz1 hz2 rfl (by decide) base _ _ _ rfl HO2.out ((keyI).cells x) rfl (by intro y hy; simp [keyI] at hy; subst hy; rfl) rfl hb (by decide) hcap2 ?_)
      intro v' W3 ho3 hbt3 hat3 hnn3
      obtain ⟨g3, c3, rfl⟩ : ∃ g c, v' = .slice (some ⟨g, 0, none⟩) (L.length + 1) c := by
        rcases ho3.2 with ⟨h1, _⟩ | ⟨g, cap, cur, h1, _⟩
        · exact absurd h1 hnn3
        · exact ⟨g, cap, h1⟩
      have HP := SetAt.pushed (K := keyI) (by decide) HB2.out HM2.out HMBb.out HO2.out hbt3 ho3 HND.out HOKS.out
      have hb3 : W3.heap[sb]? = some (.cells #[.map (some W.heap.size), .slice ad L.length cp] 120) := HP.2
      have HP1 := hidd HP.1
      have HBt3 : Hid (But (SetB sb (.map none) (.slice ad L.length cp)) W (W3.setCell ⟨sb, 1, none⟩ (.slice (some ⟨g3, 0, none⟩) (L.length + 1) c3))) := (HBt2.out.trans hbt3 (Z := SetB sb (.map none) (.slice ad L.length cp)) (fun _ _ h => h) (fun _ _ h => Or.inr (Or.inr h))).set sb 1 _ (Or.inl rfl)
      have HAT : Hid ((∀ b, (Value.slice (some ⟨g3, 0, none⟩) (L.length + 1) c3).ownBlock = some b → (Value.slice ad L.length cp).ownBlock = some b ∨ W.heap.size ≤ b) ∧ ∀ b, Value.map (some W.heap.size) = .map (some b) → (.map none) = Value.map (some b) ∨ W.heap.size ≤ b) := by
        refine ⟨fun b e => (hat3 b e).imp id (fun h => Nat.le_trans HBt2.out.size h), fun b e => ?_⟩
        have : W.heap.size = b := by simpa using e
        subst this
        first | exact HMB2.out | exact Or.inl rfl
      have e1 : W3.cell? ⟨sb, 1, none⟩ = some (.slice ad L.length cp) := blkc hb3 1
      have fz3 : ∀ j, W3.frozen? ⟨sb, j, none⟩ = false := fun j => frozen_of_row W3 sb j _ _ hb3
      clear ho3 hbt3 hat3 HP hb3 hb2 d1 fz2
      go_wp2_with fail
      go_ret
      exact ⟨by rw [HI.out]; rfl, _, _, by rw [HM.out]; exact HP1.out, HBt3.out, HAT.out.1, HAT.out.2⟩
    · have hz1' : W.heap.size = W.heap.size + 0 := rfl
      have hb1 : W.heap[sb]? = some (.cells #[.map (some mb), .slice ad L.length cp] 120) := h.box
      have hM1 := hmk
      have HO1 := hidd hown
      have HNE : Hid (mb ≠ sb) := by
        show _ ≠ _
        rintro rfl
        obtain ⟨es, c, h3, _⟩ := hmk
        rw [h3] at hb1
        cases hb1
      have HBt1 : Hid (But (SetB sb (.map (some mb)) (.slice ad L.length cp)) W W) := But.refl _ _
      have HMB2 : Hid (Value.map (some mb) = .map (some mb) ∨ W.heap.size ≤ mb) := Or.inl rfl
      have HMB : Hid (SetB sb (.map (some mb)) (.slice ad L.length cp) mb ∨ W.heap.size ≤ mb) := Or.inl (Or.inr (Or.inl rfl))
      have HMBb := hidd hmb
      have hlk' := hlk mb rfl
      clear h hown hlk
      obtain ⟨W2, hput, hm2, hg2, hz2'⟩ := hM1.put okI HOK.out x hok HX.out
      have hput' : (Instr.mapUpdate 118 (.map (some mb)) (.int .i64 x) (.int .i64 (L.length : Int))).run Tryd.prog W = .ok () W2 := hput
      have hb2 : W2.heap[sb]? = some (.cells #[.map (some mb), .slice ad L.length cp] 120) := by
        rw [hg2.block sb (by rw [hz1']; omega) (fun e => HNE.out (by simpa using e.symm))]; exact hb1
      have HO2 : Hid (W2.ownsRow base 3 1 (.slice ad L.length cp) L.length (rowK keyI L)) := own_congr HO1.out (fun b hk => hg2.block b (Array.getElem?_eq_some_iff.1 (own_blk HO1.out hk).2.choose_spec).1 (fun e => by
        obtain ⟨_, cur, h2⟩ := own_blk HO1.out hk
        obtain ⟨es, c, h3, _⟩ := hM1
        have e' : b = mb := by simpa using e
        rw [e', h3] at h2
        cases h2))
      have HBt2 : Hid (But (SetB sb (.map (some mb)) (.slice ad L.length cp)) W W2) := HBt1.out.grown hg2 (fun k hk => by
        have : mb = k := by simpa using hk
        subst this; exact HMB.out)
      have HM2 := hidd hm2
      have HB2 := hidd hb2
      have hcap2 : base ≤ W2.heap.size := by rw [hz2', hz1']; omega
      have d1 : W2.cell? ⟨sb, 1, none⟩ = some (.slice ad L.length cp) := blkc hb2 1
      have fz2 : ∀ j, W2.frozen? ⟨sb, j, none⟩ = false := fun j => frozen_of_row W2 sb j _ _ hb2
      have HSB := hidd hsb
      clear hput hm2 hg2 hz2' hM1 hsb
      show Calls Tryd.prog 58 #[.pointer (some ⟨sb, 0, none⟩), .int .i64 x] W _
      go_enter Tryd.func58, Tryd.ntmps58
      go_wp2_with (at_builtin; refine wp_pushk rfl _ _ 30 3 rfl i0 (.int .i64 0) 1 8 Tryd.underlying30 hi0 hz0 hz1 hz2 rfl (by decide) base _ _ _ rfl HO2.out ((keyI).cells x) rfl (by intro y hy; simp [keyI] at hy; subst hy; rfl) rfl hb (by decide) hcap2 ?_)
      intro v' W3 ho3 hbt3 hat3 hnn3
      obtain ⟨g3, c3, rfl⟩ : ∃ g c, v' = .slice (some ⟨g, 0, none⟩) (L.length + 1) c := by
        rcases ho3.2 with ⟨h1, _⟩ | ⟨g, cap, cur, h1, _⟩
        · exact absurd h1 hnn3
        · exact ⟨g, cap, h1⟩
      have HP := SetAt.pushed (K := keyI) (by decide) HB2.out HM2.out HMBb.out HO2.out hbt3 ho3 HND.out HOKS.out
      have hb3 : W3.heap[sb]? = some (.cells #[.map (some mb), .slice ad L.length cp] 120) := HP.2
      have HP1 := hidd HP.1
      have HBt3 : Hid (But (SetB sb (.map (some mb)) (.slice ad L.length cp)) W (W3.setCell ⟨sb, 1, none⟩ (.slice (some ⟨g3, 0, none⟩) (L.length + 1) c3))) := (HBt2.out.trans hbt3 (Z := SetB sb (.map (some mb)) (.slice ad L.length cp)) (fun _ _ h => h) (fun _ _ h => Or.inr (Or.inr h))).set sb 1 _ (Or.inl rfl)
      have HAT : Hid ((∀ b, (Value.slice (some ⟨g3, 0, none⟩) (L.length + 1) c3).ownBlock = some b → (Value.slice ad L.length cp).ownBlock = some b ∨ W.heap.size ≤ b) ∧ ∀ b, Value.map (some mb) = .map (some b) → (.map (some mb)) = Value.map (some b) ∨ W.heap.size ≤ b) := by
        refine ⟨fun b e => (hat3 b e).imp id (fun h => Nat.le_trans HBt2.out.size h), fun b e => ?_⟩
        have : mb = b := by simpa using e
        subst this
        first | exact HMB2.out | exact Or.inl rfl
      have e1 : W3.cell? ⟨sb, 1, none⟩ = some (.slice ad L.length cp) := blkc hb3 1
      have fz3 : ∀ j, W3.frozen? ⟨sb, j, none⟩ = false := fun j => frozen_of_row W3 sb j _ _ hb3
      clear ho3 hbt3 hat3 HP hb3 hb2 d1 fz2
      go_wp2_with fail
      go_ret
      exact ⟨by rw [HI.out]; rfl, _, _, by rw [HM.out]; exact HP1.out, HBt3.out, HAT.out.1, HAT.out.2⟩
end Go.Proofs.YtmnfioghhdgciaaDoor

namespace Go.Proofs.YtmnfioghhdgciaaDoor
open Go Go.RowKit
set_option linter.unusedVariables false
set_option maxRecDepth 100000

/-! What spec.l05Least has in memory while it makes states. -/
structure Ls7 (w0 W : World) (rb db sb : Nat) (raw : Array Value) (R : RowMap) (v : Value) (l : List MSt) (va : Value) (f : Bool) (rs : List (Int × Int)) (e : Int) : Prop where
  below : Below w0.heap.size w0 W
  rawb : W.heap[rb]? = some (.cells raw 38)
  res : W.heap[rb + 1]? = some (.cells #[.slice none 0 0] 24)
  dbox : W.heap[db]? = some (.cells #[v] 24)
  rows : RowsF W w0.heap.size R
  cur : CurM W w0.heap.size v l sb va f rs e
  from_ : w0.heap.size ≤ db
  ne : db ≠ rb + 1
structure Ls6 (w0 W : World) (rb db : Nat) (raw : Array Value) (R : RowMap) (v : Value) (l : List MSt) : Prop where
  below : Below w0.heap.size w0 W
  rawb : W.heap[rb]? = some (.cells raw 38)
  res : W.heap[rb + 1]? = some (.cells #[.slice none 0 0] 24)
  dbox : W.heap[db]? = some (.cells #[v] 24)
  rows : RowsF W w0.heap.size R
  dfa : DfaM W w0.heap.size v l
  from_ : w0.heap.size ≤ db
  ne : db ≠ rb + 1
theorem Ls6.keep {w0 W W' : World} {rb db : Nat} {raw : Array Value} {R : RowMap} {v : Value} {l : List MSt} (h : Ls6 w0 W rb db raw R v l) (hb : Below W.heap.size W W') : Ls6 w0 W' rb db raw R v l :=
  ⟨h.below.trans (hb.mono h.below.size), blko h.rawb hb, blko h.res hb, blko h.dbox hb, h.rows.below hb, h.dfa.below hb, h.from_, h.ne⟩
theorem Ls6.start {w0 W : World} {rb db : Nat} {raw : Array Value} {R : RowMap} {v : Value} {l : List MSt} (h : Ls6 w0 W rb db raw R v l) (f : Bool) (e : Int) : Ls7 w0 (W.alloc (.cells #[.bool f, .slice none 0 0, .int .i64 e] 86)) rb db W.heap.size raw R v l (.slice none 0 0) f [] e := by
  have hb : Below W.heap.size W (W.alloc (.cells #[.bool f, .slice none 0 0, .int .i64 e] 86)) := (Below.refl _ _).alloc (Nat.le_refl _) _
  have h' := h.keep hb
  exact ⟨h'.below, h'.rawb, h'.res, h'.dbox, h'.rows, h.dfa.start h.below.size f e, h.from_, h.ne⟩
/-- Only rows of ints were written. -/
theorem Ls7.ints {w0 W W' : World} {rb db sb : Nat} {raw : Array Value} {R R' : RowMap} {v : Value} {l : List MSt} {va : Value} {f : Bool} {rs : List (Int × Int)} {e : Int} (h : Ls7 w0 W rb db sb raw R v l va f rs e) (hB : Below w0.heap.size w0 W') (hk : ∀ (b : Nat) (cs : Array Value) (t : TypeId), t ≠ 3 → W.heap[b]? = some (.cells cs t) → W'.heap[b]? = some (.cells cs t)) (hR : RowsF W' w0.heap.size R') : Ls7 w0 W' rb db sb raw R' v l va f rs e :=
  ⟨hB, hk _ _ _ (by decide) h.rawb, hk _ _ _ (by decide) h.res, hk _ _ _ (by decide) h.dbox, hR, h.cur.congr fun b cs t ht hh => hk b cs t (by rcases ht with rfl | rfl <;> decide) hh, h.from_, h.ne⟩
theorem Ls7.keep {w0 W W' : World} {rb db sb : Nat} {raw : Array Value} {R : RowMap} {v : Value} {l : List MSt} {va : Value} {f : Bool} {rs : List (Int × Int)} {e : Int} (h : Ls7 w0 W rb db sb raw R v l va f rs e) (hb : Below W.heap.size W W') : Ls7 w0 W' rb db sb raw R v l va f rs e :=
  h.ints (h.below.trans (hb.mono h.below.size)) (fun b cs t _ hh => blko hh hb) (h.rows.below hb)
theorem Ls7.setInt {w0 W : World} {rb db sb : Nat} {raw : Array Value} {R : RowMap} {v : Value} {l : List MSt} {va : Value} {f : Bool} {rs : List (Int × Int)} {e : Int} (h : Ls7 w0 W rb db sb raw R v l va f rs e) {i g n cap : Nat} {zs : List Int} (hi : R i = some (.slice (some ⟨g, 0, none⟩) n cap, zs)) (hn : zs.length = n) {k : Nat} (hk : k < n) (x : Int) : Ls7 w0 (W.setCell ⟨g, k, none⟩ (.int .i64 x)) rb db sb raw (upd R i (some (.slice (some ⟨g, 0, none⟩) n cap, zs.set k x))) v l va f rs e := by
  subst hn
  obtain ⟨hge, cur, hcur⟩ := own_blk (h.rows.own i _ _ hi) (b := g) rfl
  refine h.ints (h.below.trans (((But.refl (fun b => b = g) W).set g k _ rfl).below h.below.size (fun j hj e => by omega))) (fun b cs t ht hh => ?_) (h.rows.set hi hk x)
  rw [heap_set_other W g k _ b (blk_ne hh hcur ht)]; exact hh
theorem Ls7.growInt {w0 W W' : World} {rb db sb : Nat} {raw : Array Value} {R : RowMap} {v : Value} {l : List MSt} {va : Value} {f : Bool} {rs : List (Int × Int)} {e : Int} (h : Ls7 w0 W rb db sb raw R v l va f rs e) {i : Nat} {u u' : Value} {zs ys : List Int} (hi : R i = some (u, zs)) (hg : But (fun b => u.ownBlock = some b) W W') (hv : W'.ownsRow w0.heap.size 3 1 u' ys.length (zI ys)) (hat : ∀ b, u'.ownBlock = some b → u.ownBlock = some b ∨ W.heap.size ≤ b) : Ls7 w0 W' rb db sb raw (upd R i (some (u', ys))) v l va f rs e := by
  have ho := h.rows.own i _ _ hi
  refine h.ints (h.below.trans (hg.below h.below.size (fun j hj e => by have := (own_blk ho e).1; omega))) (fun b cs t ht hh => ?_) (h.rows.growB hi hg hv hat)
  rw [hg.block b (Array.getElem?_eq_some_iff.1 hh).1 (fun e => by
    obtain ⟨_, cur, h2⟩ := own_blk ho e
    exact blk_ne hh h2 ht rfl)]
  exact hh
theorem not_int_of {W : World} {base : Nat} {R : RowMap} (h : RowsF W base R) {b : Nat} {cs : Array Value} {t : TypeId} (hh : W.heap[b]? = some (.cells cs t)) (ht : t ≠ 3) : ∀ cur, W.heap[b]? ≠ some (.cells cur 3) := by
  intro cur e
  rw [hh] at e
  simp only [Option.some.injEq, Obj.cells.injEq] at e
  exact ht e.2.1
/-- An arc more. -/
theorem Ls7.arc {w0 W W1 : World} {rb db sb : Nat} {raw : Array Value} {R : RowMap} {v : Value} {l : List MSt} {va va' : Value} {f : Bool} {rs : List (Int × Int)} {e : Int} {a : Int × Int} (h : Ls7 w0 W rb db sb raw R v l va f rs e) (hb : But (fun b => va.ownBlock = some b) W W1) (ho : W1.ownsRow w0.heap.size 92 2 va' (rs.length + 1) (arcCells rs ++ [.int .i64 a.1, .int .i64 a.2])) (hat : ∀ b, va'.ownBlock = some b → va.ownBlock = some b ∨ W.heap.size ≤ b) :
    Ls7 w0 (W1.setCell ⟨sb, 1, none⟩ va') rb db sb raw R v l va' f (rs ++ [a]) e ∧ W1.heap[sb]? = some (.cells #[.bool f, va, .int .i64 e] 86) := by
  obtain ⟨hc, hsb⟩ := h.cur.arc hb ho hat
  have hX : But (fun b => va.ownBlock = some b ∨ b = sb) W (W1.setCell ⟨sb, 1, none⟩ va') := (hb.mono fun i _ hi => Or.inl hi).set sb 1 va' (Or.inr rfl)
  have hk : ∀ (b : Nat) (cs : Array Value) (t : TypeId), t ≠ 86 → t ≠ 92 → W.heap[b]? = some (.cells cs t) → (W1.setCell ⟨sb, 1, none⟩ va').heap[b]? = some (.cells cs t) := by
    intro b cs t h1 h2 hh
    rw [hX.block b (Array.getElem?_eq_some_iff.1 hh).1 (fun e' => by
      rcases e' with e' | e'
      · obtain ⟨_, cur, h3⟩ := own_blk h.cur.arcs e'
        exact blk_ne hh h3 h2 rfl
      · subst e'
        exact blk_ne hh h.cur.box h1 rfl)]
    exact hh
  refine ⟨⟨h.below.trans (hX.below h.below.size (fun j hj e' => ?_)), hk _ _ _ (by decide) (by decide) h.rawb, hk _ _ _ (by decide) (by decide) h.res, hk _ _ _ (by decide) (by decide) h.dbox, h.rows.but hX (fun b e' => ?_), hc, h.from_, h.ne⟩, hsb⟩
  · rcases e' with e' | e'
    · have := (own_blk h.cur.arcs e').1; omega
    · have := h.cur.from_; omega
  · rcases e' with e' | e'
    · obtain ⟨_, cur, h3⟩ := own_blk h.cur.arcs e'
      exact not_int_of h.rows h3 (by decide)
    · subst e'
      exact not_int_of h.rows h.cur.box (by decide)
/-- Where all others go. -/
theorem Ls7.els {w0 W : World} {rb db sb : Nat} {raw : Array Value} {R : RowMap} {v : Value} {l : List MSt} {va : Value} {f : Bool} {rs : List (Int × Int)} {e : Int} (h : Ls7 w0 W rb db sb raw R v l va f rs e) (x : Int) : Ls7 w0 (W.setCell ⟨sb, 2, none⟩ (.int .i64 x)) rb db sb raw R v l va f rs x := by
  have hX : But (fun b => b = sb) W (W.setCell ⟨sb, 2, none⟩ (.int .i64 x)) := (But.refl _ _).set sb 2 _ rfl
  have hk : ∀ (b : Nat), b ≠ sb → (W.setCell ⟨sb, 2, none⟩ (.int .i64 x)).heap[b]? = W.heap[b]? := fun b hb => heap_set_other W sb 2 _ b hb
  have hc := h.cur
  refine ⟨h.below.trans (hX.below h.below.size (fun j hj e' => by have := hc.from_; omega)), ?_, ?_, ?_, h.rows.but hX (fun b e' => by subst e'; exact not_int_of h.rows hc.box (by decide)), ⟨?_, ?_, ?_, hc.apart, hc.off, hc.from_⟩, h.from_, h.ne⟩
  · rw [hk _ (blk_ne h.rawb hc.box (by decide))]; exact h.rawb
  · rw [hk _ (blk_ne h.res hc.box (by decide))]; exact h.res
  · rw [hk _ (blk_ne h.dbox hc.box (by decide))]; exact h.dbox
  · refine hc.dfa.congr fun b cs t ht hkk hh => ?_
    rw [hk b (by
      rintro rfl
      rcases hkk with hkk | ⟨s, hs, hkk⟩
      · exact hc.off hkk
      · obtain ⟨_, c1, h3⟩ := own_blk (hc.dfa.arcs s hs) hkk
        exact blk_ne h3 hc.box (by decide) rfl)]
    exact hh
  · have := blk_setk hc.box 2 (.int .i64 x)
    simpa using this
  · refine own_congr hc.arcs (fun b hb => hk b ?_)
    rintro rfl
    obtain ⟨_, c1, h3⟩ := own_blk hc.arcs hb
    exact blk_ne h3 hc.box (by decide) rfl
/-- The state is told. -/
theorem Ls7.done {w0 W W1 : World} {rb db sb : Nat} {raw : Array Value} {R : RowMap} {v v' : Value} {l : List MSt} {va : Value} {f : Bool} {rs : List (Int × Int)} {e : Int} (h : Ls7 w0 W rb db sb raw R v l va f rs e) (hb : But (fun b => v.ownBlock = some b) W W1) (ho : W1.ownsRow w0.heap.size 86 3 v' (l.length + 1) (stCells l ++ [.bool f, va, .int .i64 e])) :
    Ls6 w0 (W1.setCell ⟨db, 0, none⟩ v') rb db raw R v' (l ++ [(va, f, rs, e)]) ∧ W1.heap[db]? = some (.cells #[v] 24) := by
  have hp := h.cur.push hb ho
  have k1 : ∀ (b : Nat) (cs : Array Value) (t : TypeId), t ≠ 86 → W.heap[b]? = some (.cells cs t) → W1.heap[b]? = some (.cells cs t) := by
    intro b cs t h1 hh
    rw [hb.block b (Array.getElem?_eq_some_iff.1 hh).1 (fun e' => by
      obtain ⟨_, cur, h3⟩ := own_blk h.cur.dfa.row e'
      exact blk_ne hh h3 h1 rfl)]
    exact hh
  have hd1 := k1 _ _ _ (by decide) h.dbox
  have hX : But (fun b => v.ownBlock = some b ∨ b = db) W (W1.setCell ⟨db, 0, none⟩ v') := (hb.mono fun i _ hi => Or.inl hi).set db 0 v' (Or.inr rfl)
  have ks : ∀ b, b ≠ db → (W1.setCell ⟨db, 0, none⟩ v').heap[b]? = W1.heap[b]? := fun b hb' => heap_set_other W1 db 0 _ b hb'
  refine ⟨⟨h.below.trans (hX.below h.below.size (fun j hj e' => ?_)), ?_, ?_, ?_, h.rows.but hX (fun b e' => ?_), ?_, h.from_, h.ne⟩, hd1⟩
  · rcases e' with e' | e'
    · have := (own_blk h.cur.dfa.row e').1; omega
    · have := h.from_; omega
  · rw [ks _ (blk_ne (k1 _ _ _ (by decide) h.rawb) hd1 (by decide))]; exact k1 _ _ _ (by decide) h.rawb
  · rw [ks _ (Ne.symm h.ne)]; exact k1 _ _ _ (by decide) h.res
  · have := blk_setk hd1 0 v'
    simpa using this
  · rcases e' with e' | e'
    · obtain ⟨_, cur, h3⟩ := own_blk h.cur.dfa.row e'
      exact not_int_of h.rows h3 (by decide)
    · subst e'
      exact not_int_of h.rows h.dbox (by decide)
  · refine hp.congr fun b cs t ht hkk hh => ?_
    rw [ks b (by
      rintro rfl
      rw [hd1] at hh
      simp only [Option.some.injEq, Obj.cells.injEq] at hh
      rcases ht with rfl | rfl
      · exact absurd hh.2.1 (by decide)
      · exact absurd hh.2.1 (by decide))]
    exact hh
end Go.Proofs.YtmnfioghhdgciaaDoor

namespace Go.Proofs.YtmnfioghhdgciaaDoor
open Go Go.RowKit

set_option maxHeartbeats 400000 in
theorem charOK_any (r : Int) (w : World) : Calls Tryd.prog 67 #[.int .i64 r] w fun e w' => e = .returned (.bool (chr r)) ∧ w' = w := by
  have hc : chr r = decide (0 ≤ r ∧ r ≤ 1114111 ∧ (r < 55296 ∨ 57343 < r)) := rfl
  by_cases h1 : 0 ≤ r
  · by_cases h2 : r ≤ 1114111
    · by_cases h3 : r < 55296
      · have H : Hid (chr r = true) := by show _ = _; rw [chr_iff]; omega
        clear hc
        go_enter Tryd.func67, Tryd.ntmps67
        go_wp2
        go_ret
        rw [H.out]
        exact ⟨rfl, rfl⟩
      · by_cases h4 : 57343 < r
        · have H : Hid (chr r = true) := by show _ = _; rw [chr_iff]; omega
          clear hc
          go_enter Tryd.func67, Tryd.ntmps67
          go_wp2
          go_ret
          rw [H.out]
          exact ⟨rfl, rfl⟩
        · have H : Hid (chr r = false) := by show _ = _; rw [chr_not]; omega
          clear hc
          go_enter Tryd.func67, Tryd.ntmps67
          go_wp2
          go_ret
          rw [H.out]
          exact ⟨rfl, rfl⟩
    · have H : Hid (chr r = false) := by show _ = _; rw [chr_not]; omega
      clear hc
      go_enter Tryd.func67, Tryd.ntmps67
      go_wp2
      go_ret
      rw [H.out]
      exact ⟨rfl, rfl⟩
  · have H : Hid (chr r = false) := by show _ = _; rw [chr_not]; omega
    clear hc
    go_enter Tryd.func67, Tryd.ntmps67
    go_wp2
    go_ret
    rw [H.out]
    exact ⟨rfl, rfl⟩
set_option maxHeartbeats 400000 in
theorem bytes_one (r : Int) (w : World) (h0 : 0 ≤ r) (h1 : r < 128) :
    Calls Tryd.prog 68 #[.int .i64 r] w fun e w' => e = .returned (.slice (some ⟨w.heap.size, 0, none⟩) 1 1) ∧ w' = w.alloc (.cells #[.int .u8 r] 5) := by
  go_enter Tryd.func68, Tryd.ntmps68
  go_wp2
  go_ret
  exact ⟨rfl, rfl⟩
set_option maxHeartbeats 400000 in
theorem bytes_two (r : Int) (w : World) (h0 : 128 ≤ r) (h1 : r < 2048) :
    Calls Tryd.prog 68 #[.int .i64 r] w fun e w' => e = .returned (.slice (some ⟨w.heap.size, 0, none⟩) 2 2) ∧ w' = w.alloc (.cells #[.int .u8 (192 + r / 64), .int .u8 (128 + r % 64)] 5) := by
  go_enter Tryd.func68, Tryd.ntmps68
  go_wp2
  go_ret
  exact ⟨rfl, rfl⟩
set_option maxHeartbeats 400000 in
theorem bytes_three (r : Int) (w : World) (h0 : 2048 ≤ r) (h1 : r < 65536) :
    Calls Tryd.prog 68 #[.int .i64 r] w fun e w' => e = .returned (.slice (some ⟨w.heap.size, 0, none⟩) 3 3) ∧ w' = w.alloc (.cells #[.int .u8 (224 + r / 4096), .int .u8 (128 + r / 64 % 64), .int .u8 (128 + r % 64)] 5) := by
  go_enter Tryd.func68, Tryd.ntmps68
  go_wp2
  go_ret
  exact ⟨rfl, rfl⟩
set_option maxHeartbeats 400000 in
theorem bytes_four (r : Int) (w : World) (h0 : 65536 ≤ r) (h1 : r ≤ 1114111) :
    Calls Tryd.prog 68 #[.int .i64 r] w fun e w' => e = .returned (.slice (some ⟨w.heap.size, 0, none⟩) 4 4) ∧ w' = w.alloc (.cells #[.int .u8 (240 + r / 262144), .int .u8 (128 + r / 4096 % 64), .int .u8 (128 + r / 64 % 64), .int .u8 (128 + r % 64)] 5) := by
  go_enter Tryd.func68, Tryd.ntmps68
  go_wp2
  go_ret
  exact ⟨rfl, rfl⟩
theorem bytes_any (r : Int) (w : World) (h : chr r = true) :
    Calls Tryd.prog 68 #[.int .i64 r] w fun e w' => e = .returned (.slice (some ⟨w.heap.size, 0, none⟩) (Lib.runeCells r).length (Lib.runeCells r).length) ∧ w' = w.alloc (.cells (Lib.runeCells r).toArray 5) := by
  rw [chr_iff] at h
  unfold Lib.runeCells
  by_cases h1 : r < 128
  · rw [Lib.encodeRuneZ_one h.1 (by omega)]; exact bytes_one r w h.1 h1
  · by_cases h2 : r < 2048
    · rw [Lib.encodeRuneZ_two (by omega) (by omega)]; exact bytes_two r w (by omega) h2
    · by_cases h3 : r < 65536
      · rw [Lib.encodeRuneZ_three (by omega)]; exact bytes_three r w (by omega) h3
      · rw [Lib.encodeRuneZ_four (by omega) (by omega)]; exact bytes_four r w (by omega) (by omega)
end Go.Proofs.YtmnfioghhdgciaaDoor
