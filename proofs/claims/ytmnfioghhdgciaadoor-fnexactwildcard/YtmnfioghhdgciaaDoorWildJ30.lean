import Derived.Test.YtmnfioghhdgciaaDoorWildJ26
import Derived.WalkMore
import Derived.ScopeJumps
namespace Go.Proofs.YtmnfioghhdgciaaDoor
open Go Go.RowKit
set_option linter.unusedVariables false
set_option linter.unusedSimpArgs false
set_option maxRecDepth 100000

/-! impl.table.part. -/
theorem kind_row {bs : List Bool} {nxt : List (List Nat)} {S : Nat} {l : List SRow} {cl : List Int} (hL : l.map (·.2) = nxt.map runs) (hS : ∀ q, q < l.length → (nxt.getD q []).length = S) : ∀ q u rs, l[q]? = some (u, rs) → kindOf (autR bs nxt) S (kapN cl) q = (bs.getD q false, squeeze (kapN cl) none rs) := by
  intro q u rs hq
  have hlt := (List.getElem?_eq_some_iff.1 hq).1
  have hrs : rs = runs (nxt.getD q []) := by
    have h1 : (l.map (·.2))[q]? = some rs := by rw [List.getElem?_map, hq]; rfl
    rw [hL, List.getElem?_map] at h1
    rw [List.getD_eq_getElem?_getD]
    cases hx : nxt[q]? with
    | none => rw [hx] at h1; cases h1
    | some r => rw [hx] at h1; simpa using h1.symm
  unfold kindOf
  rw [hrs, squeeze_whole]
  congr 2
  apply List.ext_getElem?
  intro i
  have hl := hS q hlt
  by_cases hi : i < S
  · rw [List.getElem?_map, List.getElem?_map, List.getElem?_range hi]
    rw [List.getElem?_eq_getElem (by omega : i < (nxt.getD q []).length)]
    simp only [Option.map_some, autR]
    congr 2
    rw [List.getD_eq_getElem?_getD (l := nxt.getD q []), List.getElem?_eq_getElem (by omega)]
    rfl
  · rw [List.getElem?_eq_none (by simp; omega), List.getElem?_eq_none (by rw [List.length_map, hl]; omega)]
/-- The first part while it is being filled. -/
structure Pi (w W : World) (base tb bx g3 gp : Nat) (a0 a1 a2 a3 vrows vfin v0 : Value) (l : List SRow) (bs : List Bool) (cl : List Int) (ms : List Nat) : Prop where
  tab : TabS W base tb a0 a1 a2 a3 vrows vfin (.slice (some ⟨g3, 0, none⟩) cl.length cl.length) (.slice (some ⟨gp, 0, none⟩) 1 1) l bs cl
  pts : W.ownsRow w.heap.size 30 1 (.slice (some ⟨gp, 0, none⟩) 1 1) 1 [v0]
  row : W.ownsRow w.heap.size 3 1 v0 ms.length (zI (nat2 ms))
  ne : v0.ownBlock ≠ some g3
  bx : W.heap[bx]? = some (.cells #[.pointer (some ⟨tb, 0, none⟩)] 107)
  but : But (fun b => b = tb) w W
  low : base ≤ w.heap.size
  gg : w.heap.size ≤ g3
theorem Pi.below {w W W1 : World} {base tb bx g3 gp : Nat} {a0 a1 a2 a3 vrows vfin v0 : Value} {l : List SRow} {bs : List Bool} {cl : List Int} {ms : List Nat} (h : Pi w W base tb bx g3 gp a0 a1 a2 a3 vrows vfin v0 l bs cl ms) (hb : Below W.heap.size W W1) : Pi w W1 base tb bx g3 gp a0 a1 a2 a3 vrows vfin v0 l bs cl ms :=
  ⟨h.tab.below hb, own_congr h.pts (fun b hk => hb.block b (Array.getElem?_eq_some_iff.1 (own_blk h.pts hk).2.choose_spec).1), own_congr h.row (fun b hk => hb.block b (Array.getElem?_eq_some_iff.1 (own_blk h.row hk).2.choose_spec).1), h.ne, blko h.bx hb,
   ⟨hb.os.trans h.but.os, hb.tape.trans h.but.tape, hb.output.trans h.but.output, Nat.le_trans h.but.size hb.size, fun b hb' hn => (hb.block b (Nat.lt_of_lt_of_le hb' h.but.size)).trans (h.but.block b hb' hn)⟩, h.low, h.gg⟩
theorem Pi.push {w W W1 : World} {base tb bx g3 gp q : Nat} {a0 a1 a2 a3 vrows vfin v0 v' : Value} {l : List SRow} {bs : List Bool} {cl : List Int} {ms : List Nat} (h : Pi w W base tb bx g3 gp a0 a1 a2 a3 vrows vfin v0 l bs cl ms) (hb : But (fun b => v0.ownBlock = some b) W W1) (ho : W1.ownsRow w.heap.size 3 1 v' (ms.length + 1) (zI (nat2 ms) ++ [.int .i64 (q : Int)])) (hat : ∀ b, v'.ownBlock = some b → v0.ownBlock = some b ∨ W.heap.size ≤ b) :
    Pi w (W1.setCell ⟨gp, 0, none⟩ v') base tb bx g3 gp a0 a1 a2 a3 vrows vfin v' l bs cl (ms ++ [q]) ∧ W1.ownsRow w.heap.size 30 1 (.slice (some ⟨gp, 0, none⟩) 1 1) 1 [v0] ∧ W1.heap[tb]? = some (.cells #[a0, a1, a2, a3, vrows, vfin, .slice (some ⟨g3, 0, none⟩) cl.length cl.length, .slice (some ⟨gp, 0, none⟩) 1 1] 72) ∧ W1.heap[bx]? = some (.cells #[.pointer (some ⟨tb, 0, none⟩)] 107) := by
  have hot1 : ∀ (b : Nat) (cs : Array Value) (t : TypeId), t ≠ 3 → W.heap[b]? = some (.cells cs t) → W1.heap[b]? = some (.cells cs t) := fun b cs t ht hh => by
    rw [hb.block b (Array.getElem?_eq_some_iff.1 hh).1 (fun hk => by
      obtain ⟨_, cur, h2⟩ := own_blk h.row hk
      exact blk_ne hh h2 ht rfl)]
    exact hh
  have hpt1 : W1.ownsRow w.heap.size 30 1 (.slice (some ⟨gp, 0, none⟩) 1 1) 1 [v0] := own_congr h.pts (fun b hk => by
    obtain ⟨_, cur, h2⟩ := own_blk h.pts hk
    rw [hot1 b cur _ (by decide) h2, h2])
  obtain ⟨hgp, curp, hgpb⟩ := own_blk hpt1 (b := gp) rfl
  have hot : ∀ (b : Nat) (cs : Array Value) (t : TypeId), t ≠ 30 → W1.heap[b]? = some (.cells cs t) → (W1.setCell ⟨gp, 0, none⟩ v').heap[b]? = some (.cells cs t) := fun b cs t ht hh => by
    rw [heap_set_other _ _ _ _ _ (blk_ne hh hgpb ht)]; exact hh
  have hcl1 : W1.ownsRow base 3 1 (.slice (some ⟨g3, 0, none⟩) cl.length cl.length) cl.length (zI cl) := own_congr h.tab.cls (fun b hk => by
    have e : b = g3 := by simpa [Value.ownBlock] using hk.symm
    subst e
    obtain ⟨_, cur, h2⟩ := own_blk h.tab.cls hk
    exact hb.block b (Array.getElem?_eq_some_iff.1 h2).1 (fun hx => h.ne hx))
  have hg3 := (Array.getElem?_eq_some_iff.1 (own_blk h.tab.cls (b := g3) rfl).2.choose_spec).1
  refine ⟨⟨⟨hot _ _ _ (by decide) (hot1 _ _ _ (by decide) h.tab.box), h.tab.rows.congr fun b cs t ht _ hh => hot b cs t (by rcases ht with e | e <;> (rw [e]; decide)) (hot1 b cs t (by rcases ht with e | e <;> (rw [e]; decide)) hh), ?_, ?_⟩, ?_, ?_, ?_, hot _ _ _ (by decide) (hot1 _ _ _ (by decide) h.bx), ?_, h.low, h.gg⟩, hpt1, hot1 _ _ _ (by decide) h.tab.box, hot1 _ _ _ (by decide) h.bx⟩
  · refine own_congr h.tab.fin (fun b hkb => ?_)
    obtain ⟨_, cur2, h2⟩ := own_blk h.tab.fin hkb
    rw [hot b cur2 _ (by decide) (hot1 b cur2 _ (by decide) h2), h2]
  · refine own_congr hcl1 (fun b hkb => ?_)
    obtain ⟨_, cur2, h2⟩ := own_blk hcl1 hkb
    rw [hot b cur2 _ (by decide) h2, h2]
  · refine ⟨by simp, ?_⟩
    rcases hpt1.2 with ⟨h', _⟩ | ⟨g', c', cur, k1, k2, k3, k4, k5, k6, k7⟩
    · simp at h'
    · simp only [Value.slice.injEq, Option.some.injEq, Addr.mk.injEq, and_true, true_and] at k1
      obtain ⟨rfl, rfl⟩ := k1
      refine Or.inr ⟨gp, 1, cur.setIfInBounds 0 v', rfl, k2, blk_setk k3 0 _, k4, k5, by simpa using k6, ?_⟩
      rw [Array.toList_setIfInBounds, List.take_set, k7]
      rfl
  · rw [nat2_app, show nat2 [q] = [(q : Int)] from rfl, zI_snoc, List.length_append, List.length_singleton]
    refine own_congr ho (fun b hkb => ?_)
    obtain ⟨_, cur2, h2⟩ := own_blk ho hkb
    rw [hot b cur2 _ (by decide) h2, h2]
  · intro e
    rcases hat g3 e with h1 | h1
    · exact h.ne h1
    · omega
  · refine ⟨hb.os.trans h.but.os, hb.tape.trans h.but.tape, hb.output.trans h.but.output, by have := Nat.le_trans h.but.size hb.size; simpa [World.setCell] using this, fun b hb' hn => ?_⟩
    rw [heap_set_other _ _ _ _ _ (by omega), hb.block b (Nat.lt_of_lt_of_le hb' h.but.size) (fun hk => by have := (own_blk h.row hk).1; omega), h.but.block b hb' hn]
theorem Pi.pt {w W : World} {base tb bx g3 gp : Nat} {a0 a1 a2 a3 vrows vfin v0 : Value} {l : List SRow} {bs : List Bool} {cl : List Int} {ms : List Nat} (h : Pi w W base tb bx g3 gp a0 a1 a2 a3 vrows vfin v0 l bs cl ms) (hm : ms ≠ []) : Pt w W base tb bx g3 cl.length a0 a1 a2 a3 vrows vfin (.slice (some ⟨gp, 0, none⟩) 1 1) l bs cl [v0] [ms] := by
  refine ⟨h.tab, h.pts, rfl, fun j u k hj hk => ?_, h.bx, h.but, h.low, h.gg⟩
  have hj0 : j = 0 := by have := (List.getElem?_eq_some_iff.1 hj).1; simp at this; omega
  subst hj0
  cases hj
  cases hk
  have hp : 0 < ms.length := List.length_pos_iff.2 hm
  have hrow := h.row
  obtain ⟨g, cap, rfl⟩ := own_posk hrow hp
  obtain ⟨_, cur, h2⟩ := own_blk hrow (b := g) rfl
  refine ⟨g, 0, cap, cur, by rw [nat2_len], h2, fun e => h.ne (by rw [e]; rfl), fun t ht => ?_⟩
  rw [← nat2_len] at hrow
  obtain ⟨g', o', e, _, hc⟩ := (HoldI.own hrow).cells ht
  simp only [Option.some.injEq, Addr.mk.injEq, and_true] at e
  obtain ⟨rfl, rfl⟩ := e
  exact hc
theorem SetAt.rebase {X : Type} {K : KeyT X} {W : World} {base base' sb : Nat} {vm vs : Value} {L : List X} (h : SetAt K W base sb vm vs L) (hb : base' ≤ base) : SetAt K W base' sb vm vs L := by
  refine ⟨h.box, ?_, ⟨h.row.1, ?_⟩, h.nodup, h.oks⟩
  · rcases h.map with h1 | ⟨mb, h1, h2, h3⟩
    · exact Or.inl h1
    · exact Or.inr ⟨mb, h1, by omega, h3⟩
  · rcases h.row.2 with h1 | ⟨g, cap, cur, h1, h2, h3⟩
    · exact Or.inl h1
    · exact Or.inr ⟨g, cap, cur, h1, by omega, h3⟩
theorem own_capk {W : World} {base e size n g cap : Nat} {xs : List Value} (h : W.ownsRow base e size (.slice (some ⟨g, 0, none⟩) n cap) n xs) : n ≤ cap := by
  rcases h.2 with ⟨h', _⟩ | ⟨g', c', cur, h1, h2, h3, h4, h5, h6, h7⟩
  · simp at h'
  · simp only [Value.slice.injEq, Option.some.injEq, Addr.mk.injEq, and_true, true_and] at h1
    obtain ⟨rfl, rfl⟩ := h1
    exact h4
/-! The parting of one part, as it goes on. -/
def lenAt (W : World) (tb : Nat) : Nat := match W.cell? ⟨tb, 7, none⟩ with
  | some (.slice _ n _) => n
  | _ => 0
theorem lenAt_eq {w W : World} {base tb bx g3 c3 : Nat} {a0 a1 a2 a3 vrows vfin vpts : Value} {l : List SRow} {bs : List Bool} {cl : List Int} {us : List Value} {parts : List (List Nat)} (h : Pt w W base tb bx g3 c3 a0 a1 a2 a3 vrows vfin vpts l bs cl us parts) : lenAt W tb = parts.length := by
  obtain ⟨ad, c, rfl⟩ := own_sl h.pts
  unfold lenAt
  rw [blkc h.tab.box 7]
  exact h.len
structure ClOK (n : Nat) (cl : List Int) : Prop where
  len : cl.length = n
  bnd : ∀ z ∈ cl, 0 ≤ z ∧ z ≤ 1114112
theorem ClOK.at_ {n : Nat} {cl : List Int} (h : ClOK n cl) {q : Nat} (hq : q < n) : cl.getD q 0 = ((kapN cl q : Nat) : Int) := by
  have hl : q < cl.length := by rw [h.len]; exact hq
  have := h.bnd (cl.getD q 0) (by rw [List.getD_eq_getElem?_getD, List.getElem?_eq_getElem hl]; exact List.getElem_mem hl)
  unfold kapN
  omega
theorem ClOK.set {n : Nat} {cl : List Int} (h : ClOK n cl) (k : Nat) {x : Nat} (hx : x ≤ 1114112) : ClOK n (cl.set k (x : Int)) := by
  refine ⟨by rw [List.length_set]; exact h.len, fun z hz => ?_⟩
  rcases List.mem_or_eq_of_mem_set hz with h1 | h1
  · exact h.bnd z h1
  · rw [h1]; omega
theorem kapN_set {cl : List Int} {k : Nat} (hk : k < cl.length) (x q : Nat) : kapN (cl.set k (x : Int)) q = if q = k then x else kapN cl q := by
  unfold kapN
  rw [List.getD_eq_getElem?_getD, List.getElem?_set]
  by_cases e : k = q
  · subst e; simp [hk]
  · rw [if_neg e, if_neg (fun h => e h.symm), List.getD_eq_getElem?_getD]
theorem PartOK.congr {A : Aut} {S n : Nat} {κ κ' : Nat → Nat} {parts : List (List Nat)} (h : PartOK A S n κ parts) (he : ∀ q, q < n → κ' q = κ q) : PartOK A S n κ' parts := by
  refine ⟨fun q r hq hr e => by rw [he q hq, he r hr]; exact h.coarse q r hq hr e, fun q hq => by rw [he q hq]; exact h.lt q hq, fun c ms hc => ?_⟩
  obtain ⟨h1, h2, h3⟩ := h.told c ms hc
  refine ⟨h1, h2, fun q => ?_⟩
  rw [h3 q]
  refine and_congr_right fun hq => ?_
  rw [he q hq]
/-- The whole parting of part c. -/
theorem split_all {A : Aut} {S n : Nat} {κ : Nat → Nat} {parts : List (List Nat)} (hs : Shut A S n) (h : PartOK A S n κ parts) {c : Nat} {ms : List Nat} (hc : parts[c]? = some ms) {κ' : Nat → Nat} (hk : ∀ q, q < n → κ' q = splitK (kindOf A S κ) κ ms c parts.length ((groups (kindOf A S κ) ms).length - 1) q) :
    PartOK A S n κ' (splitP parts (groups (kindOf A S κ) ms) c ((groups (kindOf A S κ) ms).length - 1)) := by
  have hg := groups_len (kindOf A S κ) ms
  obtain ⟨m1, m2, m3⟩ := h.told c ms hc
  have e1 : splitP parts (groups (kindOf A S κ) ms) c ((groups (kindOf A S κ) ms).length - 1) = splitP parts (groups (kindOf A S κ) ms) c (groups (kindOf A S κ) ms).length := by
    unfold splitP
    rw [List.take_of_length_le (by simp), List.take_of_length_le (by simp)]
  rw [e1]
  refine (h.split hs hc).congr (fun q hq => ?_)
  rw [hk q hq]
  unfold splitK
  by_cases e : κ q = c
  · have hm : q ∈ ms := (m3 q).2 ⟨hq, e⟩
    have hix := ix_lt (kindsOf_mem.2 ⟨q, hm, rfl⟩ : kindOf A S κ q ∈ kindsOf (kindOf A S κ) ms)
    by_cases h2 : 0 < ix (kindsOf (kindOf A S κ) ms) (kindOf A S κ q)
    · rw [if_pos ⟨e, h2, by omega⟩, if_pos ⟨e, h2, by omega⟩]
    · rw [if_neg (fun hh => h2 hh.2.1), if_neg (fun hh => h2 hh.2.1)]
  · rw [if_neg (fun hh => e hh.1), if_neg (fun hh => e hh.1)]
/-- A part of one kind is left as it is. -/
theorem groups_single {X : Type} [DecidableEq X] {M : Nat → X} {ms : List Nat} (h : (groups M ms).length = 1) : groups M ms = [ms] := by
  rw [groups_len] at h
  obtain ⟨μ, hμ⟩ := List.length_eq_one_iff.1 h
  unfold groups
  rw [hμ]
  simp only [List.map_cons, List.map_nil]
  congr 1
  rw [List.filter_eq_self]
  intro q hq
  have : M q ∈ kindsOf M ms := kindsOf_mem.2 ⟨q, hq, rfl⟩
  rw [hμ, List.mem_singleton] at this
  simpa using this
/-- The classes while the members of the piece j + 1 are being written. -/
def midK (κ : Nat → Nat) (p : List Nat) (x : Nat) (q : Nat) : Nat := if q ∈ p then x else κ q
theorem midK_all {A : Aut} {S n : Nat} {κ κj : Nat → Nat} {parts : List (List Nat)} (h : PartOK A S n κ parts) {c : Nat} {ms : List Nat} (hc : parts[c]? = some ms) {j : Nat} {g : List Nat} (hg : (groups (kindOf A S κ) ms)[j + 1]? = some g) (hk : ∀ q, q < n → κj q = splitK (kindOf A S κ) κ ms c parts.length j q) : ∀ q, q < n → midK κj g (parts.length + j) q = splitK (kindOf A S κ) κ ms c parts.length (j + 1) q := by
  intro q hq
  obtain ⟨m1, m2, m3⟩ := h.told c ms hc
  obtain ⟨_, h5, _⟩ := groups_mem hg
  unfold midK
  by_cases hm : q ∈ g
  · obtain ⟨h6, h7⟩ := (h5 q).1 hm
    rw [if_pos hm]
    unfold splitK
    rw [if_pos ⟨((m3 q).1 h6).2, by omega, by omega⟩, h7]
    omega
  · rw [if_neg hm, hk q hq]
    unfold splitK
    by_cases e : κ q = c
    · have hmm : q ∈ ms := (m3 q).2 ⟨hq, e⟩
      have h8 : ix (kindsOf (kindOf A S κ) ms) (kindOf A S κ q) ≠ j + 1 := fun e2 => hm ((h5 q).2 ⟨hmm, e2⟩)
      by_cases h9 : 0 < ix (kindsOf (kindOf A S κ) ms) (kindOf A S κ q) ∧ ix (kindsOf (kindOf A S κ) ms) (kindOf A S κ q) ≤ j
      · rw [if_pos ⟨e, h9.1, h9.2⟩, if_pos ⟨e, h9.1, by omega⟩]
      · rw [if_neg (fun hh => h9 ⟨hh.2.1, hh.2.2⟩), if_neg (fun hh => h9 ⟨hh.2.1, by omega⟩)]
    · rw [if_neg (fun hh => e hh.1), if_neg (fun hh => e hh.1)]
theorem splitP_succ {parts gs : List (List Nat)} {c j : Nat} {g : List Nat} (hg : gs[j + 1]? = some g) : splitP parts gs c (j + 1) = splitP parts gs c j ++ [g] := by
  unfold splitP
  rw [List.append_assoc]
  congr 1
  have h1 : (gs.drop 1)[j]? = some g := by rw [List.getElem?_drop, Nat.add_comm]; exact hg
  obtain ⟨h2, h3⟩ := List.getElem?_eq_some_iff.1 h1
  rw [List.take_succ_eq_append_getElem h2, h3]
theorem splitP_len {parts gs : List (List Nat)} {c j : Nat} (hj : j ≤ gs.length - 1) : (splitP parts gs c j).length = parts.length + j := by
  unfold splitP
  rw [List.length_append, List.length_set, List.length_take, List.length_drop]
  omega
theorem jmp_ret {l : Nat} {J : Act → World → Prop} {Q : Exit → Act → World → Prop} {a : Act} {w : World} (h : Q .ret a w) : Exit.jump l J Q .ret a w := h
/-- An act of the function's size, whatever lies in it. -/
def FrameZ (a' : Act) : Prop := ∃ (j0 j1 j2 : Value) (r : List Value), a' = { tmps := (j0 :: j1 :: j2 :: r).toArray, defers := [] }
def PtPost (w : World) (base tb : Nat) (a0 a1 a2 a3 vrows vfin : Value) (l : List SRow) (bs : List Bool) (nxt : List (List Nat)) (S : Nat) (e : Ending) (w' : World) : Prop :=
  (e = .returned (.int .i64 0) ∧ ∃ bx g3 c3 vpts cl us parts, Pt w w' base tb bx g3 c3 a0 a1 a2 a3 vrows vfin vpts l bs cl us parts ∧ PartOK (autR bs nxt) S l.length (kapN cl) parts ∧ Stable (autR bs nxt) S l.length (kapN cl) ∧ cl.length = l.length ∧ (∀ z ∈ cl, 0 ≤ z ∧ z ≤ 1114112) ∧ parts.length ≤ 257) ∨
  (e = .returned (.int .i64 11) ∧ But (fun b => b = tb) w w' ∧ ∃ κ c, Coarse (autR bs nxt) S l.length κ ∧ (∀ y, y < c → ∃ q, q < l.length ∧ κ q = y) ∧ 258 ≤ c)
set_option maxHeartbeats 8000000 in
theorem part_any (base tb adn adc fdn fdc : Nat) (adr adf : Option Addr) (a0 a1 a2 a3 : Value) (l : List SRow) (bs : List Bool) (nxt : List (List Nat)) (S : Nat) (w : World)
    (hbox : w.heap[tb]? = some (.cells #[a0, a1, a2, a3, .slice adr l.length adc, .slice adf bs.length fdc, nilS, nilS] 72)) (hR : RowsS w base (.slice adr l.length adc) l) (hF : w.ownsRow base 4 1 (.slice adf bs.length fdc) bs.length (bs.map Value.bool))
    (hL : l.map (·.2) = nxt.map runs) (hbl : bs.length = l.length) (hS : ∀ q, q < l.length → (nxt.getD q []).length = S ∧ ∀ a, a < S → (nxt.getD q []).getD a 0 < l.length) (hS31 : S ≤ 31) (h0 : 0 < l.length) (hn : l.length ≤ 1114112) (hbase : base ≤ w.heap.size) :
    Calls Tryd.prog 36 #[.pointer (some ⟨tb, 0, none⟩)] w (PtPost w base tb a0 a1 a2 a3 (.slice adr l.length adc) (.slice adf bs.length fdc) l bs nxt S) := by
  have hb1 : Below w.heap.size w (w.alloc (.cells #[.pointer (some ⟨tb, 0, none⟩)] 107)) := (Below.refl _ _).alloc (Nat.le_refl _) _
  have hbx : (w.alloc (.cells #[.pointer (some ⟨tb, 0, none⟩)] 107)).heap[w.heap.size]? = some (.cells #[.pointer (some ⟨tb, 0, none⟩)] 107) := heap_alloc_new _ _
  have htb1 := blko hbox hb1
  have hzl : (l.length : Int) ≤ 1114112 := by omega
  have HR := hidd hR
  have HF := hidd hF
  have HL := hidd hL
  have HS := hidd hS
  have HBOX := hidd hbox
  have HB1 := hidd hb1
  have HBL := hidd hbl
  clear hR hF hL hS hbox hb1 hbl
  go_enter Tryd.func36, Tryd.ntmps36
  go_wp2_with fail
  obtain ⟨J, HJ⟩ : ∃ J : Act → World → Prop, Hid (J = fun a' w' => PtPost w base tb a0 a1 a2 a3 (.slice adr l.length adc) (.slice adf bs.length fdc) l bs nxt S (.returned (.int .i64 11)) w' ∧ FrameZ a') := ⟨_, rfl⟩
  refine wp_scope_jumps 0 J (fun _ _ => 0) rfl ?_ ?pass
  case' pass =>
    clear HR HF HL HBL
    intro a' w' hJ
    rw [HJ.out] at hJ
    obtain ⟨hFin, j0, j1, j2, r, rfl⟩ := hJ
    clear HJ
    have HFin := hidd hFin
    clear hFin
    go_wp2_with fail
    refine jmp_ret ?_
    first | go_ret | go_ret2
    exact HFin.out
  go_upto_region 1 with fail
  generalize hW1 : w.alloc (.cells #[.pointer (some ⟨tb, 0, none⟩)] 107) = W1 at *
  clear hW1
  refine wp_region_held (S := fun u => u.cell? ⟨w.heap.size, 0, none⟩ = some (.pointer (some ⟨tb, 0, none⟩)) ∧ u.cell? ⟨tb, 4, none⟩ = some (.slice adr l.length adc)) (by kernel_rfl) ?_
  have hbd : Below W1.heap.size W1 ({ heap := W1.heap, tape := W1.tape, drawn := W1.drawn + 1, os := W1.os, output := W1.output } : World) := (Below.refl _ _).drew
  generalize ({ heap := W1.heap, tape := W1.tape, drawn := W1.drawn + 1, os := W1.os, output := W1.output } : World) = Wd at *
  have hbxd := blko hbx hbd
  have htbd := blko htb1 hbd
  have hSd : (fun u => u.cell? ⟨w.heap.size, 0, none⟩ = some (.pointer (some ⟨tb, 0, none⟩)) ∧ u.cell? ⟨tb, 4, none⟩ = some (.slice adr l.length adc)) Wd := ⟨blkc hbxd 0, blkc htbd 4⟩
  try simp only [Act.put, List.getElem_toArray, List.getElem_cons_succ, List.getElem_cons_zero, List.setIfInBounds_toArray, List.set_cons_zero, List.set_cons_succ]
  refine tkX 0 (v := .pointer (some ⟨tb, 0, none⟩)) (hS := hSd) (h := ?_)
  try simp only [Act.put, List.getElem_toArray, List.getElem_cons_succ, List.getElem_cons_zero, List.setIfInBounds_toArray, List.set_cons_zero, List.set_cons_succ]
  refine tkX 1 (v := .pointer (some ⟨tb, 0, none⟩)) (hS := hSd) (h := ?_)
  try simp only [Act.put, List.getElem_toArray, List.getElem_cons_succ, List.getElem_cons_zero, List.setIfInBounds_toArray, List.set_cons_zero, List.set_cons_succ]
  refine tkX 2 (hS := hSd) (h := ?_)
  try simp only [Act.put, List.getElem_toArray, List.getElem_cons_succ, List.getElem_cons_zero, List.setIfInBounds_toArray, List.set_cons_zero, List.set_cons_succ]
  refine tkX 3 (hS := hSd) (h := ?_)
  try simp only [Act.put, List.getElem_toArray, List.getElem_cons_succ, List.getElem_cons_zero, List.setIfInBounds_toArray, List.set_cons_zero, List.set_cons_succ]
  refine tkX 4 (v := .slice adr l.length adc) (hS := hSd) (h := ?_)
  try simp only [Act.put, List.getElem_toArray, List.getElem_cons_succ, List.getElem_cons_zero, List.setIfInBounds_toArray, List.set_cons_zero, List.set_cons_succ]
  refine tkX 5 (hS := hSd) (h := ?_)
  try simp only [Act.put, List.getElem_toArray, List.getElem_cons_succ, List.getElem_cons_zero, List.setIfInBounds_toArray, List.set_cons_zero, List.set_cons_succ]
  refine wpAnyH_one 6 (by kernel_rfl) ?_
  refine wpOp_val _ _ rfl (by kernel_rfl) (exec_makeI _ _ _ _ _ rfl l.length (by omega) (by kernel_rfl) (by kernel_rfl)) ?_
  have hbA : Below Wd.heap.size Wd (Wd.alloc (.cells (zI (List.replicate l.length 0)).toArray 3)) := (Below.refl _ _).alloc (Nat.le_refl _) _
  have hcls := makeI_own Wd l.length w.heap.size (by omega) (Nat.le_trans HB1.out.size hbd.size)
  have hbxA := blko hbxd hbA
  have htbA := blko htbd hbA
  have hSA : (fun u => u.cell? ⟨w.heap.size, 0, none⟩ = some (.pointer (some ⟨tb, 0, none⟩)) ∧ u.cell? ⟨tb, 4, none⟩ = some (.slice adr l.length adc)) (Wd.alloc (.cells (zI (List.replicate l.length 0)).toArray 3)) := ⟨blkc hbxA 0, blkc htbA 4⟩
  refine ⟨hSA, ?_⟩
  try simp only [Act.put, List.getElem_toArray, List.getElem_cons_succ, List.getElem_cons_zero, List.setIfInBounds_toArray, List.set_cons_zero, List.set_cons_succ]
  refine tkX 7 (hS := hSA) (h := ?_)
  try simp only [Act.put, List.getElem_toArray, List.getElem_cons_succ, List.getElem_cons_zero, List.setIfInBounds_toArray, List.set_cons_zero, List.set_cons_succ]
  refine tkX 8 (hS := hSA) (h := ?_)
  try simp only [Act.put, List.getElem_toArray, List.getElem_cons_succ, List.getElem_cons_zero, List.setIfInBounds_toArray, List.set_cons_zero, List.set_cons_succ]
  refine wpAnyH_one 9 (by kernel_rfl) ?_
  refine wpOp_skip _ rfl (by kernel_rfl) (exec_storeI _ _ _ _ _ rfl tb 6 l.length l.length (some ⟨Wd.heap.size, 0, none⟩) _ (by kernel_rfl) (by kernel_rfl) (blkc htbA 6) (frozen_of_row _ _ 6 _ _ htbA)) ?_
  have hwd : w.heap.size < Wd.heap.size := Nat.lt_of_lt_of_le (Array.getElem?_eq_some_iff.1 hbx).1 hbd.size
  have htw : tb < w.heap.size := (Array.getElem?_eq_some_iff.1 HBOX.out).1
  have hBwA : Below w.heap.size w (Wd.alloc (.cells (zI (List.replicate l.length 0)).toArray 3)) := HB1.out.trans ((hbd.trans (hbA.mono hbd.size)).mono HB1.out.size)
  have htbB := blk_setk htbA 6 (.slice (some ⟨Wd.heap.size, 0, none⟩) l.length l.length)
  have hbxB : ((Wd.alloc (.cells (zI (List.replicate l.length 0)).toArray 3)).setCell ⟨tb, 6, none⟩ (.slice (some ⟨Wd.heap.size, 0, none⟩) l.length l.length)).heap[w.heap.size]? = some (.cells #[.pointer (some ⟨tb, 0, none⟩)] 107) := by
    rw [heap_set_other _ _ _ _ _ (blk_ne hbxA htbA (by decide))]; exact hbxA
  have hcls2 : ((Wd.alloc (.cells (zI (List.replicate l.length 0)).toArray 3)).setCell ⟨tb, 6, none⟩ (.slice (some ⟨Wd.heap.size, 0, none⟩) l.length l.length)).ownsRow w.heap.size 3 1 (.slice (some ⟨Wd.heap.size, 0, none⟩) l.length l.length) l.length (zI (List.replicate l.length 0)) := own_congr hcls (fun b hk => by
    obtain ⟨_, cur, h2⟩ := own_blk hcls hk
    rw [heap_set_other _ _ _ _ _ (blk_ne h2 htbA (by decide))])
  have hbutB : But (fun b => b = tb) w ((Wd.alloc (.cells (zI (List.replicate l.length 0)).toArray 3)).setCell ⟨tb, 6, none⟩ (.slice (some ⟨Wd.heap.size, 0, none⟩) l.length l.length)) := (But.of_below hBwA).set tb 6 _ rfl
  refine ⟨⟨blkc hbxB 0, by have := blkc htbB 4; simpa using this⟩, ?_⟩
  try simp only [Act.put, List.getElem_toArray, List.getElem_cons_succ, List.getElem_cons_zero, List.setIfInBounds_toArray, List.set_cons_zero, List.set_cons_succ]
  refine wpAnyH_done (by kernel_rfl) ?_ _
  have HB := hidd hbutB
  have HTB : Hid (((Wd.alloc (.cells (zI (List.replicate l.length 0)).toArray 3)).setCell ⟨tb, 6, none⟩ (.slice (some ⟨Wd.heap.size, 0, none⟩) l.length l.length)).heap[tb]? = some (.cells #[a0, a1, a2, a3, .slice adr l.length adc, .slice adf bs.length fdc, .slice (some ⟨Wd.heap.size, 0, none⟩) l.length l.length, nilS] 72)) := by
    show _ = _
    rw [htbB]; rfl
  have HBX := hidd hbxB
  have HCL := hidd hcls2
  clear hbutB htbB hbxB hcls2 hcls hBwA hSA hSd hbA hbxA htbA hbxd htbd hbd hbx htb1
  generalize (Wd.alloc (.cells (zI (List.replicate l.length 0)).toArray 3)).setCell ⟨tb, 6, none⟩ (.slice (some ⟨Wd.heap.size, 0, none⟩) l.length l.length) = W2 at *
  generalize Wd.heap.size = g3 at *
  have z0 := blkc HBX.out 0
  have z7 := blkc HTB.out 7
  have htb2 : W2.alloc (.cells #[nilS] 30) |>.heap[tb]? = some (.cells #[a0, a1, a2, a3, .slice adr l.length adc, .slice adf bs.length fdc, .slice (some ⟨g3, 0, none⟩) l.length l.length, nilS] 72) := by
    rw [Below.heap_alloc _ _ _ (Array.getElem?_eq_some_iff.1 HTB.out).1]; exact HTB.out
  have zf := frozen_of_row _ _ 7 _ _ htb2
  have z8 := blkc htb2 7
  have HPi : Hid (Pi w ((W2.alloc (.cells #[nilS] 30)).setCell ⟨tb, 7, none⟩ (.slice (some ⟨W2.heap.size, 0, none⟩) 1 1)) base tb w.heap.size g3 W2.heap.size a0 a1 a2 a3 (.slice adr l.length adc) (.slice adf bs.length fdc) nilS l bs (List.replicate l.length 0) []) := by
    have hb2 : Below W2.heap.size W2 (W2.alloc (.cells #[nilS] 30)) := (Below.refl _ _).alloc (Nat.le_refl _) _
    have hsame : ∀ (b : Nat) (cs : Array Value) (t : TypeId), t ≠ 72 → (W2.alloc (.cells #[nilS] 30)).heap[b]? = some (.cells cs t) → ((W2.alloc (.cells #[nilS] 30)).setCell ⟨tb, 7, none⟩ (.slice (some ⟨W2.heap.size, 0, none⟩) 1 1)).heap[b]? = some (.cells cs t) := fun b cs t ht hh => by
      rw [heap_set_other _ _ _ _ _ (blk_ne hh htb2 ht)]; exact hh
    have hw2 : ∀ (b : Nat) (cs : Array Value) (t : TypeId), t ≠ 72 → w.heap[b]? = some (.cells cs t) → (W2.alloc (.cells #[nilS] 30)).heap[b]? = some (.cells cs t) := fun b cs t ht hh => by
      have h1 : W2.heap[b]? = some (.cells cs t) := by
        rw [HB.out.block b (Array.getElem?_eq_some_iff.1 hh).1 (fun e => by subst e; exact blk_ne hh HBOX.out ht rfl)]; exact hh
      exact blko h1 hb2
    refine ⟨⟨?_, HR.out.congr fun b cs t ht _ hh => hsame b cs t (by rcases ht with e | e <;> (rw [e]; decide)) (hw2 b cs t (by rcases ht with e | e <;> (rw [e]; decide)) hh), ?_, ?_⟩, ?_, World.ownsRow_nil _ _ _ _, by simp [Value.ownBlock], hsame _ _ _ (by decide) (blko HBX.out hb2), ?_, hbase, Nat.le_of_lt hwd⟩
    · have := blk_setk htb2 7 (.slice (some ⟨W2.heap.size, 0, none⟩) 1 1)
      rw [List.length_replicate]
      simpa using this
    · refine own_congr HF.out (fun b hkb => ?_)
      obtain ⟨_, cur2, h2⟩ := own_blk HF.out hkb
      rw [hsame b cur2 _ (by decide) (hw2 b cur2 _ (by decide) h2), h2]
    · rw [List.length_replicate]
      refine own_congr (own_mono HCL.out hbase) (fun b hkb => ?_)
      obtain ⟨_, cur2, h2⟩ := own_blk HCL.out hkb
      rw [hsame b cur2 _ (by decide) (blko h2 hb2), h2]
    · have h1 := World.ownsRow_lit (base := w.heap.size) (e := 30) (size := 1) W2 #[nilS] 1 HB.out.size (by unfold maxLen; omega) (by simp)
      have h3 : (W2.alloc (.cells #[nilS] 30)).ownsRow w.heap.size 30 1 (.slice (some ⟨W2.heap.size, 0, none⟩) 1 1) 1 [nilS] := by simpa using h1
      refine own_congr h3 (fun b hkb => ?_)
      obtain ⟨_, cur2, h2⟩ := own_blk h3 hkb
      rw [hsame b cur2 _ (by decide) h2, h2]
    · exact (HB.out.alloc _).set tb 7 _ rfl
  clear htb2
  go_upto_region 3 with fail
  clear z0 z7 zf z8 HB HTB HBX HCL
  generalize (W2.alloc (.cells #[nilS] 30)).setCell ⟨tb, 7, none⟩ (.slice (some ⟨W2.heap.size, 0, none⟩) 1 1) = W3 at *
  generalize W2.heap.size = gp at *
  have z0 := blkc HPi.out.bx 0
  have z4 := blkc HPi.out.tab.box 4
  go_wp2_with fail
  go_loopw [30] (fun iv wx => ∃ (i : Nat) (v0 : Value), i ≤ l.length ∧ iv = .int .i64 (i : Int) ∧ Pi w wx base tb w.heap.size g3 gp a0 a1 a2 a3 (.slice adr l.length adc) (.slice adf bs.length fdc) v0 l bs (List.replicate l.length 0) (List.range i)) (fun iv _ => l.length - (intOf iv).toNat)
  case atStart => exact ⟨0, _, Nat.zero_le _, rfl, HPi.out⟩
  case round =>
    clear HPi z0 z4
    obtain ⟨i, v0, hi, rfl, hPi⟩ := hrel
    have HPi := hidd hPi
    have hrow0 := hPi.row
    rw [List.length_range] at hrow0
    obtain ⟨ad0, c0, hv0⟩ := own_sl hrow0
    subst hv0
    have HROW := hidd hrow0
    clear hrow0
    by_cases hlt : i < l.length
    · have hltz : (i : Int) < (l.length : Int) := by omega
      clear hPi
      go_upto_region 6 with fail
      refine wp_region_held (S := fun u => u.cell? ⟨w.heap.size, 0, none⟩ = some (.pointer (some ⟨tb, 0, none⟩)) ∧ u.cell? ⟨tb, 7, none⟩ = some (.slice (some ⟨gp, 0, none⟩) 1 1)) (by kernel_rfl) ?_
      have hbd : Below wr.heap.size wr ({ heap := wr.heap, tape := wr.tape, drawn := wr.drawn + 1, os := wr.os, output := wr.output } : World) := (Below.refl _ _).drew
      generalize ({ heap := wr.heap, tape := wr.tape, drawn := wr.drawn + 1, os := wr.os, output := wr.output } : World) = Wd at *
      have hbxd := blko HPi.out.bx hbd
      have htbd := blko HPi.out.tab.box hbd
      have hptd : Wd.ownsRow w.heap.size 30 1 (.slice (some ⟨gp, 0, none⟩) 1 1) 1 [.slice ad0 i c0] := own_congr HPi.out.pts (fun b hk => hbd.block b (Array.getElem?_eq_some_iff.1 (own_blk HPi.out.pts hk).2.choose_spec).1)
      have hSd : (fun u => u.cell? ⟨w.heap.size, 0, none⟩ = some (.pointer (some ⟨tb, 0, none⟩)) ∧ u.cell? ⟨tb, 7, none⟩ = some (.slice (some ⟨gp, 0, none⟩) 1 1)) Wd := ⟨blkc hbxd 0, blkc htbd 7⟩
      try simp only [Act.put, List.getElem_toArray, List.getElem_cons_succ, List.getElem_cons_zero, List.setIfInBounds_toArray, List.set_cons_zero, List.set_cons_succ]
      refine tkX 0 (v := .pointer (some ⟨tb, 0, none⟩)) (hS := hSd) (h := ?_)
      try simp only [Act.put, List.getElem_toArray, List.getElem_cons_succ, List.getElem_cons_zero, List.setIfInBounds_toArray, List.set_cons_zero, List.set_cons_succ]
      refine tkX 1 (hS := hSd) (h := ?_)
      try simp only [Act.put, List.getElem_toArray, List.getElem_cons_succ, List.getElem_cons_zero, List.setIfInBounds_toArray, List.set_cons_zero, List.set_cons_succ]
      refine tkX 2 (hS := hSd) (h := ?_)
      try simp only [Act.put, List.getElem_toArray, List.getElem_cons_succ, List.getElem_cons_zero, List.setIfInBounds_toArray, List.set_cons_zero, List.set_cons_succ]
      refine tkX 3 (v := .slice (some ⟨gp, 0, none⟩) 1 1) (hS := hSd) (h := ?_)
      try simp only [Act.put, List.getElem_toArray, List.getElem_cons_succ, List.getElem_cons_zero, List.setIfInBounds_toArray, List.set_cons_zero, List.set_cons_succ]
      refine tkX 4 (v := .pointer (some ⟨tb, 0, none⟩)) (hS := hSd) (h := ?_)
      try simp only [Act.put, List.getElem_toArray, List.getElem_cons_succ, List.getElem_cons_zero, List.setIfInBounds_toArray, List.set_cons_zero, List.set_cons_succ]
      refine tkX 5 (hS := hSd) (h := ?_)
      try simp only [Act.put, List.getElem_toArray, List.getElem_cons_succ, List.getElem_cons_zero, List.setIfInBounds_toArray, List.set_cons_zero, List.set_cons_succ]
      refine tkX 6 (hS := hSd) (h := ?_)
      try simp only [Act.put, List.getElem_toArray, List.getElem_cons_succ, List.getElem_cons_zero, List.setIfInBounds_toArray, List.set_cons_zero, List.set_cons_succ]
      refine tkX 7 (v := .slice (some ⟨gp, 0, none⟩) 1 1) (hS := hSd) (h := ?_)
      try simp only [Act.put, List.getElem_toArray, List.getElem_cons_succ, List.getElem_cons_zero, List.setIfInBounds_toArray, List.set_cons_zero, List.set_cons_succ]
      refine wpAnyH_take (i := 8) (v := .pointer (some ⟨gp, 0, none⟩)) rfl (by kernel_rfl) (by kernel_rfl) (by kernel_rfl) (fun _ _ _ h => h) (Or.inl ⟨by kernel_rfl, fun W hW => exec_idxP W _ _ _ _ rfl gp 0 1 1 (by kernel_rfl) (by kernel_rfl) (by omega)⟩) hSd ?_
      try simp only [Act.put, List.getElem_toArray, List.getElem_cons_succ, List.getElem_cons_zero, List.setIfInBounds_toArray, List.set_cons_zero, List.set_cons_succ]
      refine tkX 10 (hS := hSd) (h := ?_)
      have hbA : Below Wd.heap.size Wd (Wd.alloc (.cells #[.int .i64 (i : Int)] 3)) := (Below.refl _ _).alloc (Nat.le_refl _) _
      have hSA : (fun u => u.cell? ⟨w.heap.size, 0, none⟩ = some (.pointer (some ⟨tb, 0, none⟩)) ∧ u.cell? ⟨tb, 7, none⟩ = some (.slice (some ⟨gp, 0, none⟩) 1 1)) (Wd.alloc (.cells #[.int .i64 (i : Int)] 3)) := ⟨blkc (blko hbxd hbA) 0, blkc (blko htbd hbA) 7⟩
      have hcd := own_cellk hptd (p := 0) (u := .slice ad0 i c0) rfl
      have hcA := (hbA.cell (p := ⟨gp, 0, none⟩) (cell_lt hcd)).trans hcd
      try simp only [Act.put, List.getElem_toArray, List.getElem_cons_succ, List.getElem_cons_zero, List.setIfInBounds_toArray, List.set_cons_zero, List.set_cons_succ]
      refine wpAnyH_two 9 11 (by kernel_rfl) ?ha1 ?hb1
      case' ha1 =>
        refine wpOp_val _ _ rfl (by kernel_rfl) (exec_loadI _ _ _ _ rfl gp 0 i c0 ad0 (by kernel_rfl) hcd) ?_
        refine ⟨hSd, ?_⟩
        try simp only [Act.put, List.getElem_toArray, List.getElem_cons_succ, List.getElem_cons_zero, List.setIfInBounds_toArray, List.set_cons_zero, List.set_cons_succ]
        refine wpAnyH_one 11 (by kernel_rfl) ?_
        refine wpOp_val _ _ rfl (by kernel_rfl) (exec_buildI _ _ _ _ rfl (i : Int) (by kernel_rfl)) ?_
        refine ⟨hSA, ?_⟩
      case' hb1 =>
        refine wpOp_val _ _ rfl (by kernel_rfl) (exec_buildI _ _ _ _ rfl (i : Int) (by kernel_rfl)) ?_
        refine ⟨hSA, ?_⟩
        try simp only [Act.put, List.getElem_toArray, List.getElem_cons_succ, List.getElem_cons_zero, List.setIfInBounds_toArray, List.set_cons_zero, List.set_cons_succ]
        refine wpAnyH_one 9 (by kernel_rfl) ?_
        refine wpOp_val _ _ rfl (by kernel_rfl) (exec_loadI _ _ _ _ rfl gp 0 i c0 ad0 (by kernel_rfl) hcA) ?_
        refine ⟨hSA, ?_⟩
      all_goals
        try simp only [Act.put, List.getElem_toArray, List.getElem_cons_succ, List.getElem_cons_zero, List.setIfInBounds_toArray, List.set_cons_zero, List.set_cons_succ]
        refine wpAnyH_one 12 (by kernel_rfl) ?_
        refine wpOp_pushI rfl (by kernel_rfl) rfl _ _ rfl w.heap.size _ i (zI (nat2 (List.range i))) (by kernel_rfl) (own_congr HROW.out (fun b hk => hbd.block b (Array.getElem?_eq_some_iff.1 (own_blk HROW.out hk).2.choose_spec).1)) (i : Int) Wd.heap.size rfl (by kernel_rfl) (by omega) (Nat.le_trans HPi.out.but.size hbd.size) ?_
        intro g4 c4 W4 ho4 hbt4 hat4
        have hPd : Pi w Wd base tb w.heap.size g3 gp a0 a1 a2 a3 (.slice adr l.length adc) (.slice adf bs.length fdc) (.slice ad0 i c0) l bs (List.replicate l.length 0) (List.range i) := HPi.out.below hbd
        have hPp := hPd.push hbt4 (by rw [List.length_range]; exact ho4) hat4
        have hS4 : (fun u => u.cell? ⟨w.heap.size, 0, none⟩ = some (.pointer (some ⟨tb, 0, none⟩)) ∧ u.cell? ⟨tb, 7, none⟩ = some (.slice (some ⟨gp, 0, none⟩) 1 1)) W4 := ⟨blkc hPp.2.2.2 0, blkc hPp.2.2.1 7⟩
        refine ⟨hS4, ?_⟩
        try simp only [Act.put, List.getElem_toArray, List.getElem_cons_succ, List.getElem_cons_zero, List.setIfInBounds_toArray, List.set_cons_zero, List.set_cons_succ]
        try simp only [Act.put, List.getElem_toArray, List.getElem_cons_succ, List.getElem_cons_zero, List.setIfInBounds_toArray, List.set_cons_zero, List.set_cons_succ]
        refine wpAnyH_take (i := 13) (v := .pointer (some ⟨gp, 0, none⟩)) rfl (by kernel_rfl) (by kernel_rfl) (by kernel_rfl) (fun _ _ _ h => h) (Or.inl ⟨by kernel_rfl, fun W hW => exec_idxP W _ _ _ _ rfl gp 0 1 1 (by kernel_rfl) (by kernel_rfl) (by omega)⟩) hS4 ?_
        try simp only [Act.put, List.getElem_toArray, List.getElem_cons_succ, List.getElem_cons_zero, List.setIfInBounds_toArray, List.set_cons_zero, List.set_cons_succ]
        refine wpAnyH_one 14 (by kernel_rfl) ?_
        refine wpOp_skip _ rfl (by kernel_rfl) (exec_storeI _ _ _ _ _ rfl gp 0 (i + 1) c4 (some ⟨g4, 0, none⟩) _ (by kernel_rfl) (by kernel_rfl) (own_cellk hPp.2.1 (p := 0) rfl) (own_frozenk hPp.2.1 0)) ?_
        refine ⟨⟨blkc hPp.1.bx 0, blkc hPp.1.tab.box 7⟩, ?_⟩
        try simp only [Act.put, List.getElem_toArray, List.getElem_cons_succ, List.getElem_cons_zero, List.setIfInBounds_toArray, List.set_cons_zero, List.set_cons_succ]
        refine wpAnyH_done (by kernel_rfl) ?_ _
        have HPn : Hid (Pi w (W4.setCell ⟨gp, 0, none⟩ (.slice (some ⟨g4, 0, none⟩) (i + 1) c4)) base tb w.heap.size g3 gp a0 a1 a2 a3 (.slice adr l.length adc) (.slice adf bs.length fdc) (.slice (some ⟨g4, 0, none⟩) (i + 1) c4) l bs (List.replicate l.length 0) (List.range (i + 1))) := by
          show Pi _ _ _ _ _ _ _ _ _ _ _ _ _ _ _ _ _ _
          rw [List.range_succ]
          exact hPp.1
        clear ho4 hbt4 hat4 hPd hPp hS4 hSA hSd hbxd htbd hptd hbd hbA hcd hcA HPi HROW
        go_wp2_with fail
        go_roundw
        case rel => exact ⟨i + 1, _, by omega, by go_num, HPn.out⟩
        case measure => simp [intOf]; omega
    · have hltz : ¬ (i : Int) < (l.length : Int) := by omega
      obtain rfl : i = l.length := by omega
      have HPt := hidd (hPi.pt (by intro e; have := congrArg List.length e; rw [List.length_range, List.length_nil] at this; omega))
      clear hPi HPi HROW
      have HP0 : Hid (PartOK (autR bs nxt) S l.length (kapN (List.replicate l.length 0)) [List.range l.length]) := (part_first (autR bs nxt) S l.length h0).congr (fun q hq => by unfold kapN; rw [List.getD_eq_getElem?_getD, List.getElem?_replicate]; simp [hq])
      have HC0 : Hid (ClOK l.length (List.replicate l.length 0)) := ⟨List.length_replicate, fun z hz => by rw [(List.mem_replicate.1 hz).2]; omega⟩
      have HSh : Hid (Shut (autR bs nxt) S l.length) := fun q a hq ha => (HS.out q hq).2 a ha
      have HKr : Hid (∀ (cl : List Int) q u rs, l[q]? = some (u, rs) → kindOf (autR bs nxt) S (kapN cl) q = (bs.getD q false, squeeze (kapN cl) none rs)) := fun cl => kind_row HL.out (fun q hq => (HS.out q hq).1)
      have HRow : Hid (∀ s ∈ l, (∀ p ∈ s.2, p.1 ≤ 1048576 ∧ p.2 < l.length) ∧ s.2.length ≤ 31) := by
        intro s hs
        obtain ⟨q, hq⟩ := List.mem_iff_getElem?.1 hs
        have hql := (List.getElem?_eq_some_iff.1 hq).1
        have hrs : s.2 = runs (nxt.getD q []) := by
          have h1 : (l.map (·.2))[q]? = some s.2 := by rw [List.getElem?_map, hq]; rfl
          rw [HL.out, List.getElem?_map] at h1
          rw [List.getD_eq_getElem?_getD]
          cases hx : nxt[q]? with
          | none => rw [hx] at h1; cases h1
          | some r => rw [hx] at h1; simpa using h1.symm
        obtain ⟨h2, h3⟩ := HS.out q hql
        refine ⟨fun p hp => ?_, ?_⟩
        · rw [hrs] at hp
          obtain ⟨h4, h5⟩ := runs_val hp
          refine ⟨by omega, ?_⟩
          obtain ⟨a, ha, e⟩ := List.getElem_of_mem h4
          have := h3 a (by omega)
          rw [List.getD_eq_getElem?_getD (l := nxt.getD q []), List.getElem?_eq_getElem ha, Option.getD_some, e] at this
          exact this
        · rw [hrs]
          have := runsFrom_len (nxt.getD q []) none 0
          unfold runs
          omega
      generalize hc3 : (List.replicate l.length (0 : Int)).length = c3 at *
      clear hc3
      clear hlt hltz
      generalize wr = W5 at *
      go_wp2_with fail
      go_loopw [4] (fun bv wx => ∃ (ag : Bool) (vpts : Value) (cl : List Int) (us : List Value) (parts : List (List Nat)), bv = .bool ag ∧ Pt w wx base tb w.heap.size g3 c3 a0 a1 a2 a3 (.slice adr l.length adc) (.slice adf bs.length fdc) vpts l bs cl us parts ∧ PartOK (autR bs nxt) S l.length (kapN cl) parts ∧ ClOK l.length cl ∧ parts.length ≤ 257 ∧ (ag = false → Stable (autR bs nxt) S l.length (kapN cl))) (fun bv wx => 2 * (300 - lenAt wx tb) + (match bv with | .bool true => 1 | _ => 0))
      case atStart => exact ⟨true, _, _, _, _, rfl, HPt.out, HP0.out, HC0.out, by simp, (fun h => by cases h)⟩
      case round =>
        clear HPt HP0 HC0
        obtain ⟨ag, vpts, cl, us, parts, rfl, hPt, hPO, hCl, hpl, hst⟩ := hrel
        have HPt := hidd hPt
        have HPO := hidd hPO
        have HCl := hidd hCl
        have HStb := hidd hst
        have HLen := hidd (lenAt_eq hPt)
        clear hPt hPO hCl hst
        cases ag with
        | false =>
          have HFin : Hid (PtPost w base tb a0 a1 a2 a3 (.slice adr l.length adc) (.slice adf bs.length fdc) l bs nxt S (.returned (.int .i64 0)) wr) := Or.inl ⟨rfl, _, _, _, _, _, _, _, HPt.out, HPO.out, HStb.out rfl, HCl.out.len, HCl.out.bnd, hpl⟩
          go_wp2_with ((with_reducible refine jmp_ret ?_); go_ret; exact HFin.out)
        | true =>
          have HPos : Hid (0 < parts.length) := Nat.lt_of_le_of_lt (Nat.zero_le _) (HPO.out.lt 0 h0)
          go_wp2_with fail
          go_loopw [5, 4] (fun cv bv wx => ∃ (c : Nat) (ag : Bool) (vpts : Value) (cl' : List Int) (us' : List Value) (parts' : List (List Nat)), cv = .int .i64 (c : Int) ∧ bv = .bool ag ∧ c ≤ parts'.length ∧ Pt w wx base tb w.heap.size g3 c3 a0 a1 a2 a3 (.slice adr l.length adc) (.slice adf bs.length fdc) vpts l bs cl' us' parts' ∧ PartOK (autR bs nxt) S l.length (kapN cl') parts' ∧ ClOK l.length cl' ∧ parts'.length ≤ 257 ∧ parts.length ≤ parts'.length ∧ (ag = true → parts.length < parts'.length) ∧ (ag = false → ∀ (c' : Nat) (ms : List Nat), c' < c → parts'[c']? = some ms → (groups (kindOf (autR bs nxt) S (kapN cl')) ms).length = 1)) (fun cv _ _ => 300 - (intOf cv).toNat)
          case atStart => exact ⟨0, false, vpts, cl, us, parts, rfl, rfl, Nat.zero_le _, HPt.out, HPO.out, HCl.out, hpl, Nat.le_refl _, (fun h => by cases h), fun _ c' ms h => absurd h (by omega)⟩
          case round =>
            clear HPt HPO HCl HStb
            obtain ⟨c, ag, vpts, cl', us', parts', rfl, rfl, hc, hPt, hPO, hCl, hpl', hpm, hag1, hag0⟩ := hrel
            have HPt := hidd hPt
            have HPO := hidd hPO
            have HCl := hidd hCl
            have HA1 := hidd hag1
            have HA0 := hidd hag0
            obtain ⟨gq, cq, hvq⟩ := own_posk hPt.pts (by rw [hPt.len]; have := HPos.out; omega)
            subst hvq
            have z0 := blkc hPt.bx 0
            have z7 := blkc hPt.tab.box 7
            have HUL := hidd hPt.len
            have hul : us'.length ≤ 257 := by rw [hPt.len]; exact hpl'
            by_cases hlt2 : c < us'.length
            · have hlz : (c : Int) < (us'.length : Int) := by omega
              obtain ⟨uc, huc⟩ : ∃ u, us'[c]? = some u := ⟨_, List.getElem?_eq_getElem hlt2⟩
              obtain ⟨ms, hms⟩ : ∃ ms, parts'[c]? = some ms := ⟨_, List.getElem?_eq_getElem (by rw [← hPt.len]; exact hlt2)⟩
              have hho := hPt.hold c uc ms huc hms
              obtain ⟨m1, m2, m3⟩ := hPO.told c ms hms
              have HMS := hidd hms
              have zc := own_cellk hPt.pts huc
              have hbS : Below wr.heap.size wr (wr.alloc (.cells #[.map none, nilS] 111)) := (Below.refl _ _).alloc (Nat.le_refl _) _
              have hPt2 := hPt.below hbS
              have hTS := setAt_new (K := keyT) wr w.heap.size
              have HPt2 := hidd hPt2
              have HTS : Hid (SetAt keyT (wr.alloc (.cells #[.map none, nilS] 111)) w.heap.size wr.heap.size (.map none) nilS []) := hTS
              have hwz := hPt.but.size
              have HPC : Hid (Calls Tryd.prog 53 #[uc, .func (.func 54) #[] #[.pointer (some ⟨w.heap.size, 0, none⟩), .pointer (some ⟨wr.heap.size, 0, none⟩)]] (wr.alloc (.cells #[.map none, nilS] 111)) (PdPost (wr.alloc (.cells #[.map none, nilS] 111)) g3 wr.heap.size (.map none) nilS (groups (kindOf (autR bs nxt) S (kapN cl')) ms))) :=
                parted_any base tb wr.heap.size w.heap.size g3 c3 a0 a1 a2 a3 _ _ _ (.map none) nilS uc l bs cl' ms _ _ hPt2.bx HBL.out hCl.len hn HRow.out hCl.bnd (HKr.out cl') (fun q hq => ((m3 q).1 hq).1) (by
                  have := sub_len ms (List.range l.length) m2 (fun q hq => List.mem_range.2 ((m3 q).1 hq).1)
                  rw [List.length_range] at this
                  omega) m1 m2 hPt2.tab (hTS.rebase hPt.low) (by have := hPt.low; simp; omega) (hho.below hbS)
              have zc2 := (hbS.cell (p := ⟨gq, c, none⟩) (cell_lt zc)).trans zc
              have z02 := blkc hPt2.bx 0
              have z72 := blkc hPt2.tab.box 7
              obtain ⟨gu, ou, cu, curu, hvu, _⟩ := hho
              subst hvu
              clear hPt hPO hCl hag1 hag0 hPt2 hTS hms huc m1 m2 m3
              go_upto_region 15 with fail
              clear z0 z7 zc
              generalize wr.alloc (.cells #[.map none, nilS] 111) = W6 at *
              generalize wr.heap.size = sb at *
              have hsbw : w.heap.size ≤ sb := hwz
              have HSB : Hid (sb < W6.heap.size) := HTS.out.lt
              go_wp2_with fail
              refine HPC.out.mono ?_
              rintro e w7 ⟨gpp, cpp, usp, rfl, hpo, hpl2, hph, hpb⟩
              have HPt7 := hidd (HPt2.out.traits HTS.out hsbw hpb)
              have HPO7 := hidd hpo
              have HPL := hidd hpl2
              have HPH := hidd hph
              have hgp6 : W6.heap.size ≤ gpp := (own_blk hpo (b := gpp) rfl).1
              have hgq6 : gq < W6.heap.size := (Array.getElem?_eq_some_iff.1 (own_blk HPt2.out.pts (b := gq) rfl).2.choose_spec).1
              have HGL : Hid ((groups (kindOf (autR bs nxt) S (kapN cl')) ms).length = (kindsOf (kindOf (autR bs nxt) S (kapN cl')) ms).length) := groups_len _ _
              have hgs0 : 0 < usp.length := by
                rw [hpl2, HGL.out]
                obtain ⟨q, hq⟩ := List.exists_mem_of_ne_nil _ (HPO.out.told c ms HMS.out).1
                exact List.length_pos_of_mem (kindsOf_mem.2 ⟨q, hq, rfl⟩ : kindOf (autR bs nxt) S (kapN cl') q ∈ kindsOf (kindOf (autR bs nxt) S (kapN cl')) ms)
              obtain ⟨up0, hup0⟩ : ∃ u, usp[0]? = some u := ⟨_, List.getElem?_eq_getElem hgs0⟩
              obtain ⟨gs0, hgs0e⟩ : ∃ g, (groups (kindOf (autR bs nxt) S (kapN cl')) ms)[0]? = some g := ⟨_, List.getElem?_eq_getElem (by rw [← hpl2]; exact hgs0)⟩
              have hh0 := hph 0 up0 gs0 hup0 hgs0e
              have HH0 := hidd hh0
              have HG0 := hidd hgs0e
              have HU0 := hidd hup0
              obtain ⟨g0', o0', c0', cur0', hv0', _⟩ := hh0
              subst hv0'
              clear hpo hpl2 hph hpb HPC zc2 z02 z72 hup0 hgs0e HPt2 HTS HPt
              generalize hGS : groups (kindOf (autR bs nxt) S (kapN cl')) ms = gs at *
              have HGS := hidd hGS
              clear hGS
              rw [nat2_len] at *
              go_upto_region 16 with fail
              refine wp_region_held (S := fun u => u.cell? ⟨w.heap.size, 0, none⟩ = some (.pointer (some ⟨tb, 0, none⟩)) ∧ u.cell? ⟨tb, 7, none⟩ = some (.slice (some ⟨gq, 0, none⟩) us'.length cq) ∧ u.cell? ⟨gpp, 0, none⟩ = some (.slice (some ⟨g0', o0', none⟩) gs0.length c0')) (by kernel_rfl) ?_
              have hbd : Below w7.heap.size w7 ({ heap := w7.heap, tape := w7.tape, drawn := w7.drawn + 1, os := w7.os, output := w7.output } : World) := (Below.refl _ _).drew
              generalize ({ heap := w7.heap, tape := w7.tape, drawn := w7.drawn + 1, os := w7.os, output := w7.output } : World) = Wd at *
              have hPd := HPt7.out.below hbd
              have hpod : Wd.ownsRow W6.heap.size 30 1 (.slice (some ⟨gpp, 0, none⟩) usp.length cpp) usp.length usp := own_congr HPO7.out (fun b hk => hbd.block b (Array.getElem?_eq_some_iff.1 (own_blk HPO7.out hk).2.choose_spec).1)
              have hSd : (fun u => u.cell? ⟨w.heap.size, 0, none⟩ = some (.pointer (some ⟨tb, 0, none⟩)) ∧ u.cell? ⟨tb, 7, none⟩ = some (.slice (some ⟨gq, 0, none⟩) us'.length cq) ∧ u.cell? ⟨gpp, 0, none⟩ = some (.slice (some ⟨g0', o0', none⟩) gs0.length c0')) Wd := ⟨blkc hPd.bx 0, blkc hPd.tab.box 7, own_cellk hpod HU0.out⟩
              try simp only [Act.put, List.getElem_toArray, List.getElem_cons_succ, List.getElem_cons_zero, List.setIfInBounds_toArray, List.set_cons_zero, List.set_cons_succ]
              refine tkX 0 (v := .pointer (some ⟨tb, 0, none⟩)) (hS := hSd) (h := ?_)
              try simp only [Act.put, List.getElem_toArray, List.getElem_cons_succ, List.getElem_cons_zero, List.setIfInBounds_toArray, List.set_cons_zero, List.set_cons_succ]
              refine tkX 1 (hS := hSd) (h := ?_)
              try simp only [Act.put, List.getElem_toArray, List.getElem_cons_succ, List.getElem_cons_zero, List.setIfInBounds_toArray, List.set_cons_zero, List.set_cons_succ]
              refine tkX 2 (hS := hSd) (h := ?_)
              try simp only [Act.put, List.getElem_toArray, List.getElem_cons_succ, List.getElem_cons_zero, List.setIfInBounds_toArray, List.set_cons_zero, List.set_cons_succ]
              refine tkX 3 (v := .slice (some ⟨gq, 0, none⟩) us'.length cq) (hS := hSd) (h := ?_)
              try simp only [Act.put, List.getElem_toArray, List.getElem_cons_succ, List.getElem_cons_zero, List.setIfInBounds_toArray, List.set_cons_zero, List.set_cons_succ]
              refine tkX 4 (hS := hSd) (h := ?_)
              try simp only [Act.put, List.getElem_toArray, List.getElem_cons_succ, List.getElem_cons_zero, List.setIfInBounds_toArray, List.set_cons_zero, List.set_cons_succ]
              refine tkX 5 (hS := hSd) (h := ?_)
              try simp only [Act.put, List.getElem_toArray, List.getElem_cons_succ, List.getElem_cons_zero, List.setIfInBounds_toArray, List.set_cons_zero, List.set_cons_succ]
              refine wpAnyH_take (i := 6) (v := .pointer (some ⟨gpp, 0, none⟩)) rfl (by kernel_rfl) (by kernel_rfl) (by kernel_rfl) (fun _ _ _ h => h) (Or.inl ⟨by kernel_rfl, fun W hW => exec_idxP W _ _ _ _ rfl gpp 0 usp.length cpp (by kernel_rfl) (by kernel_rfl) hgs0⟩) hSd ?_
              try simp only [Act.put, List.getElem_toArray, List.getElem_cons_succ, List.getElem_cons_zero, List.setIfInBounds_toArray, List.set_cons_zero, List.set_cons_succ]
              refine tkX 7 (v := .slice (some ⟨g0', o0', none⟩) gs0.length c0') (hS := hSd) (h := ?_)
              try simp only [Act.put, List.getElem_toArray, List.getElem_cons_succ, List.getElem_cons_zero, List.setIfInBounds_toArray, List.set_cons_zero, List.set_cons_succ]
              refine wpAnyH_take (i := 8) (v := .pointer (some ⟨gq, c, none⟩)) rfl (by kernel_rfl) (by kernel_rfl) (by kernel_rfl) (fun _ _ _ h => h) (Or.inl ⟨by kernel_rfl, fun W hW => exec_idxP W _ _ _ _ rfl gq c us'.length cq (by kernel_rfl) (by kernel_rfl) hlt2⟩) hSd ?_
              try simp only [Act.put, List.getElem_toArray, List.getElem_cons_succ, List.getElem_cons_zero, List.setIfInBounds_toArray, List.set_cons_zero, List.set_cons_succ]
              refine wpAnyH_one 9 (by kernel_rfl) ?_
              obtain ⟨ucd, hucd⟩ : ∃ u, us'[c]? = some u := ⟨_, List.getElem?_eq_getElem hlt2⟩
              refine wpOp_skip _ rfl (by kernel_rfl) (exec_storeI _ _ _ _ _ rfl gq c gs0.length c0' (some ⟨g0', o0', none⟩) _ (by kernel_rfl) (by kernel_rfl) (own_cellk hPd.pts hucd) (own_frozenk hPd.pts c)) ?_
              have hPs := hPd.setPart rfl hlt2 (HH0.out.below hbd)
              have hpos : (Wd.setCell ⟨gq, c, none⟩ (.slice (some ⟨g0', o0', none⟩) gs0.length c0')).ownsRow W6.heap.size 30 1 (.slice (some ⟨gpp, 0, none⟩) usp.length cpp) usp.length usp := own_congr hpod (fun b hk => by
                have e : b = gpp := by simpa [Value.ownBlock] using hk.symm
                rw [heap_set_other _ _ _ _ _ (by omega)])
              have hphs : ∀ (j : Nat) (u : Value) (g : List Nat), usp[j]? = some u → gs[j]? = some g → HoldO (Wd.setCell ⟨gq, c, none⟩ (.slice (some ⟨g0', o0', none⟩) gs0.length c0')) g3 u (nat2 g) := fun j u g h1 h2 => ((HPH.out j u g h1 h2).below hbd).keep ((But.refl (fun b => b = gq) Wd).set gq c _ rfl) (fun b hB => Or.inr fun cur e => by
                subst hB
                exact blk_ne (own_blk hPd.pts (b := b) rfl).2.choose_spec e (by decide) rfl)
              refine ⟨⟨blkc hPs.bx 0, blkc hPs.tab.box 7, own_cellk hpos HU0.out⟩, ?_⟩
              try simp only [Act.put, List.getElem_toArray, List.getElem_cons_succ, List.getElem_cons_zero, List.setIfInBounds_toArray, List.set_cons_zero, List.set_cons_succ]
              refine wpAnyH_done (by kernel_rfl) ?_ _
              have HP8 : Hid (Pt w (Wd.setCell ⟨gq, c, none⟩ (.slice (some ⟨g0', o0', none⟩) gs0.length c0')) base tb w.heap.size g3 c3 a0 a1 a2 a3 (.slice adr l.length adc) (.slice adf bs.length fdc) (.slice (some ⟨gq, 0, none⟩) us'.length cq) l bs cl' (us'.set c (.slice (some ⟨g0', o0', none⟩) gs0.length c0')) (splitP parts' gs c 0)) := by
                have e : splitP parts' gs c 0 = parts'.set c gs0 := by
                  unfold splitP
                  rw [List.take_zero, List.append_nil, List.getD_eq_getElem?_getD, HG0.out]; rfl
                show Pt _ _ _ _ _ _ _ _ _ _ _ _ _ _ _ _ _ _ _
                rw [e]
                exact hPs
              have HPO8 := hidd hpos
              have HPH8 := hidd hphs
              clear hPs hpos hphs hPd hpod hSd hbd hucd HPt7 HPO7 HPH HH0 HU0
              generalize Wd.setCell ⟨gq, c, none⟩ (.slice (some ⟨g0', o0', none⟩) gs0.length c0') = W8 at *
              have hcap : usp.length ≤ cpp := own_capk HPO8.out
              have HGE : Hid (usp.length = gs.length) := HPL.out
              go_upto_region 17 with fail
              go_cut [77, 78, 79] (fun sv lv iv wx => (∃ adx cx, sv = .slice adx (usp.length - 1) cx ∧ (1 < usp.length → adx = some ⟨gpp, 1, none⟩)) ∧ lv = .int .i64 ((usp.length - 1 : Nat) : Int) ∧ iv = .int .i64 0 ∧ wx = W8)
              case first =>
                by_cases hc1 : cpp = 1
                · subst hc1
                  have HU1 : Hid (usp.length = 1) := by show _ = _; omega
                  have hu1 : 1 ≤ usp.length := hgs0
                  have hu1z : (1 : Int) ≤ (usp.length : Int) := by omega
                  have hHx : Hid (((usp.length : Nat) : Int) - 1 = ((usp.length - 1 : Nat) : Int)) := by show _ = _; omega
                  go_wp2_with fail
                  go_meet
                  case rel => exact ⟨⟨some ⟨gpp, 0, none⟩, 0, by rw [HU1.out], fun h => absurd h (by have := HU1.out; omega)⟩, by rw [HU1.out]; rfl, rfl, rfl⟩
                · have hu1 : 1 ≤ usp.length := hgs0
                  have hu1z : (1 : Int) ≤ (usp.length : Int) := by omega
                  have hczz : (usp.length : Int) ≤ (cpp : Int) := by omega
                  have hcl1 : 1 ≤ cpp := by omega
                  have hHx : Hid (((usp.length : Nat) : Int) - 1 = ((usp.length - 1 : Nat) : Int)) := by show _ = _; omega
                  go_wp2_with fail
                  go_meet
                  case rel => exact ⟨⟨_, _, rfl, fun _ => rfl⟩, by first | rfl | (rw [← hHx.out]), rfl, rfl⟩
              case rest =>
                obtain ⟨⟨adx, cx, rfl, hadx⟩, rfl, rfl, hw8⟩ := hcut
                obtain rfl := hw8.symm
                have HAdx := hidd hadx
                have HK0 : Hid (∀ q, q < l.length → kapN cl' q = splitK (kindOf (autR bs nxt) S (kapN cl')) (kapN cl') ms c parts'.length 0 q) := fun q _ => (splitK_zero _ _ _ _ _ _).symm
                have HCp : Hid (c < parts'.length) := by rw [← HUL.out]; exact hlt2
                have HUp : Hid ((us'.set c (Value.slice (some ⟨g0', o0', none⟩) gs0.length c0')).length = us'.length) := List.length_set
                rw [← HUp.out] at HP8
                have HNq : Hid ((Value.slice (some ⟨gq, 0, none⟩) (us'.set c (Value.slice (some ⟨g0', o0', none⟩) gs0.length c0')).length cq).ownBlock ≠ some gpp) := by
                  show _ ≠ _
                  intro e
                  have : gq = gpp := by simpa [Value.ownBlock] using e
                  omega
                have HPL1 : Hid (parts'.length + 0 ≤ 257) := hpl'
                clear hadx hcap
                go_wp2_with fail
                go_loopw [79, 4] (fun jv bv wx => ∃ (j : Nat) (agj : Bool) (vq : Value) (clj : List Int) (usj : List Value), jv = .int .i64 (j : Int) ∧ bv = .bool agj ∧ j ≤ usp.length - 1 ∧ Pt w wx base tb w.heap.size g3 c3 a0 a1 a2 a3 (.slice adr l.length adc) (.slice adf bs.length fdc) vq l bs clj usj (splitP parts' gs c j) ∧ (∀ q, q < l.length → kapN clj q = splitK (kindOf (autR bs nxt) S (kapN cl')) (kapN cl') ms c parts'.length j q) ∧ ClOK l.length clj ∧ wx.ownsRow W6.heap.size 30 1 (.slice (some ⟨gpp, 0, none⟩) usp.length cpp) usp.length usp ∧ (∀ (j : Nat) (u : Value) (g : List Nat), usp[j]? = some u → gs[j]? = some g → HoldO wx g3 u (nat2 g)) ∧ vq.ownBlock ≠ some gpp ∧ parts'.length + j ≤ 257 ∧ agj = (ag || decide (0 < j)) ∧ (j = 0 → clj = cl')) (fun jv _ _ => usp.length - (intOf jv).toNat)
                case atStart => exact ⟨0, ag, _, cl', _, rfl, rfl, Nat.zero_le _, HP8.out, HK0.out, HCl.out, HPO8.out, HPH8.out, HNq.out, HPL1.out, by simp, fun _ => rfl⟩
                case round =>
                  clear HP8 HK0 HPO8 HPH8 HNq HPL1
                  obtain ⟨j, agj, vq, clj, usj, rfl, rfl, hj, hPj, hKj, hCj, hpj, hHj, hNj, hLj, hAj, hcj0⟩ := hrel
                  have HPj := hidd hPj
                  have HKj := hidd hKj
                  have HCj := hidd hCj
                  have Hpj := hidd hpj
                  have HHj := hidd hHj
                  have HNj := hidd hNj
                  have HAj := hidd hAj
                  have Hcj0 := hidd hcj0
                  have hlenj : usj.length = parts'.length + j := by rw [hPj.len]; exact splitP_len (by rw [← HGE.out]; exact hj)
                  by_cases hjl : j < usp.length - 1
                  · have hjz : (j : Int) < ((usp.length - 1 : Nat) : Int) := by omega
                    obtain rfl : adx = some ⟨gpp, 1, none⟩ := HAdx.out (by omega)
                    obtain ⟨up, hup⟩ : ∃ u, usp[j + 1]? = some u := ⟨_, List.getElem?_eq_getElem (by omega)⟩
                    obtain ⟨gj, hgj⟩ : ∃ g, gs[j + 1]? = some g := ⟨_, List.getElem?_eq_getElem (by rw [← HGE.out]; omega)⟩
                    have x0 := own_cellk hpj hup
                    rw [Nat.add_comm] at x0
                    have hhp := hHj (j + 1) up gj hup hgj
                    have HHP := hidd hhp
                    have HGj := hidd hgj
                    have hgl : gj.length ≤ 1114112 := by
                      obtain ⟨-, h5, h6⟩ := groups_mem (M := kindOf (autR bs nxt) S (kapN cl')) (ms := ms) (j := j + 1) (g := gj) (by rw [HGS.out]; exact hgj)
                      obtain ⟨-, mm2, mm3⟩ := HPO.out.told c ms HMS.out
                      have := nat_nodup_le l.length gj (h6 mm2) (fun x hx => ((mm3 x).1 ((h5 x).1 hx).1).1)
                      omega
                    obtain ⟨gu2, ou2, cu2, cur2, hvu2, _, _, hcells2⟩ := hhp
                    subst hvu2
                    rw [nat2_len] at *
                    have y0 := blkc hPj.bx 0
                    have y7 := blkc hPj.tab.box 7
                    obtain ⟨gz, cz, hvz⟩ := own_posk hPj.pts (by rw [hlenj]; have := HPos.out; omega)
                    subst hvz
                    by_cases hmany : parts'.length + j > 256
                    · have hmz : (usj.length : Int) > 256 := by omega
                      have HFin : Hid (PtPost w base tb a0 a1 a2 a3 (.slice adr l.length adc) (.slice adf bs.length fdc) l bs nxt S (.returned (.int .i64 11)) wr) := by
                        have hsa := split_all HSh.out HPO.out HMS.out (κ' := splitK (kindOf (autR bs nxt) S (kapN cl')) (kapN cl') ms c parts'.length (gs.length - 1)) (fun q _ => by rw [HGS.out])
                        rw [HGS.out] at hsa
                        refine Or.inr ⟨rfl, hPj.but, splitK (kindOf (autR bs nxt) S (kapN cl')) (kapN cl') ms c parts'.length (gs.length - 1), (splitP parts' gs c (gs.length - 1)).length, hsa.coarse, hsa.onto, ?_⟩
                        rw [splitP_len (Nat.le_refl _)]
                        have := HGE.out
                        omega
                      clear hPj hKj hCj hpj hHj hNj hAj hcj0 HPj HKj HCj Hpj HHj HNj HAj Hcj0
                      go_upto_region 20 with fail
                      clear x0
                      go_wp2_with (go_step3; refine (⟨rfl, ?_⟩ : 0 = 0 ∧ J _ _); rw [HJ.out]; exact ⟨HFin.out, _, _, _, _, rfl⟩)
                    · have hmz : ¬ (usj.length : Int) > 256 := by omega
                      clear hPj hKj hCj hpj hHj hNj hAj hcj0
                      go_upto_region 20 with fail
                      go_upto_region 21 with fail
                      have HUs := hidd hlenj
                      clear x0 y0 y7 hlenj
                      have HM0 : Hid (∀ q, q < l.length → kapN clj q = midK (kapN clj) (gj.take 0) (parts'.length + j) q) := fun q _ => by simp [midK]
                      go_wp2_with fail
                      go_loopw [91] (fun iv wx => ∃ (i : Nat) (cl5 : List Int), iv = .int .i64 (i : Int) ∧ i ≤ gj.length ∧ Pt w wx base tb w.heap.size g3 c3 a0 a1 a2 a3 (.slice adr l.length adc) (.slice adf bs.length fdc) (.slice (some ⟨gz, 0, none⟩) usj.length cz) l bs cl5 usj (splitP parts' gs c j) ∧ (∀ q, q < l.length → kapN cl5 q = midK (kapN clj) (gj.take i) (parts'.length + j) q) ∧ ClOK l.length cl5 ∧ wx.ownsRow W6.heap.size 30 1 (.slice (some ⟨gpp, 0, none⟩) usp.length cpp) usp.length usp ∧ (∀ (j : Nat) (u : Value) (g : List Nat), usp[j]? = some u → gs[j]? = some g → HoldO wx g3 u (nat2 g)) ∧ HoldO wx g3 (.slice (some ⟨gu2, ou2, none⟩) gj.length cu2) (nat2 gj)) (fun iv _ => gj.length - (intOf iv).toNat)
                      case atStart => exact ⟨0, clj, rfl, Nat.zero_le _, HPj.out, HM0.out, HCj.out, Hpj.out, HHj.out, HHP.out⟩
                      case round =>
                        clear HPj HM0 HCj Hpj HHj HHP
                        obtain ⟨i, cl5, rfl, hi5, hP5, hM5, hC5, hp5, hH5, hh5⟩ := hrel
                        have HP5 := hidd hP5
                        have HM5 := hidd hM5
                        have HC5 := hidd hC5
                        have Hp5 := hidd hp5
                        have HH5 := hidd hH5
                        have Hh5 := hidd hh5
                        by_cases hil : i < gj.length
                        · have hilz : (i : Int) < (gj.length : Int) := by omega
                          obtain ⟨q, hq⟩ : ∃ q, gj[i]? = some q := ⟨_, List.getElem?_eq_getElem hil⟩
                          obtain ⟨gx, ox, cxx, curx, hvx, _, hgx3, hcx⟩ := hh5
                          simp only [Value.slice.injEq, Option.some.injEq, Addr.mk.injEq, and_true] at hvx
                          obtain ⟨⟨rfl, rfl⟩, -, rfl⟩ := hvx
                          have x0 := hcx i (by rw [nat2_len]; exact hil)
                          rw [nat2_at gj i hil, show gj.getD i 0 = q by rw [List.getD_eq_getElem?_getD, hq]; rfl] at x0
                          have hqn : q < l.length := by
                            obtain ⟨_, h5, _⟩ := groups_mem (M := kindOf (autR bs nxt) S (kapN cl')) (ms := ms) (j := j + 1) (g := gj) (by rw [HGS.out]; exact HGj.out)
                            have h6 := ((h5 q).1 (List.mem_of_getElem? hq)).1
                            exact (((HPO.out.told c ms HMS.out).2.2 q).1 h6).1
                          have HTk : Hid (gj.take (i + 1) = gj.take i ++ [q]) := by
                            show _ = _
                            rw [List.take_succ_eq_append_getElem hil, (List.getElem?_eq_some_iff.1 hq).2]
                          clear hP5 hM5 hC5 hp5 hH5 hcx hq
                          go_upto_region 24 with fail
                          clear x0
                          refine wp_region_held (S := fun u => u.cell? ⟨w.heap.size, 0, none⟩ = some (.pointer (some ⟨tb, 0, none⟩)) ∧ u.cell? ⟨tb, 6, none⟩ = some (.slice (some ⟨g3, 0, none⟩) cl5.length c3) ∧ u.cell? ⟨tb, 7, none⟩ = some (.slice (some ⟨gz, 0, none⟩) usj.length cz)) (by kernel_rfl) ?_
                          have hbd : Below wr.heap.size wr ({ heap := wr.heap, tape := wr.tape, drawn := wr.drawn + 1, os := wr.os, output := wr.output } : World) := (Below.refl _ _).drew
                          generalize ({ heap := wr.heap, tape := wr.tape, drawn := wr.drawn + 1, os := wr.os, output := wr.output } : World) = Wd at *
                          have hPd := HP5.out.below hbd
                          have hSd : (fun u => u.cell? ⟨w.heap.size, 0, none⟩ = some (.pointer (some ⟨tb, 0, none⟩)) ∧ u.cell? ⟨tb, 6, none⟩ = some (.slice (some ⟨g3, 0, none⟩) cl5.length c3) ∧ u.cell? ⟨tb, 7, none⟩ = some (.slice (some ⟨gz, 0, none⟩) usj.length cz)) Wd := ⟨blkc hPd.bx 0, blkc hPd.tab.box 6, blkc hPd.tab.box 7⟩
                          have hqc : q < cl5.length := by rw [HC5.out.len]; exact hqn
                          try simp only [Act.put, List.getElem_toArray, List.getElem_cons_succ, List.getElem_cons_zero, List.setIfInBounds_toArray, List.set_cons_zero, List.set_cons_succ]
                          refine tkX 0 (v := .pointer (some ⟨tb, 0, none⟩)) (hS := hSd) (h := ?_)
                          try simp only [Act.put, List.getElem_toArray, List.getElem_cons_succ, List.getElem_cons_zero, List.setIfInBounds_toArray, List.set_cons_zero, List.set_cons_succ]
                          refine tkX 1 (hS := hSd) (h := ?_)
                          try simp only [Act.put, List.getElem_toArray, List.getElem_cons_succ, List.getElem_cons_zero, List.setIfInBounds_toArray, List.set_cons_zero, List.set_cons_succ]
                          refine tkX 2 (hS := hSd) (h := ?_)
                          try simp only [Act.put, List.getElem_toArray, List.getElem_cons_succ, List.getElem_cons_zero, List.setIfInBounds_toArray, List.set_cons_zero, List.set_cons_succ]
                          refine tkX 3 (v := .slice (some ⟨g3, 0, none⟩) cl5.length c3) (hS := hSd) (h := ?_)
                          try simp only [Act.put, List.getElem_toArray, List.getElem_cons_succ, List.getElem_cons_zero, List.setIfInBounds_toArray, List.set_cons_zero, List.set_cons_succ]
                          refine tkX 4 (hS := hSd) (h := ?_)
                          try simp only [Act.put, List.getElem_toArray, List.getElem_cons_succ, List.getElem_cons_zero, List.setIfInBounds_toArray, List.set_cons_zero, List.set_cons_succ]
                          refine tkX 5 (v := .pointer (some ⟨tb, 0, none⟩)) (hS := hSd) (h := ?_)
                          try simp only [Act.put, List.getElem_toArray, List.getElem_cons_succ, List.getElem_cons_zero, List.setIfInBounds_toArray, List.set_cons_zero, List.set_cons_succ]
                          refine tkX 6 (hS := hSd) (h := ?_)
                          try simp only [Act.put, List.getElem_toArray, List.getElem_cons_succ, List.getElem_cons_zero, List.setIfInBounds_toArray, List.set_cons_zero, List.set_cons_succ]
                          refine tkX 7 (hS := hSd) (h := ?_)
                          try simp only [Act.put, List.getElem_toArray, List.getElem_cons_succ, List.getElem_cons_zero, List.setIfInBounds_toArray, List.set_cons_zero, List.set_cons_succ]
                          refine tkX 8 (v := .slice (some ⟨gz, 0, none⟩) usj.length cz) (hS := hSd) (h := ?_)
                          try simp only [Act.put, List.getElem_toArray, List.getElem_cons_succ, List.getElem_cons_zero, List.setIfInBounds_toArray, List.set_cons_zero, List.set_cons_succ]
                          refine tkX 9 (hS := hSd) (h := ?_)
                          try simp only [Act.put, List.getElem_toArray, List.getElem_cons_succ, List.getElem_cons_zero, List.setIfInBounds_toArray, List.set_cons_zero, List.set_cons_succ]
                          refine wpAnyH_take (i := 10) (v := .pointer (some ⟨g3, q, none⟩)) rfl (by kernel_rfl) (by kernel_rfl) (by kernel_rfl) (fun _ _ _ h => h) (Or.inl ⟨by kernel_rfl, fun W hW => exec_idxI W _ _ _ _ rfl g3 q cl5.length c3 (by kernel_rfl) (by kernel_rfl) hqc⟩) hSd ?_
                          try simp only [Act.put, List.getElem_toArray, List.getElem_cons_succ, List.getElem_cons_zero, List.setIfInBounds_toArray, List.set_cons_zero, List.set_cons_succ]
                          refine wpAnyH_one 11 (by kernel_rfl) ?_
                          have hcq : Wd.cell? ⟨g3, q, none⟩ = some (.int .i64 (cl5.getD q 0)) := own_cellk hPd.tab.cls (by unfold zI; rw [List.getElem?_map, List.getElem?_eq_getElem hqc, List.getD_eq_getElem?_getD, List.getElem?_eq_getElem hqc]; rfl)
                          refine wpOp_skip _ rfl (by kernel_rfl) (exec_storeZ _ _ _ _ _ rfl g3 q (usj.length : Int) _ (by kernel_rfl) (by kernel_rfl) hcq (own_frozenk hPd.tab.cls q)) ?_
                          have hPs := hPd.setCls hqc (usj.length : Int)
                          refine ⟨⟨blkc hPs.bx 0, by have := blkc hPs.tab.box 6; rw [List.length_set] at this; exact this, blkc hPs.tab.box 7⟩, ?_⟩
                          try simp only [Act.put, List.getElem_toArray, List.getElem_cons_succ, List.getElem_cons_zero, List.setIfInBounds_toArray, List.set_cons_zero, List.set_cons_succ]
                          refine wpAnyH_done (by kernel_rfl) ?_ _
                          have hbut9 : But (fun b => b = g3) Wd (Wd.setCell ⟨g3, q, none⟩ (.int .i64 (usj.length : Int))) := (But.refl (fun b => b = g3) Wd).set g3 q _ rfl
                          have HPn := hidd hPs
                          have HCn : Hid (ClOK l.length (cl5.set q (usj.length : Int))) := HC5.out.set q (by have := HUs.out; omega)
                          have HMn : Hid (∀ q', q' < l.length → kapN (cl5.set q (usj.length : Int)) q' = midK (kapN clj) (gj.take (i + 1)) (parts'.length + j) q') := fun q' hq' => by
                            rw [kapN_set hqc, HM5.out q' hq', HTk.out, HUs.out]
                            unfold midK
                            by_cases e : q' = q
                            · subst e; simp
                            · rw [if_neg e]
                              by_cases e2 : q' ∈ gj.take i
                              · rw [if_pos e2, if_pos (List.mem_append_left _ e2)]
                              · rw [if_neg e2, if_neg (fun h => by rcases List.mem_append.1 h with h | h; exact e2 h; exact e (List.mem_singleton.1 h))]
                          have Hpn : Hid ((Wd.setCell ⟨g3, q, none⟩ (.int .i64 (usj.length : Int))).ownsRow W6.heap.size 30 1 (.slice (some ⟨gpp, 0, none⟩) usp.length cpp) usp.length usp) := own_congr Hp5.out (fun b hk => by
                            obtain ⟨_, cur, h2⟩ := own_blk Hp5.out hk
                            rw [heap_set_other _ _ _ _ _ (blk_ne (blko h2 hbd) (own_blk hPd.tab.cls (b := g3) rfl).2.choose_spec (by decide)), hbd.block b (Array.getElem?_eq_some_iff.1 h2).1])
                          have HHn : Hid (∀ (j : Nat) (u : Value) (g : List Nat), usp[j]? = some u → gs[j]? = some g → HoldO (Wd.setCell ⟨g3, q, none⟩ (.int .i64 (usj.length : Int))) g3 u (nat2 g)) := fun j' u g h1 h2 => ((HH5.out j' u g h1 h2).below hbd).keep hbut9 (fun b hB => Or.inl hB)
                          have Hhn : Hid (HoldO (Wd.setCell ⟨g3, q, none⟩ (.int .i64 (usj.length : Int))) g3 (.slice (some ⟨gu2, ou2, none⟩) gj.length cu2) (nat2 gj)) := (Hh5.out.below hbd).keep hbut9 (fun b hB => Or.inl hB)
                          clear hPs hPd hSd hbd hcq hbut9 HP5 HM5 HC5 Hp5 HH5 Hh5
                          go_wp2_with fail
                          go_roundw
                          case rel => exact ⟨i + 1, _, by go_num, by omega, HPn.out, HMn.out, HCn.out, Hpn.out, HHn.out, Hhn.out⟩
                          case measure => simp [intOf]; omega
                        · have hilz : ¬ (i : Int) < (gj.length : Int) := by omega
                          obtain rfl : i = gj.length := by omega
                          clear hP5 hM5 hC5 hp5 hH5 hh5
                          go_upto_region 26 with fail
                          refine wp_region_held (S := fun u => u.cell? ⟨w.heap.size, 0, none⟩ = some (.pointer (some ⟨tb, 0, none⟩)) ∧ True) (by kernel_rfl) ?_
                          have hbd : Below wr.heap.size wr ({ heap := wr.heap, tape := wr.tape, drawn := wr.drawn + 1, os := wr.os, output := wr.output } : World) := (Below.refl _ _).drew
                          generalize ({ heap := wr.heap, tape := wr.tape, drawn := wr.drawn + 1, os := wr.os, output := wr.output } : World) = Wd at *
                          have hPd := HP5.out.below hbd
                          have hSd : (fun u => u.cell? ⟨w.heap.size, 0, none⟩ = some (.pointer (some ⟨tb, 0, none⟩)) ∧ True) Wd := ⟨blkc hPd.bx 0, trivial⟩
                          try simp only [Act.put, List.getElem_toArray, List.getElem_cons_succ, List.getElem_cons_zero, List.setIfInBounds_toArray, List.set_cons_zero, List.set_cons_succ]
                          refine tkX 0 (v := .pointer (some ⟨tb, 0, none⟩)) (hS := hSd) (h := ?_)
                          try simp only [Act.put, List.getElem_toArray, List.getElem_cons_succ, List.getElem_cons_zero, List.setIfInBounds_toArray, List.set_cons_zero, List.set_cons_succ]
                          refine tkX 1 (v := .pointer (some ⟨tb, 0, none⟩)) (hS := hSd) (h := ?_)
                          try simp only [Act.put, List.getElem_toArray, List.getElem_cons_succ, List.getElem_cons_zero, List.setIfInBounds_toArray, List.set_cons_zero, List.set_cons_succ]
                          refine tkX 2 (hS := hSd) (h := ?_)
                          try simp only [Act.put, List.getElem_toArray, List.getElem_cons_succ, List.getElem_cons_zero, List.setIfInBounds_toArray, List.set_cons_zero, List.set_cons_succ]
                          refine tkX 3 (hS := hSd) (h := ?_)
                          try simp only [Act.put, List.getElem_toArray, List.getElem_cons_succ, List.getElem_cons_zero, List.setIfInBounds_toArray, List.set_cons_zero, List.set_cons_succ]
                          refine tkX 5 (hS := hSd) (h := ?_)
                          have hbA : Below Wd.heap.size Wd (Wd.alloc (.cells #[.slice (some ⟨gu2, ou2, none⟩) gj.length cu2] 30)) := (Below.refl _ _).alloc (Nat.le_refl _) _
                          have hSA : (fun u => u.cell? ⟨w.heap.size, 0, none⟩ = some (.pointer (some ⟨tb, 0, none⟩)) ∧ True) (Wd.alloc (.cells #[.slice (some ⟨gu2, ou2, none⟩) gj.length cu2] 30)) := ⟨blkc (blko hPd.bx hbA) 0, trivial⟩
                          have hcd : Wd.cell? ⟨tb, 7, none⟩ = some (.slice (some ⟨gz, 0, none⟩) usj.length cz) := blkc hPd.tab.box 7
                          have hcA : (Wd.alloc (.cells #[.slice (some ⟨gu2, ou2, none⟩) gj.length cu2] 30)).cell? ⟨tb, 7, none⟩ = some (.slice (some ⟨gz, 0, none⟩) usj.length cz) := blkc (blko hPd.tab.box hbA) 7
                          try simp only [Act.put, List.getElem_toArray, List.getElem_cons_succ, List.getElem_cons_zero, List.setIfInBounds_toArray, List.set_cons_zero, List.set_cons_succ]
                          refine wpAnyH_two 4 6 (by kernel_rfl) ?ha2 ?hb2
                          case' ha2 =>
                            refine wpOp_val _ _ rfl (by kernel_rfl) (exec_loadP _ _ _ _ rfl tb 7 usj.length cz (some ⟨gz, 0, none⟩) (by kernel_rfl) hcd) ?_
                            refine ⟨hSd, ?_⟩
                            try simp only [Act.put, List.getElem_toArray, List.getElem_cons_succ, List.getElem_cons_zero, List.setIfInBounds_toArray, List.set_cons_zero, List.set_cons_succ]
                            refine wpAnyH_one 6 (by kernel_rfl) ?_
                            refine wpOp_val _ _ rfl (by kernel_rfl) (exec_buildP _ _ _ _ rfl (some ⟨gu2, ou2, none⟩) gj.length cu2 (by kernel_rfl)) ?_
                            refine ⟨hSA, ?_⟩
                          case' hb2 =>
                            refine wpOp_val _ _ rfl (by kernel_rfl) (exec_buildP _ _ _ _ rfl (some ⟨gu2, ou2, none⟩) gj.length cu2 (by kernel_rfl)) ?_
                            refine ⟨hSA, ?_⟩
                            try simp only [Act.put, List.getElem_toArray, List.getElem_cons_succ, List.getElem_cons_zero, List.setIfInBounds_toArray, List.set_cons_zero, List.set_cons_succ]
                            refine wpAnyH_one 4 (by kernel_rfl) ?_
                            refine wpOp_val _ _ rfl (by kernel_rfl) (exec_loadP _ _ _ _ rfl tb 7 usj.length cz (some ⟨gz, 0, none⟩) (by kernel_rfl) hcA) ?_
                            refine ⟨hSA, ?_⟩
                          all_goals
                            try simp only [Act.put, List.getElem_toArray, List.getElem_cons_succ, List.getElem_cons_zero, List.setIfInBounds_toArray, List.set_cons_zero, List.set_cons_succ]
                            refine wpAnyH_one 7 (by kernel_rfl) ?_
                            refine wpOp_pushP rfl (by kernel_rfl) rfl _ _ rfl w.heap.size _ usj.length usj (by kernel_rfl) hPd.pts (some ⟨gu2, ou2, none⟩) gj.length cu2 Wd.heap.size rfl (by kernel_rfl) (by have := HUs.out; omega) (Nat.le_trans HP5.out.but.size hbd.size) ?_
                            intro g4 c4 W4 ho4 hbt4 hat4
                            have hPp := hPd.pushPart (Hh5.out.below hbd) hbt4 ho4 (by omega)
                            have hbx4 : W4.heap[w.heap.size]? = some (.cells #[.pointer (some ⟨tb, 0, none⟩)] 107) := by
                              rw [hbt4.block _ (Array.getElem?_eq_some_iff.1 hPd.bx).1 (fun hk => by
                                obtain ⟨-, cur, h2⟩ := own_blk hPd.pts hk
                                exact blk_ne h2 hPd.bx (by decide) rfl)]
                              exact hPd.bx
                            have hS4 : (fun u => u.cell? ⟨w.heap.size, 0, none⟩ = some (.pointer (some ⟨tb, 0, none⟩)) ∧ True) W4 := ⟨blkc hbx4 0, trivial⟩
                            refine ⟨hS4, ?_⟩
                            try simp only [Act.put, List.getElem_toArray, List.getElem_cons_succ, List.getElem_cons_zero, List.setIfInBounds_toArray, List.set_cons_zero, List.set_cons_succ]
                            refine tkX 8 (hS := hS4) (h := ?_)
                            try simp only [Act.put, List.getElem_toArray, List.getElem_cons_succ, List.getElem_cons_zero, List.setIfInBounds_toArray, List.set_cons_zero, List.set_cons_succ]
                            refine tkX 9 (hS := hS4) (h := ?_)
                            try simp only [Act.put, List.getElem_toArray, List.getElem_cons_succ, List.getElem_cons_zero, List.setIfInBounds_toArray, List.set_cons_zero, List.set_cons_succ]
                            refine wpAnyH_one 10 (by kernel_rfl) ?_
                            refine wpOp_skip _ rfl (by kernel_rfl) (exec_storeP _ _ _ _ _ rfl tb 7 (usj.length + 1) c4 (some ⟨g4, 0, none⟩) _ (by kernel_rfl) (by kernel_rfl) (blkc hPp.2 7) (blkf hPp.2 7)) ?_
                            refine ⟨⟨blkc hPp.1.bx 0, trivial⟩, ?_⟩
                            try simp only [Act.put, List.getElem_toArray, List.getElem_cons_succ, List.getElem_cons_zero, List.setIfInBounds_toArray, List.set_cons_zero, List.set_cons_succ]
                            refine wpAnyH_done (by kernel_rfl) ?_ _
                            have hbt9 : But (fun b => (Value.slice (some ⟨gz, 0, none⟩) usj.length cz).ownBlock = some b ∨ b = tb) Wd (W4.setCell ⟨tb, 7, none⟩ (.slice (some ⟨g4, 0, none⟩) (usj.length + 1) c4)) := (hbt4.mono (fun _ _ h => Or.inl h)).set tb 7 _ (Or.inr rfl)
                            have hbX : ∀ b, (Value.slice (some ⟨gz, 0, none⟩) usj.length cz).ownBlock = some b ∨ b = tb → b = g3 ∨ ∀ cur, Wd.heap[b]? ≠ some (.cells cur 3) := fun b hb => Or.inr (fun cur hc => by
                              rcases hb with hb | hb
                              · obtain ⟨-, cur2, h2⟩ := own_blk hPd.pts hb
                                exact blk_ne h2 hc (by decide) rfl
                              · subst hb
                                exact blk_ne hPd.tab.box hc (by decide) rfl)
                            have hgpp := (own_blk Hp5.out (b := gpp) rfl).2
                            obtain ⟨cur5, hcur5⟩ := hgpp
                            have hgd := blko hcur5 hbd
                            have hg4 : W4.heap[gpp]? = some (.cells cur5 30) := by
                              rw [hbt4.block gpp (Array.getElem?_eq_some_iff.1 hgd).1 HNj.out]
                              exact hgd
                            have HPn : Hid (Pt w (W4.setCell ⟨tb, 7, none⟩ (.slice (some ⟨g4, 0, none⟩) (usj.length + 1) c4)) base tb w.heap.size g3 c3 a0 a1 a2 a3 (.slice adr l.length adc) (.slice adf bs.length fdc) (.slice (some ⟨g4, 0, none⟩) (usj.length + 1) c4) l bs cl5 (usj ++ [.slice (some ⟨gu2, ou2, none⟩) gj.length cu2]) (splitP parts' gs c (j + 1))) := by
                              show Pt _ _ _ _ _ _ _ _ _ _ _ _ _ _ _ _ _ _ _
                              rw [splitP_succ HGj.out]
                              exact hPp.1
                            have HKn : Hid (∀ q, q < l.length → kapN cl5 q = splitK (kindOf (autR bs nxt) S (kapN cl')) (kapN cl') ms c parts'.length (j + 1) q) := fun q hq => by
                              rw [HM5.out q hq, List.take_length]
                              exact midK_all HPO.out HMS.out (by rw [HGS.out]; exact HGj.out) HKj.out q hq
                            have Hpn : Hid ((W4.setCell ⟨tb, 7, none⟩ (.slice (some ⟨g4, 0, none⟩) (usj.length + 1) c4)).ownsRow W6.heap.size 30 1 (.slice (some ⟨gpp, 0, none⟩) usp.length cpp) usp.length usp) := own_congr Hp5.out (fun b hk => by
                              have e : gpp = b := by simpa [Value.ownBlock] using hk
                              subst e
                              rw [heap_set_other _ _ _ _ _ (blk_ne hg4 hPp.2 (by decide)), hg4, hcur5])
                            have HHn : Hid (∀ (j : Nat) (u : Value) (g : List Nat), usp[j]? = some u → gs[j]? = some g → HoldO (W4.setCell ⟨tb, 7, none⟩ (.slice (some ⟨g4, 0, none⟩) (usj.length + 1) c4)) g3 u (nat2 g)) := fun j' u g h1 h2 => ((HH5.out j' u g h1 h2).below hbd).keep hbt9 hbX
                            have HNn : Hid ((Value.slice (some ⟨g4, 0, none⟩) (usj.length + 1) c4).ownBlock ≠ some gpp) := fun e => by
                              rcases hat4 gpp e with h | h
                              · exact HNj.out h
                              · have := (Array.getElem?_eq_some_iff.1 hgd).1
                                omega
                            clear ho4 hbt4 hat4 hPp hbx4 hS4 hbt9 hbX hcur5 hgd hg4 hPd hSA hSd hbd hbA hcd hcA HP5 HM5 Hp5 HH5 Hh5 HNj HKj
                            generalize W4.setCell ⟨tb, 7, none⟩ (.slice (some ⟨g4, 0, none⟩) (usj.length + 1) c4) = W9 at *
                            go_wp2_with fail
                            go_roundw
                            case rel => exact ⟨j + 1, true, _, cl5, _, by go_num, rfl, by omega, HPn.out, HKn.out, HC5.out, Hpn.out, HHn.out, HNn.out, by omega, by simp, fun h => absurd h (by omega)⟩
                            case measure => simp [intOf]; omega
                  · have hjz : ¬ (j : Int) < ((usp.length - 1 : Nat) : Int) := by omega
                    have HEj : Hid (j = gs.length - 1) := by show _ = _; have := HGE.out; omega
                    have hsa := split_all HSh.out HPO.out HMS.out (κ' := kapN clj) (fun q hq => by rw [HGS.out, ← HEj.out]; exact hKj q hq)
                    rw [HGS.out, ← HEj.out] at hsa
                    have HON := hidd hsa
                    have HLn : Hid ((splitP parts' gs c j).length = parts'.length + j) := splitP_len (by rw [HEj.out]; exact Nat.le_refl _)
                    have HAn1 : Hid (agj = true → parts.length < (splitP parts' gs c j).length) := fun h => by
                      rw [HLn.out]
                      rw [HAj.out, Bool.or_eq_true] at h
                      rcases h with h | h
                      · have := HA1.out h
                        omega
                      · have := of_decide_eq_true h
                        omega
                    have HAn0 : Hid (agj = false → ∀ (c' : Nat) (ms' : List Nat), c' < c + 1 → (splitP parts' gs c j)[c']? = some ms' → (groups (kindOf (autR bs nxt) S (kapN clj)) ms').length = 1) := fun h c' ms' hc' hm' => by
                      rw [HAj.out, Bool.or_eq_false_iff] at h
                      have hj0 : j = 0 := by have := of_decide_eq_false h.2; omega
                      have hg1 : (groups (kindOf (autR bs nxt) S (kapN cl')) ms).length = 1 := by
                        rw [HGS.out]
                        have := HEj.out
                        have := HGE.out
                        omega
                      have hgg := groups_single hg1
                      have hcl := Hcj0.out hj0
                      have e : splitP parts' gs c j = parts' := by
                        rw [hj0, ← HGS.out, hgg]
                        unfold splitP
                        rw [List.take_zero, List.append_nil]
                        show parts'.set c ms = parts'
                        obtain ⟨h1, h2⟩ := List.getElem?_eq_some_iff.1 HMS.out
                        rw [← h2]
                        exact List.set_getElem_self h1
                      rw [e] at hm'
                      rw [hcl]
                      by_cases hcc : c' = c
                      · subst hcc
                        rw [HMS.out] at hm'
                        obtain rfl : ms = ms' := Option.some.inj hm'
                        exact hg1
                      · exact HA0.out h.1 c' ms' (by omega) hm'
                    clear hsa hPj hKj hCj hpj hHj hNj hAj hcj0 HKj Hpj HHj HNj HAj Hcj0
                    have hcp := HCp.out
                    go_wp2_with fail
                    go_roundw
                    case rel => exact ⟨c + 1, agj, vq, clj, usj, _, by go_num, rfl, by rw [HLn.out]; omega, HPj.out, HON.out, HCj.out, by rw [HLn.out]; exact hLj, by rw [HLn.out]; omega, HAn1.out, HAn0.out⟩
                    case measure => simp [intOf]; omega
            · have hlz : ¬ (c : Int) < (us'.length : Int) := by omega
              have HSt : Hid (ag = false → Stable (autR bs nxt) S l.length (kapN cl')) := fun h => HPO.out.stable (fun c' ms hm => HA0.out h c' ms (by
                have := (List.getElem?_eq_some_iff.1 hm).1
                have := HUL.out
                omega) hm)
              have HLn := hidd (lenAt_eq hPt)
              clear hPt hPO hCl hag1 hag0
              go_wp2_with fail
              go_roundw
              case rel => exact ⟨ag, _, cl', us', parts', rfl, HPt.out, HPO.out, HCl.out, hpl', HSt.out⟩
              case measure =>
                have h1 := HA1.out
                have h2 := HLn.out
                have h3 := HLen.out
                cases ag with
                | true =>
                  have h4 := h1 rfl
                  simp [h2, h3]
                  omega
                | false =>
                  simp [h2, h3]
                  omega
end Go.Proofs.YtmnfioghhdgciaaDoor
