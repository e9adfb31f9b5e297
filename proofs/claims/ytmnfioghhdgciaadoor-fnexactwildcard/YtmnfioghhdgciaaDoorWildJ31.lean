import Derived.Test.YtmnfioghhdgciaaDoorWildJ29
import Derived.Test.YtmnfioghhdgciaaDoorWildJ30
import Derived.Test.YtmnfioghhdgciaaDoorWildJ07
import Derived.Test.YtmnfioghhdgciaaDoorWildJ24
import Derived.WalkMore
namespace Go.Proofs.YtmnfioghhdgciaaDoor
open Go Go.RowKit
set_option linter.unusedVariables false
set_option linter.unusedSimpArgs false

/-! What impl.table.dfa tells: plain. -/
def cntA (m : Nat) : List Int := List.replicate m 1 ++ [1112064 - (m : Int)]
theorem cntA_lt {m i : Nat} (h : i < m) : (cntA m).getD i 0 = 1 := by
  unfold cntA
  rw [List.getD_eq_getElem?_getD, List.getElem?_append_left (by simpa using h), List.getElem?_replicate, if_pos h]
  rfl
theorem cntA_m (m : Nat) : (cntA m).getD m 0 = 1112064 - (m : Int) := by
  unfold cntA
  rw [List.getD_eq_getElem?_getD, List.getElem?_append_right (by simp)]
  simp
theorem cntA_len (m : Nat) : (cntA m).length = m + 1 := by simp [cntA]
theorem cntA_bnd (m : Nat) (hm : m ≤ 1112064) (i : Nat) : 0 ≤ (cntA m).getD i 0 ∧ (cntA m).getD i 0 ≤ 1114112 := by
  rcases Nat.lt_trichotomy i m with h | h | h
  · rw [cntA_lt h]; omega
  · subst h; rw [cntA_m]; omega
  · rw [List.getD_eq_getElem?_getD, List.getElem?_eq_none (by rw [cntA_len]; omega)]
    simp
theorem cnt_low {ks : List Nat} {m c : Nat} : ∀ i, i ≤ m → 0 ≤ cntN ks (cntA m) i c ∧ cntN ks (cntA m) i c ≤ (i : Int)
  | 0, _ => by simp [cntN]
  | i + 1, h => by
    have h1 := cnt_low (ks := ks) (m := m) (c := c) i (by omega)
    have h2 := cntA_lt (m := m) (i := i) (by omega)
    unfold cntN
    rw [h2]
    split <;> omega
/-- All others together are more than all letters. -/
theorem best_else {ks : List Nat} {m : Nat} (hl : ks.length = m + 1) (hm : m ≤ 30) : bestN ks (cntA m) ks.length = ks.getD m 0 := by
  rw [hl]
  show (if cntN ks (cntA m) ks.length (bestN ks (cntA m) m) < cntN ks (cntA m) ks.length (ks.getD m 0) then ks.getD m 0 else bestN ks (cntA m) m) = _
  by_cases e : bestN ks (cntA m) m = ks.getD m 0
  · rw [e]; simp
  · rw [if_pos]
    rw [hl]
    have h1 := (cnt_low (ks := ks) (m := m) (c := bestN ks (cntA m) m) m (Nat.le_refl m)).2
    have h2 := (cnt_low (ks := ks) (m := m) (c := ks.getD m 0) m (Nat.le_refl m)).1
    have h3 := cntA_m m
    unfold cntN
    rw [h3, if_pos rfl, if_neg (Ne.symm e)]
    omega
/-- The classes of a row, as numbers. -/
theorem kap_row {cl : List Int} {nx : List Nat} (hc : ∀ z ∈ cl, 0 ≤ z) : nx.map (fun x => cl.getD x 0) = nat2 (nx.map (kapN cl)) := by
  unfold nat2
  rw [List.map_map]
  refine List.map_congr_left fun x _ => ?_
  have h0 : 0 ≤ cl.getD x 0 := by
    rw [List.getD_eq_getElem?_getD]
    cases hx : cl[x]? with
    | none => simp
    | some z => exact hc z (List.mem_of_getElem? hx)
  show cl.getD x 0 = ((kapN cl x : Nat) : Int)
  unfold kapN
  omega
theorem kap_int {cl : List Int} (hc : ∀ z ∈ cl, 0 ≤ z) (x : Nat) : cl.getD x 0 = ((kapN cl x : Nat) : Int) := by
  have h0 : 0 ≤ cl.getD x 0 := by
    rw [List.getD_eq_getElem?_getD]
    cases hx : cl[x]? with
    | none => simp
    | some z => exact hc z (List.mem_of_getElem? hx)
  unfold kapN
  omega
theorem deadB_iff {bs : List Bool} {cl : List Int} {nxt : List (List Nat)} {S a : Nat} (hc : ∀ z ∈ cl, 0 ≤ z) (hS : (nxt.getD a []).length = S) : deadB bs cl (runs (nxt.getD a [])) a = true ↔ ((autR bs nxt).fin a = false ∧ ∀ s, s < S → kapN cl ((autR bs nxt).nx a s) = kapN cl a) := by
  unfold deadB
  rw [Bool.and_eq_true, Bool.not_eq_true', Bool.not_eq_true', List.any_eq_false]
  show _ ↔ (bs.getD a false = false ∧ ∀ s, s < S → kapN cl ((nxt.getD a []).getD s 0) = kapN cl a)
  refine and_congr_right fun _ => ?_
  constructor
  · intro h s hs
    have h1 : ∀ v ∈ nxt.getD a [], cl.getD v 0 = cl.getD a 0 := runs_all (P := fun v => cl.getD v 0 = cl.getD a 0) (fun s hs => by
      have := h s hs
      simpa using this)
    have h2 : (nxt.getD a []).getD s 0 ∈ nxt.getD a [] := by
      rw [List.getD_eq_getElem?_getD (l := nxt.getD a []), List.getElem?_eq_getElem (by omega)]
      exact List.getElem_mem _
    have := h1 _ h2
    rw [kap_int hc, kap_int hc] at this
    omega
  · intro h s hs
    obtain ⟨h1, _⟩ := runs_val hs
    obtain ⟨j, hj⟩ := List.mem_iff_getElem?.1 h1
    have hjl := (List.getElem?_eq_some_iff.1 hj).1
    have := h j (by omega)
    rw [List.getD_eq_getElem?_getD (l := nxt.getD a []), hj] at this
    simp only [Option.getD_some] at this
    rw [kap_int hc, kap_int hc, this]
    simp
def repP (parts : List (List Nat)) (c : Nat) : Nat := (parts.getD c []).getD 0 0
theorem repP_mem {A : Aut} {S n : Nat} {κ : Nat → Nat} {parts : List (List Nat)} (h : PartOK A S n κ parts) {c : Nat} (hc : c < parts.length) : repP parts c < n ∧ κ (repP parts c) = c := by
  obtain ⟨h1, _, h2⟩ := h.told c _ (List.getElem?_eq_getElem hc)
  have e : parts.getD c [] = parts[c] := by rw [List.getD_eq_getElem?_getD, List.getElem?_eq_getElem hc]; rfl
  have h3 : repP parts c ∈ parts[c] := by
    unfold repP
    rw [e]
    cases hx : parts[c] with
    | nil => exact absurd hx h1
    | cons q t => simp
  exact (h2 _).1 h3
/-- The number of the class that accepts nothing, or -1. -/
theorem dead_lang {A : Aut} {S n : Nat} {κ : Nat → Nat} {parts : List (List Nat)} (hs : Shut A S n) (h : PartOK A S n κ parts) (hp : Parts A S n κ) {p : Nat → Bool} {z : Int} (hz : IdxOK p parts.length z)
    (hpd : ∀ c, c < parts.length → (p c = true ↔ A.lang S (repP parts c) = emptyL)) : ∀ q, q < n → (decide (z = ((κ q : Nat) : Int)) = true ↔ A.lang S q = emptyL) := by
  intro q hq
  have hκ := h.lt q hq
  obtain ⟨r1, r2⟩ := repP_mem h hκ
  have hl : A.lang S (repP parts (κ q)) = A.lang S q := (hp _ _ r1 hq).1 r2
  rw [decide_eq_true_iff]
  constructor
  · intro e
    rcases hz with ⟨h1, _⟩ | ⟨k, hk, h1, h2, _⟩
    · omega
    · have ek : k = κ q := by omega
      subst ek
      rw [← hl]
      exact (hpd _ hk).1 h2
  · intro e
    have h1 : p (κ q) = true := (hpd _ hκ).2 (by rw [hl, e])
    rcases hz with ⟨_, h2⟩ | ⟨k, hk, h2, h3, h4⟩
    · rw [h2 _ hκ] at h1; cases h1
    · obtain ⟨k1, k2⟩ := repP_mem h hk
      have h5 := (hpd k hk).1 h3
      have h6 : κ (repP parts k) = κ q := (hp _ _ k1 hq).2 (by rw [h5, e])
      rw [h2, ← h6, k2]
end Go.Proofs.YtmnfioghhdgciaaDoor

namespace Go.Proofs.YtmnfioghhdgciaaDoor
open Go Go.RowKit
set_option linter.unusedVariables false
set_option linter.unusedSimpArgs false
set_option maxRecDepth 100000

/-! What impl.table.dfa has in memory; the numbers that it gives. -/
theorem nat2_meet (o : List Nat) (c : Nat) : nat2 (meet o c) = meet (nat2 o) (c : Int) := by
  unfold meet nat2
  have : (c : Int) ∈ o.map (fun (x : Nat) => (x : Int)) ↔ c ∈ o := by
    rw [List.mem_map]
    constructor
    · rintro ⟨x, hx, e⟩
      have : x = c := by omega
      exact this ▸ hx
    · exact fun h => ⟨c, h, rfl⟩
  by_cases h : c ∈ o
  · rw [if_pos h, if_pos (this.2 h)]
  · rw [if_neg h, if_neg (fun e => h (this.1 e))]
    simp
theorem nat2_ix (o : List Nat) (c : Nat) : ix (nat2 o) (c : Int) = ix o c :=
  idxOf_map (fun (x : Nat) => (x : Int)) (fun _ => True) (fun x y _ _ e => by omega) c trivial o (fun _ _ => trivial)
structure Dc (w W : World) (kb db mb : Nat) (z : Int) (v vm vmem : Value) (o : List Nat) : Prop where
  below : Below w.heap.size w W
  res : W.heap[w.heap.size]? = some (.cells #[.slice none 0 0] 24)
  kbox : W.heap[kb]? = some (.cells #[.int .i64 z] 3)
  dbox : W.heap[db]? = some (.cells #[v] 24)
  set : SetAt keyI W w.heap.size mb vm vmem (nat2 o)
  nk : vmem.ownBlock ≠ some kb
  fd : w.heap.size < db
  fm : w.heap.size ≤ mb
section
variable {w W W1 : World} {kb db mb sb : Nat} {z : Int} {v vm vmem vl va : Value} {o : List Nat} {l : List MSt} {zs : List Int} {f : Bool} {rs : List (Int × Int)} {e : Int}
theorem Dc.keep (h : Dc w W kb db mb z v vm vmem o) (hb : Below W.heap.size W W1) : Dc w W1 kb db mb z v vm vmem o :=
  ⟨h.below.trans (hb.mono h.below.size), blko h.res hb, blko h.kbox hb, blko h.dbox hb, h.set.below hb, h.nk, h.fd, h.fm⟩
theorem set_hot {base : Nat} {L : List Int} (h : SetAt keyI W base mb vm vmem L) (hb : But (SetB mb vm vmem) W W1) : ∀ (b : Nat) (cs : Array Value) (t : TypeId), t ≠ 120 → t ≠ 3 → W.heap[b]? = some (.cells cs t) → W1.heap[b]? = some (.cells cs t) := by
  intro b cs t h1 h2 hh
  rw [hb.block b (Array.getElem?_eq_some_iff.1 hh).1 (fun hB => by
    rcases setI_types h hB hh with e | e
    · exact h1 e
    · exact h2 e)]
  exact hh
theorem set_row {base b : Nat} {L : List Int} (h : SetAt keyI W base mb vm vmem L) (hb : But (SetB mb vm vmem) W W1) {cs : Array Value} (hh : W.heap[b]? = some (.cells cs 3)) (hn : vmem.ownBlock ≠ some b) : W1.heap[b]? = some (.cells cs 3) := by
  rw [hb.block b (Array.getElem?_eq_some_iff.1 hh).1 (fun hB => by
    rcases setI_X h b hB with e | e
    · exact hn e
    · exact e cs hh)]
  exact hh
theorem Dc.place (h : Dc w W kb db mb z v vm vmem o) {vm' vmem' : Value} {o' : List Nat} (hs : SetAt keyI W1 w.heap.size mb vm' vmem' (nat2 o')) (hb : But (SetB mb vm vmem) W W1) (hat : ∀ b, vmem'.ownBlock = some b → vmem.ownBlock = some b ∨ W.heap.size ≤ b) : Dc w W1 kb db mb z v vm' vmem' o' := by
  refine ⟨h.below.trans (hb.below h.below.size (fun j hj hB => ?_)), set_hot h.set hb _ _ _ (by decide) (by decide) h.res, set_row h.set hb h.kbox h.nk, set_hot h.set hb _ _ _ (by decide) (by decide) h.dbox, hs, fun e => ?_, h.fd, h.fm⟩
  · rcases h.set.from_ hB with e | e
    · have := h.fm; omega
    · omega
  · rcases hat kb e with e1 | e1
    · exact h.nk e1
    · have := (Array.getElem?_eq_some_iff.1 h.kbox).1; omega
/-- Where states and arcs alone are written. -/
theorem Dc.but (h : Dc w W kb db mb z v vm vmem o) {X : Nat → Prop} (hb : But X W W1) (hX : ∀ b, X b → w.heap.size ≤ b ∧ ∃ cs t, W.heap[b]? = some (.cells cs t) ∧ (t = 86 ∨ t = 92)) : Dc w W1 kb db mb z v vm vmem o := by
  have hot : ∀ (b : Nat) (cs : Array Value) (t : TypeId), t ≠ 86 → t ≠ 92 → W.heap[b]? = some (.cells cs t) → W1.heap[b]? = some (.cells cs t) := by
    intro b cs t h1 h2 hh
    rw [hb.block b (Array.getElem?_eq_some_iff.1 hh).1 (fun hB => by
      obtain ⟨_, cs2, t2, h3, h4⟩ := hX b hB
      rw [hh] at h3
      simp only [Option.some.injEq, Obj.cells.injEq] at h3
      rcases h4 with e | e
      · exact h1 (h3.2.1.trans e)
      · exact h2 (h3.2.1.trans e))]
    exact hh
  refine ⟨h.below.trans (hb.below h.below.size (fun j hj hB => by have := (hX j hB).1; omega)), hot _ _ _ (by decide) (by decide) h.res, hot _ _ _ (by decide) (by decide) h.kbox, hot _ _ _ (by decide) (by decide) h.dbox, h.set.but hb (fun b hB hx => ?_), h.nk, h.fd, h.fm⟩
  obtain ⟨_, cs2, t2, h3, h4⟩ := hX b hx
  rcases setI_types h.set hB h3 with e | e
  · rcases h4 with e2 | e2 <;> (rw [e] at e2; exact absurd e2 (by decide))
  · rcases h4 with e2 | e2 <;> (rw [e] at e2; exact absurd e2 (by decide))
structure D7 (w W : World) (kb db mb sb : Nat) (z : Int) (v : Value) (l : List MSt) (vm vmem : Value) (o : List Nat) (vl : Value) (zs : List Int) (va : Value) (f : Bool) (rs : List (Int × Int)) (e : Int) : Prop where
  core : Dc w W kb db mb z v vm vmem o
  ld : W.ownsRow w.heap.size 3 1 vl zs.length (zI zs)
  nl : ∀ b, vl.ownBlock = some b → vmem.ownBlock ≠ some b
  cur : CurM W w.heap.size v l sb va f rs e
theorem Dc.start (h : Dc w W kb db mb z v vm vmem o) (hd : DfaM W w.heap.size v l) (f : Bool) (e : Int) : D7 w (W.alloc (.cells #[.bool f, .slice none 0 0, .int .i64 e] 86)) kb db mb W.heap.size z v l vm vmem o (.slice none 0 0) [] (.slice none 0 0) f [] e :=
  ⟨h.keep ((Below.refl _ _).alloc (Nat.le_refl _) _), World.ownsRow_nil _ _ _ _, fun b hb => by simp [Value.ownBlock] at hb, hd.start h.below.size f e⟩
theorem D7.keep (h : D7 w W kb db mb sb z v l vm vmem o vl zs va f rs e) (hb : Below W.heap.size W W1) : D7 w W1 kb db mb sb z v l vm vmem o vl zs va f rs e :=
  ⟨h.core.keep hb, own_below h.ld hb, h.nl, h.cur.congr fun b cs t _ hh => blko hh hb⟩
theorem D7.lead (h : D7 w W kb db mb sb z v l vm vmem o vl zs va f rs e) (hb : Below W.heap.size W W1) {vl' : Value} {zs' : List Int} (ho : W1.ownsRow W.heap.size 3 1 vl' zs'.length (zI zs')) : D7 w W1 kb db mb sb z v l vm vmem o vl' zs' va f rs e := by
  refine ⟨h.core.keep hb, own_mono ho h.core.below.size, fun b hk e => ?_, h.cur.congr fun b cs t _ hh => blko hh hb⟩
  have h1 := (own_blk ho hk).1
  have h2 := (h.core.set.blk (Or.inr (Or.inr e))).1
  omega
theorem D7.place (h : D7 w W kb db mb sb z v l vm vmem o vl zs va f rs e) {vm' vmem' : Value} {o' : List Nat} (hs : SetAt keyI W1 w.heap.size mb vm' vmem' (nat2 o')) (hb : But (SetB mb vm vmem) W W1) (hat : ∀ b, vmem'.ownBlock = some b → vmem.ownBlock = some b ∨ W.heap.size ≤ b) : D7 w W1 kb db mb sb z v l vm' vmem' o' vl zs va f rs e := by
  refine ⟨h.core.place hs hb hat, own_congr h.ld (fun b hk => ?_), fun b hk e => ?_, h.cur.congr fun b cs t ht hh => set_hot h.core.set hb b cs t (by rcases ht with e | e <;> (rw [e]; decide)) (by rcases ht with e | e <;> (rw [e]; decide)) hh⟩
  · obtain ⟨_, cur, h2⟩ := own_blk h.ld hk
    rw [set_row h.core.set hb h2 (h.nl b hk), h2]
  · rcases hat b e with e1 | e1
    · exact h.nl b hk e1
    · have := (Array.getElem?_eq_some_iff.1 (own_blk h.ld hk).2.choose_spec).1; omega
theorem ld_but {base : Nat} {X : Nat → Prop} (h : W.ownsRow base 3 1 vl zs.length (zI zs)) (hb : But X W W1) (hX : ∀ b, X b → ∃ cs t, W.heap[b]? = some (.cells cs t) ∧ (t = 86 ∨ t = 92)) : W1.ownsRow base 3 1 vl zs.length (zI zs) :=
  own_congr h (fun b hk => by
    obtain ⟨_, cur, h2⟩ := own_blk h hk
    refine hb.block b (Array.getElem?_eq_some_iff.1 h2).1 (fun hB => ?_)
    obtain ⟨cs2, t2, h3, h4⟩ := hX b hB
    rw [h2] at h3
    simp only [Option.some.injEq, Obj.cells.injEq] at h3
    rcases h4 with e | e
    · exact absurd (h3.2.1.trans e) (by decide)
    · exact absurd (h3.2.1.trans e) (by decide))
/-- An arc more. -/
theorem D7.arc (h : D7 w W kb db mb sb z v l vm vmem o vl zs va f rs e) {va' : Value} {a : Int × Int} (hb : But (fun b => va.ownBlock = some b) W W1) (ho : W1.ownsRow w.heap.size 92 2 va' (rs.length + 1) (arcCells rs ++ [.int .i64 a.1, .int .i64 a.2])) (hat : ∀ b, va'.ownBlock = some b → va.ownBlock = some b ∨ W.heap.size ≤ b) :
    D7 w (W1.setCell ⟨sb, 1, none⟩ va') kb db mb sb z v l vm vmem o vl zs va' f (rs ++ [a]) e ∧ W1.heap[sb]? = some (.cells #[.bool f, va, .int .i64 e] 86) := by
  obtain ⟨hc, hsb⟩ := h.cur.arc hb ho hat
  have hX : But (fun b => va.ownBlock = some b ∨ b = sb) W (W1.setCell ⟨sb, 1, none⟩ va') := (hb.mono fun i _ hi => Or.inl hi).set sb 1 va' (Or.inr rfl)
  have hk : ∀ b, (va.ownBlock = some b ∨ b = sb) → w.heap.size ≤ b ∧ ∃ cs t, W.heap[b]? = some (.cells cs t) ∧ (t = 86 ∨ t = 92) := by
    intro b hB
    rcases hB with hB | rfl
    · obtain ⟨h1, cur, h2⟩ := own_blk h.cur.arcs hB
      exact ⟨h1, cur, _, h2, Or.inr rfl⟩
    · exact ⟨h.cur.from_, _, _, h.cur.box, Or.inl rfl⟩
  exact ⟨⟨h.core.but hX hk, ld_but h.ld hX (fun b hB => (hk b hB).2), h.nl, hc⟩, hsb⟩
/-- Where all others go. -/
theorem D7.els (h : D7 w W kb db mb sb z v l vm vmem o vl zs va f rs e) (x : Int) : D7 w (W.setCell ⟨sb, 2, none⟩ (.int .i64 x)) kb db mb sb z v l vm vmem o vl zs va f rs x := by
  have hX : But (fun b => b = sb) W (W.setCell ⟨sb, 2, none⟩ (.int .i64 x)) := (But.refl _ _).set sb 2 _ rfl
  have hk : ∀ (b : Nat), b ≠ sb → (W.setCell ⟨sb, 2, none⟩ (.int .i64 x)).heap[b]? = W.heap[b]? := fun b hb => heap_set_other W sb 2 _ b hb
  have hc := h.cur
  have hX2 : ∀ b, b = sb → w.heap.size ≤ b ∧ ∃ cs t, W.heap[b]? = some (.cells cs t) ∧ (t = 86 ∨ t = 92) := by
    rintro b rfl
    exact ⟨hc.from_, _, _, hc.box, Or.inl rfl⟩
  refine ⟨h.core.but hX hX2, ld_but h.ld hX (fun b hB => (hX2 b hB).2), h.nl, ⟨?_, ?_, ?_, hc.apart, hc.off, hc.from_⟩⟩
  · refine hc.dfa.congr fun b cs t ht hkk hh => ?_
    rw [hk b (by
      rintro rfl
      rcases hkk with hkk | ⟨s, hs, hkk⟩
      · exact hc.off hkk
      · obtain ⟨_, c1, h3⟩ := own_blk (hc.dfa.arcs s hs) hkk
        exact blk_ne h3 hc.box (by decide) rfl)]
    exact hh
  · have := blk_setk hc.box 2 (.int .i64 x)
    simpa using this
  · refine own_congr hc.arcs (fun b hb => hk b ?_)
    rintro rfl
    obtain ⟨_, c1, h3⟩ := own_blk hc.arcs hb
    exact blk_ne h3 hc.box (by decide) rfl
/-- The state is told. -/
theorem D7.done (h : D7 w W kb db mb sb z v l vm vmem o vl zs va f rs e) {v' : Value} (hb : But (fun b => v.ownBlock = some b) W W1) (ho : W1.ownsRow w.heap.size 86 3 v' (l.length + 1) (stCells l ++ [.bool f, va, .int .i64 e])) :
    (Dc w (W1.setCell ⟨db, 0, none⟩ v') kb db mb z v' vm vmem o ∧ DfaM (W1.setCell ⟨db, 0, none⟩ v') w.heap.size v' (l ++ [(va, f, rs, e)])) ∧ W1.heap[db]? = some (.cells #[v] 24) := by
  have hp := h.cur.push hb ho
  have h1 : Dc w W1 kb db mb z v vm vmem o := h.core.but hb (fun b hB => by
    obtain ⟨h1, cur, h2⟩ := own_blk h.cur.dfa.row hB
    exact ⟨h1, cur, _, h2, Or.inl rfl⟩)
  have ks : ∀ b, b ≠ db → (W1.setCell ⟨db, 0, none⟩ v').heap[b]? = W1.heap[b]? := fun b hb' => heap_set_other W1 db 0 _ b hb'
  have hX : But (fun b => b = db) W1 (W1.setCell ⟨db, 0, none⟩ v') := (But.refl _ _).set db 0 _ rfl
  refine ⟨⟨⟨h1.below.trans (hX.below h1.below.size (fun j hj e' => by have := h1.fd; omega)), ?_, ?_, ?_, h1.set.but hX (fun b hB e' => ?_), h1.nk, h1.fd, h1.fm⟩, ?_⟩, h1.dbox⟩
  · rw [ks _ (by have := h1.fd; omega)]; exact h1.res
  · rw [ks _ (blk_ne h1.kbox h1.dbox (by decide))]; exact h1.kbox
  · have := blk_setk h1.dbox 0 v'
    simpa using this
  · subst e'
    rcases setI_types h1.set hB h1.dbox with e2 | e2 <;> exact absurd e2 (by decide)
  · refine hp.congr fun b cs t ht hkk hh => ?_
    rw [ks b (by
      rintro rfl
      rw [h1.dbox] at hh
      simp only [Option.some.injEq, Obj.cells.injEq] at hh
      rcases ht with rfl | rfl
      · exact absurd hh.2.1 (by decide)
      · exact absurd hh.2.1 (by decide))]
    exact hh
end
/-! The numbers. -/
def NumPost (T : Sys Nat) (W : World) (base mb : Nat) (vm vmem : Value) (o : List Nat) (c : Nat) (e : Ending) (W1 : World) : Prop :=
  e = .returned (.int .i64 (T.num (meetD T o c) c)) ∧ ∃ vm' vmem', SetAt keyI W1 base mb vm' vmem' (nat2 (meetD T o c)) ∧ But (SetB mb vm vmem) W W1 ∧ ∀ b, vmem'.ownBlock = some b → vmem.ownBlock = some b ∨ W.heap.size ≤ b
theorem numberOf_any (T : Sys Nat) (base kb mb c : Nat) (z : Int) (vm vmem : Value) (o : List Nat) (W : World) (hT : T.dead c = decide (z = (c : Int))) (hc : c ≤ 1000000) (hk : W.heap[kb]? = some (.cells #[.int .i64 z] 3)) (hs : SetAt keyI W base mb vm vmem (nat2 o)) (ho : o.length ≤ 1000000) (hbase : base ≤ W.heap.size) :
    Calls Tryd.prog 59 #[.int .i64 (c : Int), .pointer (some ⟨kb, 0, none⟩), .pointer (some ⟨mb, 0, none⟩)] W (NumPost T W base mb vm vmem o c) := by
  have k0 : W.cell? ⟨kb, 0, none⟩ = some (.int .i64 z) := blkc hk 0
  have HT := hidd hT
  have HP := hidd (placeI_any base mb vm vmem (nat2 o) (c : Int) W ⟨by omega, by omega⟩ (by rw [nat2_len]; omega) hbase hs)
  have HS := hidd hs
  clear hT hs
  by_cases hz : (c : Int) = z
  · have hd : T.dead c = true := by rw [HT.out]; exact decide_eq_true hz.symm
    go_enter Tryd.func59, Tryd.ntmps59
    go_wp2_with fail
    go_ret
    refine ⟨?_, vm, vmem, ?_, But.refl _ _, fun b hb => Or.inl hb⟩
    · unfold Sys.num; rw [if_pos hd]; rfl
    · unfold meetD; rw [if_pos hd]; exact HS.out
  · have hd : ¬ T.dead c = true := by rw [HT.out, decide_eq_true_iff]; exact fun e => hz e.symm
    have hm : meetD T o c = meet o c := by unfold meetD; rw [if_neg hd]
    go_enter Tryd.func59, Tryd.ntmps59
    go_wp2_with fail
    refine HP.out.mono ?_
    rintro e w1 ⟨rfl, vm', vmem', p1, p2, p3, p4⟩
    go_wp2_with fail
    go_ret
    refine ⟨?_, vm', vmem', ?_, p2, p3⟩
    · unfold Sys.num; rw [if_neg hd, hm, ← nat2_meet, nat2_ix]; rfl
    · rw [hm, nat2_meet]; exact p1
theorem exec_loadAr (W : World) (ρ : Operand → Value) (o : Oper) (x : Operand) (ho : o.op = .load 84 x) (b off : Nat) (v : Value) (hx : ρ x = .pointer (some ⟨b, off, none⟩)) (h0 : W.cell? ⟨b, off, none⟩ = some v) : (execOp ρ o).run Tryd.prog W = .ok (.value v) W := by
  unfold execOp
  simp only [ho, Instr.loadAt, Instr.sureAddr, hx, Sem.run_bind, Sem.run_pure, Result.andThen_ok]
  go_simp
theorem exec_boxAr (W : World) (ρ : Operand → Value) (o : Oper) (x : Operand) (ho : o.op = .buildSlice 84 1 #[(0, x)]) (a b : Int) (hx : ρ x = .agg #[.int .i64 a, .int .i64 b]) :
    (execOp ρ o).run Tryd.prog W = .ok (.value (.slice (some ⟨W.heap.size, 0, none⟩) 1 1)) (W.alloc (.cells #[.int .i64 a, .int .i64 b] 92)) := by
  unfold execOp
  simp only [ho, hx, Sem.run_bind, Sem.run_pure, Result.andThen_ok]
  go_simp
theorem exec_storeAr (W : World) (ρ : Operand → Value) (o : Oper) (x y : Operand) (ho : o.op = .store 84 x y) (b off : Nat) (a : Option Addr) (n c : Nat) (u : Value) (hx : ρ x = .pointer (some ⟨b, off, none⟩)) (hy : ρ y = .slice a n c) (h0 : W.cell? ⟨b, off, none⟩ = some u) (hf : W.frozen? ⟨b, off, none⟩ = false) : (execOp ρ o).run Tryd.prog W = .ok .skip (W.setCell ⟨b, off, none⟩ (.slice a n c)) := by
  unfold execOp
  simp only [ho, hx, hy, Sem.run_bind, Sem.run_pure, Result.andThen_ok]
  go_simp
theorem exec_callC (W : World) (a : Act) (o : Oper) (f : FuncId) (x y : Operand) (t : TypeId) (ho : o.op = .call { callee := .value x, args := #[y], argTypes := #[t] }) (p q u : Value) (hx : a.eval x = .func (.func f) #[] #[p, q]) (hy : a.eval y = u)
    (hf : (callFunc f #[u, p, q]).run Tryd.prog W = .ok (.enter f #[u, p, q]) W) : (execOp a.eval o).run Tryd.prog W = .ok (.enter f #[u, p, q]) W := by
  unfold execOp
  simp [ho, resolve, invoke, Deferred.ofValue, hx, hy, hf]
theorem wpOp_pushAr {W : World} {ops : Array Oper} {i : Nat} {o : Oper} {a : Act} {K : Act → World → Prop} {Q : Exit → Act → World → Prop} (hio : ops[i]? = some o) (hw : Region.wanted o (yielded ops a.tmps) = true) (hgd : o.guard = none) (s x : Operand)
    (ho : o.op = .call { callee := .builtin .append, args := #[s, x], argTypes := #[84, 84] })
    (base : Nat) (v : Value) (n : Nat) (xs : List Value) (hs : a.eval s = v) (hown : W.ownsRow base 92 2 v n xs) (p q : Int) (ad : Nat) (had : ad = W.heap.size) (hx : a.eval x = .slice (some ⟨ad, 0, none⟩) 1 1) (hb : (n + 1) * 16 ≤ 140737488355328) (hbase : base ≤ W.heap.size)
    (h : ∀ g cap w', w'.ownsRow base 92 2 (.slice (some ⟨g, 0, none⟩) (n + 1) cap) (n + 1) (xs ++ [.int .i64 p, .int .i64 q]) → But (fun b => v.ownBlock = some b) W w' → (∀ b, (Value.slice (some ⟨g, 0, none⟩) (n + 1) cap).ownBlock = some b → v.ownBlock = some b ∨ W.heap.size ≤ b) → K (a.put o.dst (.slice (some ⟨g, 0, none⟩) (n + 1) cap)) w') :
    wpOp Tryd.prog ops Q i K a (W.alloc (.cells #[.int .i64 p, .int .i64 q] 92)) := by
  obtain ⟨i0, hi, hz0, hz1, hz2⟩ := info_parts Tryd.infoArcD
  refine wpOp_wp hio hw ?_
  have := step_pushk (ops := ops) (E := True) (Q := Q) hgd s x 84 92 ho i0 (.agg #[.int .i64 0, .int .i64 0]) 2 16 Tryd.underlying84 hi hz0 hz1 hz2 rfl (by decide) base v n xs hs hown #[.int .i64 p, .int .i64 q] rfl (by intro y hy; simp at hy; rcases hy with rfl | rfl <;> rfl) ad had hx hb (by decide) hbase h
  rwa [if_pos hw] at this
end Go.Proofs.YtmnfioghhdgciaaDoor

namespace Go.Proofs.YtmnfioghhdgciaaDoor
open Go Go.RowKit
set_option linter.unusedVariables false
set_option linter.unusedSimpArgs false
set_option maxRecDepth 100000

/-! What impl.table.dfa asks of the table. -/
def ksP (cl : List Int) (nxt : List (List Nat)) (q : Nat) : List Nat := (nxt.getD q []).map (kapN cl)
structure DfIn (w : World) (tb gp cp gf cf g3 c3 : Nat) (a0 a1 a2 a3 vrows : Value) (bs : List Bool) (cl : List Int) (parts : List (List Nat)) (nxt : List (List Nat)) (ls : List Int) (n : Nat) : Prop where
  box : w.heap[tb]? = some (.cells #[a0, a1, a2, a3, vrows, .slice (some ⟨gf, 0, none⟩) bs.length cf, .slice (some ⟨g3, 0, none⟩) cl.length c3, .slice (some ⟨gp, 0, none⟩) parts.length cp] 72)
  part : ∀ c, c < parts.length → ∃ gv ov nv cv, w.cell? ⟨gp, c, none⟩ = some (.slice (some ⟨gv, ov, none⟩) nv cv) ∧ 0 < nv ∧ w.cell? ⟨gv, ov, none⟩ = some (.int .i64 ((repP parts c : Nat) : Int))
  fin : ∀ q, q < n → w.cell? ⟨gf, q, none⟩ = some (.bool (bs.getD q false))
  cls0 : w.cell? ⟨g3, 0, none⟩ = some (.int .i64 ((kapN cl 0 : Nat) : Int))
  lead : ∀ W, Below w.heap.size w W → ∀ q, q < n → Calls Tryd.prog 60 #[.pointer (some ⟨tb, 0, none⟩), .int .i64 (q : Int)] W fun e W' => ∃ v, e = .returned v ∧ W'.ownsRow W.heap.size 3 1 v (ls.length + 1) (zI (nat2 (ksP cl nxt q))) ∧ Below W.heap.size W W'
  most : ∀ W, Below w.heap.size w W → ∀ q, q < n → ∀ v, HoldI W v (nat2 (ksP cl nxt q)) → Calls Tryd.prog 61 #[.pointer (some ⟨tb, 0, none⟩), v] W fun e W' => e = .returned (.int .i64 (((ksP cl nxt q).getD ls.length 0 : Nat) : Int)) ∧ Below W.heap.size W W'
  idx : ∀ W, Below w.heap.size w W → Calls Tryd.prog 56 #[.slice (some ⟨gp, 0, none⟩) parts.length cp, .func (.func 57) #[.pointer (some ⟨tb, 0, none⟩)] #[]] W fun e W' => ∃ z : Int, e = .returned (.int .i64 z) ∧ IdxOK (fun j => deadB bs cl (runs (nxt.getD (repP parts j) [])) (repP parts j)) parts.length z ∧ Below W.heap.size W W'
theorem row_runs {l : List SRow} {nxt : List (List Nat)} (hL : l.map (·.2) = nxt.map runs) {q : Nat} {u : Value} {rs : List (Nat × Nat)} (hq : l[q]? = some (u, rs)) : rs = runs (nxt.getD q []) := by
  have h1 : (l.map (·.2))[q]? = some rs := by rw [List.getElem?_map, hq]; rfl
  rw [hL, List.getElem?_map] at h1
  rw [List.getD_eq_getElem?_getD]
  cases hx : nxt[q]? with
  | none => rw [hx] at h1; cases h1
  | some r => rw [hx] at h1; simpa using h1.symm
theorem dfIn_of (w0 w : World) (base tb bx g3 c3 cs : Nat) (ads : Option Addr) (a0 a1 vk vrows vfin vpts : Value) (l : List SRow) (bs : List Bool) (cl : List Int) (us : List Value) (parts : List (List Nat)) (nxt : List (List Nat)) (ls : List Int)
    (hP : Pt w0 w base tb bx g3 c3 a0 a1 (.slice ads (ls.length + 1) cs) vk vrows vfin vpts l bs cl us parts) (hOK : PartOK (autR bs nxt) (ls.length + 1) l.length (kapN cl) parts)
    (hcl : cl.length = l.length) (hcz : ∀ z ∈ cl, 0 ≤ z ∧ z ≤ 1114112) (hpl : parts.length ≤ 257) (hL : l.map (·.2) = nxt.map runs) (hbl : bs.length = l.length)
    (hS : ∀ q, q < l.length → (nxt.getD q []).length = ls.length + 1 ∧ ∀ a, a < ls.length + 1 → (nxt.getD q []).getD a 0 < l.length) (hm : ls.length ≤ 30) (h0 : 0 < l.length) (hn : l.length ≤ 1114112) (hk : HoldI w vk (cntA ls.length)) :
    ∃ gp cp gf cf, DfIn w tb gp cp gf cf g3 c3 a0 a1 (.slice ads (ls.length + 1) cs) vk vrows bs cl parts nxt ls l.length := by
  have hcz0 : ∀ z ∈ cl, 0 ≤ z := fun z hz => (hcz z hz).1
  have hp0 : 0 < parts.length := by have := hOK.lt 0 h0; omega
  have hul : us.length = parts.length := hP.len
  obtain ⟨gp, cp, hvp⟩ := own_posk hP.pts (by omega)
  obtain ⟨gf, cf, hvf⟩ := own_posk hP.tab.fin (by omega)
  obtain ⟨gr, cr, hvr⟩ := own_posk hP.tab.rows.row (by omega)
  subst hvp hvf hvr
  rw [hul] at hP
  have hpts := hP.pts
  rw [hul] at hpts
  have hrow : ∀ q, q < l.length → ∃ u, l[q]? = some (u, runs (nxt.getD q [])) := by
    intro q hq
    obtain ⟨⟨u, rs⟩, hx⟩ : ∃ x, l[q]? = some x := ⟨l[q], List.getElem?_eq_getElem hq⟩
    exact ⟨u, by rw [hx, row_runs hL hx]⟩
  have hnx : ∀ q, q < l.length → ∀ x ∈ nxt.getD q [], x < l.length := by
    intro q hq x hx
    obtain ⟨j, hj⟩ := List.mem_iff_getElem?.1 hx
    have hjl := (List.getElem?_eq_some_iff.1 hj).1
    have := (hS q hq).2 j (by have := (hS q hq).1; omega)
    rw [List.getD_eq_getElem?_getD (l := nxt.getD q []), hj] at this
    exact this
  have hpart : ∀ c, c < parts.length → ∃ gv ov nv cv, us[c]? = some (.slice (some ⟨gv, ov, none⟩) nv cv) ∧ 0 < nv ∧ gv < w.heap.size ∧ w.cell? ⟨gv, ov, none⟩ = some (.int .i64 ((repP parts c : Nat) : Int)) := by
    intro c hc
    obtain ⟨u, hu⟩ : ∃ u, us[c]? = some u := ⟨us[c], List.getElem?_eq_getElem (by omega)⟩
    have hms := List.getElem?_eq_getElem hc
    obtain ⟨hne, _, _⟩ := hOK.told c _ hms
    obtain ⟨g, off, cap, cur, rfl, h1, _, h3⟩ := hP.hold c u _ hu hms
    have hl0 : 0 < parts[c].length := List.length_pos_iff.2 hne
    refine ⟨g, off, _, cap, hu, by rw [nat2_len]; exact hl0, (Array.getElem?_eq_some_iff.1 h1).1, ?_⟩
    have := h3 0 (by rw [nat2_len]; exact hl0)
    rw [Nat.add_zero, nat2_at _ _ hl0] at this
    rw [this]
    unfold repP
    rw [List.getD_eq_getElem?_getD (l := parts), hms]
    rfl
  refine ⟨gp, cp, gf, cf, ⟨hP.tab.box, fun c hc => ?_, fun q hq => ?_, ?_, fun W hW q hq => ?_, fun W hW q hq v hv => ?_, fun W hW => ?_⟩⟩
  · obtain ⟨gv, ov, nv, cv, h1, h2, _, h4⟩ := hpart c hc
    exact ⟨gv, ov, nv, cv, own_cellk hpts h1, h2, h4⟩
  · refine own_cellk hP.tab.fin ?_
    rw [List.getElem?_map, List.getD_eq_getElem?_getD, List.getElem?_eq_getElem (by omega)]
    rfl
  · have := own_cellk hP.tab.cls (p := 0) (u := .int .i64 (cl.getD 0 0)) (by
      unfold zI
      rw [List.getElem?_map, List.getD_eq_getElem?_getD, List.getElem?_eq_getElem (by omega)]
      rfl)
    rw [this, kap_int hcz0]
  · obtain ⟨u, hu⟩ := hrow q hq
    have h1 := leads_any base tb q g3 c3 (ls.length + 1) cs ads a0 a1 vk u _ _ _ l bs cl (nxt.getD q []) W (hP.tab.below hW) hu (hS q hq).1 (by omega) (by omega) (fun x hx => by rw [hcl]; exact hnx q hq x hx) hn
    rw [kap_row hcz0] at h1
    exact h1
  · have hkl : (ksP cl nxt q).length = ls.length + 1 := by unfold ksP; rw [List.length_map, (hS q hq).1]
    have h1 := mostly_any tb parts.length cp (some ⟨gp, 0, none⟩) vk a0 a1 _ _ _ _ v (ksP cl nxt q) (cntA ls.length) W (blko hP.tab.box hW) hv (hk.below hW) (by rw [hkl, cntA_len]; omega) (by omega) (by omega) (cntA_bnd _ (by omega)) (fun c hc => by
      obtain ⟨x, hx, rfl⟩ := List.mem_map.1 hc
      exact hOK.lt x (hnx q hq x hx)) hpl
    rw [best_else hkl hm] at h1
    exact h1
  · have hr : W.ownsRow w0.heap.size 30 1 (.slice (some ⟨gp, 0, none⟩) us.length cp) us.length us := by
      rw [hul]
      exact own_below hpts hW
    have h1 := partIndex_any tb w0.heap.size gp cp (fun j => deadB bs cl (runs (nxt.getD (repP parts j) [])) (repP parts j)) us W (by omega) hr (fun j u hu => by
      have hj : j < parts.length := by have := (List.getElem?_eq_some_iff.1 hu).1; omega
      obtain ⟨gv, ov, nv, cv, h1, _⟩ := hpart j hj
      rw [hu] at h1
      cases h1
      exact ⟨_, _, _, rfl⟩) (fun W2 j u hW2 hu => by
      have hj : j < parts.length := by have := (List.getElem?_eq_some_iff.1 hu).1; omega
      obtain ⟨gv, ov, nv, cv, h1, h2, h3, h4⟩ := hpart j hj
      rw [hu] at h1
      cases h1
      obtain ⟨r1, r2⟩ := repP_mem hOK hj
      obtain ⟨u2, hu2⟩ := hrow _ r1
      have hW3 : Below w.heap.size w W2 := hW.trans (hW2.mono hW.size)
      have hru := hP.tab.rows.each _ (List.mem_of_getElem? hu2)
      have hrn : runs (nxt.getD (repP parts j) []) ≠ [] := runs_ne_nil (by intro e; have := (hS _ r1).1; rw [e] at this; simp at this)
      obtain ⟨gu, cu, hvu⟩ := own_posk hru (List.length_pos_iff.2 hrn)
      dsimp only at hvu
      subst hvu
      exact deadEnd_any base tb g3 c3 gv ov nv cv gf cf gr cr gu cu (repP parts j) a0 a1 _ vk _ l bs cl (runs (nxt.getD (repP parts j) [])) W2 (hP.tab.below hW3) ((hW3.cell (p := ⟨gv, ov, none⟩) h3).trans h4) h2 hu2 (by
        have := runsFrom_len (nxt.getD (repP parts j) []) none 0
        have h5 := (hS _ r1).1
        show (runsFrom none 0 (nxt.getD (repP parts j) [])).length ≤ _
        omega) (fun s hs => by rw [hcl]; exact hnx _ r1 _ (runs_val hs).1) hbl hcl)
    rw [hul] at h1
    exact h1
end Go.Proofs.YtmnfioghhdgciaaDoor
