import Derived.Test.YtbkedgpligcicaaBuildDictJ00
import Derived.Test.YtbkedgpligcicaaBuildDictJ01
import Derived.Deep.AppendLies
import Derived.Deep.RegionLaw
import Derived.Deep.RegionHeld3
import Derived.Deep.CutBlock
import Derived.BigQuiet
import Derived.Lib.Strings
import Derived.Deep.DeepCutAuto
namespace Go.Proofs.Ytbkedgpligcicaa
open Go
set_option linter.unusedVariables false

/-! States that are made from the ends on, in plain words. -/
section
variable {P G : List Tx} {c : UInt8}
def headIs (c : UInt8) (G : List Tx) : Prop := ∀ t ∈ G, ∃ r, t = c :: r
def headLt (c : UInt8) (P : List Tx) : Prop := ∀ t ∈ P, t = [] ∨ ∃ d r, t = d :: r ∧ d.toNat < c.toNat
theorem subT_append (n : Nat) (A B : List Tx) : subT n (A ++ B) = subT n A ++ subT n B := by simp [subT]
theorem subT_headIs (h : headIs c G) : subT c.toNat G = G.map List.tail := by
  induction G with
  | nil => rfl
  | cons t G ih =>
    obtain ⟨r, rfl⟩ := h t (by simp)
    have := ih (fun x hx => h x (by simp [hx]))
    simp only [subT] at this
    simp [subT, tailIf, this]
theorem subT_headNe (h : headIs c G) {n : Nat} (hn : n ≠ c.toNat) : subT n G = [] := by
  induction G with
  | nil => rfl
  | cons t G ih =>
    obtain ⟨r, rfl⟩ := h t (by simp)
    have := ih (fun x hx => h x (by simp [hx]))
    simp only [subT] at this
    have e : ¬ c.toNat = n := fun e => hn e.symm
    simp [subT, tailIf, this, e]
theorem subT_headLt (h : headLt c P) {n : Nat} (hn : c.toNat ≤ n) : subT n P = [] := by
  induction P with
  | nil => rfl
  | cons t P ih =>
    have := ih (fun x hx => h x (by simp [hx]))
    simp only [subT] at this
    rcases h t (by simp) with rfl | ⟨d, r, rfl, hd⟩
    · simp only [subT, List.filterMap_cons, tailIf]; exact this
    · have e : ¬ d.toNat = n := by omega
      simp [subT, tailIf, this, e]
theorem finT_headIs (h : headIs c G) : finT G = false := by
  cases hh : finT G with
  | false => rfl
  | true => obtain ⟨r, hr⟩ := h [] (finT_mem.1 hh); cases hr
theorem finT_add (h : headIs c G) : finT (P ++ G) = finT P := by
  have : finT (P ++ G) = (finT P || finT G) := by simp [finT]
  rw [this, finT_headIs h, Bool.or_false]
theorem labelsT_add (hG : headIs c G) (hne : G ≠ []) (hP : headLt c P) : labelsT (P ++ G) = labelsT P ++ [c.toNat] := by
  refine nat_ext (labelsT_lt _) ?_ fun n => ?_
  · rw [List.pairwise_append]
    refine ⟨labelsT_lt P, by simp, ?_⟩
    intro a ha b hb
    have e : b = c.toNat := by simpa using hb
    subst e
    obtain ⟨_, h2⟩ := labelsT_mem.1 ha
    rcases Nat.lt_or_ge a c.toNat with h | h
    · exact h
    · exact absurd (subT_headLt hP h) h2
  · rw [List.mem_append, labelsT_mem, labelsT_mem, subT_append, List.mem_singleton]
    by_cases e : n = c.toNat
    · subst e
      rw [subT_headIs hG, subT_headLt hP (Nat.le_refl _)]
      have := UInt8.toNat_lt c
      simp [hne]
      omega
    · rw [subT_headNe hG e, List.append_nil]
      simp [e]
theorem aheadT_add (hG : headIs c G) {n : Nat} (hn : n ≤ c.toNat) : aheadT n (P ++ G) = aheadT n P := by
  rw [aheadT, List.countP_append]
  have : G.countP (isAhead n) = 0 := by
    rw [List.countP_eq_zero]
    intro t ht
    obtain ⟨r, rfl⟩ := hG t ht
    simp [isAhead]
    omega
  rw [this]; rfl
theorem aheadT_all (hP : headLt c P) : aheadT c.toNat P = P.length := by
  rw [aheadT, List.countP_eq_length]
  intro t ht
  rcases hP t ht with rfl | ⟨d, r, rfl, hd⟩
  · rfl
  · simp [isAhead, hd]
theorem stOf_add (O : List (List Tx)) (hG : headIs c G) (hne : G ≠ []) (hP : headLt c P) :
    stOf O (P ++ G) = (finT P, (stOf O P).2 ++ [((c.toNat : Int), ((O.idxOf (G.map List.tail) : Nat) : Int), ((P.length : Nat) : Int))]) := by
  rw [stOf, finT_add hG, labelsT_add hG hne hP, List.map_append, List.map_singleton]
  congr 2
  · rw [stOf]
    refine List.map_congr_left fun n hn => ?_
    have hlt : n < c.toNat := by
      rcases Nat.lt_or_ge n c.toNat with h | h
      · exact h
      · exact absurd (subT_headLt hP h) (labelsT_mem.1 hn).2
    rw [subT_append, subT_headNe hG (by omega), List.append_nil, aheadT_add hG (by omega)]
  · rw [subT_append, subT_headLt hP (Nat.le_refl _), List.nil_append, subT_headIs hG, aheadT_add hG (Nat.le_refl _), aheadT_all hP]
end

/-- The sets that were made into states: each once, each behind those that it leads to. -/
structure OkO (O : List (List Tx)) : Prop where
  nodup : O.Nodup
  rise : ∀ M ∈ O, RiseT M
  closed : ∀ M ∈ O, ∀ n ∈ labelsT M, subT n M ∈ O
def Kids (O : List (List Tx)) (L : List Tx) : Prop := ∀ n ∈ labelsT L, subT n L ∈ O
theorem idxOf_pre {O O' : List (List Tx)} (h : O <+: O') {x : List Tx} (hx : x ∈ O) : O'.idxOf x = O.idxOf x := by
  obtain ⟨r, rfl⟩ := h
  rw [List.idxOf_append, if_pos hx]
theorem mem_pre {O O' : List (List Tx)} (h : O <+: O') {x : List Tx} (hx : x ∈ O) : x ∈ O' := h.subset hx
theorem stOf_pre {O O' : List (List Tx)} (h : O <+: O') {L : List Tx} (hk : Kids O L) : stOf O' L = stOf O L := by
  unfold stOf
  congr 1
  refine List.map_congr_left fun n hn => ?_
  rw [idxOf_pre h (hk n hn)]
theorem Kids.pre {O O' : List (List Tx)} (h : O <+: O') {L : List Tx} (hk : Kids O L) : Kids O' L := fun n hn => mem_pre h (hk n hn)
theorem Kids.add {O : List (List Tx)} {P G : List Tx} {c : UInt8} (hk : Kids O P) (hG : headIs c G) (hne : G ≠ []) (hP : headLt c P) (hm : G.map List.tail ∈ O) : Kids O (P ++ G) := by
  intro n hn
  rw [labelsT_add hG hne hP, List.mem_append, List.mem_singleton] at hn
  rcases hn with hn | rfl
  · have hlt : n ≠ c.toNat := by
      intro e
      exact absurd (subT_headLt hP (by omega)) (labelsT_mem.1 hn).2
    rw [subT_append, subT_headNe hG hlt, List.append_nil]
    exact hk n hn
  · rw [subT_append, subT_headLt hP (Nat.le_refl _), List.nil_append, subT_headIs hG]
    exact hm
theorem idxOf_inj {O : List (List Tx)} {x y : List Tx} (hx : x ∈ O) (hy : y ∈ O) (h : O.idxOf x = O.idxOf y) : x = y := by
  have h1 := idxOf_at hx
  have h2 := idxOf_at hy
  rw [h] at h1
  exact Option.some.inj (h1.symm.trans h2)
theorem map_pair_inj {O : List (List Tx)} (F G : Nat → List Tx) : ∀ {A B : List Nat} (f g : Nat → Int), (∀ n ∈ A, F n ∈ O) → (∀ n ∈ B, G n ∈ O) →
    (A.map fun (n : Nat) => ((n : Int), ((O.idxOf (F n) : Nat) : Int), f n)) = (B.map fun (n : Nat) => ((n : Int), ((O.idxOf (G n) : Nat) : Int), g n)) → (A.map fun n => (n, F n)) = B.map fun n => (n, G n)
  | [], [], _, _, _, _, _ => rfl
  | [], b :: B, _, _, _, _, h => by simp at h
  | a :: A, [], _, _, _, _, h => by simp at h
  | a :: A, b :: B, f, g, hA, hB, h => by
    simp only [List.map_cons, List.cons.injEq, Prod.mk.injEq] at h
    obtain ⟨⟨h1, h2, h3⟩, h4⟩ := h
    have e : a = b := by omega
    have e2 := idxOf_inj (hA a (by simp)) (hB b (by simp)) (by omega)
    rw [List.map_cons, List.map_cons, map_pair_inj F G f g (fun n hn => hA n (by simp [hn])) (fun n hn => hB n (by simp [hn])) h4, e2, e]
theorem stOf_inj {O : List (List Tx)} {L M : List Tx} (hL : RiseT L) (hM : RiseT M) (kL : Kids O L) (kM : Kids O M) (h : stOf O L = stOf O M) : L = M := by
  have h1 : finT L = finT M := congrArg Prod.fst h
  have h2 := map_pair_inj (fun n => subT n L) (fun n => subT n M) _ _ kL kM (congrArg Prod.snd h)
  rw [← joinT_self hL, ← joinT_self hM, h1, h2]
theorem OkO.snoc {O : List (List Tx)} {L : List Tx} (h : OkO O) (hL : RiseT L) (hk : Kids O L) (hn : L ∉ O) : OkO (O ++ [L]) := by
  refine ⟨?_, ?_, ?_⟩
  · rw [List.nodup_append]
    refine ⟨h.nodup, by simp, ?_⟩
    intro a ha b hb e
    have e2 : b = L := by simpa using hb
    subst e
    rw [e2] at ha
    exact hn ha
  · intro M hM
    rcases List.mem_append.1 hM with hM | hM
    · exact h.rise M hM
    · have e : M = L := by simpa using hM
      rw [e]; exact hL
  · intro M hM n hn'
    rcases List.mem_append.1 hM with hM | hM
    · exact List.mem_append_left _ (h.closed M hM n hn')
    · have e : M = L := by simpa using hM
      subst e
      exact List.mem_append_left _ (hk n hn')
def stM (O : List (List Tx)) : List St := O.map (stOf O)
theorem stM_len (O : List (List Tx)) : (stM O).length = O.length := by simp [stM]
theorem stM_snoc {O : List (List Tx)} {L : List Tx} (h : OkO O) (hk : Kids O L) : stM (O ++ [L]) = stM O ++ [stOf O L] := by
  have hp : O <+: O ++ [L] := List.prefix_append _ _
  unfold stM
  rw [List.map_append, List.map_singleton, stOf_pre hp hk]
  congr 1
  exact List.map_congr_left fun M hM => stOf_pre hp (fun n hn => h.closed M hM n hn)
theorem stM_at {O : List (List Tx)} {j : Nat} {M : List Tx} (h : O[j]? = some M) : (stM O).getD j st0 = stOf O M := by
  rw [stM, List.getD_eq_getElem?_getD, List.getElem?_map, h]; rfl
/-- How many states a set may make. -/
def szT (L : List Tx) : Nat := (L.map fun t => t.length + 1).sum
theorem szT_append (A B : List Tx) : szT (A ++ B) = szT A + szT B := by simp [szT]
theorem szT_tail {c : UInt8} {G : List Tx} (h : headIs c G) : szT (G.map List.tail) + G.length = szT G := by
  induction G with
  | nil => rfl
  | cons t G ih =>
    obtain ⟨r, rfl⟩ := h t (by simp)
    have := ih (fun x hx => h x (by simp [hx]))
    simp only [szT, List.map_cons, List.sum_cons, List.length_cons, List.tail_cons] at this ⊢
    omega
end Go.Proofs.Ytbkedgpligcicaa

namespace Go.Proofs.Ytbkedgpligcicaa
open Go Go.RowKit
set_option linter.unusedVariables false

def mixStep (h : Nat) (a : Ar) : Nat := (h * 31 + a.1.toNat * 7 + a.2.1.toNat * 131) % 1000003
def mixG (f : Bool) (l : List Ar) : Nat := l.foldl mixStep (if f then 8 else 7)
def mixOf (s : St) : Nat := mixG s.1 s.2 % 1024
theorem mixG_lt (f : Bool) (l : List Ar) : mixG f l < 1000003 := by
  unfold mixG
  have : ∀ (l : List Ar) (h : Nat), h < 1000003 → l.foldl mixStep h < 1000003 := by
    intro l
    induction l with
    | nil => intro h hh; exact hh
    | cons a t ih => intro h hh; rw [List.foldl_cons]; exact ih _ (Nat.mod_lt _ (by omega))
  exact this l _ (by cases f <;> decide)
theorem mixG_snoc (f : Bool) (l : List Ar) (k : Nat) (h : k < l.length) : mixG f (l.take (k + 1)) = mixStep (mixG f (l.take k)) (l.getD k ar0) := by
  have ht : l.take (k + 1) = l.take k ++ [l.getD k ar0] := by rw [List.take_succ_eq_append_getElem h]; simp [h]
  rw [mixG, ht, List.foldl_append]; rfl
/-- Arcs with small numbers. -/
def SmallA (l : List Ar) : Prop := ∀ a ∈ l, 0 ≤ a.1 ∧ a.1 ≤ 255 ∧ 0 ≤ a.2.1 ∧ a.2.1 ≤ 1000000
theorem SmallA.at {l : List Ar} (h : SmallA l) {k : Nat} (hk : k < l.length) : 0 ≤ (l.getD k ar0).1 ∧ (l.getD k ar0).1 ≤ 255 ∧ 0 ≤ (l.getD k ar0).2.1 ∧ (l.getD k ar0).2.1 ≤ 1000000 :=
  h _ (by rw [List.getD_eq_getElem?_getD, List.getElem?_eq_getElem hk]; exact List.getElem_mem _)

set_option maxHeartbeats 2000000 in
set_option maxRecDepth 100000 in
theorem mix_any (f : Bool) (a : Option Addr) (c : Nat) (l : List Ar) (w : World) (hn : l.length ≤ 1048576) (h1 : HoldA w a l) (hs : SmallA l) :
    Calls Try.prog 95 #[.agg #[.bool f, .slice a l.length c]] w fun e w' => e = .returned (.int .i64 (mixOf (f, l) : Nat)) ∧ Below w.heap.size w w' := by
  obtain ⟨R, hR⟩ : ∃ R, mixOf (f, l) = R := ⟨_, rfl⟩
  rw [hR]
  have HRR : Hid (mixG f l % 1024 = R) := hR
  clear hR
  have HBa : Hid (Below w.heap.size w (w.alloc (.cells #[.bool f, .slice a l.length c] 82))) := (Below.refl _ _).alloc (Nat.le_refl _) _
  have H1 := hidd (h1.below HBa.out)
  have HS := hidd hs
  have Hbx := hidd (heap_alloc_new w (.cells #[.bool f, .slice a l.length c] 82))
  clear h1 hs
  cases f with
  | false =>
    go_enter Try.func95, Try.ntmps95
    go_wp2_with fail
    generalize w.alloc (.cells #[.bool false, .slice a l.length c] 82) = wa at *
    have e1 : wa.cell? ⟨w.heap.size, 1, none⟩ = some (.slice a l.length c) := blkc Hbx.out 1
    go_loopw [3, 4] (fun hv iv wr => ∃ k : Nat, k ≤ l.length ∧ iv = .int .i64 (k : Int) ∧ hv = .int .i64 ((mixG false (l.take k) : Nat) : Int) ∧ ∃ q, wr = wa.drewN q) (fun _ iv _ => l.length - (intOf iv).toNat)
    case atStart => exact ⟨0, Nat.zero_le _, rfl, by simp [mixG], 0, rfl⟩
    case round =>
      obtain ⟨k, hk, rfl, rfl, q, rfl⟩ := hrel
      have hmx := mixG_lt false (l.take k)
      by_cases hlt : k < l.length
      · have hkz : (k : Int) < (l.length : Int) := by omega
        obtain ⟨b1, o1, rfl, hb1, hc1⟩ := H1.out.resolve_left (fun h => by rw [h] at hlt; simp at hlt)
        obtain ⟨x0, x1, x2⟩ := hc1 k hlt
        clear hc1
        have hsm := HS.out.at hlt
        have HM := hidd (mixG_snoc false l k hlt)
        rw [mixStep] at HM
        obtain ⟨p, hp⟩ : ∃ p, l.getD k ar0 = p := ⟨_, rfl⟩
        rw [hp] at x0 x1 x2 hsm HM
        clear hp
        obtain ⟨p0, p1, p2⟩ := p
        dsimp only at x0 x1 x2 hsm HM
        obtain ⟨g1, g2, g3, g4⟩ := hsm
        obtain ⟨P0, rfl⟩ := Int.eq_ofNat_of_zero_le g1
        obtain ⟨P1, rfl⟩ := Int.eq_ofNat_of_zero_le g3
        simp only [Int.toNat_natCast] at HM
        generalize mixG false (l.take k) = M at *
        go_wp2
        go_quiet (fail)
        go_wp2
        go_roundw
        case rel => exact ⟨k + 1, by omega, by go_num, by rw [HM.out]; go_num, _, rfl⟩
        case measure => simp [intOf]; omega
      · have HK : Hid (mixG false (l.take k) = mixG false l) := by show _ = _; rw [List.take_of_length_le (by omega)]
        have hkz : ¬ (k : Int) < (l.length : Int) := by omega
        rw [HK.out] at hmx ⊢
        have hR2 := HRR.out
        clear HRR HK
        generalize mixG false l = M at *
        go_wp2
        go_ret
        refine ⟨?_, below_drewN HBa.out _⟩
        rw [← hR2]
        go_num
  | true =>
    go_enter Try.func95, Try.ntmps95
    go_wp2_with fail
    generalize w.alloc (.cells #[.bool true, .slice a l.length c] 82) = wa at *
    have e1 : wa.cell? ⟨w.heap.size, 1, none⟩ = some (.slice a l.length c) := blkc Hbx.out 1
    go_loopw [3, 4] (fun hv iv wr => ∃ k : Nat, k ≤ l.length ∧ iv = .int .i64 (k : Int) ∧ hv = .int .i64 ((mixG true (l.take k) : Nat) : Int) ∧ ∃ q, wr = wa.drewN q) (fun _ iv _ => l.length - (intOf iv).toNat)
    case atStart => exact ⟨0, Nat.zero_le _, rfl, by simp [mixG], 0, rfl⟩
    case round =>
      obtain ⟨k, hk, rfl, rfl, q, rfl⟩ := hrel
      have hmx := mixG_lt true (l.take k)
      by_cases hlt : k < l.length
      · have hkz : (k : Int) < (l.length : Int) := by omega
        obtain ⟨b1, o1, rfl, hb1, hc1⟩ := H1.out.resolve_left (fun h => by rw [h] at hlt; simp at hlt)
        obtain ⟨x0, x1, x2⟩ := hc1 k hlt
        clear hc1
        have hsm := HS.out.at hlt
        have HM := hidd (mixG_snoc true l k hlt)
        rw [mixStep] at HM
        obtain ⟨p, hp⟩ : ∃ p, l.getD k ar0 = p := ⟨_, rfl⟩
        rw [hp] at x0 x1 x2 hsm HM
        clear hp
        obtain ⟨p0, p1, p2⟩ := p
        dsimp only at x0 x1 x2 hsm HM
        obtain ⟨g1, g2, g3, g4⟩ := hsm
        obtain ⟨P0, rfl⟩ := Int.eq_ofNat_of_zero_le g1
        obtain ⟨P1, rfl⟩ := Int.eq_ofNat_of_zero_le g3
        simp only [Int.toNat_natCast] at HM
        generalize mixG true (l.take k) = M at *
        go_wp2
        go_quiet (fail)
        go_wp2
        go_roundw
        case rel => exact ⟨k + 1, by omega, by go_num, by rw [HM.out]; go_num, _, rfl⟩
        case measure => simp [intOf]; omega
      · have HK : Hid (mixG true (l.take k) = mixG true l) := by show _ = _; rw [List.take_of_length_le (by omega)]
        have hkz : ¬ (k : Int) < (l.length : Int) := by omega
        rw [HK.out] at hmx ⊢
        have hR2 := HRR.out
        clear HRR HK
        generalize mixG true l = M at *
        go_wp2
        go_ret
        refine ⟨?_, below_drewN HBa.out _⟩
        rw [← hR2]
        go_num
end Go.Proofs.Ytbkedgpligcicaa

namespace Go.Proofs.Ytbkedgpligcicaa
open Go Go.RowKit
set_option linter.unusedVariables false
set_option maxRecDepth 100000

/-! The maker's memory: which block is what. -/
inductive Role where
  | mk
  | st
  | bk
  | lst (h : Nat)
  | arc
  | oth
theorem own_congr {w w' : World} {base e size n : Nat} {v : Value} {xs : List Value} (h : w.ownsRow base e size v n xs) (hb : ∀ b, v.ownBlock = some b → w'.heap[b]? = w.heap[b]?) : w'.ownsRow base e size v n xs := by
  refine ⟨h.1, ?_⟩
  rcases h.2 with h' | ⟨g, cap, cur, rfl, h2, h3, h4⟩
  · exact Or.inl h'
  · exact Or.inr ⟨g, cap, cur, rfl, h2, by rw [hb g rfl]; exact h3, h4⟩
def aC (l : List Ar) : List Value := l.flatMap fun a => [.int .i64 a.1, .int .i64 a.2.1, .int .i64 a.2.2]
theorem aC_snoc (l : List Ar) (a : Ar) : aC (l ++ [a]) = aC l ++ [.int .i64 a.1, .int .i64 a.2.1, .int .i64 a.2.2] := by simp [aC]
theorem aC_len (l : List Ar) : (aC l).length = l.length * 3 := by
  induction l with
  | nil => rfl
  | cons a t ih => simp only [aC, List.flatMap_cons, List.length_append, List.length_cons, List.length_nil] at ih ⊢; omega
theorem aC_at : ∀ (l : List Ar) (k : Nat), k < l.length → (aC l)[k * 3]? = some (.int .i64 (l.getD k ar0).1) ∧ (aC l)[k * 3 + 1]? = some (.int .i64 (l.getD k ar0).2.1) ∧ (aC l)[k * 3 + 2]? = some (.int .i64 (l.getD k ar0).2.2)
  | [], k, h => by simp at h
  | a :: t, 0, _ => by simp [aC]
  | a :: t, k + 1, h => by
    have ih := aC_at t k (by simpa using h)
    have e : aC (a :: t) = [.int .i64 a.1, .int .i64 a.2.1, .int .i64 a.2.2] ++ aC t := rfl
    rw [e, List.getElem?_append_right (by simp; omega), List.getElem?_append_right (by simp; omega), List.getElem?_append_right (by simp; omega)]
    simp only [List.length_cons, List.length_nil, List.getD_cons_succ]
    rw [show (k + 1) * 3 - (0 + 1 + 1 + 1) = k * 3 from by omega, show (k + 1) * 3 + 1 - (0 + 1 + 1 + 1) = k * 3 + 1 from by omega, show (k + 1) * 3 + 2 - (0 + 1 + 1 + 1) = k * 3 + 2 from by omega]
    exact ih
theorem holdA_of {w : World} {base e : Nat} {v : Value} {l : List Ar} (h : w.ownsRow base e 3 v l.length (aC l)) : ∃ a c, v = .slice a l.length c ∧ HoldA w a l ∧ ∀ b off, a = some ⟨b, off, none⟩ → v.ownBlock = some b := by
  have h0 := h
  rcases h.2 with ⟨rfl, hn⟩ | ⟨g, cap, cur, rfl, _, hg, _⟩
  · exact ⟨none, 0, by rw [hn], Or.inl (List.length_eq_zero_iff.1 hn), fun b off e => by cases e⟩
  · refine ⟨_, cap, rfl, Or.inr ⟨g, 0, rfl, (Array.getElem?_eq_some_iff.1 hg).1, fun k hk => ?_⟩, fun b off e => by cases e; rfl⟩
    have := aC_at l k hk
    rw [Nat.zero_add, h0.cellAt _ (by omega), h0.cellAt _ (by omega), h0.cellAt _ (by omega)]
    exact this
def bkt (S : List St) (h : Nat) : List Nat := (List.range S.length).filter fun j => mixOf (S.getD j st0) == h
theorem bkt_snoc (S : List St) (s : St) (h : Nat) : bkt (S ++ [s]) h = bkt S h ++ if mixOf s = h then [S.length] else [] := by
  unfold bkt
  rw [List.length_append, List.length_singleton, List.range_succ, List.filter_append]
  congr 1
  · refine List.filter_congr fun j hj => ?_
    have : j < S.length := by simpa using hj
    rw [List.getD_eq_getElem?_getD, List.getElem?_append_left this, ← List.getD_eq_getElem?_getD]
  · have e : (S ++ [s]).getD S.length st0 = s := by rw [List.getD_eq_getElem?_getD, List.getElem?_append_right (Nat.le_refl _)]; simp
    simp only [List.filter_cons, List.filter_nil, e, beq_iff_eq]
theorem bkt_lt {S : List St} {h j : Nat} (hj : j ∈ bkt S h) : j < S.length ∧ mixOf (S.getD j st0) = h := by
  simpa [bkt] using hj
theorem bkt_len (S : List St) (h : Nat) : (bkt S h).length ≤ S.length := by
  have := List.length_filter_le (fun j => mixOf (S.getD j st0) == h) (List.range S.length)
  simpa [bkt] using this
def nV (l : List Nat) : List Value := l.map fun (v : Nat) => Value.int .i64 (v : Int)
theorem nV_len (l : List Nat) : (nV l).length = l.length := by simp [nV]
/-- The maker as it lies in a world. -/
structure MkAt (w : World) (r : Nat → Role) (base bm bb : Nat) (aT : Option Addr) (nT cT : Nat) (O : List (List Tx)) (vS : Value) (vb : Nat → Value) (xs : List Value) (cs : Array Value) : Prop where
  box : w.heap[bm]? = some (.cells #[.slice aT nT cT, vS, .slice none 0 0, .slice (some ⟨bb, 0, none⟩) 1024 1024] 112)
  rbm : r bm = .mk
  rbb : r bb = .bk
  lbm : base ≤ bm
  lbb : base ≤ bb
  bks : w.heap[bb]? = some (.cells cs 66)
  csz : cs.size = 1024
  cat : ∀ h, h < 1024 → cs[h]? = some (vb h)
  lst : ∀ h, h < 1024 → w.ownsRow base 3 1 (vb h) (bkt (stM O) h).length (nV (bkt (stM O) h)) ∧ ∀ b, (vb h).ownBlock = some b → r b = .lst h
  row : w.ownsRow base 82 2 vS O.length xs
  rst : ∀ b, vS.ownBlock = some b → r b = .st
  sts : ∀ j, j < O.length → xs[j * 2]? = some (.bool ((stM O).getD j st0).1) ∧ ∃ aj cj, xs[j * 2 + 1]? = some (.slice aj ((stM O).getD j st0).2.length cj) ∧ HoldA w aj ((stM O).getD j st0).2 ∧ ∀ b off, aj = some ⟨b, off, none⟩ → r b = .arc
  new : ∀ b, w.heap.size ≤ b → r b = .oth
theorem MkAt.kept {w w' : World} {r : Nat → Role} {base bm bb : Nat} {aT : Option Addr} {nT cT : Nat} {O : List (List Tx)} {vS : Value} {vb : Nat → Value} {xs : List Value} {cs : Array Value} (h : MkAt w r base bm bb aT nT cT O vS vb xs cs)
    (hz : w.heap.size ≤ w'.heap.size) (hk : ∀ b, b < w.heap.size → r b ≠ .oth → w'.heap[b]? = w.heap[b]?) : MkAt w' r base bm bb aT nT cT O vS vb xs cs := by
  have hlt : ∀ b, r b ≠ .oth → b < w.heap.size := fun b hb => by
    rcases Nat.lt_or_ge b w.heap.size with h1 | h1
    · exact h1
    · exact absurd (h.new b h1) hb
  have hk2 : ∀ b, r b ≠ .oth → w'.heap[b]? = w.heap[b]? := fun b hb => hk b (hlt b hb) hb
  refine ⟨(hk2 bm (by rw [h.rbm]; simp)).trans h.box, h.rbm, h.rbb, h.lbm, h.lbb, (hk2 bb (by rw [h.rbb]; simp)).trans h.bks, h.csz, h.cat, fun i hi => ⟨own_congr (h.lst i hi).1 fun b hb => hk2 b (by rw [(h.lst i hi).2 b hb]; simp), (h.lst i hi).2⟩, own_congr h.row fun b hb => hk2 b (by rw [h.rst b hb]; simp), h.rst, fun j hj => ?_, fun b hb => h.new b (by omega)⟩
  obtain ⟨h1, aj, cj, h2, h3, h4⟩ := h.sts j hj
  exact ⟨h1, aj, cj, h2, h3.keep hz fun b off e _ => hk2 b (by rw [h4 b off e]; simp), h4⟩
/-- What a call of the maker leaves as it was. -/
structure MkFr (w w' : World) (r r' : Nat → Role) : Prop where
  os : w'.os = w.os
  tape : w'.tape = w.tape
  output : w'.output = w.output
  size : w.heap.size ≤ w'.heap.size
  role : ∀ b, b < w.heap.size → r' b = r b
  keep : ∀ b, b < w.heap.size → r b = .oth ∨ r b = .arc → w'.heap[b]? = w.heap[b]?
theorem MkFr.refl (w : World) (r : Nat → Role) : MkFr w w r r := ⟨rfl, rfl, rfl, Nat.le_refl _, fun _ _ => rfl, fun _ _ _ => rfl⟩
theorem MkFr.trans {a b c : World} {r s t : Nat → Role} (h : MkFr a b r s) (k : MkFr b c s t) : MkFr a c r t :=
  ⟨k.os.trans h.os, k.tape.trans h.tape, k.output.trans h.output, Nat.le_trans h.size k.size, fun i hi => (k.role i (Nat.lt_of_lt_of_le hi h.size)).trans (h.role i hi), fun i hi hr => (k.keep i (Nat.lt_of_lt_of_le hi h.size) (by rw [h.role i hi]; exact hr)).trans (h.keep i hi hr)⟩
theorem MkFr.below {a b c : World} {r s : Nat → Role} (h : MkFr a b r s) (hb : Below b.heap.size b c) : MkFr a c r s :=
  h.trans ⟨hb.os, hb.tape, hb.output, hb.size, fun _ _ => rfl, fun i hi _ => hb.block i hi⟩
end Go.Proofs.Ytbkedgpligcicaa

namespace Go.Proofs.Ytbkedgpligcicaa
open Go Go.RowKit
set_option linter.unusedVariables false
set_option maxRecDepth 100000

/-! spec's make: what it is asked and what it does. -/
def suf (ts : List Tx) (lo hi depth : Nat) : List Tx := ((ts.drop lo).take (hi - lo)).map (List.drop depth)
theorem suf_len (ts : List Tx) {lo hi depth : Nat} (h : lo ≤ hi) (h2 : hi ≤ ts.length) : (suf ts lo hi depth).length = hi - lo := by
  simp [suf]; omega
theorem suf_split (ts : List Tx) {lo i hi depth : Nat} (h1 : lo ≤ i) (h2 : i ≤ hi) (h3 : hi ≤ ts.length) : suf ts lo hi depth = suf ts lo i depth ++ suf ts i hi depth := by
  unfold suf
  rw [← List.map_append]
  congr 1
  rw [show hi - lo = (i - lo) + (hi - i) from by omega, List.take_add, List.drop_drop, show lo + (i - lo) = i from by omega]
theorem suf_one (ts : List Tx) {i depth : Nat} (h : i < ts.length) : suf ts i (i + 1) depth = [(ts.getD i []).drop depth] := by
  unfold suf
  rw [show i + 1 - i = 1 from by omega, List.drop_eq_getElem_cons h, List.take_succ_cons, List.take_zero]
  simp [h]
theorem suf_tail (ts : List Tx) (lo hi depth : Nat) : (suf ts lo hi depth).map List.tail = suf ts lo hi (depth + 1) := by
  unfold suf
  rw [List.map_map]
  congr 1
  funext t
  simp [List.tail_drop]
theorem suf_mem {ts : List Tx} {lo hi depth : Nat} {x : Tx} (h : x ∈ suf ts lo hi depth) : ∃ j, lo ≤ j ∧ j < hi ∧ j < ts.length ∧ x = (ts.getD j []).drop depth := by
  unfold suf at h
  obtain ⟨t, ht, rfl⟩ := List.mem_map.1 h
  obtain ⟨k, hk, e⟩ := List.getElem_of_mem ht
  have hk2 := hk
  rw [List.length_take, List.length_drop] at hk2
  refine ⟨lo + k, by omega, by omega, by omega, ?_⟩
  rw [← e]
  simp [show lo + k < ts.length by omega]
theorem suf_in {ts : List Tx} {lo hi depth j : Nat} (h1 : lo ≤ j) (h2 : j < hi) (h3 : j < ts.length) : (ts.getD j []).drop depth ∈ suf ts lo hi depth := by
  unfold suf
  refine List.mem_map.2 ⟨ts.getD j [], ?_, rfl⟩
  refine List.mem_iff_getElem?.2 ⟨j - lo, ?_⟩
  rw [List.getElem?_take, if_pos (by omega), List.getElem?_drop, show lo + (j - lo) = j from by omega]
  simp [h3]
def TsAt (w : World) (r : Nat → Role) (aT : Option Addr) (ts : List Tx) : Prop :=
  ts = [] ∨ ∃ g off, aT = some ⟨g, off, none⟩ ∧ g < w.heap.size ∧ r g = .oth ∧ ∀ j, j < ts.length → w.cell? ⟨g, off + j, none⟩ = some (.string ⟨(ts.getD j []).toArray⟩)
theorem TsAt.fr {w w' : World} {r r' : Nat → Role} {aT : Option Addr} {ts : List Tx} (h : TsAt w r aT ts) (hf : MkFr w w' r r') : TsAt w' r' aT ts := by
  rcases h with h | ⟨g, off, ha, hg, hr, hc⟩
  · exact Or.inl h
  · exact Or.inr ⟨g, off, ha, Nat.lt_of_lt_of_le hg hf.size, (hf.role g hg).trans hr, fun j hj => (World.cell?_of_block (hf.keep g hg (Or.inl hr))).trans (hc j hj)⟩
def MakePost (base bm bb : Nat) (aT : Option Addr) (nT cT : Nat) (O : List (List Tx)) (L : List Tx) (w : World) (r : Nat → Role) (e : Ending) (w' : World) : Prop :=
  ∃ (O' : List (List Tx)) (r' : Nat → Role) (vS' : Value) (vb' : Nat → Value) (xs' : List Value) (cs' : Array Value), e = .returned (.int .i64 ((O'.idxOf L : Nat) : Int)) ∧ MkAt w' r' base bm bb aT nT cT O' vS' vb' xs' cs' ∧ OkO O' ∧ O <+: O' ∧ L ∈ O' ∧ O'.length ≤ O.length + max 1 (szT L) ∧ MkFr w w' r r'
def MakeC (base bm bb : Nat) (aT : Option Addr) (cT : Nat) (ts : List Tx) (f : Nat) : Prop :=
  ∀ (lo hi depth : Nat) (w : World) (r : Nat → Role) (O : List (List Tx)) (vS : Value) (vb : Nat → Value) (xs : List Value) (cs : Array Value), lo ≤ hi → hi ≤ ts.length → ts.length ≤ 4096 → (∀ t ∈ suf ts lo hi depth, t.length < f) → depth + f ≤ 1000 → (∀ j, lo ≤ j → j < hi → depth ≤ (ts.getD j []).length) → RiseT (suf ts lo hi depth) →
    MkAt w r base bm bb aT ts.length cT O vS vb xs cs → OkO O → TsAt w r aT ts → O.length + szT (suf ts lo hi depth) + 1 ≤ 300000 → base ≤ w.heap.size →
    Calls Try.prog 66 #[.pointer (some ⟨bm, 0, none⟩), .int .i64 (lo : Int), .int .i64 (hi : Int), .int .i64 (depth : Int)] w fun e w' => MakePost base bm bb aT ts.length cT O (suf ts lo hi depth) w r e w'
/-- The same where there is a term. -/
def MakeN (base bm bb : Nat) (aT : Option Addr) (cT : Nat) (ts : List Tx) (f : Nat) : Prop :=
  ∀ (lo hi depth : Nat) (w : World) (r : Nat → Role) (O : List (List Tx)) (vS : Value) (vb : Nat → Value) (xs : List Value) (cs : Array Value), lo < hi → hi ≤ ts.length → ts.length ≤ 4096 → (∀ t ∈ suf ts lo hi depth, t.length < f) → depth + f ≤ 1000 → (∀ j, lo ≤ j → j < hi → depth ≤ (ts.getD j []).length) → RiseT (suf ts lo hi depth) →
    MkAt w r base bm bb aT ts.length cT O vS vb xs cs → OkO O → TsAt w r aT ts → O.length + szT (suf ts lo hi depth) + 1 ≤ 300000 → base ≤ w.heap.size →
    Calls Try.prog 66 #[.pointer (some ⟨bm, 0, none⟩), .int .i64 (lo : Int), .int .i64 (hi : Int), .int .i64 (depth : Int)] w fun e w' => MakePost base bm bb aT ts.length cT O (suf ts lo hi depth) w r e w'
theorem MakeC.some {base bm bb : Nat} {aT : Option Addr} {cT : Nat} {ts : List Tx} {f : Nat} (h : MakeC base bm bb aT cT ts f) : MakeN base bm bb aT cT ts f := fun lo hi depth w r O vS vb xs cs hlo => h lo hi depth w r O vS vb xs cs (Nat.le_of_lt hlo)
theorem MakeN.zero (base bm bb : Nat) (aT : Option Addr) (cT : Nat) (ts : List Tx) : MakeN base bm bb aT cT ts 0 := fun lo hi depth w r O vS vb xs cs hlo hhi _ hlen => absurd (hlen _ (suf_in (Nat.le_refl lo) hlo (by omega))) (by omega)
/-- A state under way: the box, its arcs. -/
structure Way (w : World) (r : Nat → Role) (base s : Nat) (fin : Bool) (va : Value) (l : List Ar) : Prop where
  box : w.heap[s]? = some (.cells #[.bool fin, va] 82)
  rs : r s = .oth
  row : w.ownsRow base 85 3 va l.length (aC l)
  rv : ∀ b, va.ownBlock = some b → r b = .oth ∧ b ≠ s ∧ b < w.heap.size
theorem Way.fr {w w' : World} {r r' : Nat → Role} {base s : Nat} {fin : Bool} {va : Value} {l : List Ar} (h : Way w r base s fin va l) (hf : MkFr w w' r r') : Way w' r' base s fin va l := by
  have hs : s < w.heap.size := (Array.getElem?_eq_some_iff.1 h.box).1
  refine ⟨(hf.keep s hs (Or.inl h.rs)).trans h.box, (hf.role s hs).trans h.rs, own_congr h.row fun b hb => ?_, fun b hb => ?_⟩
  · obtain ⟨h1, h2, h3⟩ := h.rv b hb
    exact hf.keep b h3 (Or.inl h1)
  · obtain ⟨h1, h2, h3⟩ := h.rv b hb
    exact ⟨(hf.role b h3).trans h1, h2, Nat.lt_of_lt_of_le h3 hf.size⟩
theorem rise_ne {A B : List Tx} (h : RiseT (A ++ B)) (ha : A ≠ []) : ∀ t ∈ B, t ≠ [] := by
  intro t ht e
  subst e
  obtain ⟨a, ha⟩ := List.exists_mem_of_ne_nil _ ha
  have := (List.pairwise_append.1 h).2.2 a ha [] ht
  cases a <;> simp [ltT] at this
theorem rise_left {A B : List Tx} (h : RiseT (A ++ B)) : RiseT A := (List.pairwise_append.1 h).1
theorem rise_right {A B : List Tx} (h : RiseT (A ++ B)) : RiseT B := (List.pairwise_append.1 h).2.1
theorem szT_ge (L : List Tx) : L.length ≤ szT L := by
  induction L with
  | nil => simp
  | cons t L ih => simp only [szT, List.map_cons, List.sum_cons, List.length_cons] at ih ⊢; omega
theorem szT_le {L : List Tx} {n : Nat} (h : ∀ t ∈ L, t.length ≤ n) : szT L ≤ L.length * (n + 1) := by
  induction L with
  | nil => simp [szT]
  | cons t L ih =>
    have h1 := ih (fun x hx => h x (by simp [hx]))
    have h2 := h t (by simp)
    simp only [szT, List.map_cons, List.sum_cons, List.length_cons, Nat.succ_mul] at h1 ⊢
    omega
theorem idx_run (t : Tx) (d : Nat) (W : World) (h : d < t.length) : (Instr.index 9 (.string ⟨t.toArray⟩) (.int .i64 (d : Int))).run Try.prog W = .ok (.int .u8 ((t.getD d 0).toNat : Int)) W := by
  have hs : (⟨t.toArray⟩ : ByteArray).size = t.length := by rw [Lib.size_eq]
  rw [run_index_string W 9 _ .i64 _ Try.underlying9, dif_pos ⟨by omega, by rw [hs]; omega⟩]
  congr 3
  simp only [Int.toNat_natCast]
  have : (⟨t.toArray⟩ : ByteArray)[d]'(by rw [hs]; exact h) = t[d] := rfl
  rw [this]
  simp [h]
end Go.Proofs.Ytbkedgpligcicaa

namespace Go.Proofs.Ytbkedgpligcicaa
open Go Go.RowKit
set_option linter.unusedVariables false
set_option maxRecDepth 100000

theorem suf_same (ts : List Tx) (lo depth : Nat) : suf ts lo lo depth = [] := by simp [suf]
theorem labels_nil_one (n : Nat) (h : n ∈ labelsT [([] : Tx)]) : False := (labelsT_mem.1 h).2 rfl
theorem labels_nil (n : Nat) (h : n ∈ labelsT ([] : List Tx)) : False := (labelsT_mem.1 h).2 rfl
theorem heap_set_same {w : World} {b : Nat} {cs : Array Value} {t : TypeId} (h : w.heap[b]? = some (.cells cs t)) (k : Nat) (u : Value) : (w.setCell ⟨b, k, none⟩ u).heap[b]? = some (.cells (cs.setIfInBounds k u) t) := by
  obtain ⟨hlt, hk⟩ := Array.getElem?_eq_some_iff.1 h
  show (w.heap.modify b _)[b]? = _
  rw [Array.getElem?_eq_getElem (by rw [Array.size_modify]; exact hlt), Array.getElem_modify_self, hk]
  rfl
theorem heap_set_other (w : World) (b k : Nat) (u : Value) (x : Nat) (hx : x ≠ b) : (w.setCell ⟨b, k, none⟩ u).heap[x]? = w.heap[x]? := heap_setCell_other w ⟨b, k, none⟩ x u hx
theorem MkFr.set {w : World} {r : Nat → Role} (b k : Nat) (u : Value) (hb : w.heap.size ≤ b ∨ (r b ≠ .oth ∧ r b ≠ .arc)) : MkFr w (w.setCell ⟨b, k, none⟩ u) r r := by
  have hg : w.grownBy (w.setCell ⟨b, k, none⟩ u) (some b) := ⟨rfl, rfl, rfl, by simp, fun i _ hne => heap_set_other w b k u i (by simpa using hne)⟩
  exact ⟨hg.os, hg.tape, hg.output, hg.size, fun _ _ => rfl, fun i hi hr => heap_set_other w b k u i (by
    rintro rfl
    rcases hb with hb | hb
    · omega
    · rcases hr with hr | hr
      · exact hb.1 hr
      · exact hb.2 hr)⟩
/-- Where make stands among the terms. -/
structure At1 (ts : List Tx) (lo hi depth i : Nat) (fin : Bool) : Prop where
  l1 : lo ≤ i
  l2 : i ≤ hi
  fin : fin = finT (suf ts lo i depth)
  ne : ∀ j, i ≤ j → j < hi → depth < (ts.getD j []).length
  lt : ∀ c q, i < hi → (ts.getD i []).drop depth = c :: q → headLt c (suf ts lo i depth)
theorem drop_cons {t : Tx} {d : Nat} (h : d < t.length) : t.drop d = t.getD d 0 :: t.drop (d + 1) := by
  rw [List.drop_eq_getElem_cons h]; simp [h]
/-- The terms that go on with one byte, and what stands behind them. -/
theorem At1.next {ts : List Tx} {lo hi depth i k : Nat} {fin : Bool} {c : UInt8} (h : At1 ts lo hi depth i fin) (h2 : hi ≤ ts.length) (hr : RiseT (suf ts lo hi depth)) (hik : i < k) (hk : k ≤ hi) (hc : ∀ j, i ≤ j → j < k → (ts.getD j []).getD depth 0 = c) (hn : k < hi → (ts.getD k []).getD depth 0 ≠ c) :
    headIs c (suf ts i k depth) ∧ headLt c (suf ts lo i depth) ∧ At1 ts lo hi depth k fin := by
  have hI : headIs c (suf ts i k depth) := by
    intro t ht
    obtain ⟨j, hj1, hj2, hj3, rfl⟩ := suf_mem ht
    rw [drop_cons (h.ne j hj1 (by omega)), hc j hj1 hj2]
    exact ⟨_, rfl⟩
  have hL : headLt c (suf ts lo i depth) := by
    have e := drop_cons (h.ne i (Nat.le_refl _) (by omega))
    rw [hc i (Nat.le_refl _) hik] at e
    exact h.lt c _ (by omega) e
  refine ⟨hI, hL, ⟨by have := h.l1; omega, hk, ?_, fun j hj1 hj2 => h.ne j (by omega) hj2, fun c' q hkh e => ?_⟩⟩
  · rw [suf_split ts h.l1 (by omega : i ≤ k) (by omega), finT_add hI]; exact h.fin
  · have e2 := drop_cons (h.ne k (by omega) hkh)
    rw [e] at e2
    have ec : c' = (ts.getD k []).getD depth 0 := (List.cons.inj e2).1
    have hne := hn hkh
    rw [← ec] at hne
    have hlt : c.toNat < c'.toNat := by
      rw [suf_split ts (show lo ≤ k by have := h.l1; omega) hk h2] at hr
      have hm1 : c :: ((ts.getD i []).drop (depth + 1)) ∈ suf ts lo k depth := by
        have := suf_in (ts := ts) (lo := lo) (hi := k) (depth := depth) (j := i) h.l1 hik (by omega)
        rw [drop_cons (h.ne i (Nat.le_refl _) (by omega)), hc i (Nat.le_refl _) hik] at this
        exact this
      have hm2 : c' :: q ∈ suf ts k hi depth := by
        have := suf_in (ts := ts) (lo := k) (hi := hi) (depth := depth) (j := k) (Nat.le_refl _) hkh (by omega)
        rw [e] at this
        exact this
      have := (List.pairwise_append.1 hr).2.2 _ hm1 _ hm2
      rw [ltT_cons] at this
      rcases this with h5 | ⟨h5, _⟩
      · exact h5
      · exact absurd h5.symm hne
    rw [suf_split ts h.l1 (by omega : i ≤ k) (by omega)]
    intro t ht
    rcases List.mem_append.1 ht with ht | ht
    · rcases hL t ht with h5 | ⟨d, q', h5, h6⟩
      · exact Or.inl h5
      · exact Or.inr ⟨d, q', h5, by omega⟩
    · obtain ⟨q', h5⟩ := hI t ht
      exact Or.inr ⟨c, q', h5, hlt⟩
/-- What the maker has, on the way through a call. -/
def On (base bm bb : Nat) (aT : Option Addr) (cT : Nat) (ts : List Tx) (O : List (List Tx)) (w : World) (r : Nat → Role) (s lo i depth : Nat) (fin : Bool) (W : World) : Prop :=
  ∃ (O1 : List (List Tx)) (r1 : Nat → Role) (vS : Value) (vb : Nat → Value) (xs : List Value) (cs : Array Value) (va : Value), MkAt W r1 base bm bb aT ts.length cT O1 vS vb xs cs ∧ OkO O1 ∧ O <+: O1 ∧ O1.length + (suf ts lo i depth).length ≤ O.length + szT (suf ts lo i depth) ∧ MkFr w W r r1 ∧ Way W r1 w.heap.size s fin va (stOf O1 (suf ts lo i depth)).2 ∧ Kids O1 (suf ts lo i depth) ∧ TsAt W r1 aT ts
theorem On.below {base bm bb : Nat} {aT : Option Addr} {cT : Nat} {ts : List Tx} {O : List (List Tx)} {w : World} {r : Nat → Role} {s lo i depth : Nat} {fin : Bool} {W W' : World} (h : On base bm bb aT cT ts O w r s lo i depth fin W) (hb : Below W.heap.size W W') : On base bm bb aT cT ts O w r s lo i depth fin W' := by
  obtain ⟨O1, r1, vS, vb, xs, cs, va, h1, h2, h3, h4, h5, h6, h7, h8⟩ := h
  have hf : MkFr W W' r1 r1 := (MkFr.refl W r1).below hb
  exact ⟨O1, r1, vS, vb, xs, cs, va, h1.kept hb.size (fun b hb' _ => hb.block b hb'), h2, h3, h4, h5.trans hf, h6.fr hf, h7, h8.fr hf⟩

/-- One arc more. -/
theorem arc_push {base bm bb : Nat} {aT : Option Addr} {cT : Nat} {ts : List Tx} {O O1 O2 : List (List Tx)} {w : World} {r r2 : Nat → Role} {lo i k depth : Nat} {fin : Bool} {c : UInt8} {W V w6 : World} {vS : Value} {vb : Nat → Value} {xs : List Value} {cs : Array Value} {va : Value} {g6 cp6 : Nat}
    (hmk : MkAt W r2 base bm bb aT ts.length cT O2 vS vb xs cs) (hok : OkO O2) (hp1 : O <+: O1) (hp2 : O1 <+: O2) (hlen1 : O1.length + (suf ts lo i depth).length ≤ O.length + szT (suf ts lo i depth)) (hlen2 : O2.length ≤ O1.length + max 1 (szT (suf ts i k (depth + 1)))) (hfr : MkFr w W r r2) (hway : Way W r2 w.heap.size w.heap.size fin va (stOf O1 (suf ts lo i depth)).2) (hkids : Kids O1 (suf ts lo i depth)) (hts : TsAt w r aT ts)
    (hI : headIs c (suf ts i k depth)) (hL : headLt c (suf ts lo i depth)) (hlo : lo ≤ i) (hik : i < k) (hkt : k ≤ ts.length) (hmem : suf ts i k (depth + 1) ∈ O2)
    (hV : Below W.heap.size W V) (hVs : V.heap.size ≤ W.heap.size + 1) (hown : w6.ownsRow w.heap.size 85 3 (.slice (some ⟨g6, 0, none⟩) ((stOf O1 (suf ts lo i depth)).2.length + 1) cp6) ((stOf O1 (suf ts lo i depth)).2.length + 1) (aC (stOf O1 (suf ts lo i depth)).2 ++ [.int .i64 (c.toNat : Int), .int .i64 ((O2.idxOf (suf ts i k (depth + 1)) : Nat) : Int), .int .i64 ((i : Int) - (lo : Int))])) (hg : V.grownBy w6 va.ownBlock) (hat : va.ownBlock = some g6 ∨ g6 = V.heap.size) (hlt : g6 < w6.heap.size) :
    w6.cell? ⟨w.heap.size, 1, none⟩ = some va ∧ w6.frozen? ⟨w.heap.size, 1, none⟩ = false ∧ On base bm bb aT cT ts O w r w.heap.size lo k depth fin (w6.setCell ⟨w.heap.size, 1, none⟩ (.slice (some ⟨g6, 0, none⟩) ((stOf O1 (suf ts lo i depth)).2.length + 1) cp6)) := by
  have hs : w.heap.size < W.heap.size := (Array.getElem?_eq_some_iff.1 hway.box).1
  have hblk : ∀ b, b < W.heap.size → va.ownBlock ≠ some b → w6.heap[b]? = W.heap[b]? := fun b hb hne => (hg.block b (Nat.lt_of_lt_of_le hb hV.size) (fun e => hne e.symm)).trans (hV.block b hb)
  have hsne : va.ownBlock ≠ some w.heap.size := fun e => (hway.rv _ e).2.1 rfl
  have hbox : w6.heap[w.heap.size]? = some (.cells #[.bool fin, va] 82) := (hblk _ hs hsne).trans hway.box
  have hsz6 : W.heap.size ≤ w6.heap.size := Nat.le_trans hV.size hg.size
  have hne : suf ts i k depth ≠ [] := fun e => by have := congrArg List.length e; rw [suf_len ts (by omega) hkt] at this; simp at this; omega
  have hsp := suf_split ts (depth := depth) hlo (show i ≤ k by omega) hkt
  have hmt := suf_tail ts i k depth
  have hk2 : Kids O2 (suf ts lo k depth) := by
    rw [hsp]
    exact (hkids.pre hp2).add hI hne hL (by rw [hmt]; exact hmem)
  have hst : (stOf O2 (suf ts lo k depth)).2 = (stOf O1 (suf ts lo i depth)).2 ++ [((c.toNat : Int), ((O2.idxOf (suf ts i k (depth + 1)) : Nat) : Int), (i : Int) - (lo : Int))] := by
    rw [hsp, stOf_add O2 hI hne hL, stOf_pre hp2 hkids, hmt, suf_len ts hlo (by omega)]
    simp only [List.append_cancel_left_eq, List.cons.injEq, and_true, Prod.mk.injEq, true_and]
    omega
  have hfresh : ∀ b, W.heap.size ≤ b → r2 b = .oth := hmk.new
  have hg6 : r2 g6 = .oth ∧ g6 ≠ w.heap.size := by
    rcases hat with e | e
    · exact ⟨(hway.rv g6 e).1, (hway.rv g6 e).2.1⟩
    · have := hV.size
      exact ⟨hfresh g6 (by omega), by omega⟩
  have hset : ∀ b, b ≠ w.heap.size → ∀ u, (w6.setCell ⟨w.heap.size, 1, none⟩ u).heap[b]? = w6.heap[b]? := fun b hb u => heap_set_other w6 w.heap.size 1 u b hb
  refine ⟨blkc hbox 1, frozen_of_row w6 w.heap.size 1 _ _ hbox, O2, r2, vS, vb, xs, cs, .slice (some ⟨g6, 0, none⟩) ((stOf O1 (suf ts lo i depth)).2.length + 1) cp6, ?_, hok, hp1.trans hp2, ?_, ?_, ?_, hk2, ?_⟩
  · refine hmk.kept (by simpa using hsz6) fun b hb hr => ?_
    rw [hset b (by rintro rfl; exact hr hway.rs)]
    exact hblk b hb fun e => hr (hway.rv b e).1
  · have e1 := szT_tail hI
    rw [hmt] at e1
    have e2 := szT_append (suf ts lo i depth) (suf ts i k depth)
    rw [← hsp] at e2
    have e3 := suf_len ts (lo := i) (hi := k) (depth := depth) (by omega) hkt
    have e4 := suf_len ts (lo := lo) (hi := i) (depth := depth) hlo (by omega)
    have e5 := suf_len ts (lo := lo) (hi := k) (depth := depth) (by omega) hkt
    have e6 := szT_ge (suf ts i k (depth + 1))
    have e7 := suf_len ts (lo := i) (hi := k) (depth := depth + 1) (by omega) hkt
    omega
  · exact ⟨hg.os.trans (hV.os.trans hfr.os), hg.tape.trans (hV.tape.trans hfr.tape), hg.output.trans (hV.output.trans hfr.output), by have := hfr.size; simp; omega, fun b hb => hfr.role b hb, fun b hb hr => by
      rw [hset b (by omega)]
      refine (hblk b (Nat.lt_of_lt_of_le hb hfr.size) fun e => ?_).trans (hfr.keep b hb hr)
      have := (hway.row.lt b e).1
      omega⟩
  · rw [hst]
    refine ⟨heap_set_same hbox 1 _, hway.rs, ?_, fun b hb => ?_⟩
    · rw [List.length_append, aC_snoc]
      exact own_congr hown fun b hb => hset b (by cases hb; exact hg6.2) _
    · cases hb
      exact ⟨hg6.1, hg6.2, by simpa using hlt⟩
  · exact hts.fr ⟨hg.os.trans (hV.os.trans hfr.os), hg.tape.trans (hV.tape.trans hfr.tape), hg.output.trans (hV.output.trans hfr.output), by have := hfr.size; simp; omega, fun b hb => hfr.role b hb, fun b hb hr => by
      rw [hset b (by omega)]
      refine (hblk b (Nat.lt_of_lt_of_le hb hfr.size) fun e => ?_).trans (hfr.keep b hb hr)
      have := (hway.row.lt b e).1
      omega⟩

theorem Try.infoArc : (Try.prog.info? 85).map (fun i => (i.zero, i.size, i.bytes)) = some (some (.agg #[.int .i64 0, .int .i64 0, .int .i64 0]), 3, 24) := by kernel_rfl
theorem labelsT_len (L : List Tx) : (labelsT L).length ≤ 256 := by
  have := List.length_filter_le (fun n => !(subT n L).isEmpty) (List.range 256)
  simpa [labelsT] using this
/-- What a call leaves for the arc. -/
def CallPost (base bm bb : Nat) (aT : Option Addr) (cT : Nat) (ts : List Tx) (O : List (List Tx)) (w : World) (r : Nat → Role) (lo i k depth : Nat) (fin : Bool) (e : Ending) (w' : World) : Prop :=
  ∃ (O1 O2 : List (List Tx)) (r2 : Nat → Role) (vS : Value) (vb : Nat → Value) (xs : List Value) (cs : Array Value) (va : Value), e = .returned (.int .i64 ((O2.idxOf (suf ts i k (depth + 1)) : Nat) : Int)) ∧ MkAt w' r2 base bm bb aT ts.length cT O2 vS vb xs cs ∧ OkO O2 ∧ O <+: O1 ∧ O1 <+: O2 ∧ O1.length + (suf ts lo i depth).length ≤ O.length + szT (suf ts lo i depth) ∧ O2.length ≤ O1.length + max 1 (szT (suf ts i k (depth + 1))) ∧ MkFr w w' r r2 ∧ Way w' r2 w.heap.size w.heap.size fin va (stOf O1 (suf ts lo i depth)).2 ∧ Kids O1 (suf ts lo i depth) ∧ suf ts i k (depth + 1) ∈ O2
theorem call_any {base bm bb : Nat} {aT : Option Addr} {cT : Nat} {ts : List Tx} {f : Nat} (ih : MakeN base bm bb aT cT ts f) {O : List (List Tx)} {w W : World} {r : Nat → Role} {lo hi i k depth : Nat} {fin : Bool} {c : UInt8} (h3 : ts.length ≤ 4096) (h2 : hi ≤ ts.length) (hlen : ∀ t ∈ suf ts lo hi depth, t.length < f + 1) (hdf : depth + (f + 1) ≤ 1000) (hrise : RiseT (suf ts lo hi depth)) (hsz : O.length + szT (suf ts lo hi depth) + 1 ≤ 300000) (hbase : base ≤ w.heap.size)
    (hat : At1 ts lo hi depth i fin) (hon : On base bm bb aT cT ts O w r w.heap.size lo i depth fin W) (hI : headIs c (suf ts i k depth)) (hik : i < k) (hkh : k ≤ hi) :
    Calls Try.prog 66 #[.pointer (some ⟨bm, 0, none⟩), .int .i64 (i : Int), .int .i64 (k : Int), .int .i64 ((depth : Int) + 1)] W fun e w' => CallPost base bm bb aT cT ts O w r lo i k depth fin e w' := by
  obtain ⟨O1, r1, vS1, vb1, xs1, cs1, va, hmk, hok, hpre, hlen1, hfr, hway, hkids, hts⟩ := hon
  have hl := hat.l1
  have e1 := szT_tail hI
  rw [suf_tail] at e1
  have e2 := szT_append (suf ts lo i depth) (suf ts i hi depth)
  rw [← suf_split ts hl hat.l2 h2] at e2
  have e3 := szT_append (suf ts i k depth) (suf ts k hi depth)
  rw [← suf_split ts (show i ≤ k by omega) hkh h2] at e3
  have e4 := suf_len ts (lo := i) (hi := k) (depth := depth) (by omega) (by omega)
  have e5 := suf_len ts (lo := lo) (hi := i) (depth := depth) hl (by omega)
  have hr2 : RiseT (suf ts i k (depth + 1)) := by
    rw [← suf_tail, ← subT_headIs hI]
    rw [suf_split ts hl hat.l2 h2, suf_split ts (show i ≤ k by omega) hkh h2] at hrise
    exact subT_rise (rise_left (rise_right hrise))
  have := ih i k (depth + 1) W r1 O1 vS1 vb1 xs1 cs1 hik (by omega) h3 (fun t ht => by
      obtain ⟨j, hj1, hj2, hj3, rfl⟩ := suf_mem ht
      have h5 := hlen _ (suf_in (depth := depth) (show lo ≤ j by omega) (show j < hi by omega) hj3)
      have h6 := hat.ne j hj1 (by omega)
      rw [List.length_drop] at h5 ⊢
      omega) (by omega) (fun j hj1 hj2 => hat.ne j hj1 (by omega)) hr2 hmk hok hts (by omega) (Nat.le_trans hbase hfr.size)
  rw [show ((depth + 1 : Nat) : Int) = (depth : Int) + 1 from by omega] at this
  refine this.mono ?_
  rintro e w' ⟨O2, r2, vS2, vb2, xs2, cs2, rfl, q1, q2, q3, q4, q5, q6⟩
  exact ⟨O1, O2, r2, vS2, vb2, xs2, cs2, va, rfl, q1, q2, hpre, q3, hlen1, q5, hfr.trans q6, hway.fr q6, hkids, q4⟩
theorem TsAt.text {w W : World} {r r' : Nat → Role} {g off : Nat} {ts : List Tx} (h : TsAt w r (some ⟨g, off, none⟩) ts) (hf : MkFr w W r r') {j : Nat} (hj : j < ts.length) : W.cell? ⟨g, off + j, none⟩ = some (.string ⟨(ts.getD j []).toArray⟩) := by
  rcases h.fr hf with h | ⟨g', off', e, _, _, hc⟩
  · rw [h] at hj; simp at hj
  · cases e
    exact hc j hj
end Go.Proofs.Ytbkedgpligcicaa

namespace Go.Proofs.Ytbkedgpligcicaa
open Go Go.RowKit
set_option linter.unusedVariables false
set_option maxRecDepth 100000

open Classical in
/-- The roles behind a new state. -/
noncomputable def rNew (r : Nat → Role) (gS gB H : Nat) (va : Value) : Nat → Role := fun b => if b = gS then .st else if b = gB then .lst H else if va.ownBlock = some b then .arc else r b

theorem getD_last {α : Type} (l : List α) (x d : α) : (l ++ [x]).getD l.length d = x := by
  rw [List.getD_eq_getElem?_getD, List.getElem?_append_right (Nat.le_refl _)]; simp
theorem getD_left {α : Type} (l : List α) (x d : α) {j : Nat} (h : j < l.length) : (l ++ [x]).getD j d = l.getD j d := by
  rw [List.getD_eq_getElem?_getD, List.getElem?_append_left h, ← List.getD_eq_getElem?_getD]

/-- Behind the first of the two statements. -/
theorem push_one {base bm bb : Nat} {aT : Option Addr} {nT cT : Nat} {O : List (List Tx)} {W V w6 : World} {r : Nat → Role} {vS : Value} {vb : Nat → Value} {xs : List Value} {cs : Array Value} {gS cS : Nat} {zs : List Value}
    (hmk : MkAt W r base bm bb aT nT cT O vS vb xs cs) (hV : Below W.heap.size W V) (hown : w6.ownsRow base 82 2 (.slice (some ⟨gS, 0, none⟩) (O.length + 1) cS) (O.length + 1) zs) (hg : V.grownBy w6 vS.ownBlock) (hat : vS.ownBlock = some gS ∨ gS = V.heap.size) :
    w6.cell? ⟨bm, 1, none⟩ = some vS ∧ w6.frozen? ⟨bm, 1, none⟩ = false ∧ W.heap.size ≤ w6.heap.size ∧ (w6.setCell ⟨bm, 1, none⟩ (.slice (some ⟨gS, 0, none⟩) (O.length + 1) cS)).heap[bm]? = some (.cells #[.slice aT nT cT, .slice (some ⟨gS, 0, none⟩) (O.length + 1) cS, .slice none 0 0, .slice (some ⟨bb, 0, none⟩) 1024 1024] 112) ∧
      (w6.setCell ⟨bm, 1, none⟩ (.slice (some ⟨gS, 0, none⟩) (O.length + 1) cS)).ownsRow base 82 2 (.slice (some ⟨gS, 0, none⟩) (O.length + 1) cS) (O.length + 1) zs ∧
      (∀ b, b < W.heap.size → r b ≠ .mk → r b ≠ .st → (w6.setCell ⟨bm, 1, none⟩ (.slice (some ⟨gS, 0, none⟩) (O.length + 1) cS)).heap[b]? = W.heap[b]?) ∧ (gS < W.heap.size → r gS = .st) ∧ gS ≠ bm ∧ w6.os = W.os ∧ w6.tape = W.tape ∧ w6.output = W.output := by
  have hbm : bm < W.heap.size := (Array.getElem?_eq_some_iff.1 hmk.box).1
  have hblk : ∀ b, b < W.heap.size → vS.ownBlock ≠ some b → w6.heap[b]? = W.heap[b]? := fun b hb hne => (hg.block b (Nat.lt_of_lt_of_le hb hV.size) (fun e => hne e.symm)).trans (hV.block b hb)
  have hbmS : vS.ownBlock ≠ some bm := fun e => by have := hmk.rst bm e; rw [hmk.rbm] at this; cases this
  have hbox : w6.heap[bm]? = _ := (hblk bm hbm hbmS).trans hmk.box
  have hgr : gS < W.heap.size → r gS = .st := fun h => by
    rcases hat with e | e
    · exact hmk.rst gS e
    · have := hV.size; omega
  have hgb : gS ≠ bm := by
    rintro rfl
    have := hgr hbm
    rw [hmk.rbm] at this
    cases this
  refine ⟨blkc hbox 1, frozen_of_row w6 bm 1 _ _ hbox, Nat.le_trans hV.size hg.size, heap_set_same hbox 1 _, own_congr hown fun b hb => heap_set_other w6 bm 1 _ b (by cases hb; exact hgb), fun b hb h1 h2 => ?_, hgr, hgb, hg.os.trans hV.os, hg.tape.trans hV.tape, hg.output.trans hV.output⟩
  rw [heap_set_other w6 bm 1 _ b (by rintro rfl; exact h1 hmk.rbm)]
  exact hblk b hb fun e => h2 (hmk.rst b e)

/-- Behind both. -/
theorem push_two {base bm bb : Nat} {aT : Option Addr} {nT cT : Nat} {O : List (List Tx)} {L : List Tx} {W V w7 w8 : World} {r : Nat → Role} {vS : Value} {vb : Nat → Value} {xs : List Value} {cs : Array Value} {gS cS gB cB H : Nat} {a : Option Addr} {ca : Nat} {fin : Bool} {l : List Ar}
    (hmk : MkAt W r base bm bb aT nT cT O vS vb xs cs) (hok : OkO O) (hk : Kids O L) (hst : stOf O L = (fin, l)) (hH : mixOf (fin, l) = H) (hH2 : H < 1024)
    (hA : HoldA W a l) (hAr : ∀ b off, a = some ⟨b, off, none⟩ → r b = .oth ∧ b < W.heap.size ∧ (Value.slice a l.length ca).ownBlock = some b) (hvaO : ∀ b, (Value.slice a l.length ca).ownBlock = some b → r b = .oth ∧ b < W.heap.size)
    (hz7 : W.heap.size ≤ w7.heap.size) (hbox7 : w7.heap[bm]? = some (.cells #[.slice aT nT cT, .slice (some ⟨gS, 0, none⟩) (O.length + 1) cS, .slice none 0 0, .slice (some ⟨bb, 0, none⟩) 1024 1024] 112))
    (hown7 : w7.ownsRow base 82 2 (.slice (some ⟨gS, 0, none⟩) (O.length + 1) cS) (O.length + 1) (xs ++ [.bool fin, .slice a l.length ca]))
    (hk7 : ∀ b, b < W.heap.size → r b ≠ .mk → r b ≠ .st → w7.heap[b]? = W.heap[b]?) (hgS : gS < W.heap.size → r gS = .st) (hgSm : gS ≠ bm)
    (hV : Below w7.heap.size w7 V) (hown : w8.ownsRow base 3 1 (.slice (some ⟨gB, 0, none⟩) ((bkt (stM O) H).length + 1) cB) ((bkt (stM O) H).length + 1) (nV (bkt (stM O) H) ++ [.int .i64 (O.length : Int)])) (hg : V.grownBy w8 (vb H).ownBlock) (hat : (vb H).ownBlock = some gB ∨ gB = V.heap.size) (hlt : gB < w8.heap.size) :
    (∃ u, w8.cell? ⟨bb, H, none⟩ = some u) ∧ w8.frozen? ⟨bb, H, none⟩ = false ∧ W.heap.size ≤ w8.heap.size ∧
      (∀ b, b < W.heap.size → r b = .oth ∨ r b = .arc → (w8.setCell ⟨bb, H, none⟩ (.slice (some ⟨gB, 0, none⟩) ((bkt (stM O) H).length + 1) cB)).heap[b]? = W.heap[b]?) ∧
      MkAt (w8.setCell ⟨bb, H, none⟩ (.slice (some ⟨gB, 0, none⟩) ((bkt (stM O) H).length + 1) cB)) (rNew r gS gB H (.slice a l.length ca)) base bm bb aT nT cT (O ++ [L]) (.slice (some ⟨gS, 0, none⟩) (O.length + 1) cS) (fun h => if h = H then .slice (some ⟨gB, 0, none⟩) ((bkt (stM O) H).length + 1) cB else vb h) (xs ++ [.bool fin, .slice a l.length ca]) (cs.setIfInBounds H (.slice (some ⟨gB, 0, none⟩) ((bkt (stM O) H).length + 1) cB)) ∧
      (∀ b, b < W.heap.size → (Value.slice a l.length ca).ownBlock ≠ some b → rNew r gS gB H (.slice a l.length ca) b = r b) ∧ w8.heap[bm]? = some (.cells #[.slice aT nT cT, .slice (some ⟨gS, 0, none⟩) (O.length + 1) cS, .slice none 0 0, .slice (some ⟨bb, 0, none⟩) 1024 1024] 112) ∧ bm ≠ bb := by
  have hbbW : bb < W.heap.size := (Array.getElem?_eq_some_iff.1 hmk.bks).1
  have hbmW : bm < W.heap.size := (Array.getElem?_eq_some_iff.1 hmk.box).1
  have hbH := (hmk.lst H hH2).2
  have hltH : ∀ b, (vb H).ownBlock = some b → b < W.heap.size := fun b hb => ((hmk.lst H hH2).1.lt b hb).2
  have hgS7 : gS < w7.heap.size := (hown7.lt gS rfl).2
  have hgBr : gB < W.heap.size → r gB = .lst H := fun h => by
    rcases hat with e | e
    · exact hbH gB e
    · have := hV.size; omega
  have hblk8 : ∀ b, b < w7.heap.size → (vb H).ownBlock ≠ some b → w8.heap[b]? = w7.heap[b]? := fun b hb hne => (hg.block b (Nat.lt_of_lt_of_le hb hV.size) (fun e => hne e.symm)).trans (hV.block b hb)
  have hz8 : W.heap.size ≤ w8.heap.size := Nat.le_trans hz7 (Nat.le_trans hV.size hg.size)
  have rne : ∀ {x y : Nat} {p q : Role}, r x = p → r y = q → p ≠ q → x ≠ y := fun h1 h2 hne e => hne (by rw [← h1, ← h2, e])
  have hbmb : bm ≠ bb := rne hmk.rbm hmk.rbb (by simp)
  have hHbb : (vb H).ownBlock ≠ some bb := fun e => absurd (hbH bb e) (by rw [hmk.rbb]; simp)
  have hHbm : (vb H).ownBlock ≠ some bm := fun e => absurd (hbH bm e) (by rw [hmk.rbm]; simp)
  have hHgS : (vb H).ownBlock ≠ some gS := fun e => absurd (hbH gS e) (by rw [hgS (hltH gS e)]; simp)
  have hgBbb : gB ≠ bb := fun e => absurd (hgBr (by omega)) (by rw [e, hmk.rbb]; simp)
  have hgBbm : gB ≠ bm := fun e => absurd (hgBr (by omega)) (by rw [e, hmk.rbm]; simp)
  have hgSbb : gS ≠ bb := fun e => absurd (hgS (by omega)) (by rw [e, hmk.rbb]; simp)
  have hgBgS : gB ≠ gS := fun e => by
    rcases hat with e2 | e2
    · rw [e] at e2; exact hHgS e2
    · have := hV.size; omega
  have hbks8 : w8.heap[bb]? = some (.cells cs 66) := ((hblk8 bb (by omega) hHbb).trans (hk7 bb hbbW (by rw [hmk.rbb]; simp) (by rw [hmk.rbb]; simp))).trans hmk.bks
  have hset : ∀ b, b ≠ bb → ∀ u, (w8.setCell ⟨bb, H, none⟩ u).heap[b]? = w8.heap[b]? := fun b hb u => heap_set_other w8 bb H u b hb
  have hkeep : ∀ b, b < W.heap.size → r b ≠ .mk → r b ≠ .st → r b ≠ .bk → r b ≠ .lst H → ∀ u, (w8.setCell ⟨bb, H, none⟩ u).heap[b]? = W.heap[b]? := fun b hb h1 h2 h3 h4 u => by
    rw [hset b (by rintro rfl; exact h3 hmk.rbb), hblk8 b (by omega) (fun e => h4 (hbH b e)), hk7 b hb h1 h2]
  have hR : ∀ b, b < W.heap.size → (Value.slice a l.length ca).ownBlock ≠ some b → rNew r gS gB H (.slice a l.length ca) b = r b := fun b hb hva => by
    unfold rNew
    by_cases e1 : b = gS
    · rw [if_pos e1, e1, hgS (by omega)]
    · rw [if_neg e1]
      by_cases e2 : b = gB
      · rw [if_pos e2, e2, hgBr (by omega)]
      · rw [if_neg e2, if_neg hva]
  have hR2 : ∀ b, b < W.heap.size → r b ≠ .oth → rNew r gS gB H (.slice a l.length ca) b = r b := fun b hb hr => hR b hb fun e => hr (hvaO b e).1
  have hSn := stM_snoc hok hk
  rw [hst] at hSn
  have hxl : xs.length = O.length * 2 := hmk.row.1
  have hSl : (stM O).length = O.length := stM_len O
  refine ⟨⟨vb H, by rw [blkc hbks8 H]; exact hmk.cat H hH2⟩, frozen_of_row w8 bb H _ _ hbks8, hz8, fun b hb hr => hkeep b hb (by rcases hr with e | e <;> rw [e] <;> simp) (by rcases hr with e | e <;> rw [e] <;> simp) (by rcases hr with e | e <;> rw [e] <;> simp) (by rcases hr with e | e <;> rw [e] <;> simp) _, ⟨?_, ?_, ?_, hmk.lbm, hmk.lbb, heap_set_same hbks8 H _, by simpa using hmk.csz, fun h hh => ?_, fun h hh => ?_, ?_, fun b hb => ?_, fun j hj => ?_, fun b hb => ?_⟩, hR, (hblk8 bm (by omega) hHbm).trans hbox7, hbmb⟩
  · rw [hset bm hbmb, hblk8 bm (by omega) hHbm]; exact hbox7
  · rw [hR2 bm hbmW (by rw [hmk.rbm]; simp)]; exact hmk.rbm
  · rw [hR2 bb hbbW (by rw [hmk.rbb]; simp)]; exact hmk.rbb
  · by_cases e : h = H
    · subst e
      rw [if_pos rfl, Array.getElem?_setIfInBounds_self_of_lt (by rw [hmk.csz]; exact hh)]
    · rw [if_neg e, Array.getElem?_setIfInBounds_ne (fun e2 => e e2.symm)]
      exact hmk.cat h hh
  · rw [hSn, bkt_snoc, hH, hSl]
    by_cases e : h = H
    · subst e
      rw [if_pos rfl, if_pos rfl]
      refine ⟨?_, fun b hb => ?_⟩
      · have e2 : nV (bkt (stM O) h ++ [O.length]) = nV (bkt (stM O) h) ++ [.int .i64 (O.length : Int)] := by simp [nV]
        rw [e2, List.length_append]
        exact own_congr hown fun b hb => hset b (by cases hb; exact hgBbb) _
      · cases hb
        unfold rNew
        rw [if_neg hgBgS, if_pos rfl]
    · rw [if_neg e, if_neg (fun e2 => e e2.symm), List.append_nil]
      refine ⟨own_congr (hmk.lst h hh).1 fun b hb => ?_, fun b hb => ?_⟩
      · have h1 := (hmk.lst h hh).2 b hb
        exact hkeep b ((hmk.lst h hh).1.lt b hb).2 (by rw [h1]; simp) (by rw [h1]; simp) (by rw [h1]; simp) (by rw [h1]; simpa using e) _
      · have h1 := (hmk.lst h hh).2 b hb
        rw [hR2 b ((hmk.lst h hh).1.lt b hb).2 (by rw [h1]; simp)]
        exact h1
  · rw [List.length_append]
    exact own_congr hown7 fun b hb => by
      cases hb
      rw [hset gS hgSbb, hblk8 gS hgS7 hHgS]
  · cases hb
    unfold rNew
    rw [if_pos rfl]
  · rw [hSn]
    rw [List.length_append, List.length_singleton] at hj
    by_cases e : j < O.length
    · obtain ⟨h1, aj, cj, h2, h3, h4⟩ := hmk.sts j e
      rw [getD_left _ _ _ (by rw [hSl]; exact e), List.getElem?_append_left (by omega), List.getElem?_append_left (by omega)]
      refine ⟨h1, aj, cj, h2, h3.keep (by simpa using hz8) fun b off e2 hb => ?_, fun b off e2 => ?_⟩
      · have h5 := h4 b off e2
        exact hkeep b hb (by rw [h5]; simp) (by rw [h5]; simp) (by rw [h5]; simp) (by rw [h5]; simp) _
      · have h5 := h4 b off e2
        have hbl : b < W.heap.size := by
          rcases Nat.lt_or_ge b W.heap.size with h6 | h6
          · exact h6
          · have := hmk.new b h6; rw [h5] at this; cases this
        rw [hR2 b hbl (by rw [h5]; simp)]
        exact h5
    · obtain rfl : j = O.length := by omega
      have e1 : (stM O ++ [(fin, l)]).getD O.length st0 = (fin, l) := by have := getD_last (stM O) (fin, l) st0; rw [hSl] at this; exact this
      rw [e1, List.getElem?_append_right (by omega), List.getElem?_append_right (by omega), show O.length * 2 - xs.length = 0 from by omega, show O.length * 2 + 1 - xs.length = 1 from by omega]
      refine ⟨rfl, a, ca, rfl, hA.keep (by simpa using hz8) fun b off e2 hb => ?_, fun b off e2 => ?_⟩
      · have h5 := (hAr b off e2).1
        exact hkeep b hb (by rw [h5]; simp) (by rw [h5]; simp) (by rw [h5]; simp) (by rw [h5]; simp) _
      · obtain ⟨h5, h6, h7⟩ := hAr b off e2
        unfold rNew
        rw [if_neg (fun e3 => absurd (hgS (by omega)) (by rw [← e3, h5]; simp)), if_neg (fun e3 => absurd (hgBr (by omega)) (by rw [← e3, h5]; simp)), if_pos h7]
  · have hb8 : w8.heap.size ≤ b := by simpa using hb
    have h78 := Nat.le_trans hV.size hg.size
    unfold rNew
    rw [if_neg (by omega), if_neg (by omega), if_neg (fun e => by have := (hvaO b e).2; omega)]
    exact hmk.new b (by omega)
end Go.Proofs.Ytbkedgpligcicaa
