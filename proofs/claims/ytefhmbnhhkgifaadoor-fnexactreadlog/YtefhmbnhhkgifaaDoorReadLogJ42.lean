import Derived.Test.YtefhmbnhhkgifaaDoorReadLogJ36
import Derived.Test.YtefhmbnhhkgifaaDoorReadLogJ41
import Derived.Test.YtefhmbnhhkgifaaDoorReadLogJ27
import Derived.Test.YtefhmbnhhkgifaaDoorReadLogJ18
namespace Go.Proofs.YtefhmbnhhkgifaaDoor
open Go Go.RowKit
set_option linter.unusedVariables false
set_option linter.unusedSimpArgs false
set_option maxRecDepth 100000

/-- What l14Next has in memory. -/
structure SO (w0 W : World) (kd sq : Int) (id did : List UInt8) (a : Option Addr) (n c : Nat) : Prop where
  old : Below w0.heap.size w0 W
  res : W.heap[w0.heap.size]? = some (.cells #[.int .i64 0, .int .i64 0, .string ⟨#[]⟩, .string ⟨#[]⟩, .slice none 0 0] 36)
  rcd : W.heap[w0.heap.size + 1]? = some (.cells #[.int .i64 kd, .int .i64 sq, .string ⟨id.toArray⟩, .string ⟨did.toArray⟩, .slice a n c] 36)
theorem SO.lt {w0 W : World} {kd sq : Int} {id did : List UInt8} {a : Option Addr} {n c : Nat} (h : SO w0 W kd sq id did a n c) : w0.heap.size + 1 < W.heap.size := (Array.getElem?_eq_some_iff.1 h.rcd).1
theorem SO.below {w0 W W' : World} {kd sq : Int} {id did : List UInt8} {a : Option Addr} {n c : Nat} (h : SO w0 W kd sq id did a n c) (hb : Below W.heap.size W W') : SO w0 W' kd sq id did a n c :=
  ⟨h.old.trans (hb.mono h.old.size), blko h.res hb, blko h.rcd hb⟩
theorem SO.set {w0 W : World} {kd sq kd' sq' : Int} {id did id' did' : List UInt8} {a a' : Option Addr} {n c n' c' : Nat} (h : SO w0 W kd sq id did a n c) (k : Nat) (u : Value) (hk : (#[.int .i64 kd, .int .i64 sq, .string ⟨id.toArray⟩, .string ⟨did.toArray⟩, .slice a n c] : Array Value).setIfInBounds k u = #[.int .i64 kd', .int .i64 sq', .string ⟨id'.toArray⟩, .string ⟨did'.toArray⟩, .slice a' n' c']) : SO w0 (W.setCell ⟨w0.heap.size + 1, k, none⟩ u) kd' sq' id' did' a' n' c' := by
  refine ⟨h.old.setCell (p := ⟨w0.heap.size + 1, k, none⟩) (by dsimp only; omega) _, (heap_set_other _ _ _ _ _ (by omega)).trans h.res, ?_⟩
  rw [blk_setk h.rcd, hk]
/-- What l14Next comes to. -/
def NxP (w0 : World) (bs : List UInt8) (k q : Nat) (e : Ending) (w' : World) : Prop := Below w0.heap.size w0 w' ∧ ∃ (kd sq : Int) (id did : List UInt8) (aV : Option Addr) (cV : Nat) (V : List Vl) (xs : List Value) (lo en : Nat) (ok : Bool), e = .returned (.tuple #[.agg #[.int .i64 kd, .int .i64 sq, .string ⟨id.toArray⟩, .string ⟨did.toArray⟩, .slice aV V.length cV], .int .i64 (en : Int), .bool ok]) ∧ w0.heap.size ≤ lo ∧ AnsV w' lo w'.heap.size (.slice aV V.length cV) V xs ∧ en ≤ bs.length ∧
  ((ok = true ∧ nextR (bs.drop k) q = some ((kd, sq, id, (did, V)), bs.drop en)) ∨ (ok = false ∧ nextR (bs.drop k) q = none))
/-- A way out without a record. -/
theorem SO.no {w0 W : World} {kd sq : Int} {id did : List UInt8} {aV : Option Addr} {cV : Nat} {V : List Vl} {xs : List Value} {lo : Nat} {bs : List UInt8} {k q : Nat} (h : SO w0 W kd sq id did aV V.length cV) (hlo : w0.heap.size < lo) (ha : AnsV W lo W.heap.size (.slice aV V.length cV) V xs) (hno : nextR (bs.drop k) q = none) :
    NxP w0 bs k q (.returned (.tuple #[.agg #[.int .i64 kd, .int .i64 sq, .string ⟨id.toArray⟩, .string ⟨did.toArray⟩, .slice aV V.length cV], .int .i64 0, .bool false])) (setRec W w0.heap.size kd sq id did aV V.length cV) :=
  ⟨setRec_below h.old (Nat.le_refl _) _ _ _ _ _ _ _, kd, sq, id, did, aV, cV, V, xs, lo, 0, false, rfl, by omega, by rw [setRec_size]; exact ha.keep fun b h1 h2 => setRec_oth _ _ _ _ _ _ _ _ _ _ (by omega), by omega, Or.inr ⟨rfl, hno⟩⟩
theorem SO.yes {w0 W : World} {kd sq : Int} {id did : List UInt8} {aV : Option Addr} {cV : Nat} {V : List Vl} {xs : List Value} {lo en : Nat} {bs : List UInt8} {k q : Nat} (h : SO w0 W kd sq id did aV V.length cV) (hlo : w0.heap.size < lo) (ha : AnsV W lo W.heap.size (.slice aV V.length cV) V xs) (hen : en ≤ bs.length) (hy : nextR (bs.drop k) q = some ((kd, sq, id, (did, V)), bs.drop en)) :
    NxP w0 bs k q (.returned (.tuple #[.agg #[.int .i64 kd, .int .i64 sq, .string ⟨id.toArray⟩, .string ⟨did.toArray⟩, .slice aV V.length cV], .int .i64 (en : Int), .bool true])) (setRec W w0.heap.size kd sq id did aV V.length cV) :=
  ⟨setRec_below h.old (Nat.le_refl _) _ _ _ _ _ _ _, kd, sq, id, did, aV, cV, V, xs, lo, en, true, rfl, by omega, by rw [setRec_size]; exact ha.keep fun b h1 h2 => setRec_oth _ _ _ _ _ _ _ _ _ _ (by omega), hen, Or.inl ⟨rfl, hy⟩⟩
/-! The next record, once more in l14Next's words. -/
theorem nextR_n1 {r : List UInt8} {q : Nat} (h : getL r = none) : nextR r q = none := by
  unfold nextR rdN; rw [h]
theorem nextR_n2 {r : List UInt8} {q v s : Nat} (h : getL r = some (v, s)) (hv : v < 2 ∨ (r.drop s).length < v + 4) : nextR r q = none := by
  unfold nextR rdN
  rw [h]
  simp only
  split
  · rfl
  · rename_i n r' hq
    split at hq
    · simp only [Option.some.injEq, Prod.mk.injEq] at hq
      obtain ⟨rfl, rfl⟩ := hq
      split
      · rename_i hc
        have hv2 : v < 2 := by omega
        have hp : partR ((r.drop s).take v) = none := by
          match v, hv2 with
          | 0, _ => rfl
          | 1, _ =>
            cases hx : r.drop s with
            | nil => rfl
            | cons x t => rfl
        rw [hp]
      · rfl
    · simp at hq
theorem nextR_go {r : List UInt8} {q v s : Nat} {k : UInt8} {t : List UInt8} (h : getL r = some (v, s)) (h2 : v + 4 ≤ (r.drop s).length) (hm : v ≤ 1048576) (hp : (r.drop s).take v = k :: t) : nextR r q = if four (sumL (k :: t)) = ((r.drop s).drop v).take 4 then (match partR (k :: t) with
      | none => none
      | some x => if x.2.1 = (q : Int) then some (x, r.drop (s + v + 4)) else none) else none := by
  have e : (r.drop s).drop (v + 4) = r.drop (s + v + 4) := by rw [List.drop_drop]; congr 1
  unfold nextR rdN
  rw [h]
  simp only [if_pos hm, hp, e]
  by_cases h4 : four (sumL (k :: t)) = ((r.drop s).drop v).take 4
  · rw [if_pos ⟨h2, h4⟩, if_pos h4]
    cases partR (k :: t) <;> rfl
  · rw [if_neg (fun e => h4 e.2), if_neg h4]
theorem partR_n {k : UInt8} {t : List UInt8} (h : getL t = none) : partR (k :: t) = none := by simp only [partR, h]
theorem partR_seq {k : UInt8} {t : List UInt8} {s c : Nat} {x : Rc} (h : getL t = some (s, c)) (hx : partR (k :: t) = some x) : x.2.1 = (s : Int) := by
  simp only [partR, h] at hx
  split at hx
  · split at hx
    · simp at hx
    · split at hx
      · simp only [Option.some.injEq] at hx; rw [← hx]
      · simp at hx
  · split at hx
    · simp only [Option.some.injEq] at hx; rw [← hx]
    · simp at hx
theorem partR_p {k : UInt8} {t : List UInt8} {s c : Nat} (h : getL t = some (s, c)) (hk : k.toNat = 1) : partR (k :: t) = match readO (t.drop c) with
    | none => none
    | some d => if rcOK (1, (s : Int), [], d) then some (1, (s : Int), [], d) else none := by
  simp only [partR, h, if_pos hk]
  cases readO (t.drop c) <;> rfl
theorem partR_d {k : UInt8} {t : List UInt8} {s c : Nat} (h : getL t = some (s, c)) (hk : k.toNat ≠ 1) : partR (k :: t) = if rcOK ((k.toNat : Int), (s : Int), t.drop c, ([], [])) then some ((k.toNat : Int), (s : Int), t.drop c, ([], [])) else none := by
  simp only [partR, h, if_neg hk]
theorem rcOK_kind {kd sq : Int} {id did : List UInt8} {V : List Vl} (h : rcOK (kd, sq, id, (did, V)) = true) : (kd = 1 ∨ kd = 2) ∧ (∃ q : Nat, sq = (q : Int) ∧ 1 ≤ q ∧ q < 4611686018427387904) ∧ (kd = 1 → dcOK (did, V) = true) ∧ id.length ≤ 30 := by
  simp only [rcOK, Bool.and_eq_true, seqOK, decide_eq_true_eq] at h
  obtain ⟨⟨h1, h2⟩, h3⟩ := h
  refine ⟨?_, ⟨sq.toNat, by omega, by omega, by omega⟩, fun hk => ?_, ?_⟩
  · split at h3
    · exact Or.inl ‹_›
    · simp only [Bool.and_eq_true, decide_eq_true_eq] at h3; exact Or.inr h3.1.1.1
  · rw [if_pos hk] at h3
    simp only [Bool.and_eq_true, decide_eq_true_eq] at h3; exact h3.2
  · split at h3
    · simp only [Bool.and_eq_true, decide_eq_true_eq] at h3; omega
    · simp only [Bool.and_eq_true, decide_eq_true_eq, idV] at h3; omega
theorem rbx_convO (W : World) (ρ : Operand → Value) (o : Oper) (x : Operand) (ho : o.op = .convert 22 9 x) (b off n c : Nat) (l : List UInt8) (hl : l.length = n) (hx : ρ x = .slice (some ⟨b, off, none⟩) n c) (hB : BytesAt W b off l) : (execOp ρ o).run Tryd.prog W = .ok (.value (.string ⟨l.toArray⟩)) W := by
  have h := conv_take (W := W) (a := some ⟨b, off, none⟩) (n := n) (c := c) (l := l) hl (Or.inr ⟨b, off, rfl, hB⟩)
  unfold execOp
  simp only [ho, hx, Sem.run_bind, Sem.run_pure, h, Result.andThen_ok]
theorem BytesAt.takeR {w : World} {b off : Nat} {bs : List UInt8} (h : BytesAt w b off bs) (k : Nat) : BytesAt w b off (bs.take k) := fun t ht => by
  rw [List.length_take] at ht
  have := h t (by omega)
  rw [this]
  simp [List.getD_eq_getElem?_getD, List.getElem?_take, show t < k by omega]
/-- The bytes of a whole record as they stand in a log. -/
theorem log_part {bs : List UInt8} {k v s F E : Nat} {kb : UInt8} {t : List UInt8} (hg : getL (bs.drop k) = some (v, s)) (hF : k + s = F) (hE : F + v + 4 = E) (hl : E ≤ bs.length) (hp : (bs.drop F).take v = kb :: t) : (bs.drop k).take (E - k) = putL v ++ (kb :: t) ++ ((bs.drop F).drop v).take 4 := by
  have hi := getL_inv hg
  have h1 : bs.drop k = putL v ++ bs.drop F := by
    rw [← hi.1, ← hF, ← List.drop_drop, List.take_append_drop]
  have h2 : bs.drop F = (kb :: t) ++ (bs.drop F).drop v := by rw [← hp, List.take_append_drop]
  have hs : (putL v).length = s := hi.2.2.symm
  have ht : (kb :: t).length = v := by rw [← hp, List.length_take, List.length_drop]; omega
  have h3 : ∀ (A B C : List UInt8) (m : Nat), (A ++ B ++ C).take (A.length + B.length + m) = A ++ B ++ C.take m := fun A B C m => by
    rw [← List.length_append, List.take_length_add_append]
  have h4 : E - k = (putL v).length + (kb :: t).length + 4 := by omega
  rw [h4, h1]
  conv => lhs; rw [h2]
  rw [← List.append_assoc, h3]
end Go.Proofs.YtefhmbnhhkgifaaDoor
