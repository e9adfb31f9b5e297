import Derived.Test.YtjndogajdlophaaReadDictJ17
import Derived.Test.YtjndogajdlophaaReadDictJ13
import Derived.Test.YtjndogajdlophaaReadDictJ10
import Derived.Test.YtjndogajdlophaaReadDictJ01
import Derived.Test.YtjndogajdlophaaReadDictJ14
namespace Go.Proofs.Ytjndogajdlophaa
open Go Go.RowKit
set_option linter.unusedVariables false
set_option maxRecDepth 100000

/-- What both have to do. -/
def ReadC (fn : Nat) : Prop := ∀ (b off cap : Nat) (bs : List UInt8) (w : World), bs.length ≤ 9223372036854775807 → bs.length ≤ cap → BytesAt w b off bs → b < w.heap.size →
  Calls Try.prog fn #[.slice (some ⟨b, off, none⟩) bs.length cap] w fun e w' => ∃ a c, e = .returned (.tuple #[.agg #[.int .i64 (readO bs).1.1, .slice a (readO bs).1.2.length c], .int .i64 (readO bs).2]) ∧ HoldS w' a (readO bs).1.2 ∧ Below w.heap.size w w'
theorem readO_long {bs : List UInt8} (h : 1048576 < bs.length) : readO bs = ((0, []), 2) := by unfold readO; rw [if_pos h]
theorem readO_none {bs : List UInt8} (h : ¬ 1048576 < bs.length) (hd : readD bs = none) : readO bs = ((0, []), 15) := by unfold readO; rw [if_neg h, hd]
theorem readO_some {bs : List UInt8} {d : Int × List St} (h : ¬ 1048576 < bs.length) (hd : readD bs = some d) : readO bs = (d, 0) := by unfold readO; rw [if_neg h, hd]
def upG (L : List Tx) (i : Nat) : Prop := upTo L i ∧ ∀ j, j < i → 1 ≤ (L.getD j []).length
theorem upG_zero (L : List Tx) : upG L 0 := ⟨upTo_zero L, fun j h => by omega⟩
theorem upG_step {L : List Tx} {i : Nat} (h : upG L i) (h0 : 1 ≤ (L.getD i []).length) (h1 : (L.getD i []).length ≤ 64) (h2 : 0 < i → ltT (L.getD (i - 1) []) (L.getD i []) = true) : upG L (i + 1) :=
  ⟨upTo_step h.1 h1 h2, fun j hj => by
    by_cases e : j = i
    · rw [e]; exact h0
    · exact h.2 j (by omega)⟩
theorem upG_good {L : List Tx} (h : upG L L.length) (hl : L.length ≤ 4096) : GoodT L :=
  ⟨upTo_rise h.1, hl, fun t ht => ⟨by
    obtain ⟨j, hj, rfl⟩ := List.getElem_of_mem ht
    have := h.2 j hj
    rwa [List.getD_eq_getElem?_getD, List.getElem?_eq_getElem hj] at this, upTo_short h.1 t ht⟩⟩
theorem good_upG {L : List Tx} (h : GoodT L) : upG L L.length := ⟨good_upTo h, fun j hj => by
  rw [List.getD_eq_getElem?_getD, List.getElem?_eq_getElem hj]
  exact (h.2.2 _ (List.getElem_mem hj)).1⟩
theorem dict_fine {L : List Tx} {ord : List (List Tx)} (ho : IsBfs nextT L ord) : Fine (dictOf L ord).2 := by
  have hl : (dictOf L ord).2.length = ord.length := by simp [dictOf]
  intro i hi
  rw [hl] at hi
  have e : arcsAt (dictOf L ord).2 i = (stOf ord ord[i]).2 := by simp [arcsAt, dictOf, hi]
  rw [e, hl]
  refine ⟨by have := labelsT_len ord[i]; simpa [stOf] using this, fun a ha => ?_⟩
  obtain ⟨n, hn, rfl⟩ := List.mem_map.1 ha
  have h1 := (labelsT_mem.1 hn).1
  have h2 : ord.idxOf (subT n ord[i]) < ord.length := List.idxOf_lt_length_of_mem (dict_next ho (List.getElem_mem hi) hn)
  unfold ArcIn
  refine ⟨by show (0 : Int) ≤ (n : Int); omega, by show (n : Int) ≤ 255; omega, by show (0 : Int) ≤ ((ord.idxOf (subT n ord[i]) : Nat) : Int); omega, ?_⟩
  show ((ord.idxOf (subT n ord[i]) : Nat) : Int).toNat < ord.length
  omega
/-- A box of two that is written over. -/
theorem box_ret {w W : World} {x y x' y' : Value} {t : TypeId} (h : Below w.heap.size w W) (hb : W.heap[w.heap.size]? = some (.cells #[x, y] t)) :
    Below w.heap.size w ((W.setCell ⟨w.heap.size, 0, none⟩ x').setCell ⟨w.heap.size, 1, none⟩ y') ∧ ((W.setCell ⟨w.heap.size, 0, none⟩ x').setCell ⟨w.heap.size, 1, none⟩ y').heap[w.heap.size]? = some (.cells #[x', y'] t) :=
  ⟨(h.setCell (p := ⟨w.heap.size, 0, none⟩) (Nat.le_refl _) _).setCell (p := ⟨w.heap.size, 1, none⟩) (Nat.le_refl _) _, blk_set2 hb⟩
theorem HoldS.away {W W' : World} {a : Option Addr} {S : List St} {B n y z : Nat} {x : Option Addr} {i0 : Int} {t : TypeId} (h : HoldS W a S) (hz : W.heap.size ≤ W'.heap.size) (hB : W.heap[B]? = some (.cells #[.int .i64 i0, .slice x y z] t)) (hk : ∀ b, b ≠ B → W'.heap[b]? = W.heap[b]?) : HoldS W' a S := by
  have hcB : ∀ (j : Nat) (v : Value), W.cell? ⟨B, j, none⟩ = some v → (j = 0 ∧ v = .int .i64 i0) ∨ (j = 1 ∧ v = .slice x y z) := fun j v hv => by
    rw [blkc hB j] at hv
    match j, hv with
    | 0, hv => left; exact ⟨rfl, by simpa using hv.symm⟩
    | 1, hv => right; exact ⟨rfl, by simpa using hv.symm⟩
    | j + 2, hv => simp at hv
  have hA : ∀ (ai : Option Addr) (l : List Ar), HoldA W ai l → HoldA W' ai l := fun ai l hl => by
    rcases hl with hl | ⟨b, off, e, hb, hc⟩
    · exact Or.inl hl
    · by_cases hl0 : l = []
      · exact Or.inl hl0
      · have hp : 0 < l.length := List.length_pos_iff.2 hl0
        obtain ⟨c0, c1, c2⟩ := hc 0 hp
        have hne : b ≠ B := by
          rintro rfl
          rcases hcB _ _ c2 with ⟨h1, _⟩ | ⟨h1, h2⟩
          · omega
          · omega
        refine HoldA.keep (Or.inr ⟨b, off, e, hb, hc⟩) hz fun b' off' e' _ => ?_
        rw [e] at e'
        cases e'
        exact hk b hne
  rcases h with h | ⟨b, off, ha, hbl, h⟩
  · exact Or.inl h
  · by_cases hS0 : S = []
    · exact Or.inl hS0
    · have hp : 0 < S.length := List.length_pos_iff.2 hS0
      have hne : b ≠ B := by
        rintro rfl
        rcases hcB _ _ (h 0 hp).1 with ⟨_, h2⟩ | ⟨_, h2⟩ <;> cases h2
      refine Or.inr ⟨b, off, ha, Nat.lt_of_lt_of_le hbl hz, fun i hi => ?_⟩
      obtain ⟨h1, ai, ci, h2, h3⟩ := h i hi
      have e : ∀ j, W'.cell? ⟨b, j, none⟩ = W.cell? ⟨b, j, none⟩ := fun j => by simp [World.cell?, hk b hne]
      rw [e, e]
      exact ⟨h1, ai, ci, h2, hA ai _ h3⟩
theorem HoldS.put2 {W : World} {a : Option Addr} {S : List St} {x' y' : Value} {B y z : Nat} {x : Option Addr} {i0 : Int} {t : TypeId} (h : HoldS W a S) (hb : W.heap[B]? = some (.cells #[.int .i64 i0, .slice x y z] t)) : HoldS ((W.setCell ⟨B, 0, none⟩ x').setCell ⟨B, 1, none⟩ y') a S :=
  h.away (n := 0) (by simp) hb fun b hb => (heap_set_other _ B 1 _ b hb).trans (heap_set_other W B 0 _ b hb)
theorem str_ne (x y : List UInt8) : ((⟨x.toArray⟩ : ByteArray).toList != (⟨y.toArray⟩ : ByteArray).toList) = !(decide (x = y)) := by
  rw [Lib.toList_data, Lib.toList_data]
  by_cases h : x = y <;> simp [h]
end Go.Proofs.Ytjndogajdlophaa

namespace Go.Proofs.Ytjndogajdlophaa
open Go Go.RowKit
set_option linter.unusedVariables false
set_option linter.unusedSimpArgs false
set_option maxRecDepth 100000

/-! The operations of one region of impl.DictBytes, by hand. -/
theorem dbx_field0 (W : World) (ρ : Operand → Value) (o : Oper) (x : Operand) (ho : o.op = .fieldAddr 110 x 0) (b : Nat) (hx : ρ x = .pointer (some ⟨b, 0, none⟩)) : (execOp ρ o).run Try.prog W = .ok (.value (.pointer (some ⟨b, 0, none⟩))) W := by
  unfold execOp
  simp only [ho, hx, Sem.run_bind, Sem.run_pure, Result.andThen_ok]
  go_simp
theorem dbx_field1 (W : World) (ρ : Operand → Value) (o : Oper) (x : Operand) (ho : o.op = .fieldAddr 110 x 1) (b : Nat) (hx : ρ x = .pointer (some ⟨b, 0, none⟩)) : (execOp ρ o).run Try.prog W = .ok (.value (.pointer (some ⟨b, 1, none⟩))) W := by
  unfold execOp
  simp only [ho, hx, Sem.run_bind, Sem.run_pure, Result.andThen_ok]
  go_simp
theorem dbx_loadI (W : World) (ρ : Operand → Value) (o : Oper) (x : Operand) (ho : o.op = .load 3 x) (b off : Nat) (n : Int) (hx : ρ x = .pointer (some ⟨b, off, none⟩)) (h0 : W.cell? ⟨b, off, none⟩ = some (.int .i64 n)) : (execOp ρ o).run Try.prog W = .ok (.value (.int .i64 n)) W := by
  unfold execOp
  simp only [ho, Instr.loadAt, Instr.sureAddr, hx, Sem.run_bind, Sem.run_pure, Result.andThen_ok]
  go_simp
theorem dbx_conv (W : World) (ρ : Operand → Value) (o : Oper) (x : Operand) (ho : o.op = .convert 3 5 x) (n : Int) (hw : IntKind.u8.wrap n = n) (hx : ρ x = .int .i64 n) : (execOp ρ o).run Try.prog W = .ok (.value (.int .u8 n)) W := by
  unfold execOp
  simp only [ho, hx, Sem.run_bind, Sem.run_pure, Result.andThen_ok]
  go_simp
theorem dbx_build (W : World) (ρ : Operand → Value) (o : Oper) (x : Operand) (ho : o.op = .buildSlice 34 1 #[(0, x)]) (n : Int) (hx : ρ x = .int .u8 n) :
    (execOp ρ o).run Try.prog W = .ok (.value (.slice (some ⟨W.heap.size, 0, none⟩) 1 1)) (W.alloc (.cells #[.int .u8 n] 5)) := by
  unfold execOp
  simp only [ho, hx, Sem.run_bind, Sem.run_pure, Result.andThen_ok]
  go_simp
theorem dbx_assign (W : World) (ρ : Operand → Value) (o : Oper) (x : Operand) (ho : o.op = .assign x) (v : Value) (hx : ρ x = v) : (execOp ρ o).run Try.prog W = .ok (.value v) W := by
  unfold execOp
  simp only [ho, Sem.run_pure, hx]
theorem dbx_call2 (W : World) (a : Act) (o : Oper) (f : FuncId) (x y : Operand) (t u : TypeId) (ho : o.op = .call { callee := .value (.func f), args := #[x, y], argTypes := #[t, u] }) (v z : Value) (hx : a.eval x = v) (hy : a.eval y = z)
    (hf : (callFunc f #[v, z]).run Try.prog W = .ok (.enter f #[v, z]) W) : (execOp a.eval o).run Try.prog W = .ok (.enter f #[v, z]) W := by
  have hfn : a.eval (.func f) = .func (.func f) #[] #[] := rfl
  unfold execOp
  simp [ho, resolve, invoke, Deferred.ofValue, hfn, hx, hy, hf]
section
variable {ops : Array Oper} {Q : Exit → Act → World → Prop} {K : Act → World → Prop} {a : Act} {w : World}
theorem mkOp_call {i : Nat} {o : Oper} (f : FuncId) (args : Array Value) (hi : ops[i]? = some o) (hw : Region.wanted o (yielded ops a.tmps) = true) (ho : (execOp a.eval o).run Try.prog w = .ok (.enter f args) w)
    (h : Calls Try.prog f args w fun e w' => match e, w' with
      | .returned v, w'' => K (a.put o.dst v) w''
      | .panicked c, w'' => Q (.panic c) a w''
      | .outgrown, _ => LetsOut Q) : wpOp Try.prog ops Q i K a w := by
  unfold wpOp
  simp only [hi, hw, if_true, Oper.wp, ho, Oper.upon]
  exact .inl h
end
end Go.Proofs.Ytjndogajdlophaa

namespace Go.Proofs.Ytjndogajdlophaa
open Go Go.RowKit
set_option linter.unusedVariables false
set_option linter.unusedSimpArgs false
set_option maxRecDepth 100000

def BytesC (fn : Nat) : Prop := ∀ (c : Int) (a : Option Addr) (cap : Nat) (S : List St) (w : World), S.length ≤ 1048576 → (∀ i, (arcsAt S i).length ≤ 1048576) → HoldS w a S →
  Calls Try.prog fn #[.agg #[.int .i64 c, .slice a S.length cap]] w fun e w' => ∃ v, e = .returned (.tuple #[v, .int .i64 (bytesO S (dictT c S)).2]) ∧ w'.ownsRow w.heap.size 5 1 v (bytesO S (dictT c S)).1.length (Lib.byteCells (bytesO S (dictT c S)).1) ∧ Below w.heap.size w w'
theorem u8wrap (n : Nat) : IntKind.u8.wrap (n : Int) = ((n % 256 : Nat) : Int) := by
  simp [IntKind.wrap, IntKind.bits, IntKind.signed]
set_option maxHeartbeats 2000000 in
theorem sumBytes_any (b off cap : Nat) (bs : List UInt8) (w : World) (hc : BytesAt w b off bs) (hb : b < w.heap.size) :
    Calls Try.prog 94 #[.slice (some ⟨b, off, none⟩) bs.length cap] w fun e w' => e = .returned (.agg #[.int .u8 ((sumL bs / 16777216 : Nat) : Int), .int .u8 ((sumL bs / 65536 % 256 : Nat) : Int), .int .u8 ((sumL bs / 256 % 256 : Nat) : Int), .int .u8 ((sumL bs % 256 : Nat) : Int)]) ∧ Below w.heap.size w w' := by
  have HBa := hidd ((Below.refl w.heap.size w).alloc (Nat.le_refl _) (.cells #[.int .u8 0, .int .u8 0, .int .u8 0, .int .u8 0] 156))
  have HS := hidd (fun (W : World) (hW : Below w.heap.size w W) => implSum_any b off cap bs W (hc.below hW))
  have hlt := sumL_lt bs
  obtain ⟨n, hn⟩ : ∃ n, sumL bs = n := ⟨_, rfl⟩
  rw [hn] at HS hlt
  have Hn := hidd hn
  clear hc hn
  go_enter Try.func94, Try.ntmps94
  go_wp2_with fail
  refine (HS.out _ HBa.out).mono ?_
  rintro e w1 ⟨rfl, rfl⟩
  dsimp only
  go_wp2_with fail
  refine bodyPost_ret (v := .agg #[.int .u8 ((n : Int) / 16777216), .int .u8 ((n : Int) / 65536 % 256), .int .u8 ((n : Int) / 256 % 256), .int .u8 ((n : Int) % 256)]) (by simp [results, Try.results94, go_sem, *]) rfl ?_
  refine ⟨?_, (Below.refl w.heap.size w).alloc (Nat.le_refl _) _⟩
  rw [Hn.out]
  congr 4
theorem four_cells {M : List UInt8} (n : Nat) (h : n < 4294967296) : Lib.byteCells (M ++ four n) = Lib.byteCells M ++ [.int .u8 ((n : Int) / 16777216), .int .u8 ((n : Int) / 65536 % 256), .int .u8 ((n : Int) / 256 % 256), .int .u8 ((n : Int) % 256)] := by
  have e1 : (UInt8.ofNat (n / 16777216)).toNat = n / 16777216 := by rw [UInt8.toNat_ofNat']; omega
  have e2 : (UInt8.ofNat (n / 65536 % 256)).toNat = n / 65536 % 256 := by rw [UInt8.toNat_ofNat']; omega
  have e3 : (UInt8.ofNat (n / 256 % 256)).toNat = n / 256 % 256 := by rw [UInt8.toNat_ofNat']; omega
  have e4 : (UInt8.ofNat (n % 256)).toNat = n % 256 := by rw [UInt8.toNat_ofNat']; omega
  simp only [Lib.byteCells, four, List.map_append, List.map_cons, List.map_nil, e1, e2, e3, e4]
  congr 1
end Go.Proofs.Ytjndogajdlophaa

namespace Go.Proofs.Ytjndogajdlophaa
open Go Go.RowKit
set_option linter.unusedVariables false
set_option maxRecDepth 100000

theorem fine_stsX {S : List St} (h : Fine S) (hn : S.length ≤ 300000) : ∀ s ∈ S, s.2.length ≤ 256 ∧ ∀ a ∈ s.2, a.2.1.toNat < 4611686018427387904 := fun s hs => by
  obtain ⟨i, hi, rfl⟩ := List.getElem_of_mem hs
  have e : arcsAt S i = S[i].2 := by simp [arcsAt, hi]
  have := h i hi
  rw [e] at this
  exact ⟨this.1, fun a ha => by have := (this.2 a ha).2.2.2; omega⟩
theorem preB_lenX {S : List St} (h : Fine S) (hn : S.length ≤ 300000) (k : Nat) : (preB S k).length ≤ 800000000 := by
  have h1 := sts_len (S := S.take k) (fun s hs => fine_stsX h hn s (List.mem_of_mem_take hs))
  have h2 := putL_length9 S.length (by omega)
  have h3 : (S.take k).length ≤ S.length := by rw [List.length_take]; exact Nat.min_le_right _ _
  have h4 : (S.take k).length * 2600 ≤ 300000 * 2600 := Nat.mul_le_mul_right _ (by omega)
  simp only [preB, List.length_append]
  omega
theorem midB_lenX {S : List St} (h : Fine S) (hn : S.length ≤ 300000) {k : Nat} {l : List Ar} (hl : l.length ≤ 256) (ha : ∀ a ∈ l, a.2.1.toNat < 4611686018427387904) {n : Nat} (hn2 : n < 4611686018427387904) (j : Nat) : (midB S k l n j).length ≤ 810000000 := by
  have h1 := preB_lenX h hn k
  have h2 := arcs_len (l := l.take j) (fun a hx => ha a (List.mem_of_mem_take hx))
  have h3 : (l.take j).length ≤ l.length := by rw [List.length_take]; exact Nat.min_le_right _ _
  have h4 := putL_length9 n hn2
  simp only [midB, List.length_append]
  omega
theorem specFour_any (n : Nat) (h : n < 4294967296) (w : World) : Calls Try.prog 68 #[.int .i64 (n : Int)] w fun e w' => e = .returned (.slice (some ⟨w.heap.size, 0, none⟩) 4 4) ∧ w' = w.alloc (.cells #[.int .u8 ((n : Int) / 16777216), .int .u8 ((n : Int) / 65536 % 256), .int .u8 ((n : Int) / 256 % 256), .int .u8 ((n : Int) % 256)] 5) := by
  go_enter Try.func68, Try.ntmps68
  go_wp2
  go_ret
  exact ⟨rfl, rfl⟩
set_option maxHeartbeats 8000000 in
theorem specL04Bytes_any (c : Int) (a : Option Addr) (cap : Nat) (S : List St) (w : World) (hfi : Fine S) (hlen : 1 ≤ S.length ∧ S.length ≤ 300000) (hS : HoldS w a S) :
    Calls Try.prog 37 #[.agg #[.int .i64 c, .slice a S.length cap]] w fun e w' => ∃ v, e = .returned v ∧ w'.ownsRow w.heap.size 5 1 v (bytesD S).length (Lib.byteCells (bytesD S)) ∧ Below w.heap.size w w' := by
  obtain ⟨i1, hi1, hy0, hy1, hy2⟩ := info_parts Try.infoByte
  have HFi := hidd hfi
  have HSt := hidd (fine_stsX hfi hlen.2)
  have HS := hidd hS
  clear hfi hS
  have HBa : Hid (Below w.heap.size w (w.alloc (.cells #[.int .i64 c, .slice a S.length cap] 30))) := (Below.refl _ _).alloc (Nat.le_refl _) _
  have Hbx := hidd (heap_alloc_new w (.cells #[.int .i64 c, .slice a S.length cap] 30))
  go_enter Try.func37, Try.ntmps37
  go_upto_region 1 with fail
  obtain ⟨w1, hw1⟩ : ∃ w1, w.alloc (.cells #[.int .i64 c, .slice a S.length cap] 30) = w1 := ⟨_, rfl⟩
  rw [hw1] at HBa Hbx
  try rw [hw1]
  clear hw1
  have b1 := blkc Hbx.out 1
  have hzw : w.heap.size < w1.heap.size := (Array.getElem?_eq_some_iff.1 Hbx.out).1
  obtain ⟨gS, oS, rfl, hgS, hcS⟩ := HS.out.resolve_left (fun h => by rw [h] at hlen; simp at hlen)
  have HcS := hidd hcS
  clear hcS
  have HPut := hidd (fun (x : Nat) (hx : x ≤ 1048576) (W : World) => specPut_any x W (by omega))
  have HP0 := hidd (HPut.out S.length (by omega) w1)
  go_wp2_with fail
  refine HP0.out.mono ?_
  rintro e w2 ⟨g2, c2, rfl, hown2, hb2⟩
  have HO2 : Hid (w2.ownsRow w1.heap.size 5 1 (.slice (some ⟨g2, 0, none⟩) (putL S.length).length c2) (preB S 0).length (Lib.byteCells (preB S 0))) := by
    show World.ownsRow _ _ _ _ _ _ _
    rw [preB_zero]; exact hown2
  have HB2 := hidd hb2
  clear hown2 hb2 HP0
  dsimp only
  go_wp2_with fail
  go_loopw [3, 4] (fun v kv wr => ∃ k : Nat, k ≤ S.length ∧ kv = .int .i64 (k : Int) ∧ wr.ownsRow w1.heap.size 5 1 v (preB S k).length (Lib.byteCells (preB S k)) ∧ Below w1.heap.size w1 wr) (fun _ kv _ => S.length - (intOf kv).toNat)
  case atStart => exact ⟨0, Nat.zero_le _, rfl, HO2.out, HB2.out⟩
  case round =>
    obtain ⟨k, hk, rfl, hown, hbel⟩ := hrel
    clear HO2 HB2
    have HOw := hidd hown
    have HBe := hidd hbel
    obtain ⟨av, cv, rfl⟩ := own_form hown
    clear hown hbel
    have hpl := preB_lenX HFi.out hlen.2 k
    have hwz := HBe.out.size
    have b2 := (HBe.out.cell (p := ⟨w.heap.size, 1, none⟩) hzw).trans b1
    by_cases hlt : k < S.length
    · have hltz : (k : Int) < (S.length : Int) := by omega
      obtain ⟨s0, ak, ck, s1, hAk⟩ := HcS.out k hlt
      have hBw := HBa.out.trans (HBe.out.mono HBa.out.size)
      replace s0 := (hBw.cell (p := ⟨gS, oS + k * 2, none⟩) hgS).trans s0
      replace s1 := (hBw.cell (p := ⟨gS, oS + k * 2 + 1, none⟩) hgS).trans s1
      have HAk := hidd hAk
      have Hall := hidd (midB_all hlt)
      have Hs := hidd (HSt.out (S.getD k st0) (by simp only [List.getD_eq_getElem?_getD, List.getElem?_eq_getElem hlt, Option.getD_some]; exact List.getElem_mem hlt))
      have Hin := hidd ((HFi.out k hlt).2)
      have hAr : arcsAt S k = (S.getD k st0).2 := rfl
      rw [hAr] at Hin
      clear hAk hAr hBw
      generalize S.getD k st0 = s at s0 s1 HAk Hall Hs Hin
      obtain ⟨F, l⟩ := s
      dsimp only at s0 s1 HAk Hall Hs Hin
      have hll : l.length ≤ 256 := Hs.out.1
      obtain ⟨R, hR⟩ : ∃ R, 2 * l.length + (if F then 1 else 0) = R := ⟨_, rfl⟩
      rw [hR] at Hall
      have hR2 : R ≤ 513 := by rw [← hR]; split <;> omega
      have HQ := hidd (heap_alloc_new wr (.cells #[.bool F, .slice ak l.length ck] 104))
      have HBq := hidd ((Below.refl wr.heap.size wr).alloc (Nat.le_refl _) (.cells #[.bool F, .slice ak l.length ck] 104))
      go_upto_region 6 with fail
      obtain ⟨Q, hQ⟩ : ∃ Q, wr.heap.size = Q := ⟨_, rfl⟩
      obtain ⟨wq, hwq⟩ : ∃ wq, wr.alloc (.cells #[.bool F, .slice ak l.length ck] 104) = wq := ⟨_, rfl⟩
      rw [hwq] at HQ HBq
      try rw [hwq]
      clear hwq
      have HOq := hidd (own_below HOw.out HBq.out)
      have HBw : Hid (Below w1.heap.size w1 wq) := HBe.out.trans (HBq.out.mono hwz)
      rw [hQ] at HQ
      try rw [hQ]
      have e0 := blkc HQ.out 0
      have e1 := blkc HQ.out 1
      have hqs := HBw.out.size
      have HK : Hid (∀ (V w6 : World) (v : Value) (base : Nat) (n : Nat) (ys : List Value), V.heap[Q]? = some (.cells #[.bool F, .slice ak l.length ck] 104) → V.ownsRow base 5 1 v n ys → V.grownBy w6 v.ownBlock → w6.heap[Q]? = some (.cells #[.bool F, .slice ak l.length ck] 104)) := fun V w6 v base n ys hV ho hg => box_grown hV (Below.refl _ _) hg (fun e => by
        obtain ⟨_, cur, hc⟩ := own_blk ho e
        exact blk_ne hc hV (by decide) rfl)
      clear s0 s1 b2 HOw hQ HBq
      go_upto_if 29 with fail
      go_cut [6] (fun nv wy => nv = .int .i64 (R : Int) ∧ wy = wq)
      case first =>
        cases F with
        | true =>
          have hR3 : (2 : Int) * (l.length : Int) + 1 = (R : Int) := by rw [← hR]; simp
          go_wp2_with fail
          go_meet
          case rel => exact ⟨by rw [← hR3], rfl⟩
        | false =>
          have hR3 : (2 : Int) * (l.length : Int) = (R : Int) := by rw [← hR]; simp
          go_wp2_with fail
          go_meet
          case rel => exact ⟨by rw [← hR3], rfl⟩
      case rest =>
        obtain ⟨rfl, hwc⟩ := hcut
        have hwc' := hwc.symm
        subst hwc'
        clear hwc hR
        have HP1 := hidd (HPut.out R (by omega) wq)
        obtain ⟨M, hM⟩ : ∃ M, preB S k = M := ⟨_, rfl⟩
        rw [hM] at HOq hpl
        try rw [hM]
        have Hmz : Hid (midB S k l R 0 = M ++ putL R) := by show _ = _; rw [midB_zero, hM]
        clear hM
        have hpo := putL_pos R
        have hp9 := putL_length9 R (by omega)
        obtain ⟨PR, hPR⟩ : ∃ PR, putL R = PR := ⟨_, rfl⟩
        rw [hPR] at HP1 Hmz hpo hp9
        clear hPR
        go_wp2_with fail
        refine HP1.out.mono ?_
        rintro e w3 ⟨gp, cp, rfl, hown3, hb3⟩
        have HBy := hidd (own_bytes hown3 rfl)
        have HO3 := hidd (own_below HOq.out hb3)
        have HB3 := hidd (HBw.out.trans (hb3.mono HBw.out.size))
        have hQ3 := blko HQ.out hb3
        have HQ3 := hidd hQ3
        have hz3 := HB3.out.size
        clear hown3 hb3 hQ3 HP1 HOq e0 e1 HQ
        dsimp only
        go_wp2_with (at_builtin; refine wpList_append_lies _ rfl (.tmp 32) (.tmp 34) 34 rfl w1.heap.size 5 i1 (.int .u8 0) 1 1 Try.underlying34 hi1 hy0 hy1 hy2 rfl (by decide) (.slice av M.length cv) M.length (Lib.byteCells M) rfl HO3.out ⟨gp, 0, none⟩ PR.length cp (Lib.byteCells PR) rfl (by simp [Lib.byteCells]) (bytes_news HBy.out (Below.refl _ _)) (bytes_one _) (by omega) (by unfold maxLen; omega) (by omega) hz3 _ rfl ?_)
        intro g4 cp4 w4 hown4 hgrow4 hat4 hlt4
        have HQ4 := hidd (HK.out _ w4 _ w1.heap.size _ _ HQ3.out HO3.out hgrow4)
        have HB4 : Hid (Below w1.heap.size w1 w4) := HB3.out.grown hgrow4 hz3 (fun b h => (own_blk HO3.out h).1)
        have HO4 : Hid (w4.ownsRow w1.heap.size 5 1 (.slice (some ⟨g4, 0, none⟩) (M.length + PR.length) cp4) (midB S k l R 0).length (Lib.byteCells (midB S k l R 0))) := by
          show World.ownsRow _ _ _ _ _ _ _
          rw [Hmz.out, List.length_append, Lib.byteCells, List.map_append]
          exact hown4
        clear hown4 hgrow4 hat4 hlt4 HO3 HBy HQ3
        go_wp2_with fail
        go_loopw [3, 7] (fun v jv wx => ∃ j : Nat, j ≤ l.length ∧ jv = .int .i64 (j : Int) ∧ wx.ownsRow w1.heap.size 5 1 v (midB S k l R j).length (Lib.byteCells (midB S k l R j)) ∧ Below w1.heap.size w1 wx ∧ wx.heap[Q]? = some (.cells #[.bool F, .slice ak l.length ck] 104)) (fun _ jv _ => l.length - (intOf jv).toNat)
        case atStart => exact ⟨0, Nat.zero_le _, rfl, HO4.out, HB4.out, HQ4.out⟩
        case round =>
          obtain ⟨j, hj, rfl, hown, hbel, hqq⟩ := hrel
          clear HO4 HB4 HQ4
          have HOj := hidd hown
          have HBj := hidd hbel
          have HQj := hidd hqq
          obtain ⟨aj, cj, rfl⟩ := own_form hown
          have e1 := blkc hqq 1
          clear hown hbel hqq
          have hml := midB_lenX (k := k) HFi.out hlen.2 hll Hs.out.2 (n := R) (by omega) j
          have hjz2 := HBj.out.size
          by_cases hjl : j < l.length
          · have hjlz : (j : Int) < (l.length : Int) := by omega
            obtain ⟨gA, oA, rfl, hgA, hcA⟩ := HAk.out.resolve_left (fun h => by rw [h] at hjl; simp at hjl)
            obtain ⟨p0, p1, p2⟩ := hcA j hjl
            have HPA : Hid (∀ W, Below w1.heap.size w1 W → W.cell? ⟨gA, oA + j * 3, none⟩ = some (.int .i64 (l.getD j ar0).1) ∧ W.cell? ⟨gA, oA + j * 3 + 1, none⟩ = some (.int .i64 (l.getD j ar0).2.1)) := fun W hW => by
              have hB := HBa.out.trans (hW.mono HBa.out.size)
              exact ⟨(hB.cell (p := ⟨gA, oA + j * 3, none⟩) hgA).trans p0, (hB.cell (p := ⟨gA, oA + j * 3 + 1, none⟩) hgA).trans p1⟩
            have Hst := hidd (midB_step (S := S) (k := k) (n := R) hjl)
            have Hx := hidd (Hin.out (l.getD j ar0) (by simp only [List.getD_eq_getElem?_getD, List.getElem?_eq_getElem hjl, Option.getD_some]; exact List.getElem_mem hjl))
            clear hcA p0 p1 p2
            generalize l.getD j ar0 = x at HPA Hst Hx
            obtain ⟨x0, x1, x2⟩ := x
            obtain ⟨q0, q1, q2, q3⟩ := Hx.out
            dsimp only at HPA Hst q0 q1 q2 q3
            obtain ⟨lb, rfl⟩ : ∃ lb : Nat, x0 = (lb : Int) := ⟨x0.toNat, by omega⟩
            obtain ⟨to_, rfl⟩ : ∃ to_ : Nat, x1 = (to_ : Int) := ⟨x1.toNat, by omega⟩
            simp only [Int.toNat_natCast] at Hst q3
            have hlb : lb ≤ 255 := by omega
            have hwl : IntKind.u8.wrap (lb : Int) = (lb : Int) := u8_in_b (by omega)
            have hbn : (UInt8.ofNat lb).toNat = lb := by rw [UInt8.toNat_ofNat']; omega
            obtain ⟨N, hN⟩ : ∃ N, midB S k l R j = N := ⟨_, rfl⟩
            rw [hN] at HOj Hst hml
            try rw [hN]
            clear hN
            have p0 := (HPA.out _ HBj.out).1
            go_upto_region 14 with (at_builtin; refine wpList_append_lies _ rfl (.tmp 43) (.tmp 51) 34 rfl w1.heap.size 5 i1 (.int .u8 0) 1 1 Try.underlying34 hi1 hy0 hy1 hy2 rfl (by decide) (.slice aj N.length cj) N.length (Lib.byteCells N) rfl (HOj.out.alloc _) ⟨wr.heap.size, 0, none⟩ 1 1 [.int .u8 (lb : Int)] rfl rfl (World.news_of_block (heap_alloc_new wr _)) (by intro u' hu'; simp at hu'; subst hu'; rfl) (by decide) (by unfold maxLen; omega) (by omega) (by simp; omega) _ rfl ?_)
            intro g5 cp5 w5 hown5 hgrow5 hat5 hlt5
            have hBv : Below wr.heap.size wr (wr.alloc (.cells #[.int .u8 (lb : Int)] 5)) := (Below.refl _ _).alloc (Nat.le_refl _) _
            have HQ5 := hidd (HK.out _ w5 _ w1.heap.size _ _ (blko HQj.out hBv) (own_below HOj.out hBv) hgrow5)
            have HB5 : Hid (Below w1.heap.size w1 w5) := (HBj.out.trans (hBv.mono hjz2)).grown hgrow5 (by have := hBv.size; omega) (fun b h => (own_blk HOj.out h).1)
            have HO5 : Hid (w5.ownsRow w1.heap.size 5 1 (.slice (some ⟨g5, 0, none⟩) (N.length + 1) cp5) (N.length + 1) (Lib.byteCells (N ++ [UInt8.ofNat lb]))) := by
              show World.ownsRow _ _ _ _ _ _ _
              rw [byteCells_snoc, hbn]
              exact hown5
            have p1 := (HPA.out _ HB5.out).2
            have e5 := blkc HQ5.out 1
            have HP1 := hidd (HPut.out to_ (by omega) w5)
            have hpo5 := putL_pos to_
            have hp95 := putL_length9 to_ (by omega)
            obtain ⟨PT, hPT⟩ : ∃ PT, putL to_ = PT := ⟨_, rfl⟩
            rw [hPT] at HP1 Hst hpo5 hp95
            clear hPT hown5 hgrow5 hat5 hlt5 hBv HOj HBj HQj p0 e1
            go_wp2_with fail
            refine HP1.out.mono ?_
            rintro e w6 ⟨gq, cq, rfl, hown6, hb6⟩
            have HBy := hidd (own_bytes hown6 rfl)
            have HO6 := hidd (own_below HO5.out hb6)
            have HB6 := hidd (HB5.out.trans (hb6.mono HB5.out.size))
            have HQ6 := hidd (blko HQ5.out hb6)
            have hz6 := HB6.out.size
            clear hown6 hb6 HP1 HO5 e5 p1 HQ5 HB5
            dsimp only
            go_wp2_with (at_builtin; refine wpList_append_lies _ rfl (.tmp 53) (.tmp 60) 34 rfl w1.heap.size 5 i1 (.int .u8 0) 1 1 Try.underlying34 hi1 hy0 hy1 hy2 rfl (by decide) (.slice (some ⟨g5, 0, none⟩) (N.length + 1) cp5) (N.length + 1) (Lib.byteCells (N ++ [UInt8.ofNat lb])) rfl HO6.out ⟨gq, 0, none⟩ PT.length cq (Lib.byteCells PT) rfl (by simp [Lib.byteCells]) (bytes_news HBy.out (Below.refl _ _)) (bytes_one _) (by omega) (by unfold maxLen; omega) (by omega) hz6 _ rfl ?_)
            intro g7 cp7 w7 hown7 hgrow7 hat7 hlt7
            have HQ7 := hidd (HK.out _ w7 _ w1.heap.size _ _ HQ6.out HO6.out hgrow7)
            have HB7 : Hid (Below w1.heap.size w1 w7) := HB6.out.grown hgrow7 hz6 (fun b h => (own_blk HO6.out h).1)
            have HO7 : Hid (w7.ownsRow w1.heap.size 5 1 (.slice (some ⟨g7, 0, none⟩) (N.length + 1 + PT.length) cp7) (midB S k l R (j + 1)).length (Lib.byteCells (midB S k l R (j + 1)))) := by
              show World.ownsRow _ _ _ _ _ _ _
              rw [Hst.out, List.length_append, List.length_append, List.length_singleton]
              have e9 : Lib.byteCells (N ++ [UInt8.ofNat lb] ++ PT) = Lib.byteCells (N ++ [UInt8.ofNat lb]) ++ Lib.byteCells PT := by simp [Lib.byteCells]
              rw [e9]
              exact hown7
            clear hown7 hgrow7 hat7 hlt7 HO6 HBy HQ6
            go_wp2_with fail
            go_roundw
            case rel => exact ⟨j + 1, by omega, by go_num, HO7.out, HB7.out, HQ7.out⟩
            case measure => simp [intOf]; omega
          · have hjlz : ¬ (j : Int) < (l.length : Int) := by omega
            obtain rfl : j = l.length := by omega
            go_wp2_with fail
            go_roundw
            case rel => exact ⟨k + 1, by omega, by go_num, by rw [← Hall.out]; exact HOj.out, HBj.out⟩
            case measure => simp [intOf]; omega
    · have hltz : ¬ (k : Int) < (S.length : Int) := by omega
      obtain rfl : k = S.length := by omega
      rw [preB_all] at HOw hpl
      try rw [preB_all]
      have hpos : 0 < (dB S).length := by
        have := putL_pos S.length
        simp only [dB, List.length_append]; omega
      rcases own_cases HOw.out with ⟨_, h0⟩ | ⟨g, c', e1, hgb, hg⟩
      · omega
      simp only [Value.slice.injEq, true_and] at e1
      obtain ⟨rfl, rfl⟩ := e1
      have HSu := hidd (specSum_any g 0 cv (dB S) wr (own_bytes HOw.out rfl))
      have hsl := sumL_lt (dB S)
      have HBD : Hid (bytesD S = dB S ++ four (sumL (dB S))) := rfl
      obtain ⟨n, hn2⟩ : ∃ n, sumL (dB S) = n := ⟨_, rfl⟩
      rw [hn2] at HSu hsl HBD
      clear hn2
      obtain ⟨M, hM⟩ : ∃ M, dB S = M := ⟨_, rfl⟩
      rw [hM] at HOw hpl hpos HSu HBD
      try rw [hM]
      clear hM
      go_wp2_with (first
        | (go_at_call 69; refine HSu.out.mono ?_; rintro e w' ⟨rfl, hw⟩; have hw2 := hw.symm; subst hw2; clear hw)
        | (go_at_call 68; refine (specFour_any n hsl _).mono ?_; rintro e w' ⟨rfl, rfl⟩)
        | (at_builtin; refine wpList_append_lies _ rfl (.tmp 62) (.tmp 65) 34 rfl w1.heap.size 5 i1 (.int .u8 0) 1 1 Try.underlying34 hi1 hy0 hy1 hy2 rfl (by decide) (.slice (some ⟨g, 0, none⟩) M.length cv) M.length (Lib.byteCells M) rfl (HOw.out.alloc _) ⟨wr.heap.size, 0, none⟩ 4 4 [.int .u8 ((n : Int) / 16777216), .int .u8 ((n : Int) / 65536 % 256), .int .u8 ((n : Int) / 256 % 256), .int .u8 ((n : Int) % 256)] rfl rfl (World.news_of_block (heap_alloc_new wr _)) (by intro u' hu'; simp at hu'; rcases hu' with rfl | rfl | rfl | rfl <;> rfl) (by decide) (by unfold maxLen; omega) (by omega) (by simp; omega) _ rfl ?_))
      intro g6 cp6 w6 hown6 hgrow6 hat6 hlt6
      have HB6 : Hid (Below w.heap.size w w6) := ((HBa.out.trans (HBe.out.mono HBa.out.size)).alloc (by omega) _).grown hgrow6 (by simp; omega) (fun b h => by have := (own_blk HOw.out h).1; omega)
      have HO6 : Hid (w6.ownsRow w1.heap.size 5 1 (.slice (some ⟨g6, 0, none⟩) (M.length + 4) cp6) (M.length + 4) (Lib.byteCells (M ++ four n))) := by
        show World.ownsRow _ _ _ _ _ _ _
        rw [four_cells n hsl]
        exact hown6
      clear hown6 hgrow6 hat6 hlt6
      go_wp2_with fail
      go_ret
      refine ⟨_, rfl, ?_, HB6.out⟩
      rw [HBD.out, List.length_append]
      exact own_mono HO6.out (by omega)
end Go.Proofs.Ytjndogajdlophaa
