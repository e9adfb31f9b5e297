import Derived.Test.YtboocdiilbcdcaaDgK
namespace Go.Proofs.Ytboocdiilbcdcaa
open Go Go.RowKit
set_option linter.unusedVariables false
set_option linter.unusedSimpArgs false
set_option maxRecDepth 100000
theorem own_sl1 {W : World} {base e n : Nat} {v : Value} {xs : List Value} (h : W.ownsRow base e 1 v n xs) : ∃ ad cap, v = .slice ad n cap := by
  rcases h.2 with ⟨h1, h2⟩ | ⟨g, cap, _, h1, _⟩
  · exact ⟨none, 0, by rw [h1, h2]⟩
  · exact ⟨_, cap, h1⟩
theorem exec_loadD (W : World) (ρ : Operand → Value) (o : Oper) (x : Operand) (ho : o.op = .load 27 x) (b : Nat) (x0 x1 x2 : Int) (a3 : Option Addr) (n3 c3 : Nat) (hx : ρ x = .pointer (some ⟨b, 0, none⟩))
    (h : W.heap[b]? = some (.cells #[.int .i64 x0, .int .i64 x1, .int .i64 x2, .slice a3 n3 c3] 27)) : (execOp ρ o).run Try.prog W = .ok (.value (.agg #[.int .i64 x0, .int .i64 x1, .int .i64 x2, .slice a3 n3 c3])) W := by
  have c0' : W.cell? ⟨b, 0, none⟩ = some (.int .i64 x0) := blkc h 0
  have c1' : W.cell? ⟨b, 1, none⟩ = some (.int .i64 x1) := blkc h 1
  have c2' : W.cell? ⟨b, 2, none⟩ = some (.int .i64 x2) := blkc h 2
  have c3' : W.cell? ⟨b, 3, none⟩ = some (.slice a3 n3 c3) := blkc h 3
  clear h
  unfold execOp
  simp only [ho, hx, Sem.run_bind, Sem.run_pure, Result.andThen_ok]
  go_simp
end Go.Proofs.Ytboocdiilbcdcaa
