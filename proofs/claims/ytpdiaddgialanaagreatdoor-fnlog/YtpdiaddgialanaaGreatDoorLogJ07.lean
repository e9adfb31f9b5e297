import Derived.Lib.Strings
import Derived.Test.YtpdiaddgialanaaGreatDoorLogJ02
namespace Go.Proofs.YtpdiaddgialanaaGreatDoor
open Go Go.RowKit
set_option linter.unusedVariables false
set_option linter.unusedSimpArgs false

/-! Numbers as texts: spec.l08Dec. -/
theorem dec_len {K : Nat} (t : ByteArray) (c : UInt8) (h : t.size ≤ K) : (t ++ ⟨#[c]⟩).size ≤ K + 1 := by
  rw [ByteArray.size_append]
  show t.size + 1 ≤ K + 1
  omega
def DecK (K : Nat) (w : World) (e : Ending) (w' : World) : Prop := ∃ t : ByteArray, e = .returned (.string t) ∧ t.size ≤ K ∧ Below w.heap.size w w'
theorem byte_text (w : World) (g cap : Nat) (x : Int) (h0 : 0 ≤ x) (h1 : x ≤ 255) (h : w.cell? ⟨g, 0, none⟩ = some (.int .u8 x)) :
    (convert 22 9 (.slice (some ⟨g, 0, none⟩) 1 cap)).run Tryz.prog w = .ok (.string ⟨#[UInt8.ofNat x.toNat]⟩) w := by
  have := run_convert_bytes_back (P := Tryz.prog) w 22 9 5 ⟨g, 0, none⟩ cap [UInt8.ofNat x.toNat] Tryz.underlying22 Tryz.underlying5 Tryz.underlying9 (fun j hj => by
    have : j = 0 := by simp at hj; omega
    subst this
    rw [add_head, h]
    have e : ((UInt8.ofNat x.toNat).toNat : Int) = x := by rw [UInt8.toNat_ofNat']; omega
    show _ = some (Value.int .u8 ((UInt8.ofNat x.toNat).toNat : Int))
    rw [e])
  exact this
set_option maxHeartbeats 2000000 in
set_option maxRecDepth 100000 in
theorem dec_one (n : Nat) (w : World) (hn : n < 10) : Calls Tryz.prog 30 #[.int .i64 (n : Int)] w (DecK 1 w) := by
  have h0 : ¬ (n : Int) < 0 := by omega
  have h1 : (n : Int) < 10 := by omega
  have hcv := byte_text (w.alloc (.cells #[.int .u8 (48 + (n : Int))] 5)) w.heap.size 1 (48 + (n : Int)) (by omega) (by omega) (by simp)
  have HB := hidd ((Below.refl w.heap.size w).alloc (Nat.le_refl _) (.cells #[.int .u8 (48 + (n : Int))] 5))
  go_enter Tryz.func30, Tryz.ntmps30
  go_wp2_with fail
  go_ret
  exact ⟨_, rfl, Nat.le_refl 1, HB.out⟩
theorem rt_conv (W : World) (ρ : Operand → Value) (o : Oper) (x : Operand) (ho : o.op = .convert 22 9 x) (v : Value) (hx : ρ x = v) (u : Value) (hc : (convert 22 9 v).run Tryz.prog W = .ok u W) : (execOp ρ o).run Tryz.prog W = .ok (.value u) W := by
  unfold execOp
  simp only [ho, hx, Sem.run_bind, Sem.run_pure, Result.andThen_ok, hc]
set_option maxHeartbeats 4000000 in
set_option maxRecDepth 100000 in
theorem dec_step (K n : Nat) (w : World) (hK : K ≤ 1000) (hn : 10 ≤ n) (hn2 : n < 1000000000) (HQ0 : ∀ u, Calls Tryz.prog 30 #[.int .i64 ((n / 10 : Nat) : Int)] u (DecK K u)) : Calls Tryz.prog 30 #[.int .i64 (n : Int)] w (DecK (K + 1) w) := by
  have h0 : ¬ (n : Int) < 0 := by omega
  have h1 : ¬ (n : Int) < 10 := by omega
  have HQ1 := hidd HQ0
  clear HQ0
  obtain ⟨q, hq0⟩ : ∃ q : Nat, n / 10 = q := ⟨_, rfl⟩
  have hq : (n : Int) / 10 = (q : Int) := by omega
  rw [hq0] at HQ1
  obtain ⟨r, hr⟩ : ∃ r : Nat, (n : Int) % 10 = (r : Int) := ⟨n % 10, by omega⟩
  have hr10 : r < 10 := by omega
  have hq10 : q < 1000000000 := by omega
  have HQ := hidd HQ1.out
  clear HQ1 hq0
  have hgen : ∀ u : World, (convert 22 9 (.slice (some ⟨u.heap.size, 0, none⟩) 1 1)).run Tryz.prog (u.alloc (.cells #[.int .u8 (48 + (r : Int))] 5)) = .ok (.string ⟨#[UInt8.ofNat (48 + (r : Int)).toNat]⟩) (u.alloc (.cells #[.int .u8 (48 + (r : Int))] 5)) := fun u => byte_text _ _ _ _ (by omega) (by omega) (by simp)
  have HR := hidd hr10
  have hwq : IntKind.i64.wrap (q : Int) = (q : Int) := by rw [IntKind.wrap_i64]; omega
  have htm : (n : Int).tmod 10 = (r : Int) := by rw [Int.tmod_eq_emod_of_nonneg (by omega)]; exact hr
  have hw48 : IntKind.i64.wrap (48 + (r : Int)) = 48 + (r : Int) := by rw [IntKind.wrap_i64]; omega
  have hw8 : IntKind.u8.wrap (48 + (r : Int)) = 48 + (r : Int) := by rw [IntKind.wrap_u8]; omega
  clear hn hn2 hq10
  go_enter Tryz.func30, Tryz.ntmps30
  go_wp2_with fail
  refine wp_region_held (S := fun _ => True) (by kernel_rfl) ?_
  have hB0 : Below w.heap.size w ({ heap := w.heap, tape := w.tape, drawn := w.drawn + 1, os := w.os, output := w.output } : World) := (Below.refl _ _).drew
  generalize ({ heap := w.heap, tape := w.tape, drawn := w.drawn + 1, os := w.os, output := w.output } : World) = wd at *
  try simp only [Act.put, List.getElem_toArray, List.getElem_cons_succ, List.getElem_cons_zero, List.setIfInBounds_toArray, List.set_cons_zero, List.set_cons_succ]
  refine tkX 0 (hS := trivial) (h := ?_)
  try simp only [Act.put, List.getElem_toArray, List.getElem_cons_succ, List.getElem_cons_zero, List.setIfInBounds_toArray, List.set_cons_zero, List.set_cons_succ]
  refine tkX 1 (v := .int .i64 (q : Int)) (hS := trivial) (h := ?_)
  try simp only [Act.put, List.getElem_toArray, List.getElem_cons_succ, List.getElem_cons_zero, List.setIfInBounds_toArray, List.set_cons_zero, List.set_cons_succ]
  refine tkX 3 (hS := trivial) (h := ?_)
  try simp only [Act.put, List.getElem_toArray, List.getElem_cons_succ, List.getElem_cons_zero, List.setIfInBounds_toArray, List.set_cons_zero, List.set_cons_succ]
  refine tkX 4 (v := .int .i64 (r : Int)) (hS := trivial) (h := ?_)
  try simp only [Act.put, List.getElem_toArray, List.getElem_cons_succ, List.getElem_cons_zero, List.setIfInBounds_toArray, List.set_cons_zero, List.set_cons_succ]
  refine tkX 5 (v := .int .i64 (48 + (r : Int))) (hS := trivial) (h := ?_)
  try simp only [Act.put, List.getElem_toArray, List.getElem_cons_succ, List.getElem_cons_zero, List.setIfInBounds_toArray, List.set_cons_zero, List.set_cons_succ]
  refine tkX 6 (v := .int .u8 (48 + (r : Int))) (hS := trivial) (h := ?_)
  try simp only [Act.put, List.getElem_toArray, List.getElem_cons_succ, List.getElem_cons_zero, List.setIfInBounds_toArray, List.set_cons_zero, List.set_cons_succ]
  refine wpAnyH_two 2 7 (by kernel_rfl) ?_ ?_
  · refine wpOp_call 30 #[.int .i64 (q : Int)] rfl (by kernel_rfl) (rbx_call1 _ _ _ _ _ _ rfl _ (by kernel_rfl) (Tryz.call30 _ _)) ?_
    refine (HQ.out _).mono ?_
    rintro e' w1 ⟨t1, rfl, ht1, hbx⟩
    have htl : t1.size ≤ 9223372036854775806 := by omega
    have hB1 : Below w.heap.size w w1 := Below.trans hB0 (hbx.mono (Below.size hB0))
    refine ⟨trivial, ?_⟩
    try simp only [Act.put, List.getElem_toArray, List.getElem_cons_succ, List.getElem_cons_zero, List.setIfInBounds_toArray, List.set_cons_zero, List.set_cons_succ]
    refine wpAnyH_one 7 (by kernel_rfl) ?_
    refine wpOp_val _ _ rfl (by kernel_rfl) (rbx_build _ _ _ _ rfl (48 + (r : Int)) (by kernel_rfl)) ?_
    have hB2 : Below w.heap.size w (w1.alloc (.cells #[.int .u8 (48 + (r : Int))] 5)) := hB1.alloc hB1.size _
    refine ⟨trivial, ?_⟩
    try simp only [Act.put, List.getElem_toArray, List.getElem_cons_succ, List.getElem_cons_zero, List.setIfInBounds_toArray, List.set_cons_zero, List.set_cons_succ]
    refine wpAnyH_one 8 (by kernel_rfl) ?_
    refine wpOp_val _ _ rfl (by kernel_rfl) (rt_conv _ _ _ _ rfl _ (by kernel_rfl) _ (hgen w1)) ?_
    refine ⟨trivial, ?_⟩
    try simp only [Act.put, List.getElem_toArray, List.getElem_cons_succ, List.getElem_cons_zero, List.setIfInBounds_toArray, List.set_cons_zero, List.set_cons_succ]
    refine tkX 9 (v := .string (t1 ++ ⟨#[UInt8.ofNat (48 + (r : Int)).toNat]⟩)) (hS := trivial) (h := ?_)
    try simp only [Act.put, List.getElem_toArray, List.getElem_cons_succ, List.getElem_cons_zero, List.setIfInBounds_toArray, List.set_cons_zero, List.set_cons_succ]
    refine tkX 10 (v := .string (t1 ++ ⟨#[UInt8.ofNat (48 + (r : Int)).toNat]⟩)) (hS := trivial) (h := ?_)
    try simp only [Act.put, List.getElem_toArray, List.getElem_cons_succ, List.getElem_cons_zero, List.setIfInBounds_toArray, List.set_cons_zero, List.set_cons_succ]
    refine wpAnyH_done (by kernel_rfl) ?_ _
    have HBz := hidd hB2
    clear hB0 hB1 hB2 hbx hgen
    go_wp2_with fail
    go_ret
    exact ⟨_, rfl, dec_len t1 _ ht1, HBz.out⟩
  · refine wpOp_val _ _ rfl (by kernel_rfl) (rbx_build _ _ _ _ rfl (48 + (r : Int)) (by kernel_rfl)) ?_
    have hB1 : Below w.heap.size w (wd.alloc (.cells #[.int .u8 (48 + (r : Int))] 5)) := hB0.alloc hB0.size _
    have hcl : (wd.alloc (.cells #[.int .u8 (48 + (r : Int))] 5)).cell? ⟨wd.heap.size, 0, none⟩ = some (.int .u8 (48 + (r : Int))) := by simp
    refine ⟨trivial, ?_⟩
    try simp only [Act.put, List.getElem_toArray, List.getElem_cons_succ, List.getElem_cons_zero, List.setIfInBounds_toArray, List.set_cons_zero, List.set_cons_succ]
    refine wpAnyH_two 2 8 (by kernel_rfl) ?_ ?_
    · refine wpOp_call 30 #[.int .i64 (q : Int)] rfl (by kernel_rfl) (rbx_call1 _ _ _ _ _ _ rfl _ (by kernel_rfl) (Tryz.call30 _ _)) ?_
      refine (HQ.out _).mono ?_
      rintro e' w1 ⟨t1, rfl, ht1, hbx⟩
      have htl : t1.size ≤ 9223372036854775806 := by omega
      have hB2 : Below w.heap.size w w1 := Below.trans hB1 (hbx.mono (Below.size hB1))
      refine ⟨trivial, ?_⟩
      try simp only [Act.put, List.getElem_toArray, List.getElem_cons_succ, List.getElem_cons_zero, List.setIfInBounds_toArray, List.set_cons_zero, List.set_cons_succ]
      have hcv := byte_text w1 wd.heap.size 1 (48 + (r : Int)) (by omega) (by omega) ((hbx.cell (p := ⟨wd.heap.size, 0, none⟩) (by simp)).trans hcl)
      refine wpAnyH_one 8 (by kernel_rfl) ?_
      refine wpOp_val _ _ rfl (by kernel_rfl) (rt_conv _ _ _ _ rfl _ (by kernel_rfl) _ hcv) ?_
      refine ⟨trivial, ?_⟩
      clear hcv hcl
      try simp only [Act.put, List.getElem_toArray, List.getElem_cons_succ, List.getElem_cons_zero, List.setIfInBounds_toArray, List.set_cons_zero, List.set_cons_succ]
      refine tkX 9 (v := .string (t1 ++ ⟨#[UInt8.ofNat (48 + (r : Int)).toNat]⟩)) (hS := trivial) (h := ?_)
      try simp only [Act.put, List.getElem_toArray, List.getElem_cons_succ, List.getElem_cons_zero, List.setIfInBounds_toArray, List.set_cons_zero, List.set_cons_succ]
      refine tkX 10 (v := .string (t1 ++ ⟨#[UInt8.ofNat (48 + (r : Int)).toNat]⟩)) (hS := trivial) (h := ?_)
      try simp only [Act.put, List.getElem_toArray, List.getElem_cons_succ, List.getElem_cons_zero, List.setIfInBounds_toArray, List.set_cons_zero, List.set_cons_succ]
      refine wpAnyH_done (by kernel_rfl) ?_ _
      have HBz := hidd hB2
      clear hB0 hB1 hB2 hbx hgen
      go_wp2_with fail
      go_ret
      exact ⟨_, rfl, dec_len t1 _ ht1, HBz.out⟩
    · refine wpOp_val _ _ rfl (by kernel_rfl) (rt_conv _ _ _ _ rfl _ (by kernel_rfl) _ (hgen wd)) ?_
      refine ⟨trivial, ?_⟩
      try simp only [Act.put, List.getElem_toArray, List.getElem_cons_succ, List.getElem_cons_zero, List.setIfInBounds_toArray, List.set_cons_zero, List.set_cons_succ]
      refine wpAnyH_one 2 (by kernel_rfl) ?_
      refine wpOp_call 30 #[.int .i64 (q : Int)] rfl (by kernel_rfl) (rbx_call1 _ _ _ _ _ _ rfl _ (by kernel_rfl) (Tryz.call30 _ _)) ?_
      refine (HQ.out _).mono ?_
      rintro e' w1 ⟨t1, rfl, ht1, hbx⟩
      have htl : t1.size ≤ 9223372036854775806 := by omega
      have hB2 : Below w.heap.size w w1 := Below.trans hB1 (hbx.mono (Below.size hB1))
      refine ⟨trivial, ?_⟩
      try simp only [Act.put, List.getElem_toArray, List.getElem_cons_succ, List.getElem_cons_zero, List.setIfInBounds_toArray, List.set_cons_zero, List.set_cons_succ]
      clear hcl
      try simp only [Act.put, List.getElem_toArray, List.getElem_cons_succ, List.getElem_cons_zero, List.setIfInBounds_toArray, List.set_cons_zero, List.set_cons_succ]
      refine tkX 9 (v := .string (t1 ++ ⟨#[UInt8.ofNat (48 + (r : Int)).toNat]⟩)) (hS := trivial) (h := ?_)
      try simp only [Act.put, List.getElem_toArray, List.getElem_cons_succ, List.getElem_cons_zero, List.setIfInBounds_toArray, List.set_cons_zero, List.set_cons_succ]
      refine tkX 10 (v := .string (t1 ++ ⟨#[UInt8.ofNat (48 + (r : Int)).toNat]⟩)) (hS := trivial) (h := ?_)
      try simp only [Act.put, List.getElem_toArray, List.getElem_cons_succ, List.getElem_cons_zero, List.setIfInBounds_toArray, List.set_cons_zero, List.set_cons_succ]
      refine wpAnyH_done (by kernel_rfl) ?_ _
      have HBz := hidd hB2
      clear hB0 hB1 hB2 hbx hgen
      go_wp2_with fail
      go_ret
      exact ⟨_, rfl, dec_len t1 _ ht1, HBz.out⟩
theorem dec_any (n : Nat) (w : World) (hn : n < 1000) : Calls Tryz.prog 30 #[.int .i64 (n : Int)] w (DecK 3 w) := by
  have h1 : ∀ (m : Nat) (u : World), m < 10 → Calls Tryz.prog 30 #[.int .i64 (m : Int)] u (DecK 1 u) := fun m u h => dec_one m u h
  have up : ∀ {K L : Nat} {u : World} {e : Ending} {w' : World}, K ≤ L → DecK K u e w' → DecK L u e w' := fun h ⟨t, a, b, c⟩ => ⟨t, a, by omega, c⟩
  have h2 : ∀ (m : Nat) (u : World), m < 100 → Calls Tryz.prog 30 #[.int .i64 (m : Int)] u (DecK 2 u) := fun m u h => by
    by_cases hm : m < 10
    · exact (h1 m u hm).mono fun e w' => up (by omega)
    · exact dec_step 1 m u (by omega) (by omega) (by omega) fun v => h1 _ v (by omega)
  by_cases hm : n < 100
  · exact (h2 n w hm).mono fun e w' => up (by omega)
  · exact dec_step 2 n w (by omega) (by omega) (by omega) fun v => h2 _ v (by omega)
end Go.Proofs.YtpdiaddgialanaaGreatDoor
