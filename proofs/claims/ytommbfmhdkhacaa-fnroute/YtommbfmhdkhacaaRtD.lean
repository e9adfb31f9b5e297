import Derived.Test.YtommbfmhdkhacaaSrcF
import Derived.Test.YtommbfmhdkhacaaRtA
import Derived.Lib.Strings
import Derived.Test.YtommbfmhdkhacaaRgB
namespace Go.Proofs.Ytommbfmhdkhacaa
open Go Go.RowKit
set_option linter.unusedVariables false
set_option linter.unusedSimpArgs false

/-! What spec.DrawRoute draws. -/
theorem dec_len (t : ByteArray) (c : UInt8) (h : t.size ≤ 1) : (t ++ ⟨#[c]⟩).size ≤ 2 := by
  rw [ByteArray.size_append]
  show t.size + 1 ≤ 2
  omega
def Dec2 (w : World) (e : Ending) (w' : World) : Prop := ∃ t : ByteArray, e = .returned (.string t) ∧ t.size ≤ 2 ∧ Below w.heap.size w w'
theorem byte_text (w : World) (g cap : Nat) (x : Int) (h0 : 0 ≤ x) (h1 : x ≤ 255) (h : w.cell? ⟨g, 0, none⟩ = some (.int .u8 x)) :
    (convert 22 9 (.slice (some ⟨g, 0, none⟩) 1 cap)).run Try.prog w = .ok (.string ⟨#[UInt8.ofNat x.toNat]⟩) w := by
  have := run_convert_bytes_back (P := Try.prog) w 22 9 5 ⟨g, 0, none⟩ cap [UInt8.ofNat x.toNat] Try.underlying22 Try.underlying5 Try.underlying9 (fun j hj => by
    have : j = 0 := by simp at hj; omega
    subst this
    rw [add_head, h]
    have e : ((UInt8.ofNat x.toNat).toNat : Int) = x := by rw [UInt8.toNat_ofNat']; omega
    show _ = some (Value.int .u8 ((UInt8.ofNat x.toNat).toNat : Int))
    rw [e])
  exact this

set_option maxHeartbeats 2000000 in
set_option maxRecDepth 100000 in
theorem dec_one (n : Nat) (w : World) (hn : n < 10) : Calls Try.prog 11 #[.int .i64 (n : Int)] w fun e w' => ∃ t : ByteArray, e = .returned (.string t) ∧ t.size ≤ 1 ∧ Below w.heap.size w w' := by
  have h0 : ¬ (n : Int) < 0 := by omega
  have h1 : (n : Int) < 10 := by omega
  have hcv := byte_text (w.alloc (.cells #[.int .u8 (48 + (n : Int))] 5)) w.heap.size 1 (48 + (n : Int)) (by omega) (by omega) (by simp)
  have HB := hidd ((Below.refl w.heap.size w).alloc (Nat.le_refl _) (.cells #[.int .u8 (48 + (n : Int))] 5))
  go_enter Try.func11, Try.ntmps11
  go_wp2_with fail
  go_ret
  exact ⟨_, rfl, Nat.le_refl 1, HB.out⟩

theorem rt_conv (W : World) (ρ : Operand → Value) (o : Oper) (x : Operand) (ho : o.op = .convert 22 9 x) (v : Value) (hx : ρ x = v) (u : Value) (hc : (convert 22 9 v).run Try.prog W = .ok u W) : (execOp ρ o).run Try.prog W = .ok (.value u) W := by
  unfold execOp
  simp only [ho, hx, Sem.run_bind, Sem.run_pure, Result.andThen_ok, hc]

set_option maxHeartbeats 4000000 in
set_option maxRecDepth 100000 in
theorem dec_two (n : Nat) (w : World) (hn : 10 ≤ n) (hn2 : n < 100) : Calls Try.prog 11 #[.int .i64 (n : Int)] w (Dec2 w) := by
  have h0 : ¬ (n : Int) < 0 := by omega
  have h1 : ¬ (n : Int) < 10 := by omega
  obtain ⟨q, hq⟩ : ∃ q : Nat, (n : Int) / 10 = (q : Int) := ⟨n / 10, by omega⟩
  obtain ⟨r, hr⟩ : ∃ r : Nat, (n : Int) % 10 = (r : Int) := ⟨n % 10, by omega⟩
  have hr10 : r < 10 := by omega
  have hq10 : q < 10 := by omega
  have HQ := hidd hq10
  have hgen : ∀ u : World, (convert 22 9 (.slice (some ⟨u.heap.size, 0, none⟩) 1 1)).run Try.prog (u.alloc (.cells #[.int .u8 (48 + (r : Int))] 5)) = .ok (.string ⟨#[UInt8.ofNat (48 + (r : Int)).toNat]⟩) (u.alloc (.cells #[.int .u8 (48 + (r : Int))] 5)) := fun u => byte_text _ _ _ _ (by omega) (by omega) (by simp)
  have HR := hidd hr10
  have hwq : IntKind.i64.wrap (q : Int) = (q : Int) := by rw [IntKind.wrap_i64]; omega
  have htm : (n : Int).tmod 10 = (r : Int) := by rw [Int.tmod_eq_emod_of_nonneg (by omega)]; exact hr
  have hw48 : IntKind.i64.wrap (48 + (r : Int)) = 48 + (r : Int) := by rw [IntKind.wrap_i64]; omega
  have hw8 : IntKind.u8.wrap (48 + (r : Int)) = 48 + (r : Int) := by rw [IntKind.wrap_u8]; omega
  clear hn hn2 hq10
  go_enter Try.func11, Try.ntmps11
  go_wp2_with fail
  refine wp_region_held (S := fun _ => True) (by kernel_rfl) ?_
  have hB0 : Below w.heap.size w ({ heap := w.heap, tape := w.tape, drawn := w.drawn + 1, os := w.os, output := w.output } : World) := (Below.refl _ _).drew
  generalize ({ heap := w.heap, tape := w.tape, drawn := w.drawn + 1, os := w.os, output := w.output } : World) = wd at *
  try simp only [Act.put, List.getElem_toArray, List.getElem_cons_succ, List.getElem_cons_zero, List.setIfInBounds_toArray, List.set_cons_zero, List.set_cons_succ]
  refine tkX 0 (hS := trivial) (h := ?_)
  try simp only [Act.put, List.getElem_toArray, List.getElem_cons_succ, List.getElem_cons_zero, List.setIfInBounds_toArray, List.set_cons_zero, List.set_cons_succ]
  refine tkX 1 (v := .int .i64 (q : Int)) (hS := trivial) (h := ?_)
  try simp only [Act.put, List.getElem_toArray, List.getElem_cons_succ, List.getElem_cons_zero, List.setIfInBounds_toArray, List.set_cons_zero, List.set_cons_succ]
  refine tkX 3 (hS := trivial) (h := ?_)
  try simp only [Act.put, List.getElem_toArray, List.getElem_cons_succ, List.getElem_cons_zero, List.setIfInBounds_toArray, List.set_cons_zero, List.set_cons_succ]
  refine tkX 4 (v := .int .i64 (r : Int)) (hS := trivial) (h := ?_)
  try simp only [Act.put, List.getElem_toArray, List.getElem_cons_succ, List.getElem_cons_zero, List.setIfInBounds_toArray, List.set_cons_zero, List.set_cons_succ]
  refine tkX 5 (v := .int .i64 (48 + (r : Int))) (hS := trivial) (h := ?_)
  try simp only [Act.put, List.getElem_toArray, List.getElem_cons_succ, List.getElem_cons_zero, List.setIfInBounds_toArray, List.set_cons_zero, List.set_cons_succ]
  refine tkX 6 (v := .int .u8 (48 + (r : Int))) (hS := trivial) (h := ?_)
  try simp only [Act.put, List.getElem_toArray, List.getElem_cons_succ, List.getElem_cons_zero, List.setIfInBounds_toArray, List.set_cons_zero, List.set_cons_succ]
  refine wpAnyH_two 2 7 (by kernel_rfl) ?_ ?_
  · refine wpOp_call 11 #[.int .i64 (q : Int)] rfl (by kernel_rfl) (rbx_call1 _ _ _ _ _ _ rfl _ (by kernel_rfl) (Try.call11 _ _)) ?_
    refine (dec_one q _ HQ.out).mono ?_
    rintro e' w1 ⟨t1, rfl, ht1, hbx⟩
    have htl : t1.size ≤ 9223372036854775806 := by omega
    have hB1 : Below w.heap.size w w1 := Below.trans hB0 (hbx.mono (Below.size hB0))
    refine ⟨trivial, ?_⟩
    try simp only [Act.put, List.getElem_toArray, List.getElem_cons_succ, List.getElem_cons_zero, List.setIfInBounds_toArray, List.set_cons_zero, List.set_cons_succ]
    refine wpAnyH_one 7 (by kernel_rfl) ?_
    refine wpOp_val _ _ rfl (by kernel_rfl) (rbx_build _ _ _ _ rfl (48 + (r : Int)) (by kernel_rfl)) ?_
    have hB2 : Below w.heap.size w (w1.alloc (.cells #[.int .u8 (48 + (r : Int))] 5)) := hB1.alloc hB1.size _
    refine ⟨trivial, ?_⟩
    try simp only [Act.put, List.getElem_toArray, List.getElem_cons_succ, List.getElem_cons_zero, List.setIfInBounds_toArray, List.set_cons_zero, List.set_cons_succ]
    refine wpAnyH_one 8 (by kernel_rfl) ?_
    refine wpOp_val _ _ rfl (by kernel_rfl) (rt_conv _ _ _ _ rfl _ (by kernel_rfl) _ (hgen w1)) ?_
    refine ⟨trivial, ?_⟩
    try simp only [Act.put, List.getElem_toArray, List.getElem_cons_succ, List.getElem_cons_zero, List.setIfInBounds_toArray, List.set_cons_zero, List.set_cons_succ]
    refine tkX 9 (v := .string (t1 ++ ⟨#[UInt8.ofNat (48 + (r : Int)).toNat]⟩)) (hS := trivial) (h := ?_)
    try simp only [Act.put, List.getElem_toArray, List.getElem_cons_succ, List.getElem_cons_zero, List.setIfInBounds_toArray, List.set_cons_zero, List.set_cons_succ]
    refine tkX 10 (v := .string (t1 ++ ⟨#[UInt8.ofNat (48 + (r : Int)).toNat]⟩)) (hS := trivial) (h := ?_)
    try simp only [Act.put, List.getElem_toArray, List.getElem_cons_succ, List.getElem_cons_zero, List.setIfInBounds_toArray, List.set_cons_zero, List.set_cons_succ]
    refine wpAnyH_done (by kernel_rfl) ?_ _
    have HBz := hidd hB2
    clear hB0 hB1 hB2 hbx hgen
    go_wp2_with fail
    go_ret
    exact ⟨_, rfl, dec_len t1 _ ht1, HBz.out⟩
  · refine wpOp_val _ _ rfl (by kernel_rfl) (rbx_build _ _ _ _ rfl (48 + (r : Int)) (by kernel_rfl)) ?_
    have hB1 : Below w.heap.size w (wd.alloc (.cells #[.int .u8 (48 + (r : Int))] 5)) := hB0.alloc hB0.size _
    have hcl : (wd.alloc (.cells #[.int .u8 (48 + (r : Int))] 5)).cell? ⟨wd.heap.size, 0, none⟩ = some (.int .u8 (48 + (r : Int))) := by simp
    refine ⟨trivial, ?_⟩
    try simp only [Act.put, List.getElem_toArray, List.getElem_cons_succ, List.getElem_cons_zero, List.setIfInBounds_toArray, List.set_cons_zero, List.set_cons_succ]
    refine wpAnyH_two 2 8 (by kernel_rfl) ?_ ?_
    · refine wpOp_call 11 #[.int .i64 (q : Int)] rfl (by kernel_rfl) (rbx_call1 _ _ _ _ _ _ rfl _ (by kernel_rfl) (Try.call11 _ _)) ?_
      refine (dec_one q _ HQ.out).mono ?_
      rintro e' w1 ⟨t1, rfl, ht1, hbx⟩
      have htl : t1.size ≤ 9223372036854775806 := by omega
      have hB2 : Below w.heap.size w w1 := Below.trans hB1 (hbx.mono (Below.size hB1))
      refine ⟨trivial, ?_⟩
      try simp only [Act.put, List.getElem_toArray, List.getElem_cons_succ, List.getElem_cons_zero, List.setIfInBounds_toArray, List.set_cons_zero, List.set_cons_succ]
      have hcv := byte_text w1 wd.heap.size 1 (48 + (r : Int)) (by omega) (by omega) ((hbx.cell (p := ⟨wd.heap.size, 0, none⟩) (by simp)).trans hcl)
      refine wpAnyH_one 8 (by kernel_rfl) ?_
      refine wpOp_val _ _ rfl (by kernel_rfl) (rt_conv _ _ _ _ rfl _ (by kernel_rfl) _ hcv) ?_
      refine ⟨trivial, ?_⟩
      clear hcv hcl
      try simp only [Act.put, List.getElem_toArray, List.getElem_cons_succ, List.getElem_cons_zero, List.setIfInBounds_toArray, List.set_cons_zero, List.set_cons_succ]
      refine tkX 9 (v := .string (t1 ++ ⟨#[UInt8.ofNat (48 + (r : Int)).toNat]⟩)) (hS := trivial) (h := ?_)
      try simp only [Act.put, List.getElem_toArray, List.getElem_cons_succ, List.getElem_cons_zero, List.setIfInBounds_toArray, List.set_cons_zero, List.set_cons_succ]
      refine tkX 10 (v := .string (t1 ++ ⟨#[UInt8.ofNat (48 + (r : Int)).toNat]⟩)) (hS := trivial) (h := ?_)
      try simp only [Act.put, List.getElem_toArray, List.getElem_cons_succ, List.getElem_cons_zero, List.setIfInBounds_toArray, List.set_cons_zero, List.set_cons_succ]
      refine wpAnyH_done (by kernel_rfl) ?_ _
      have HBz := hidd hB2
      clear hB0 hB1 hB2 hbx hgen
      go_wp2_with fail
      go_ret
      exact ⟨_, rfl, dec_len t1 _ ht1, HBz.out⟩
    · refine wpOp_val _ _ rfl (by kernel_rfl) (rt_conv _ _ _ _ rfl _ (by kernel_rfl) _ (hgen wd)) ?_
      refine ⟨trivial, ?_⟩
      try simp only [Act.put, List.getElem_toArray, List.getElem_cons_succ, List.getElem_cons_zero, List.setIfInBounds_toArray, List.set_cons_zero, List.set_cons_succ]
      refine wpAnyH_one 2 (by kernel_rfl) ?_
      refine wpOp_call 11 #[.int .i64 (q : Int)] rfl (by kernel_rfl) (rbx_call1 _ _ _ _ _ _ rfl _ (by kernel_rfl) (Try.call11 _ _)) ?_
      refine (dec_one q _ HQ.out).mono ?_
      rintro e' w1 ⟨t1, rfl, ht1, hbx⟩
      have htl : t1.size ≤ 9223372036854775806 := by omega
      have hB2 : Below w.heap.size w w1 := Below.trans hB1 (hbx.mono (Below.size hB1))
      refine ⟨trivial, ?_⟩
      try simp only [Act.put, List.getElem_toArray, List.getElem_cons_succ, List.getElem_cons_zero, List.setIfInBounds_toArray, List.set_cons_zero, List.set_cons_succ]
      clear hcl
      try simp only [Act.put, List.getElem_toArray, List.getElem_cons_succ, List.getElem_cons_zero, List.setIfInBounds_toArray, List.set_cons_zero, List.set_cons_succ]
      refine tkX 9 (v := .string (t1 ++ ⟨#[UInt8.ofNat (48 + (r : Int)).toNat]⟩)) (hS := trivial) (h := ?_)
      try simp only [Act.put, List.getElem_toArray, List.getElem_cons_succ, List.getElem_cons_zero, List.setIfInBounds_toArray, List.set_cons_zero, List.set_cons_succ]
      refine tkX 10 (v := .string (t1 ++ ⟨#[UInt8.ofNat (48 + (r : Int)).toNat]⟩)) (hS := trivial) (h := ?_)
      try simp only [Act.put, List.getElem_toArray, List.getElem_cons_succ, List.getElem_cons_zero, List.setIfInBounds_toArray, List.set_cons_zero, List.set_cons_succ]
      refine wpAnyH_done (by kernel_rfl) ?_ _
      have HBz := hidd hB2
      clear hB0 hB1 hB2 hbx hgen
      go_wp2_with fail
      go_ret
      exact ⟨_, rfl, dec_len t1 _ ht1, HBz.out⟩
theorem dec_any (n : Nat) (w : World) (hn : n < 100) : Calls Try.prog 11 #[.int .i64 (n : Int)] w (Dec2 w) := by
  by_cases h : n < 10
  · exact (dec_one n w h).mono fun e w' ⟨t, h1, h2, h3⟩ => ⟨t, h1, by omega, h3⟩
  · exact dec_two n w (by omega) hn

def RtDrawn (w : World) (e : Ending) (w' : World) : Prop := ∃ (t : ByteArray) (n : Int), e = .returned (.tuple #[.string t, .int .i64 n]) ∧ t.size ≤ 18 ∧ -1 ≤ n ∧ n ≤ 9 ∧ Below w.heap.size w w'
set_option maxHeartbeats 4000000 in
set_option maxRecDepth 100000 in
theorem drawRoute_any (ao : Option Addr) (n cap : Nat) (w : World) (hn : n ≤ 1048576) (hc : CodeIn w ao n) :
    Calls Try.prog 5 #[.slice ao n cap] w (RtDrawn w) := by
  have HC := hidd hc
  clear hc
  go_enter Try.func5, Try.ntmps5
  go_wp2_with fail
  refine (source_any ao n cap _ hn).mono ?_
  rintro e w1 ⟨rfl, hs1, hg1⟩
  have HG1 := hidd hg1
  have HC1 := hidd (HC.out.code hg1)
  have HS1 := hidd hs1
  have hm0 : 0 ≤ (n : Int) % 1000 := Int.emod_nonneg _ (by omega)
  have hm1 : (n : Int) % 1000 < 2147483648 := by have := Int.emod_lt_of_pos (n : Int) (by omega : (0 : Int) < 1000); omega
  generalize (n : Int) % 1000 = sd0 at *
  clear hs1 hg1
  go_wp2_with fail
  refine (word_any w.heap.size ao n cap 0 sd0 _ hn (by omega) (by omega) hm0 hm1 HS1.out HC1.out).mono ?_
  rintro e w2 ⟨t, a2, sd2, rfl, ht, ha2, ha2', hd2, hd2', hs2, hg2⟩
  have HS2 := hidd hs2
  have HG2 := hidd hg2
  have HC2 := hidd (HC1.out.kept hg2)
  clear hs2 hg2 HS1 HC1
  go_wp2_with fail
  refine (next_any w.heap.size ao n cap a2 sd2 50 _ hn (by omega) (by omega) (by omega) (by omega) hd2 hd2' HS2.out HC2.out).mono ?_
  rintro e w3 ⟨x, a3, sd3, rfl, hx0, hx1, ha3, ha3', hd3, hd3', hs3, hg3⟩
  obtain ⟨X, rfl⟩ := Int.eq_ofNat_of_zero_le hx0
  have HS3 := hidd hs3
  have HG3 := hidd (grown_trans HG2.out hg3)
  have HC3 := hidd (HC2.out.kept hg3)
  clear hs3 hg3 HS2 HC2 HG2
  go_wp2_with fail
  refine (dec_any X _ (by omega)).mono ?_
  rintro e w4 ⟨d, rfl, hd, hb4⟩
  have HS4 : Hid (SrcAt w4 w.heap.size (.slice ao n cap) a3 sd3) := by show SrcAt _ _ _ _ _; unfold SrcAt; rw [hb4.block _ HS3.out.lt]; exact HS3.out
  have HC4 : Hid (Code w4 w.heap.size ao n) := HC3.out.kept ⟨hb4.os, hb4.tape, hb4.output, hb4.size, fun i hi _ => hb4.block i hi⟩
  have HG4 : Hid (w1.grownBy w4 (some w.heap.size)) := grown_trans HG3.out ⟨hb4.os, hb4.tape, hb4.output, hb4.size, fun i hi _ => hb4.block i hi⟩
  have hts : t.size + d.size ≤ 9223372036854775806 := by omega
  clear hb4 HS3 HC3 HG3
  go_wp2_with fail
  refine (next_any w.heap.size ao n cap a3 sd3 11 _ hn (by omega) (by omega) (by omega) (by omega) hd3 hd3' HS4.out HC4.out).mono ?_
  rintro e w5 ⟨y, a5, sd5, rfl, hy0, hy1, ha5, ha5', hd5, hd5', hs5, hg5⟩
  have HB5 := hidd (below_src HG1.out (grown_trans HG4.out hg5))
  clear hs5 hg5
  go_wp2_with fail
  go_ret2
  exact ⟨t ++ d, y - 1, rfl, by rw [ByteArray.size_append]; omega, by omega, by omega, HB5.out⟩
end Go.Proofs.Ytommbfmhdkhacaa
