import Derived.Test.YtmnfioghhdgciaaDoorWildJ11
import Derived.Test.YtmnfioghhdgciaaDoorWildJ08
import Derived.Test.YtmnfioghhdgciaaDoorWildJ04
import Derived.Test.YtmnfioghhdgciaaDoorWildJ07
import Derived.Deep.Onto
namespace Go.Proofs.YtmnfioghhdgciaaDoor
open Go Go.RowKit
set_option linter.unusedVariables false
set_option linter.unusedSimpArgs false
set_option maxRecDepth 100000

/-! spec.l05Bit, l05Close, l05Move. -/
theorem i64_small (n : Nat) (h : n < 9223372036854775808) : IntKind.i64.wrap (n : Int) = (n : Int) := by
  rw [IntKind.wrap_i64]
  omega
theorem i64_and_nat (a b : Nat) (ha : a < 9223372036854775808) (hb : b < 9223372036854775808) : bits .and .i64 (a : Int) (b : Int) = ((a &&& b : Nat) : Int) := by
  have hx : a &&& b < 2 ^ 63 := Nat.and_lt_two_pow _ (by omega)
  show IntKind.i64.wrap ((BitVec.ofInt 64 (a : Int) &&& BitVec.ofInt 64 (b : Int)).toNat : Int) = _
  rw [BitVec.toNat_and, ofInt_u64 a (by omega), ofInt_u64 b (by omega)]
  exact i64_small _ (by omega)
theorem i64_or_nat (a b : Nat) (ha : a < 9223372036854775808) (hb : b < 9223372036854775808) : bits .or .i64 (a : Int) (b : Int) = ((a ||| b : Nat) : Int) := by
  have hx : a ||| b < 2 ^ 63 := Nat.or_lt_two_pow (by omega) (by omega)
  show IntKind.i64.wrap ((BitVec.ofInt 64 (a : Int) ||| BitVec.ofInt 64 (b : Int)).toNat : Int) = _
  rw [BitVec.toNat_or, ofInt_u64 a (by omega), ofInt_u64 b (by omega)]
  exact i64_small _ (by omega)
theorem add_or {s j : Nat} (h : s.testBit j = false) : s + 2 ^ j = s ||| 2 ^ j := by
  have h1 : s % 2 ^ (j + 1) < 2 ^ j := by
    rw [Nat.mod_pow_succ]
    have h2 : s / 2 ^ j % 2 = 0 := by
      rw [Nat.testBit_eq_decide_div_mod_eq] at h
      have : ¬ s / 2 ^ j % 2 = 1 := by simpa using h
      omega
    rw [h2]
    simpa using Nat.mod_lt s (Nat.two_pow_pos j)
  have h3 := Nat.div_add_mod s (2 ^ (j + 1))
  generalize s % 2 ^ (j + 1) = r at *
  generalize s / 2 ^ (j + 1) = q at *
  have h4 : r + 2 ^ j < 2 ^ (j + 1) := by rw [Nat.pow_succ]; omega
  have h5 : r < 2 ^ (j + 1) := by omega
  have e1 : 2 ^ j + r = 2 ^ j ||| r := by simpa using Nat.two_pow_add_eq_or_of_lt h1 1
  have e2 := Nat.two_pow_add_eq_or_of_lt h4 q
  have e3 := Nat.two_pow_add_eq_or_of_lt h5 q
  rw [← h3, Nat.add_assoc, e2, e3, Nat.add_comm r, e1, Nat.or_assoc, Nat.or_comm r]
theorem testB (x n : Nat) : ((x / 2 ^ n &&& 1 : Nat) == 1) = x.testBit n := by
  rw [Nat.testBit_eq_decide_div_mod_eq, Nat.and_one_is_mod]
  rfl
theorem specBit_any (x i : Nat) (w : World) (hx : x < 4294967296) (hi : i ≤ 40) :
    Calls Tryd.prog 14 #[.int .i64 (x : Int), .int .i64 (i : Int)] w fun e w' => e = .returned (.bool (x.testBit i)) ∧ w' = w := by
  have hdiv : ((x / 2 ^ i : Nat) : Int) = (x : Int) / 2 ^ i := by norm_cast
  have hDx : x / 2 ^ i ≤ x := Nat.div_le_self _ _
  have HT := hidd (testB x i)
  obtain ⟨D, hD⟩ : ∃ D : Nat, x / 2 ^ i = D := ⟨_, rfl⟩
  rw [hD] at hdiv hDx HT
  clear hD
  have hdiv' := hdiv.symm
  clear hdiv
  have han := i64_and_nat D 1 (by omega) (by omega)
  have HT2 : Hid ((bits .and .i64 (D : Int) 1 == 1) = x.testBit i) := by
    show _ = _
    rw [← HT.out, show bits .and .i64 (D : Int) 1 = ((D &&& 1 : Nat) : Int) from han]
    generalize D &&& 1 = q
    by_cases e : q = 1
    · subst e; rfl
    · rw [beq_eq_false_iff_ne.2 e, beq_eq_false_iff_ne.2 (by omega)]
  clear han HT
  go_enter Tryd.func14, Tryd.ntmps14
  go_wp2
  go_ret
  exact ⟨by rw [← HT2.out]; rfl, rfl⟩
end Go.Proofs.YtmnfioghhdgciaaDoor

namespace Go.Proofs.YtmnfioghhdgciaaDoor
open Go Go.RowKit
set_option linter.unusedVariables false
set_option linter.unusedSimpArgs false
set_option maxRecDepth 100000

/-! spec.l05Close, l05Move. -/
theorem pow31 {k n : Nat} (hk : k ≤ n) (hn : n ≤ 31) : 2 ^ k ≤ 2147483648 := by
  have := Nat.pow_le_pow_right (show 0 < 2 by omega) (show k ≤ 31 by omega)
  simpa using this
set_option maxHeartbeats 2000000 in
theorem specClose_any (v : Value) (P : List Int) (x : Nat) (w : World) (hl : P.length ≤ 30) (hx : x < 2 ^ (P.length + 1)) (h : HoldI w v P) :
    Calls Tryd.prog 11 #[v, .int .i64 (x : Int)] w fun e w' => e = .returned (.int .i64 (cloN P x P.length : Nat)) ∧ w' = w := by
  obtain ⟨ad, cap, rfl, hc⟩ := h
  have HC := hidd hc
  have HX : Hid (∀ k, k ≤ P.length → cloN P x k < 2147483648) := fun k hk => Nat.lt_of_lt_of_le (cloN_lt hx hk) (pow31 (Nat.le_refl _) (by omega))
  clear hc hx
  go_enter Tryd.func11, Tryd.ntmps11
  go_wp2
  go_loop [1, 5] (fun sv i => ∃ k : Nat, k ≤ P.length ∧ i = .int .i64 (k : Int) ∧ sv = .int .i64 ((cloN P x k : Nat) : Int)) (fun _ i => P.length - (intOf i).toNat)
  case atStart => exact ⟨0, Nat.zero_le _, rfl, rfl⟩
  case round =>
    obtain ⟨k, hk, rfl, rfl⟩ := hrel
    by_cases hlt : k < P.length
    · have hkz : (k : Int) < (P.length : Int) := by omega
      obtain ⟨g, off, rfl, hg, hcells⟩ := HC.out.resolve_left (fun e => by rw [e] at hlt; simp at hlt)
      have c1 := hcells k hlt
      have HN : Hid (cloN P x (k + 1) = if (cloN P x k).testBit k = true ∧ P.getD k 0 = -2 then cloN P x k ||| 2 ^ (k + 1) else cloN P x k) := rfl
      have hs := HX.out k hk
      clear hcells
      generalize cloN P x k = s at *
      generalize P.getD k 0 = z at *
      have HB1 := hidd (specBit_any s k w (by omega) (by omega))
      have HB2 := hidd (specBit_any s (k + 1) w (by omega) (by omega))
      rw [show ((k + 1 : Nat) : Int) = (k : Int) + 1 by omega] at HB2
      cases hb1 : s.testBit k with
      | false =>
        have HE : Hid (cloN P x (k + 1) = s) := by show _ = _; rw [HN.out, if_neg (by simp [hb1])]
        rw [hb1] at HB1
        go_wp2_with fail
        refine HB1.out.mono ?_
        rintro e w2 ⟨rfl, rfl⟩
        go_wp2_with fail
        exact ⟨⟨k + 1, by omega, by go_num, by rw [HE.out]⟩, by simp [intOf]; omega⟩
      | true =>
        rw [hb1] at HB1
        by_cases hz : z = -2
        · have hzb : (z == -2) = true := by simp [hz]
          have hP := pow31 (show k + 1 ≤ k + 1 by omega) (by omega)
          cases hb2 : s.testBit (k + 1) with
          | true =>
            have HE : Hid (cloN P x (k + 1) = s) := by
              show _ = _
              rw [HN.out, if_pos ⟨hb1, hz⟩]
              refine Nat.eq_of_testBit_eq fun i => ?_
              rw [Bool.eq_iff_iff, or_bit]
              exact ⟨fun h => h.elim id (fun e => e ▸ hb2), Or.inl⟩
            rw [hb2] at HB2
            clear hz
            go_wp2_with fail
            refine HB1.out.mono ?_
            rintro e w2 ⟨rfl, rfl⟩
            go_wp2_with fail
            refine HB2.out.mono ?_
            rintro e w2 ⟨rfl, rfl⟩
            go_wp2_with fail
            exact ⟨⟨k + 1, by omega, by go_num, by rw [HE.out]⟩, by simp [intOf]; omega⟩
          | false =>
            have HE : Hid (cloN P x (k + 1) = s + 2 ^ (k + 1)) := by
              show _ = _
              rw [HN.out, if_pos ⟨hb1, hz⟩, add_or hb2]
            rw [hb2] at HB2
            have hPz : ((2 ^ (k + 1) : Nat) : Int) = (2 : Int) ^ (k + 1) := by norm_cast
            obtain ⟨Q, hQ⟩ : ∃ Q : Nat, 2 ^ (k + 1) = Q := ⟨_, rfl⟩
            rw [hQ] at HE hP hPz
            have hPz' := hPz.symm
            have hkt : ((k : Int) + 1).toNat = k + 1 := by omega
            clear hz hQ hPz
            go_wp2_with fail
            refine HB1.out.mono ?_
            rintro e w2 ⟨rfl, rfl⟩
            go_wp2_with fail
            refine HB2.out.mono ?_
            rintro e w2 ⟨rfl, rfl⟩
            go_wp2_with fail
            exact ⟨⟨k + 1, by omega, by go_num, by rw [HE.out]; go_num⟩, by simp [intOf]; omega⟩
        · have hzb : (z == -2) = false := by simp [hz]
          have HE : Hid (cloN P x (k + 1) = s) := by show _ = _; rw [HN.out, if_neg (by simp [hz])]
          clear hz
          go_wp2_with fail
          refine HB1.out.mono ?_
          rintro e w2 ⟨rfl, rfl⟩
          go_wp2_with fail
          exact ⟨⟨k + 1, by omega, by go_num, by rw [HE.out]⟩, by simp [intOf]; omega⟩
    · have hkz : ¬ (k : Int) < (P.length : Int) := by omega
      have HK : Hid (k = P.length) := by show _ = _; omega
      go_wp2
      go_ret
      rw [HK.out]
      exact ⟨rfl, rfl⟩
set_option maxHeartbeats 4000000 in
theorem specMove_any (v : Value) (P : List Int) (x : Nat) (r : Int) (w : World) (hl : P.length ≤ 30) (hx : x < 2 ^ (P.length + 1)) (h : HoldI w v P) :
    Calls Tryd.prog 13 #[v, .int .i64 (x : Int), .int .i64 r] w fun e w' => e = .returned (.int .i64 (cloN P (mvN P x r P.length) P.length : Nat)) ∧ w' = w := by
  have HCl := hidd (specClose_any v P (mvN P x r P.length) w hl (mvN_lt (Nat.le_refl _)) h)
  obtain ⟨ad, cap, rfl, hc⟩ := h
  have HC := hidd hc
  have HM : Hid (∀ k, k ≤ P.length → mvN P x r k < 2147483648) := fun k hk => Nat.lt_of_lt_of_le (mvN_lt hk) (pow31 (Nat.le_refl _) (by omega))
  have hx2 : x < 2147483648 := Nat.lt_of_lt_of_le hx (pow31 (Nat.le_refl _) (by omega))
  clear hc hx
  go_enter Tryd.func13, Tryd.ntmps13
  go_wp2
  go_loop [7, 8] (fun sv i => ∃ k : Nat, k ≤ P.length ∧ i = .int .i64 (k : Int) ∧ sv = .int .i64 ((mvN P x r k : Nat) : Int)) (fun _ i => P.length - (intOf i).toNat)
  case atStart => exact ⟨0, Nat.zero_le _, rfl, rfl⟩
  case round =>
    obtain ⟨k, hk, rfl, rfl⟩ := hrel
    by_cases hlt : k < P.length
    · have hkz : (k : Int) < (P.length : Int) := by omega
      obtain ⟨g, off, rfl, hg, hcells⟩ := HC.out.resolve_left (fun e => by rw [e] at hlt; simp at hlt)
      have c1 := hcells k hlt
      have HN : Hid (mvN P x r (k + 1) = if x.testBit k = true then (if P.getD k 0 = -2 then mvN P x r k ||| 2 ^ k else if one (P.getD k 0) r = true then mvN P x r k ||| 2 ^ (k + 1) else mvN P x r k) else mvN P x r k) := rfl
      have hs := HM.out k hk
      clear hcells
      generalize mvN P x r k = s at *
      generalize P.getD k 0 = z at *
      have HB1 := hidd (specBit_any x k w (by omega) (by omega))
      cases hb1 : x.testBit k with
      | false =>
        have HE : Hid (mvN P x r (k + 1) = s) := by show _ = _; rw [HN.out, if_neg (by simp [hb1])]
        rw [hb1] at HB1
        go_wp2_with fail
        refine HB1.out.mono ?_
        rintro e w2 ⟨rfl, rfl⟩
        go_wp2_with fail
        exact ⟨⟨k + 1, by omega, by go_num, by rw [HE.out]⟩, by simp [intOf]; omega⟩
      | true =>
        rw [hb1] at HB1
        have HN2 : Hid (mvN P x r (k + 1) = if z = -2 then s ||| 2 ^ k else if one z r = true then s ||| 2 ^ (k + 1) else s) := by show _ = _; rw [HN.out, if_pos hb1]
        clear HN
        by_cases hz : z = -2
        · have hzb : (z == -2) = true := by simp [hz]
          have hP := pow31 (show k ≤ k by omega) (by omega)
          have HE : Hid (mvN P x r (k + 1) = s ||| 2 ^ k) := by show _ = _; rw [HN2.out, if_pos hz]
          have hPz : ((2 ^ k : Nat) : Int) = (2 : Int) ^ k := by norm_cast
          obtain ⟨Q, hQ⟩ : ∃ Q : Nat, 2 ^ k = Q := ⟨_, rfl⟩
          rw [hQ] at HE hP hPz
          have hPz' := hPz.symm
          have hor := i64_or_nat s Q (by omega) (by omega)
          clear hz hQ hPz HN2
          go_wp2_with fail
          refine HB1.out.mono ?_
          rintro e w2 ⟨rfl, rfl⟩
          go_wp2_with fail
          exact ⟨⟨k + 1, by omega, by go_num, by rw [HE.out]⟩, by simp [intOf]; omega⟩
        · have hzb : (z == -2) = false := by simp [hz]
          have hP := pow31 (show k + 1 ≤ k + 1 by omega) (by omega)
          have hPz : ((2 ^ (k + 1) : Nat) : Int) = (2 : Int) ^ (k + 1) := by norm_cast
          have HN3 : Hid (mvN P x r (k + 1) = if one z r = true then s ||| 2 ^ (k + 1) else s) := by show _ = _; rw [HN2.out, if_neg hz]
          obtain ⟨Q, hQ⟩ : ∃ Q : Nat, 2 ^ (k + 1) = Q := ⟨_, rfl⟩
          rw [hQ] at HN3 hP hPz
          have hPz' := hPz.symm
          have hkt : ((k : Int) + 1).toNat = k + 1 := by omega
          have hor := i64_or_nat s Q (by omega) (by omega)
          clear hz hQ hPz HN2
          by_cases hz1 : z = -1
          · have hzb1 : (z == -1) = true := by simp [hz1]
            have HE : Hid (mvN P x r (k + 1) = s ||| Q) := by show _ = _; rw [HN3.out, if_pos (by simp [one, hz1])]
            clear hz1 HN3
            go_wp2_with fail
            refine HB1.out.mono ?_
            rintro e w2 ⟨rfl, rfl⟩
            go_wp2_with fail
            exact ⟨⟨k + 1, by omega, by go_num, by rw [HE.out]⟩, by simp [intOf]; omega⟩
          · have hzb1 : (z == -1) = false := by simp [hz1]
            by_cases hz2 : z = r
            · have hzb2 : (z == r) = true := by simp [hz2]
              have HE : Hid (mvN P x r (k + 1) = s ||| Q) := by show _ = _; rw [HN3.out, if_pos (by simp [one, hz2])]
              clear hz1 HN3 hz2
              go_wp2_with fail
              refine HB1.out.mono ?_
              rintro e w2 ⟨rfl, rfl⟩
              go_wp2_with fail
              exact ⟨⟨k + 1, by omega, by go_num, by rw [HE.out]⟩, by simp [intOf]; omega⟩
            · have hzb2 : (z == r) = false := by simp [hz2]
              have HE : Hid (mvN P x r (k + 1) = s) := by show _ = _; rw [HN3.out, if_neg (by simp [one, hz1, hz2])]
              clear hz1 HN3 hz2
              go_wp2_with fail
              refine HB1.out.mono ?_
              rintro e w2 ⟨rfl, rfl⟩
              go_wp2_with fail
              exact ⟨⟨k + 1, by omega, by go_num, by rw [HE.out]⟩, by simp [intOf]; omega⟩
    · have hkz : ¬ (k : Int) < (P.length : Int) := by omega
      obtain rfl : k = P.length := by omega
      go_wp2_with fail
      refine HCl.out.mono ?_
      rintro e w2 ⟨rfl, rfl⟩
      go_wp2_with fail
      go_ret
      exact ⟨rfl, rfl⟩
end Go.Proofs.YtmnfioghhdgciaaDoor

namespace Go.Proofs.YtmnfioghhdgciaaDoor
open Go Go.RowKit
set_option linter.unusedVariables false
set_option linter.unusedSimpArgs false
set_option maxRecDepth 100000
theorem exec_loadDfa (W : World) (ρ : Operand → Value) (o : Oper) (x : Operand) (ho : o.op = .load 24 x) (b : Nat) (a : Option Addr) (n c : Nat) (hx : ρ x = .pointer (some ⟨b, 0, none⟩)) (h0 : W.cell? ⟨b, 0, none⟩ = some (.slice a n c)) : (execOp ρ o).run Tryd.prog W = .ok (.value (.agg #[.slice a n c])) W := by
  unfold execOp
  simp only [ho, Instr.loadAt, Instr.sureAddr, hx, Sem.run_bind, Sem.run_pure, Result.andThen_ok]
  go_simp
theorem exec_storeDfa (W : World) (ρ : Operand → Value) (o : Oper) (x y : Operand) (ho : o.op = .store 24 x y) (b : Nat) (a : Option Addr) (n c : Nat) (u : Value) (hx : ρ x = .pointer (some ⟨b, 0, none⟩)) (hy : ρ y = .agg #[.slice a n c]) (h0 : W.cell? ⟨b, 0, none⟩ = some u) (hf : W.frozen? ⟨b, 0, none⟩ = false) : (execOp ρ o).run Tryd.prog W = .ok .skip (W.setCell ⟨b, 0, none⟩ (.slice a n c)) := by
  unfold execOp
  simp only [ho, hx, hy, Sem.run_bind, Sem.run_pure, Result.andThen_ok]
  go_simp
section
variable {ops : Array Oper} {rest : List Oper} {o : Oper} {a : Act} {w : World} {Q : Exit → Act → World → Prop}
theorem wpL_loadDfa (hgd : o.guard = none) (x : Operand) (ho : o.op = .load 24 x) (b : Nat) (s : Option Addr) (n c : Nat) (hx : a.eval x = .pointer (some ⟨b, 0, none⟩)) (h0 : w.cell? ⟨b, 0, none⟩ = some (.slice s n c))
    (h : wpList Tryd.prog ops Q rest (a.put o.dst (.agg #[.slice s n c])) w) : wpList Tryd.prog ops Q (o :: rest) a w := by
  refine wpList_plain hgd fun K hK => ?_
  have := exec_loadDfa w a.eval o x ho b s n c hx h0
  unfold Oper.wp
  simp only [this, Oper.upon]
  exact hK _ _ h
theorem wpL_storeDfa (hgd : o.guard = none) (x y : Operand) (ho : o.op = .store 24 x y) (b : Nat) (s : Option Addr) (n c : Nat) (u : Value) (hx : a.eval x = .pointer (some ⟨b, 0, none⟩)) (hy : a.eval y = .agg #[.slice s n c]) (h0 : w.cell? ⟨b, 0, none⟩ = some u) (hf : w.frozen? ⟨b, 0, none⟩ = false)
    (h : wpList Tryd.prog ops Q rest (a.put o.dst undef) (w.setCell ⟨b, 0, none⟩ (.slice s n c))) : wpList Tryd.prog ops Q (o :: rest) a w := by
  refine wpList_plain hgd fun K hK => ?_
  have := exec_storeDfa w a.eval o x y ho b s n c u hx hy h0 hf
  unfold Oper.wp
  simp only [this, Oper.upon]
  exact hK _ _ h
end
end Go.Proofs.YtmnfioghhdgciaaDoor

namespace Go.Proofs.YtmnfioghhdgciaaDoor
open Go Go.RowKit
set_option linter.unusedVariables false
set_option maxRecDepth 100000
set_option linter.unusedSimpArgs false

/-! spec.l05Told: the least automaton, if it is not too great. -/
def LeastC : Prop := ∀ (vl vf vn : Value) (ls : List Int) (fins : List Bool) (nxt : List (List Nat)) (w : World), HoldI w vl ls → RawOK w vf vn fins nxt (ls.length + 1) → Calls Tryd.prog 30 #[.agg #[vl, vf, vn]] w (LsPost w ls fins nxt)
def TdPost (w : World) (ls : List Int) (fins : List Bool) (nxt : List (List Nat)) (e : Ending) (w' : World) : Prop :=
  ∃ L, sysL.Least ls.length ls ((autR fins nxt).lang (ls.length + 1) 0) L ∧ Below w.heap.size w w' ∧
    ((256 < L.length ∧ e = .returned (.tuple #[.agg #[.slice none 0 0], .int .i64 11])) ∨ (L.length ≤ 256 ∧ ∃ v l, l.map Prod.snd = L ∧ e = .returned (.tuple #[.agg #[v], .int .i64 0]) ∧ DfaM w' w.heap.size v l))
theorem DfaM.mono {W : World} {base base' : Nat} {v : Value} {l : List MSt} (h : DfaM W base v l) (hb : base' ≤ base) : DfaM W base' v l := ⟨h.row.mono hb, fun s hs => (h.arcs s hs).mono hb, h.apart⟩
set_option maxHeartbeats 4000000 in
theorem told_any (hC : LeastC) (vl vf vn : Value) (ls : List Int) (fins : List Bool) (nxt : List (List Nat)) (w : World) (hls : HoldI w vl ls) (hraw : RawOK w vf vn fins nxt (ls.length + 1)) :
    Calls Tryd.prog 15 #[.agg #[vl, vf, vn]] w (TdPost w ls fins nxt) := by
  obtain ⟨w1, hw1⟩ : ∃ w1, w1 = w.alloc (.cells #[vl, vf, vn] 38) := ⟨_, rfl⟩
  obtain ⟨w2, hw2⟩ : ∃ w2, w2 = w1.alloc (.cells #[.slice none 0 0] 24) := ⟨_, rfl⟩
  have hs1 : w1.heap.size = w.heap.size + 1 := by rw [hw1]; simp
  have hs2 : w2.heap.size = w.heap.size + 2 := by rw [hw2]; simp [hs1]
  have HB2 : Hid (Below w.heap.size w w2) := by
    rw [hw2, hw1]
    exact ((Below.refl _ _).alloc (Nat.le_refl _) _).alloc (by simp) _
  have HK : Hid (w2.heap[w.heap.size]? = some (.cells #[vl, vf, vn] 38) ∧ w2.heap[w.heap.size + 1]? = some (.cells #[.slice none 0 0] 24)) := by
    rw [hw2, hw1]
    exact box_two w _ _
  have HLS := hidd (hls.below HB2.out)
  have HR := hidd (hraw.below HB2.out)
  have Hs2 := hidd hs2
  clear hls hraw
  have c0 : w2.cell? ⟨w.heap.size, 0, none⟩ = some vl := blkc HK.out.1 0
  have c1 : w2.cell? ⟨w.heap.size, 1, none⟩ = some vf := blkc HK.out.1 1
  have c2 : w2.cell? ⟨w.heap.size, 2, none⟩ = some vn := blkc HK.out.1 2
  obtain ⟨ad, cp, hvl⟩ : ∃ ad cp, vl = .slice ad ls.length cp := by obtain ⟨ad, cp, h, _⟩ := HLS.out; exact ⟨ad, cp, h⟩
  obtain ⟨adf, cpf, hvf⟩ : ∃ ad cp, vf = .slice ad fins.length cp := by obtain ⟨ad, cp, h, _⟩ := HR.out.fin; exact ⟨ad, cp, h⟩
  obtain ⟨adn, cpn, hvn⟩ : ∃ ad cp, vn = .slice ad nxt.length cp := by obtain ⟨ad, cp, h, _⟩ := HR.out.nx; exact ⟨ad, cp, h⟩
  have HE : Hid (w2 = (w.alloc (.cells #[vl, vf, vn] 38)).alloc (.cells #[.slice none 0 0] 24)) := by show _ = _; rw [hw2, hw1]
  clear hw1 hw2
  subst hvl hvf hvn
  have Hs := hidd hs2
  clear hs1 hs2
  go_enter Tryd.func15, Tryd.ntmps15
  go_upto_region 1 with fail
  rw [← HE.out]
  go_wp2_with fail
  refine (hC _ _ _ ls fins nxt _ HLS.out HR.out).mono ?_
  rintro e w3 ⟨v, l, rfl, hD, hL, hl4, hb3⟩
  have HD := hidd (hD.mono (base' := w.heap.size) (by rw [Hs.out]; omega))
  have HL := hidd hL
  have HB3 := hidd (HB2.out.trans (hb3.mono (by rw [Hs.out]; omega)))
  have hk1 := blko HK.out.2 hb3
  have HK3 := hidd hk1
  have hsz : w.heap.size + 2 ≤ w3.heap.size := by have := hb3.size; rw [Hs.out] at this; exact this
  have Hsz := hidd hsz
  obtain ⟨adv, cpv, hv⟩ : ∃ ad cp, v = .slice ad l.length cp := by
    rcases hD.row.2 with ⟨h, h0⟩ | ⟨g7, c7, cur7, h, _⟩
    · exact ⟨none, 0, by rw [h, h0]⟩
    · exact ⟨_, c7, h⟩
  subst hv
  clear hD hL hb3 hk1 hsz
  have HKn : Hid ((w3.alloc (.cells #[.slice adv l.length cpv] 24)).heap[w3.heap.size]? = some (.cells #[.slice adv l.length cpv] 24) ∧ (w3.alloc (.cells #[.slice adv l.length cpv] 24)).heap[w.heap.size + 1]? = some (.cells #[.slice none 0 0] 24)) := by
    refine ⟨heap_alloc_new _ _, ?_⟩
    rw [Below.heap_alloc _ _ _ (by have := Hsz.out; omega)]
    exact HK3.out
  have HB4 : Hid (Below w.heap.size w (w3.alloc (.cells #[.slice adv l.length cpv] 24))) := HB3.out.alloc (by have := Hsz.out; omega) _
  have HD4 : Hid (DfaM (w3.alloc (.cells #[.slice adv l.length cpv] 24)) w.heap.size (.slice adv l.length cpv) l) := HD.out.below ((Below.refl _ _).alloc (Nat.le_refl _) _)
  go_upto_region 2 with fail
  generalize w3.alloc (.cells #[.slice adv l.length cpv] 24) = w4 at *
  clear c0 c1 c2
  have d0 : w4.cell? ⟨w3.heap.size, 0, none⟩ = some (.slice adv l.length cpv) := blkc HKn.out.1 0
  have r0 : w4.cell? ⟨w.heap.size + 1, 0, none⟩ = some (.slice none 0 0) := blkc HKn.out.2 0
  have f0 := blkf HKn.out.2 0
  have hset : ∀ x : Value, (w4.setCell ⟨w.heap.size + 1, 0, none⟩ x).cell? ⟨w.heap.size + 1, 0, none⟩ = some x := by
    intro x
    have := blk_setk HKn.out.2 0 x
    rw [blkc this 0]
    simp
  have HSet := hidd hset
  have hbs : ∀ x : Value, Below w.heap.size w (w4.setCell ⟨w.heap.size + 1, 0, none⟩ x) := fun x => HB4.out.trans (((But.refl (fun b => b = w.heap.size + 1) w4).set (w.heap.size + 1) 0 _ rfl).below HB4.out.size (fun j hj e => by omega))
  have HBs := hidd hbs
  have hds : ∀ x : Value, DfaM (w4.setCell ⟨w.heap.size + 1, 0, none⟩ x) w.heap.size (.slice adv l.length cpv) l := by
    intro x
    refine HD4.out.congr fun b cs t ht _ hh => ?_
    rw [heap_set_other w4 (w.heap.size + 1) 0 _ b (by
      rintro rfl
      rw [HKn.out.2] at hh
      simp only [Option.some.injEq, Obj.cells.injEq] at hh
      rcases ht with rfl | rfl
      · exact absurd hh.2.1 (by decide)
      · exact absurd hh.2.1 (by decide))]
    exact hh
  have HDs := hidd hds
  clear hset hbs hds
  by_cases hgt : 256 < l.length
  · have hgz : (256 : Int) < (l.length : Int) := by omega
    go_wp2
    refine bodyPost_ret (v := .tuple #[.agg #[.slice none 0 0], .int .i64 11]) (by simp [results, Tryd.results15, go_sem, HSet.out]) rfl ?_
    exact ⟨_, HL.out, HBs.out _, Or.inl ⟨by rw [List.length_map]; exact hgt, rfl⟩⟩
  · have hgz : ¬ (256 : Int) < (l.length : Int) := by omega
    go_wp2
    refine bodyPost_ret (v := .tuple #[.agg #[.slice adv l.length cpv], .int .i64 0]) (by simp [results, Tryd.results15, go_sem, HSet.out]) rfl ?_
    exact ⟨_, HL.out, HBs.out _, Or.inr ⟨by rw [List.length_map]; omega, _, l, rfl, rfl, HDs.out _⟩⟩
end Go.Proofs.YtmnfioghhdgciaaDoor
