import Derived.Test.YtpdiaddgialanaaGreatDoorLogJ26
import Derived.Defers
import Derived.Recover
import Derived.Laws.Pointers
import Derived.Test.YtpdiaddgialanaaGreatDoorLogJ24
import Derived.Test.YtpdiaddgialanaaGreatDoorLogJ14
import Derived.Test.YtpdiaddgialanaaGreatDoorLogJ19
namespace Go.Proofs.YtpdiaddgialanaaGreatDoor
open Go Go.RowKit
set_option linter.unusedVariables false
set_option linter.unusedSimpArgs false
set_option maxRecDepth 100000

theorem catch_panic (D O : Nat) (x0 x1 y : Value) (u : TypeId) (pv : Value) (older : List PanicEntry) (w : World) (hd : w.heap[D]? = some (.cells #[x0, x1] 26)) (ho : w.heap[O]? = some (.cells #[y] 4)) (hne : D ≠ O) :
    CallsD Tryz.prog 79 #[.pointer (some ⟨D, 0, none⟩), .pointer (some ⟨O, 0, none⟩)] (.panicking ({ v := .iface u pv, recovered := false } :: older)) w fun e u' w' =>
      e = .returned (.tuple #[]) ∧ u' = .panicking ({ v := .iface u pv, recovered := true } :: older) ∧ w' = ((w.setCell ⟨D, 0, none⟩ (.string ⟨#[]⟩)).setCell ⟨D, 1, none⟩ (.slice none 0 0)).setCell ⟨O, 0, none⟩ (.bool false) := by
  have c0 := blkc hd 0
  have c1 := blkc hd 1
  have f0 := blkf hd 0
  have f1 := blkf hd 1
  have d0 := blkc ho 0
  have g0 := blkf ho 0
  refine callsD_of_wpS Tryz.func79 rfl fun c₀ cs hu => ?_
  apply wpS_seq
  apply wpS_region
  simp [wpOpsS, go_sem, recoverD, hu, Tryz.ntmps79, Exit.thenS]
  refine wpS_cond (t := true) (by simp [Act.eval, Array.replicate]) ?_
  simp only [if_true]
  apply wpS_region
  simp [wpOpsS, go_sem, c0, c1, f0, f1, d0, g0, hne, Ne.symm hne, bodyPostS, results, Tryz.results79]
theorem catch_idle (D O : Nat) (w : World) :
    CallsD Tryz.prog 79 #[.pointer (some ⟨D, 0, none⟩), .pointer (some ⟨O, 0, none⟩)] .returning w fun e u' w' => e = .returned (.tuple #[]) ∧ u' = .returning ∧ w' = w := by
  refine callsD_of_wpS Tryz.func79 rfl fun c₀ cs hu => ?_
  apply wpS_seq
  apply wpS_region
  simp [wpOpsS, go_sem, recoverD, hu, Tryz.ntmps79, Exit.thenS]
  refine wpS_cond (t := false) (by simp [Act.eval, Array.replicate]) ?_
  simp only [Bool.false_eq_true, if_false]
  refine wpS_of_wp (wp_skip ?_)
  cases c₀
  simp_all [bodyPostS, results, Tryz.results79]
/-- What docIn comes to. -/
def InPost (w0 : World) (bs : List UInt8) (e : Ending) (w' : World) : Prop :=
  Below w0.heap.size w0 w' ∧ ((∃ id V va xs r lo, rdD bs = some ((id, V), r) ∧ e = .returned (.tuple #[.agg #[.string ⟨id.toArray⟩, va], .bool (decide (r.length = 0))]) ∧ w0.heap.size ≤ lo ∧ AnsV w' lo w'.heap.size va V xs) ∨ (rdD bs = none ∧ e = .returned (.tuple #[.agg #[.string ⟨#[]⟩, .slice none 0 0], .bool false])))
set_option maxHeartbeats 4000000 in
theorem docIn_any {w0 : World} {u : TypeId} {pv : Value} {a0 : Option Addr} {c : Nat} {bs : List UInt8} (hE : ErrC w0 u pv) (hn : bs.length ≤ 1048576) (hB : (bs = [] ∧ ∃ a c', (Value.slice a0 bs.length c) = .slice a 0 c') ∨ ∃ b off c', (Value.slice a0 bs.length c) = .slice (some ⟨b, off, none⟩) bs.length c' ∧ bs.length ≤ c' ∧ b < w0.heap.size ∧ BytesAt w0 b off bs) :
    Calls Tryz.prog 67 #[.slice a0 bs.length c] w0 (InPost w0 bs) := by
  have hmf : ∀ (fn : Fn) (first cap : Array Value) (w : World), (Instr.makeFunc fn first cap).run Tryz.prog w = .ok (.func fn first cap) w := fun _ _ _ _ => rfl
  have HE := hidd hE
  clear hE
  go_enter_defers Tryz.func67, Tryz.ntmps67
  go_wp2_with fail
  have hk : (((w0.alloc (.cells #[.string ⟨#[]⟩, .slice none 0 0] 26)).alloc (.cells #[.bool false] 4)).alloc (.cells #[.slice a0 bs.length c, .bool false] 154)).heap[w0.heap.size]? = some (.cells #[.string ⟨#[]⟩, .slice none 0 0] 26) ∧ (((w0.alloc (.cells #[.string ⟨#[]⟩, .slice none 0 0] 26)).alloc (.cells #[.bool false] 4)).alloc (.cells #[.slice a0 bs.length c, .bool false] 154)).heap[w0.heap.size + 1]? = some (.cells #[.bool false] 4) ∧ (((w0.alloc (.cells #[.string ⟨#[]⟩, .slice none 0 0] 26)).alloc (.cells #[.bool false] 4)).alloc (.cells #[.slice a0 bs.length c, .bool false] 154)).heap[w0.heap.size + 1 + 1]? = some (.cells #[.slice a0 bs.length c, .bool false] 154) := by
    have h2 := box_two w0 (.cells #[.string ⟨#[]⟩, .slice none 0 0] 26) (.cells #[.bool false] 4)
    refine ⟨?_, ?_, ?_⟩
    · rw [Below.heap_alloc _ _ _ (by simp; omega)]; exact h2.1
    · rw [Below.heap_alloc _ _ _ (by simp)]; exact h2.2
    · have := heap_alloc_new ((w0.alloc (.cells #[.string ⟨#[]⟩, .slice none 0 0] 26)).alloc (.cells #[.bool false] 4)) (.cells #[.slice a0 bs.length c, .bool false] 154)
      simpa using this
  have hz3 : (((w0.alloc (.cells #[.string ⟨#[]⟩, .slice none 0 0] 26)).alloc (.cells #[.bool false] 4)).alloc (.cells #[.slice a0 bs.length c, .bool false] 154)).heap.size = w0.heap.size + 3 := by simp
  have HB3 : Hid (Below w0.heap.size w0 (((w0.alloc (.cells #[.string ⟨#[]⟩, .slice none 0 0] 26)).alloc (.cells #[.bool false] 4)).alloc (.cells #[.slice a0 bs.length c, .bool false] 154))) := (((Below.refl _ _).alloc (Nat.le_refl _) _).alloc (by simp) _).alloc (by simp; omega) _
  generalize ((w0.alloc (.cells #[.string ⟨#[]⟩, .slice none 0 0] 26)).alloc (.cells #[.bool false] 4)).alloc (.cells #[.slice a0 bs.length c, .bool false] 154) = W3 at *
  have HR : Hid (RdrAt w0 W3 (w0.heap.size + 1 + 1) bs false) := ⟨HB3.out, by omega, _, hk.2.2, hB⟩
  refine (docRd_any HE.out hn HR.out).mono ?_
  rintro e w4 (⟨id, V, va, xs, r, lo, hrd, rfl, hlo, hans, hr4, hf4⟩ | ⟨hrd, rfl, hb4, hf4⟩)
  · have kD := (hf4.2 w0.heap.size (by omega) (by omega)).trans hk.1
    have kO := (hf4.2 (w0.heap.size + 1) (by omega) (by omega)).trans hk.2.1
    obtain ⟨v4, kB, hv4⟩ := hr4.box
    have hvl : ∃ a4 c4, v4 = .slice a4 r.length c4 := by
      rcases hv4 with ⟨rfl, a, c, e⟩ | ⟨b', o', c', e, _⟩
      · exact ⟨a, c, e⟩
      · exact ⟨_, c', e⟩
    obtain ⟨a4, c4, rfl⟩ := hvl
    obtain ⟨aA, cA, rfl⟩ := own_formR hans.row
    have HAns := hidd hans
    have Hrd := hidd hrd
    have HB4 := hidd hr4.old
    have hsz4 := hf4.1
    have c0 := blkc kD 0
    have c1 := blkc kD 1
    have f0 := blkf kD 0
    have f1 := blkf kD 1
    have d0 := blkc kO 0
    have g0 := blkf kO 0
    have b0 := blkc kB 0
    simp only [List.getElem?_toArray, List.getElem?_cons_zero, List.getElem?_cons_succ] at c0 c1 d0 b0
    clear hans hrd hr4 hf4 hv4 hk HR HB3 hB
    have HKD := hidd kD
    have HKO := hidd kO
    have HKB := hidd kB
    clear kD kO kB
    dsimp only
    go_upto_region 4 with fail
    have m1 := blk_set2 (x := .string ⟨id.toArray⟩) (y := .slice aA V.length cA) HKD.out
    have hset : ∀ x, x ≠ w0.heap.size → ((w4.setCell ⟨w0.heap.size, 0, none⟩ (.string ⟨id.toArray⟩)).setCell ⟨w0.heap.size, 1, none⟩ (.slice aA V.length cA)).heap[x]? = w4.heap[x]? := fun x hx => by rw [heap_set_other _ _ _ _ _ hx, heap_set_other _ _ _ _ _ hx]
    have HB5 : Hid (Below w0.heap.size w0 ((w4.setCell ⟨w0.heap.size, 0, none⟩ (.string ⟨id.toArray⟩)).setCell ⟨w0.heap.size, 1, none⟩ (.slice aA V.length cA))) := (HB4.out.setCell (p := ⟨w0.heap.size, 0, none⟩) (Nat.le_refl _) _).setCell (p := ⟨w0.heap.size, 1, none⟩) (Nat.le_refl _) _
    have hz5 : ((w4.setCell ⟨w0.heap.size, 0, none⟩ (.string ⟨id.toArray⟩)).setCell ⟨w0.heap.size, 1, none⟩ (.slice aA V.length cA)).heap.size = w4.heap.size := by simp
    generalize ((w4.setCell ⟨w0.heap.size, 0, none⟩ (.string ⟨id.toArray⟩)).setCell ⟨w0.heap.size, 1, none⟩ (.slice aA V.length cA)) = w5 at *
    have HA5 : Hid (AnsV w5 lo w5.heap.size (.slice aA V.length cA) V xs) := by
      show AnsV _ _ _ _ _ _
      rw [hz5]
      exact HAns.out.keep fun x h1 h2 => hset x (by omega)
    have kD5 := m1
    have kO5 := (hset (w0.heap.size + 1) (by omega)).trans HKO.out
    have kB5 := (hset (w0.heap.size + 1 + 1) (by omega)).trans HKB.out
    clear c0 c1 f0 f1 d0 g0 b0 m1 hset HAns HKD HKO HKB HB4
    have c0 := blkc kD5 0
    have c1 := blkc kD5 1
    have f0 := blkf kD5 0
    have f1 := blkf kD5 1
    have d0 := blkc kO5 0
    have g0 := blkf kO5 0
    have b0 := blkc kB5 0
    simp only [List.getElem?_toArray, List.getElem?_cons_zero, List.getElem?_cons_succ] at c0 c1 d0 b0
    have HKD := hidd kD5
    have HKO := hidd kO5
    clear kD5 kO5 kB5
    go_region
    all_goals
      go_wp2_with fail
      obtain ⟨t, ht⟩ : ∃ t, ((r.length : Int) == 0) = t := ⟨_, rfl⟩
      have Ht : Hid (t = decide (r.length = 0)) := by
        show _ = _
        rw [← ht, Bool.eq_iff_iff]
        simp
      rw [ht]
      clear ht
      refine leaves_cons (f := 79) (args := #[.pointer (some ⟨w0.heap.size, 0, none⟩), .pointer (some ⟨w0.heap.size + 1, 0, none⟩)]) (by simp) (by simp [go_sem]) ?_
      refine (catch_idle w0.heap.size (w0.heap.size + 1) _).mono ?_
      rintro e u' w'' ⟨rfl, rfl, hw''⟩
      have HF : Hid (InPost w0 bs (.returned (.tuple #[.agg #[.string ⟨id.toArray⟩, .slice aA V.length cA], .bool t])) w'' ∧ w''.heap[w0.heap.size]? = some (.cells #[.string ⟨id.toArray⟩, .slice aA V.length cA] 26) ∧ w''.heap[w0.heap.size + 1]? = some (.cells #[.bool t] 4)) := by
        have hset : ∀ x, x ≠ w0.heap.size → x ≠ w0.heap.size + 1 → w''.heap[x]? = w5.heap[x]? := fun x h1 h2 => by
          rw [hw'']
          show (((w5.setCell _ _).setCell _ _).setCell _ _).heap[x]? = _
          rw [heap_set_other _ _ _ _ _ h2, heap_set_other _ _ _ _ _ h1, heap_set_other _ _ _ _ _ h1]
        have hz : w''.heap.size = w5.heap.size := by rw [hw'']; simp
        have hbel : Below w0.heap.size w0 w'' := by
          rw [hw'']
          exact below_drewN (((HB5.out.setCell (p := ⟨w0.heap.size, 0, none⟩) (Nat.le_refl _) _).setCell (p := ⟨w0.heap.size, 1, none⟩) (Nat.le_refl _) _).setCell (p := ⟨w0.heap.size + 1, 0, none⟩) (by dsimp only; omega) _) 1
        refine ⟨⟨hbel, Or.inl ⟨id, V, _, xs, r, lo, Hrd.out, by rw [Ht.out], by omega, ?_⟩⟩, ?_, ?_⟩
        · rw [hz]
          exact HA5.out.keep fun x h1 h2 => hset x (by omega) (by omega)
        · rw [hw'']
          show (((w5.setCell _ _).setCell _ _).setCell _ _).heap[w0.heap.size]? = _
          rw [heap_set_other _ _ _ _ _ (by omega)]
          exact blk_set2 HKD.out
        · rw [hw'']
          show (((w5.setCell _ _).setCell _ _).setCell _ _).heap[w0.heap.size + 1]? = _
          have kk : ((w5.setCell ⟨w0.heap.size, 0, none⟩ (.string ⟨id.toArray⟩)).setCell ⟨w0.heap.size, 1, none⟩ (.slice aA V.length cA)).heap[w0.heap.size + 1]? = some (.cells #[.bool false] 4) := by rw [heap_set_other _ _ _ _ _ (by omega), heap_set_other _ _ _ _ _ (by omega)]; exact HKO.out
          exact blk_setk kk 0 _
      clear hw''
      have z0 := blkc HF.out.2.1 0
      have z1 := blkc HF.out.2.1 1
      have z2 := blkc HF.out.2.2 0
      simp only [List.getElem?_toArray, List.getElem?_cons_zero, List.getElem?_cons_succ] at z0 z1 z2
      simp [Leaves, settle, results, Tryz.results67, go_sem, z0, z1, z2]
      exact HF.out.1
  · have kD := (hf4.2 w0.heap.size (by omega) (by omega)).trans hk.1
    have kO := (hf4.2 (w0.heap.size + 1) (by omega) (by omega)).trans hk.2.1
    have HB4 := hidd hb4
    have Hrd := hidd hrd
    refine leaves_cons (f := 79) (args := #[.pointer (some ⟨w0.heap.size, 0, none⟩), .pointer (some ⟨w0.heap.size + 1, 0, none⟩)]) (by simp) (by simp [go_sem]) ?_
    refine (catch_panic w0.heap.size (w0.heap.size + 1) _ _ _ u pv [] _ kD kO (by omega)).mono ?_
    rintro e u' w'' ⟨rfl, rfl, rfl⟩
    have m1 := blk_set2 (x := .string ⟨#[]⟩) (y := .slice none 0 0) kD
    have m2 : ((((w4.setCell ⟨w0.heap.size, 0, none⟩ (.string ⟨#[]⟩)).setCell ⟨w0.heap.size, 1, none⟩ (.slice none 0 0)).setCell ⟨w0.heap.size + 1, 0, none⟩ (.bool false))).heap[w0.heap.size]? = some (.cells #[.string ⟨#[]⟩, .slice none 0 0] 26) := by rw [heap_set_other _ _ _ _ _ (by omega)]; exact m1
    have m3 : ((((w4.setCell ⟨w0.heap.size, 0, none⟩ (.string ⟨#[]⟩)).setCell ⟨w0.heap.size, 1, none⟩ (.slice none 0 0)).setCell ⟨w0.heap.size + 1, 0, none⟩ (.bool false))).heap[w0.heap.size + 1]? = some (.cells #[.bool false] 4) := by
      have kk : ((w4.setCell ⟨w0.heap.size, 0, none⟩ (.string ⟨#[]⟩)).setCell ⟨w0.heap.size, 1, none⟩ (.slice none 0 0)).heap[w0.heap.size + 1]? = some (.cells #[.bool false] 4) := by rw [heap_set_other _ _ _ _ _ (by omega), heap_set_other _ _ _ _ _ (by omega)]; exact kO
      exact blk_setk kk 0 _
    have hbel : Below w0.heap.size w0 (((w4.setCell ⟨w0.heap.size, 0, none⟩ (.string ⟨#[]⟩)).setCell ⟨w0.heap.size, 1, none⟩ (.slice none 0 0)).setCell ⟨w0.heap.size + 1, 0, none⟩ (.bool false)) := ((HB4.out.setCell (p := ⟨w0.heap.size, 0, none⟩) (Nat.le_refl _) _).setCell (p := ⟨w0.heap.size, 1, none⟩) (Nat.le_refl _) _).setCell (p := ⟨w0.heap.size + 1, 0, none⟩) (by dsimp only; omega) _
    dsimp only
    generalize ((w4.setCell ⟨w0.heap.size, 0, none⟩ (.string ⟨#[]⟩)).setCell ⟨w0.heap.size, 1, none⟩ (.slice none 0 0)).setCell ⟨w0.heap.size + 1, 0, none⟩ (.bool false) = w6 at *
    have z0 := blkc m2 0
    have z1 := blkc m2 1
    have z2 := blkc m3 0
    simp only [List.getElem?_toArray, List.getElem?_cons_zero, List.getElem?_cons_succ] at z0 z1 z2
    have HF : Hid (InPost w0 bs (.returned (.tuple #[.agg #[.string ⟨#[]⟩, .slice none 0 0], .bool false])) w6) := ⟨hbel, Or.inr ⟨Hrd.out, rfl⟩⟩
    simp [Leaves, settle, results, Tryz.results67, go_sem, z0, z1, z2]
    exact HF.out
end Go.Proofs.YtpdiaddgialanaaGreatDoor

namespace Go.Proofs.YtpdiaddgialanaaGreatDoor
open Go Go.RowKit
set_option linter.unusedVariables false
set_option linter.unusedSimpArgs false
set_option maxRecDepth 100000

end Go.Proofs.YtpdiaddgialanaaGreatDoor

namespace Go.Proofs.YtpdiaddgialanaaGreatDoor
open Go Go.RowKit
set_option linter.unusedVariables false
set_option maxRecDepth 100000

def smallV (v : Vl) : Prop := v.1.length ≤ 65536 ∧ v.2.1.length ≤ 4096 ∧ v.2.2.length ≤ 4096
theorem rdV_small {bs r : List UInt8} {v : Vl} (h : rdV bs = some (v, r)) : smallV v := by
  unfold rdV at h
  cases h1 : rdT bs with
  | none => rw [h1] at h; simp at h
  | some p =>
    obtain ⟨f, r1⟩ := p
    rw [h1] at h
    simp only at h
    cases h2 : rdN 4096 r1 with
    | none => rw [h2] at h; simp at h
    | some p =>
      obtain ⟨n, r2⟩ := p
      rw [h2] at h
      simp only at h
      cases h3 : rdTs n r2 with
      | none => rw [h3] at h; simp at h
      | some p =>
        obtain ⟨tx, r3⟩ := p
        rw [h3] at h
        simp only at h
        cases h4 : rdN 4096 r3 with
        | none => rw [h4] at h; simp at h
        | some p =>
          obtain ⟨m, r4⟩ := p
          rw [h4] at h
          simp only at h
          cases h5 : rdZs m r4 with
          | none => rw [h5] at h; simp at h
          | some p =>
            obtain ⟨zs, r5⟩ := p
            rw [h5] at h
            simp only [Option.some.injEq, Prod.mk.injEq] at h
            obtain ⟨rfl, rfl⟩ := h
            have a1 := rdT_len h1
            have a2 := rdN_len h2
            have a3 := rdTs_len n h3
            have a4 := rdN_len h4
            have a5 := rdZs_len m h5
            exact ⟨by show f.length ≤ _; omega, by show tx.length ≤ _; omega, by show zs.length ≤ _; omega⟩
theorem rdVs_small : ∀ (k : Nat) {bs r : List UInt8} {V : List Vl}, rdVs k bs = some (V, r) → V.length = k ∧ ∀ v ∈ V, smallV v
  | 0, bs, r, V, h => by simp only [rdVs, Option.some.injEq, Prod.mk.injEq] at h; obtain ⟨rfl, rfl⟩ := h; simp
  | k + 1, bs, r, V, h => by
    simp only [rdVs] at h
    cases h1 : rdV bs with
    | none => rw [h1] at h; simp at h
    | some p =>
      obtain ⟨v, r1⟩ := p
      rw [h1] at h
      simp only at h
      cases h2 : rdVs k r1 with
      | none => rw [h2] at h; simp at h
      | some q =>
        obtain ⟨vs, r2⟩ := q
        rw [h2] at h
        simp only [Option.some.injEq, Prod.mk.injEq] at h
        obtain ⟨rfl, rfl⟩ := h
        have b := rdVs_small k h2
        refine ⟨by simp [b.1], fun v' hv => ?_⟩
        rcases List.mem_cons.1 hv with rfl | hv
        · exact rdV_small h1
        · exact b.2 v' hv
theorem rdD_small {bs r : List UInt8} {d : Dc} (h : rdD bs = some (d, r)) : d.2.length ≤ 4096 ∧ ∀ v ∈ d.2, smallV v := by
  unfold rdD at h
  cases h1 : rdT bs with
  | none => rw [h1] at h; simp at h
  | some p =>
    obtain ⟨i, r1⟩ := p
    rw [h1] at h
    simp only at h
    cases h2 : rdN 4096 r1 with
    | none => rw [h2] at h; simp at h
    | some p =>
      obtain ⟨n, r2⟩ := p
      rw [h2] at h
      simp only at h
      cases h3 : rdVs n r2 with
      | none => rw [h3] at h; simp at h
      | some p =>
        obtain ⟨V, r3⟩ := p
        rw [h3] at h
        simp only [Option.some.injEq, Prod.mk.injEq] at h
        obtain ⟨rfl, rfl⟩ := h
        have a2 := rdN_len h2
        have a3 := rdVs_small n h3
        exact ⟨by show V.length ≤ _; omega, a3.2⟩
theorem own_holdT {w : World} {base : Nat} {v : Value} {l : List (List UInt8)} (h : w.ownsRow base 9 1 v l.length (l.map mkS)) : ∃ a c, v = .slice a l.length c ∧ HoldTx w a l := by
  rcases h.2 with ⟨rfl, h0⟩ | ⟨g, cap, cur, rfl, _, hg, _⟩
  · exact ⟨none, 0, by rw [h0], Or.inl (List.length_eq_zero_iff.1 h0)⟩
  · refine ⟨_, cap, rfl, Or.inr ⟨g, 0, rfl, (Array.getElem?_eq_some_iff.1 hg).1, fun i hi => ?_⟩⟩
    rw [Nat.zero_add, h.cellAt i (by omega)]
    simp [List.getD_eq_getElem?_getD, hi, mkS]
theorem own_holdN {w : World} {base : Nat} {v : Value} {l : List Int} (h : w.ownsRow base 3 1 v l.length (l.map mkI)) : ∃ a c, v = .slice a l.length c ∧ HoldZ w a l := by
  rcases h.2 with ⟨rfl, h0⟩ | ⟨g, cap, cur, rfl, _, hg, _⟩
  · exact ⟨none, 0, by rw [h0], Or.inl (List.length_eq_zero_iff.1 h0)⟩
  · refine ⟨_, cap, rfl, Or.inr ⟨g, 0, rfl, (Array.getElem?_eq_some_iff.1 hg).1, fun i hi => ?_⟩⟩
    rw [Nat.zero_add, h.cellAt i (by omega)]
    simp [List.getD_eq_getElem?_getD, hi, mkI]
theorem AnsV.hold {w : World} {lo hi : Nat} {a : Option Addr} {c : Nat} {V : List Vl} {xs : List Value} (h : AnsV w lo hi (.slice a V.length c) V xs) : HoldV w a V := by
  rcases h.row.2 with ⟨e, h0⟩ | ⟨g, cap, cur, e, _, hg, _⟩
  · exact Or.inl (List.length_eq_zero_iff.1 h0)
  · simp only [Value.slice.injEq] at e
    obtain ⟨rfl, _, rfl⟩ := e
    refine Or.inr ⟨g, 0, rfl, (Array.getElem?_eq_some_iff.1 hg).1, fun i hi' => ?_⟩
    obtain ⟨vt, vn, q0, q1, q2, q3, q4⟩ := h.val i hi'
    obtain ⟨at_, ct, rfl, hT⟩ := own_holdT q3
    obtain ⟨an, cn, rfl, hN⟩ := own_holdN q4
    rw [Nat.zero_add]
    refine ⟨?_, ⟨at_, ct, ?_, hT⟩, an, cn, ?_, hN⟩
    · rw [h.row.cellAt (i * 3) (by omega)]; exact q0
    · rw [h.row.cellAt (i * 3 + 1) (by omega)]; exact q1
    · rw [h.row.cellAt (i * 3 + 2) (by omega)]; exact q2
end Go.Proofs.YtpdiaddgialanaaGreatDoor

namespace Go.Proofs.YtpdiaddgialanaaGreatDoor
open Go Go.RowKit
set_option linter.unusedVariables false
set_option linter.unusedSimpArgs false
set_option maxRecDepth 100000

/-! Records loaded and stored whole. -/
theorem exec_loadRec (W : World) (ρ : Operand → Value) (o : Oper) (x : Operand) (ho : o.op = .load 28 x) (b : Nat) (u0 u1 u2 u3 u4 : Value) (hx : ρ x = .pointer (some ⟨b, 0, none⟩))
    (h : W.heap[b]? = some (.cells #[u0, u1, u2, u3, u4] 28)) : (execOp ρ o).run Tryz.prog W = .ok (.value (.agg #[u0, u1, u2, u3, u4])) W := by
  have c0 : W.cell? ⟨b, 0, none⟩ = some u0 := blkc h 0
  have c1 : W.cell? ⟨b, 1, none⟩ = some u1 := blkc h 1
  have c2 : W.cell? ⟨b, 2, none⟩ = some u2 := blkc h 2
  have c3 : W.cell? ⟨b, 3, none⟩ = some u3 := blkc h 3
  have c4 : W.cell? ⟨b, 4, none⟩ = some u4 := blkc h 4
  clear h
  unfold execOp
  simp only [ho, Instr.loadAt, Instr.sureAddr, hx, Sem.run_bind, Sem.run_pure, Result.andThen_ok]
  go_simp
/-- A record stored whole. -/
def setRec (W : World) (b : Nat) (kd sq : Int) (id did : List UInt8) (a : Option Addr) (n c : Nat) : World := ((((W.setCell ⟨b, 0, none⟩ (.int .i64 kd)).setCell ⟨b, 1, none⟩ (.int .i64 sq)).setCell ⟨b, 2, none⟩ (.string ⟨id.toArray⟩)).setCell ⟨b, 3, none⟩ (.string ⟨did.toArray⟩)).setCell ⟨b, 4, none⟩ (.slice a n c)
theorem exec_storeRec (W : World) (ρ : Operand → Value) (o : Oper) (x y : Operand) (ho : o.op = .store 28 x y) (b : Nat) (r0 r1 r2 r3 r4 : Value) (kd sq : Int) (id did : List UInt8) (a : Option Addr) (n c : Nat) (hx : ρ x = .pointer (some ⟨b, 0, none⟩)) (hy : ρ y = .agg #[.int .i64 kd, .int .i64 sq, .string ⟨id.toArray⟩, .string ⟨did.toArray⟩, .slice a n c])
    (h : W.heap[b]? = some (.cells #[r0, r1, r2, r3, r4] 28)) : (execOp ρ o).run Tryz.prog W = .ok .skip (setRec W b kd sq id did a n c) := by
  have c0' : W.cell? ⟨b, 0, none⟩ = some r0 := blkc h 0
  have f0 := blkf h 0
  have c1' : W.cell? ⟨b, 1, none⟩ = some r1 := blkc h 1
  have f1 := blkf h 1
  have c2' : W.cell? ⟨b, 2, none⟩ = some r2 := blkc h 2
  have f2 := blkf h 2
  have c3' : W.cell? ⟨b, 3, none⟩ = some r3 := blkc h 3
  have f3 := blkf h 3
  have c4' : W.cell? ⟨b, 4, none⟩ = some r4 := blkc h 4
  have f4 := blkf h 4
  clear h
  unfold setRec
  unfold execOp
  simp only [ho, hx, hy, Sem.run_bind, Sem.run_pure, Result.andThen_ok]
  go_simp
theorem setRec_oth (W : World) (b : Nat) (kd sq : Int) (id did : List UInt8) (a : Option Addr) (n c x : Nat) (hx : x ≠ b) : (setRec W b kd sq id did a n c).heap[x]? = W.heap[x]? := by
  unfold setRec
  iterate 5 rw [heap_set_other _ _ _ _ _ hx]
theorem setRec_at {W : World} {b : Nat} {r0 r1 r2 r3 r4 : Value} {ty : TypeId} (h : W.heap[b]? = some (.cells #[r0, r1, r2, r3, r4] ty)) (kd sq : Int) (id did : List UInt8) (a : Option Addr) (n c : Nat) : (setRec W b kd sq id did a n c).heap[b]? = some (.cells #[.int .i64 kd, .int .i64 sq, .string ⟨id.toArray⟩, .string ⟨did.toArray⟩, .slice a n c] ty) := by
  have h0 := blk_setk h 0 (.int .i64 kd)
  have h1 := blk_setk h0 1 (.int .i64 sq)
  have h2 := blk_setk h1 2 (.string ⟨id.toArray⟩)
  have h3 := blk_setk h2 3 (.string ⟨did.toArray⟩)
  have h4 := blk_setk h3 4 (.slice a n c)
  unfold setRec
  rw [h4]
  simp
theorem setRec_size (W : World) (b : Nat) (kd sq : Int) (id did : List UInt8) (a : Option Addr) (n c : Nat) : (setRec W b kd sq id did a n c).heap.size = W.heap.size := by
  unfold setRec; simp
theorem setRec_below {W0 W : World} {B b : Nat} (h : Below B W0 W) (hb : B ≤ b) (kd sq : Int) (id did : List UInt8) (a : Option Addr) (n c : Nat) : Below B W0 (setRec W b kd sq id did a n c) := by
  unfold setRec
  iterate 5 refine Below.setCell ?_ (by dsimp only; exact hb) _
  exact h
end Go.Proofs.YtpdiaddgialanaaGreatDoor
