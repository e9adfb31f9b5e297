import Derived.Test.YtefhmbnhhkgifaaDoorReadLogJ25
import Derived.Defers
import Derived.Recover
import Derived.Laws.Pointers
namespace Go.Proofs.YtefhmbnhhkgifaaDoor
open Go Go.RowKit
set_option linter.unusedVariables false
set_option linter.unusedSimpArgs false
set_option maxRecDepth 100000

theorem catch_panic (D O : Nat) (x0 x1 y : Value) (u : TypeId) (pv : Value) (older : List PanicEntry) (w : World) (hd : w.heap[D]? = some (.cells #[x0, x1] 34)) (ho : w.heap[O]? = some (.cells #[y] 4)) (hne : D ≠ O) :
    CallsD Tryd.prog 51 #[.pointer (some ⟨D, 0, none⟩), .pointer (some ⟨O, 0, none⟩)] (.panicking ({ v := .iface u pv, recovered := false } :: older)) w fun e u' w' =>
      e = .returned (.tuple #[]) ∧ u' = .panicking ({ v := .iface u pv, recovered := true } :: older) ∧ w' = ((w.setCell ⟨D, 0, none⟩ (.string ⟨#[]⟩)).setCell ⟨D, 1, none⟩ (.slice none 0 0)).setCell ⟨O, 0, none⟩ (.bool false) := by
  have c0 := blkc hd 0
  have c1 := blkc hd 1
  have f0 := blkf hd 0
  have f1 := blkf hd 1
  have d0 := blkc ho 0
  have g0 := blkf ho 0
  refine callsD_of_wpS Tryd.func51 rfl fun c₀ cs hu => ?_
  apply wpS_seq
  apply wpS_region
  simp [wpOpsS, go_sem, recoverD, hu, Tryd.ntmps51, Exit.thenS]
  refine wpS_cond (t := true) (by simp [Act.eval, Array.replicate]) ?_
  simp only [if_true]
  apply wpS_region
  simp [wpOpsS, go_sem, c0, c1, f0, f1, d0, g0, hne, Ne.symm hne, bodyPostS, results, Tryd.results51]
theorem catch_idle (D O : Nat) (w : World) :
    CallsD Tryd.prog 51 #[.pointer (some ⟨D, 0, none⟩), .pointer (some ⟨O, 0, none⟩)] .returning w fun e u' w' => e = .returned (.tuple #[]) ∧ u' = .returning ∧ w' = w := by
  refine callsD_of_wpS Tryd.func51 rfl fun c₀ cs hu => ?_
  apply wpS_seq
  apply wpS_region
  simp [wpOpsS, go_sem, recoverD, hu, Tryd.ntmps51, Exit.thenS]
  refine wpS_cond (t := false) (by simp [Act.eval, Array.replicate]) ?_
  simp only [Bool.false_eq_true, if_false]
  refine wpS_of_wp (wp_skip ?_)
  cases c₀
  simp_all [bodyPostS, results, Tryd.results51]
/-- What docIn comes to. -/
def InPost (w0 : World) (bs : List UInt8) (e : Ending) (w' : World) : Prop :=
  Below w0.heap.size w0 w' ∧ ((∃ id V va xs r lo, rdD bs = some ((id, V), r) ∧ e = .returned (.tuple #[.agg #[.string ⟨id.toArray⟩, va], .bool (decide (r.length = 0))]) ∧ w0.heap.size ≤ lo ∧ AnsV w' lo w'.heap.size va V xs) ∨ (rdD bs = none ∧ e = .returned (.tuple #[.agg #[.string ⟨#[]⟩, .slice none 0 0], .bool false])))
set_option maxHeartbeats 4000000 in
theorem docIn_any {w0 : World} {u : TypeId} {pv : Value} {a0 : Option Addr} {c : Nat} {bs : List UInt8} (hE : ErrC w0 u pv) (hn : bs.length ≤ 1048576) (hB : (bs = [] ∧ ∃ a c', (Value.slice a0 bs.length c) = .slice a 0 c') ∨ ∃ b off c', (Value.slice a0 bs.length c) = .slice (some ⟨b, off, none⟩) bs.length c' ∧ bs.length ≤ c' ∧ b < w0.heap.size ∧ BytesAt w0 b off bs) :
    Calls Tryd.prog 43 #[.slice a0 bs.length c] w0 (InPost w0 bs) := by
  have hmf : ∀ (fn : Fn) (first cap : Array Value) (w : World), (Instr.makeFunc fn first cap).run Tryd.prog w = .ok (.func fn first cap) w := fun _ _ _ _ => rfl
  have HE := hidd hE
  clear hE
  go_enter_defers Tryd.func43, Tryd.ntmps43
  go_wp2_with fail
  have hk : (((w0.alloc (.cells #[.string ⟨#[]⟩, .slice none 0 0] 34)).alloc (.cells #[.bool false] 4)).alloc (.cells #[.slice a0 bs.length c, .bool false] 89)).heap[w0.heap.size]? = some (.cells #[.string ⟨#[]⟩, .slice none 0 0] 34) ∧ (((w0.alloc (.cells #[.string ⟨#[]⟩, .slice none 0 0] 34)).alloc (.cells #[.bool false] 4)).alloc (.cells #[.slice a0 bs.length c, .bool false] 89)).heap[w0.heap.size + 1]? = some (.cells #[.bool false] 4) ∧ (((w0.alloc (.cells #[.string ⟨#[]⟩, .slice none 0 0] 34)).alloc (.cells #[.bool false] 4)).alloc (.cells #[.slice a0 bs.length c, .bool false] 89)).heap[w0.heap.size + 1 + 1]? = some (.cells #[.slice a0 bs.length c, .bool false] 89) := by
    have h2 := box_two w0 (.cells #[.string ⟨#[]⟩, .slice none 0 0] 34) (.cells #[.bool false] 4)
    refine ⟨?_, ?_, ?_⟩
    · rw [Below.heap_alloc _ _ _ (by simp; omega)]; exact h2.1
    · rw [Below.heap_alloc _ _ _ (by simp)]; exact h2.2
    · have := heap_alloc_new ((w0.alloc (.cells #[.string ⟨#[]⟩, .slice none 0 0] 34)).alloc (.cells #[.bool false] 4)) (.cells #[.slice a0 bs.length c, .bool false] 89)
      simpa using this
  have hz3 : (((w0.alloc (.cells #[.string ⟨#[]⟩, .slice none 0 0] 34)).alloc (.cells #[.bool false] 4)).alloc (.cells #[.slice a0 bs.length c, .bool false] 89)).heap.size = w0.heap.size + 3 := by simp
  have HB3 : Hid (Below w0.heap.size w0 (((w0.alloc (.cells #[.string ⟨#[]⟩, .slice none 0 0] 34)).alloc (.cells #[.bool false] 4)).alloc (.cells #[.slice a0 bs.length c, .bool false] 89))) := (((Below.refl _ _).alloc (Nat.le_refl _) _).alloc (by simp) _).alloc (by simp; omega) _
  generalize ((w0.alloc (.cells #[.string ⟨#[]⟩, .slice none 0 0] 34)).alloc (.cells #[.bool false] 4)).alloc (.cells #[.slice a0 bs.length c, .bool false] 89) = W3 at *
  have HR : Hid (RdrAt w0 W3 (w0.heap.size + 1 + 1) bs false) := ⟨HB3.out, by omega, _, hk.2.2, hB⟩
  refine (doc_any HE.out hn HR.out).mono ?_
  rintro e w4 (⟨id, V, va, xs, r, lo, hrd, rfl, hlo, hans, hr4, hf4⟩ | ⟨hrd, rfl, hb4, hf4⟩)
  · have kD := (hf4.2 w0.heap.size (by omega) (by omega)).trans hk.1
    have kO := (hf4.2 (w0.heap.size + 1) (by omega) (by omega)).trans hk.2.1
    obtain ⟨v4, kB, hv4⟩ := hr4.box
    have hvl : ∃ a4 c4, v4 = .slice a4 r.length c4 := by
      rcases hv4 with ⟨rfl, a, c, e⟩ | ⟨b', o', c', e, _⟩
      · exact ⟨a, c, e⟩
      · exact ⟨_, c', e⟩
    obtain ⟨a4, c4, rfl⟩ := hvl
    obtain ⟨aA, cA, rfl⟩ := own_formR hans.row
    have HAns := hidd hans
    have Hrd := hidd hrd
    have HB4 := hidd hr4.old
    have hsz4 := hf4.1
    have c0 := blkc kD 0
    have c1 := blkc kD 1
    have f0 := blkf kD 0
    have f1 := blkf kD 1
    have d0 := blkc kO 0
    have g0 := blkf kO 0
    have b0 := blkc kB 0
    simp only [List.getElem?_toArray, List.getElem?_cons_zero, List.getElem?_cons_succ] at c0 c1 d0 b0
    clear hans hrd hr4 hf4 hv4 hk HR HB3 hB
    have HKD := hidd kD
    have HKO := hidd kO
    have HKB := hidd kB
    clear kD kO kB
    dsimp only
    go_upto_region 4 with fail
    have m1 := blk_set2 (x := .string ⟨id.toArray⟩) (y := .slice aA V.length cA) HKD.out
    have hset : ∀ x, x ≠ w0.heap.size → ((w4.setCell ⟨w0.heap.size, 0, none⟩ (.string ⟨id.toArray⟩)).setCell ⟨w0.heap.size, 1, none⟩ (.slice aA V.length cA)).heap[x]? = w4.heap[x]? := fun x hx => by rw [heap_set_other _ _ _ _ _ hx, heap_set_other _ _ _ _ _ hx]
    have HB5 : Hid (Below w0.heap.size w0 ((w4.setCell ⟨w0.heap.size, 0, none⟩ (.string ⟨id.toArray⟩)).setCell ⟨w0.heap.size, 1, none⟩ (.slice aA V.length cA))) := (HB4.out.setCell (p := ⟨w0.heap.size, 0, none⟩) (Nat.le_refl _) _).setCell (p := ⟨w0.heap.size, 1, none⟩) (Nat.le_refl _) _
    have hz5 : ((w4.setCell ⟨w0.heap.size, 0, none⟩ (.string ⟨id.toArray⟩)).setCell ⟨w0.heap.size, 1, none⟩ (.slice aA V.length cA)).heap.size = w4.heap.size := by simp
    generalize ((w4.setCell ⟨w0.heap.size, 0, none⟩ (.string ⟨id.toArray⟩)).setCell ⟨w0.heap.size, 1, none⟩ (.slice aA V.length cA)) = w5 at *
    have HA5 : Hid (AnsV w5 lo w5.heap.size (.slice aA V.length cA) V xs) := by
      show AnsV _ _ _ _ _ _
      rw [hz5]
      exact HAns.out.keep fun x h1 h2 => hset x (by omega)
    have kD5 := m1
    have kO5 := (hset (w0.heap.size + 1) (by omega)).trans HKO.out
    have kB5 := (hset (w0.heap.size + 1 + 1) (by omega)).trans HKB.out
    clear c0 c1 f0 f1 d0 g0 b0 m1 hset HAns HKD HKO HKB HB4
    have c0 := blkc kD5 0
    have c1 := blkc kD5 1
    have f0 := blkf kD5 0
    have f1 := blkf kD5 1
    have d0 := blkc kO5 0
    have g0 := blkf kO5 0
    have b0 := blkc kB5 0
    simp only [List.getElem?_toArray, List.getElem?_cons_zero, List.getElem?_cons_succ] at c0 c1 d0 b0
    have HKD := hidd kD5
    have HKO := hidd kO5
    clear kD5 kO5 kB5
    go_region
    all_goals
      go_wp2_with fail
      obtain ⟨t, ht⟩ : ∃ t, ((r.length : Int) == 0) = t := ⟨_, rfl⟩
      have Ht : Hid (t = decide (r.length = 0)) := by
        show _ = _
        rw [← ht, Bool.eq_iff_iff]
        simp
      rw [ht]
      clear ht
      refine leaves_cons (f := 51) (args := #[.pointer (some ⟨w0.heap.size, 0, none⟩), .pointer (some ⟨w0.heap.size + 1, 0, none⟩)]) (by simp) (by simp [go_sem]) ?_
      refine (catch_idle w0.heap.size (w0.heap.size + 1) _).mono ?_
      rintro e u' w'' ⟨rfl, rfl, hw''⟩
      have HF : Hid (InPost w0 bs (.returned (.tuple #[.agg #[.string ⟨id.toArray⟩, .slice aA V.length cA], .bool t])) w'' ∧ w''.heap[w0.heap.size]? = some (.cells #[.string ⟨id.toArray⟩, .slice aA V.length cA] 34) ∧ w''.heap[w0.heap.size + 1]? = some (.cells #[.bool t] 4)) := by
        have hset : ∀ x, x ≠ w0.heap.size → x ≠ w0.heap.size + 1 → w''.heap[x]? = w5.heap[x]? := fun x h1 h2 => by
          rw [hw'']
          show (((w5.setCell _ _).setCell _ _).setCell _ _).heap[x]? = _
          rw [heap_set_other _ _ _ _ _ h2, heap_set_other _ _ _ _ _ h1, heap_set_other _ _ _ _ _ h1]
        have hz : w''.heap.size = w5.heap.size := by rw [hw'']; simp
        have hbel : Below w0.heap.size w0 w'' := by
          rw [hw'']
          exact below_drewN (((HB5.out.setCell (p := ⟨w0.heap.size, 0, none⟩) (Nat.le_refl _) _).setCell (p := ⟨w0.heap.size, 1, none⟩) (Nat.le_refl _) _).setCell (p := ⟨w0.heap.size + 1, 0, none⟩) (by dsimp only; omega) _) 1
        refine ⟨⟨hbel, Or.inl ⟨id, V, _, xs, r, lo, Hrd.out, by rw [Ht.out], by omega, ?_⟩⟩, ?_, ?_⟩
        · rw [hz]
          exact HA5.out.keep fun x h1 h2 => hset x (by omega) (by omega)
        · rw [hw'']
          show (((w5.setCell _ _).setCell _ _).setCell _ _).heap[w0.heap.size]? = _
          rw [heap_set_other _ _ _ _ _ (by omega)]
          exact blk_set2 HKD.out
        · rw [hw'']
          show (((w5.setCell _ _).setCell _ _).setCell _ _).heap[w0.heap.size + 1]? = _
          have kk : ((w5.setCell ⟨w0.heap.size, 0, none⟩ (.string ⟨id.toArray⟩)).setCell ⟨w0.heap.size, 1, none⟩ (.slice aA V.length cA)).heap[w0.heap.size + 1]? = some (.cells #[.bool false] 4) := by rw [heap_set_other _ _ _ _ _ (by omega), heap_set_other _ _ _ _ _ (by omega)]; exact HKO.out
          exact blk_setk kk 0 _
      clear hw''
      have z0 := blkc HF.out.2.1 0
      have z1 := blkc HF.out.2.1 1
      have z2 := blkc HF.out.2.2 0
      simp only [List.getElem?_toArray, List.getElem?_cons_zero, List.getElem?_cons_succ] at z0 z1 z2
      simp [Leaves, settle, results, Tryd.results43, go_sem, z0, z1, z2]
      exact HF.out.1
  · have kD := (hf4.2 w0.heap.size (by omega) (by omega)).trans hk.1
    have kO := (hf4.2 (w0.heap.size + 1) (by omega) (by omega)).trans hk.2.1
    have HB4 := hidd hb4
    have Hrd := hidd hrd
    refine leaves_cons (f := 51) (args := #[.pointer (some ⟨w0.heap.size, 0, none⟩), .pointer (some ⟨w0.heap.size + 1, 0, none⟩)]) (by simp) (by simp [go_sem]) ?_
    refine (catch_panic w0.heap.size (w0.heap.size + 1) _ _ _ u pv [] _ kD kO (by omega)).mono ?_
    rintro e u' w'' ⟨rfl, rfl, rfl⟩
    have m1 := blk_set2 (x := .string ⟨#[]⟩) (y := .slice none 0 0) kD
    have m2 : ((((w4.setCell ⟨w0.heap.size, 0, none⟩ (.string ⟨#[]⟩)).setCell ⟨w0.heap.size, 1, none⟩ (.slice none 0 0)).setCell ⟨w0.heap.size + 1, 0, none⟩ (.bool false))).heap[w0.heap.size]? = some (.cells #[.string ⟨#[]⟩, .slice none 0 0] 34) := by rw [heap_set_other _ _ _ _ _ (by omega)]; exact m1
    have m3 : ((((w4.setCell ⟨w0.heap.size, 0, none⟩ (.string ⟨#[]⟩)).setCell ⟨w0.heap.size, 1, none⟩ (.slice none 0 0)).setCell ⟨w0.heap.size + 1, 0, none⟩ (.bool false))).heap[w0.heap.size + 1]? = some (.cells #[.bool false] 4) := by
      have kk : ((w4.setCell ⟨w0.heap.size, 0, none⟩ (.string ⟨#[]⟩)).setCell ⟨w0.heap.size, 1, none⟩ (.slice none 0 0)).heap[w0.heap.size + 1]? = some (.cells #[.bool false] 4) := by rw [heap_set_other _ _ _ _ _ (by omega), heap_set_other _ _ _ _ _ (by omega)]; exact kO
      exact blk_setk kk 0 _
    have hbel : Below w0.heap.size w0 (((w4.setCell ⟨w0.heap.size, 0, none⟩ (.string ⟨#[]⟩)).setCell ⟨w0.heap.size, 1, none⟩ (.slice none 0 0)).setCell ⟨w0.heap.size + 1, 0, none⟩ (.bool false)) := ((HB4.out.setCell (p := ⟨w0.heap.size, 0, none⟩) (Nat.le_refl _) _).setCell (p := ⟨w0.heap.size, 1, none⟩) (Nat.le_refl _) _).setCell (p := ⟨w0.heap.size + 1, 0, none⟩) (by dsimp only; omega) _
    dsimp only
    generalize ((w4.setCell ⟨w0.heap.size, 0, none⟩ (.string ⟨#[]⟩)).setCell ⟨w0.heap.size, 1, none⟩ (.slice none 0 0)).setCell ⟨w0.heap.size + 1, 0, none⟩ (.bool false) = w6 at *
    have z0 := blkc m2 0
    have z1 := blkc m2 1
    have z2 := blkc m3 0
    simp only [List.getElem?_toArray, List.getElem?_cons_zero, List.getElem?_cons_succ] at z0 z1 z2
    have HF : Hid (InPost w0 bs (.returned (.tuple #[.agg #[.string ⟨#[]⟩, .slice none 0 0], .bool false])) w6) := ⟨hbel, Or.inr ⟨Hrd.out, rfl⟩⟩
    simp [Leaves, settle, results, Tryd.results43, go_sem, z0, z1, z2]
    exact HF.out
end Go.Proofs.YtefhmbnhhkgifaaDoor
