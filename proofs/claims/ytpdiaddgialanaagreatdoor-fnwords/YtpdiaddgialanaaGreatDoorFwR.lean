import Derived.Test.YtpdiaddgialanaaGreatDoorFwB
import Derived.Lib.Bytealg
import Derived.Laws.BytesArg
import Derived.Laws.IdiomStrings
namespace Go.Proofs.YtpdiaddgialanaaGreatDoor
open Go Go.RowKit
set_option linter.unusedVariables false
set_option linter.unusedSimpArgs false
set_option maxRecDepth 100000

/-! The parser of queries: runs of bytes. -/
/-- The bytes that do not stand for themselves in a word. -/
def sgL : List UInt8 := [32, 40, 41, 34, 58, 94, 126, 91, 93, 43, 45, 42, 63, 64, 92]
def sgB : ByteArray := ⟨#[32, 40, 41, 34, 58, 94, 126, 91, 93, 43, 45, 42, 63, 64, 92]⟩
theorem sg_list : sgB.data.toList = sgL := rfl
theorem index_no {c : UInt8} (h : c ∉ sgL) : ∀ l : List UInt8, (∀ x ∈ l, x ≠ c) → Lib.indexByte l c = -1
  | [], _ => rfl
  | b :: l, hl => by
    have h1 : (b == c) = false := by simpa using hl b (List.mem_cons_self ..)
    have ih := index_no h l fun x hx => hl x (List.mem_cons_of_mem _ hx)
    unfold Lib.indexByte
    rw [h1, ih]; rfl
theorem idx_plain {c : UInt8} (h : c ∉ sgL) : Lib.indexByte sgL c = -1 := index_no h sgL fun x hx e => h (e ▸ hx)
theorem index_ge0 {c : UInt8} : ∀ l : List UInt8, c ∈ l → 0 ≤ Lib.indexByte l c
  | [], h => by cases h
  | b :: l, h => by
    unfold Lib.indexByte
    by_cases hb : b = c
    · subst hb; simp
    · have hb' : (b == c) = false := by simpa using hb
      rw [hb']
      have hm : c ∈ l := by 
        rcases List.mem_cons.1 h with e | e
        · exact absurd e.symm hb
        · exact e
      have ih := index_ge0 l hm
      have hne : (Lib.indexByte l c == -1) = false := by rw [beq_eq_false_iff_ne]; omega
      simp only [Bool.false_eq_true, if_false, hne]
      omega
def u8L (l : List UInt8) : List Value := l.map fun c => Value.int .u8 (c.toNat : Int)
theorem u8L_snoc (l : List UInt8) (c : UInt8) : u8L (l ++ [c]) = u8L l ++ [.int .u8 (c.toNat : Int)] := by simp [u8L]
theorem Tryz.infoU8W : (Tryz.prog.info? 5).map (fun i => (i.zero, i.size, i.bytes)) = some (some (.int .u8 0), 1, 1) := by kernel_rfl
theorem conv_own {W : World} {base : Nat} {v : Value} {l : List UInt8} (h : W.ownsRow base 5 1 v l.length (u8L l)) : (convert 22 9 v).run Tryz.prog W = .ok (.string (bs l)) W := by
  rcases own_cases h with ⟨rfl, h0⟩ | ⟨g, cap, rfl, _, _⟩
  · have hl : l = [] := List.length_eq_zero_iff.1 h0
    subst hl
    have := run_convert_bytes_nil (P := Tryz.prog) W 22 5 Tryz.underlying22 Tryz.underlying5 0 0 9 Tryz.underlying9
    exact this
  · have := run_convert_bytes_back (P := Tryz.prog) W 22 9 5 ⟨g, 0, none⟩ cap l Tryz.underlying22 Tryz.underlying5 Tryz.underlying9 (fun j hj => by
      rw [Go.WideShapes.add_plain, Nat.zero_add, h.cellAt j (by omega)]
      simp [u8L, hj])
    exact this
theorem exec_boxU (W : World) (ρ : Operand → Value) (o : Oper) (y : Operand) (ho : o.op = .buildSlice 22 1 #[(0, y)]) (z : Int) (hx : ρ y = .int .u8 z) :
    (execOp ρ o).run Tryz.prog W = .ok (.value (.slice (some ⟨W.heap.size, 0, none⟩) 1 1)) (W.alloc (.cells #[.int .u8 z] 5)) := by
  unfold execOp
  simp only [ho, hx, Sem.run_bind, Sem.run_pure, Result.andThen_ok]
  go_simp
theorem wpOp_pushU {W : World} {ops : Array Oper} {i : Nat} {o : Oper} {a : Act} {K : Act → World → Prop} {Q : Exit → Act → World → Prop} (hio : ops[i]? = some o) (hw : Region.wanted o (yielded ops a.tmps) = true) (s x : Operand)
    (ho : o.op = .call { callee := .builtin .append, args := #[s, x], argTypes := #[22, 22] })
    (base : Nat) (v : Value) (xs : List UInt8) (hs : a.eval s = v) (hown : W.ownsRow base 5 1 v xs.length (u8L xs)) (bx : Nat) (y : UInt8) (hx : a.eval x = .slice (some ⟨bx, 0, none⟩) 1 1) (hb : W.heap[bx]? = some (.cells #[.int .u8 (y.toNat : Int)] 5)) (hl : xs.length ≤ 1048576) (hbase : base ≤ W.heap.size)
    (h : ∀ g c w' N, Hid ((xs ++ [y]).length = N) → w'.ownsRow base 5 1 (.slice (some ⟨g, 0, none⟩) N c) N (u8L (xs ++ [y])) → W.grownBy w' v.ownBlock → K (a.put o.dst (.slice (some ⟨g, 0, none⟩) N c)) w') :
    wpOp Tryz.prog ops Q i K a W := by
  obtain ⟨i0, hi0, hz0, hz1, hz2⟩ := info_parts Tryz.infoU8W
  refine wpOp_wp hio hw ?_
  obtain ⟨v', w', hr, h2, h3, h4, h5⟩ := run_append_own_at (P := Tryz.prog) W base 22 o.type 5 i0 (.int .u8 0) 1 1 Tryz.underlying22 hi0 hz0 hz1 hz2 rfl (by decide) v xs.length (u8L xs) hown ⟨bx, 0, none⟩ 1 1 [.int .u8 (y.toNat : Int)] rfl (fun j u hj => by
    match j, hj with
    | 0, hj =>
      simp at hj
      subst hj
      rw [add_head]
      exact blkc hb 0
    | j + 1, hj => simp at hj) (fun u hu => by rw [List.mem_singleton.1 hu]; rfl) (by unfold maxLen; omega) (by omega) hbase
  rcases h2.2 with ⟨h', _⟩ | ⟨g', cap', cur', h', _⟩
  · exact absurd (h4.1 h').2 (by simp)
  subst h'
  rw [← u8L_snoc] at h2
  have e : xs.length + 1 = (xs ++ [y]).length := by simp
  rw [e] at h2
  have hq := h g' cap' w' _ (hidd rfl) h2 h3
  unfold Oper.wp execOp
  simp only [ho, resolve, invoke, builtin, Sem.run_bind, Sem.run_pure, Result.andThen_ok, List.map_toArray, List.map_cons, List.map_nil, hs, hx, hr]
  rw [← e] at hq
  exact hq
set_option maxHeartbeats 4000000 in
/-- A run of bytes that are no signs, up to one or to the end. -/
theorem run_any (W : World) (b : Nat) (T : ByteArray) (p : Nat) (wd rest : List UInt8) (hs : T.size ≤ 65536) (h : PsAt W b T p) (hpT : p ≤ T.size) (hT : (lst T).drop p = wd ++ rest) (hw : ∀ c ∈ wd, c ∉ sgL) (hr : ∀ c, rest.head? = some c → c ∈ sgL ∧ c ≠ 92) :
    Calls Tryz.prog 105 #[.pointer (some ⟨b, 0, none⟩), .string sgB] W (PsR W b T (.string (bs wd)) (p + wd.length)) := by
  obtain ⟨i0, hi, hz0, hz1, hz2⟩ := info_parts Tryz.infoU8W
  have hll := lst_len T
  have HL : Hid (p + wd.length + rest.length = T.size) := hidd (by
    have := congrArg List.length hT
    rw [List.length_drop, List.length_append, hll] at this
    omega)
  have HAt : Hid (∀ k, k < wd.length → (lst T)[p + k]? = some (wd.getD k 0)) := fun k hk => by
    have h1 : ((lst T).drop p)[k]? = some (wd.getD k 0) := by rw [hT, List.getElem?_append_left hk]; simp [hk]
    rwa [List.getElem?_drop] at h1
  have HRe : Hid (∀ c, rest.head? = some c → (lst T)[p + wd.length]? = some c) := fun c hc => by
    have h1 : ((lst T).drop p)[wd.length]? = some c := by
      rw [hT, List.getElem?_append_right (Nat.le_refl _), Nat.sub_self]
      cases rest with
      | nil => cases hc
      | cons x r => simpa using hc
    rwa [List.getElem?_drop] at h1
  have hwl : wd.length ≤ 65536 := by have := HL.out; omega
  have HW := hidd hw
  have HR := hidd hr
  have H0 := hidd h
  have hb := h.lt
  clear h hT hw hr hll
  go_enter Tryz.func105, Tryz.ntmps105
  go_wp2
  go_loopw [5] (fun v wr => ∃ (k m : Nat) (ad : Option Addr) (cp : Nat), v = .slice ad m cp ∧ Hid ((wd.take k).length = m) ∧ k ≤ wd.length ∧ PsAt wr b T (p + k) ∧ wr.ownsRow W.heap.size 5 1 (.slice ad m cp) (wd.take k).length (u8L (wd.take k)) ∧ W.grownBy wr (some b)) (fun _ wr => wd.length + 1 - (match wr.cell? ⟨b, 1, none⟩ with | some (.int _ z) => z.toNat - p | _ => 0))
  case atStart => exact ⟨0, 0, none, 0, rfl, hidd (by simp), by omega, H0.out, World.ownsRow_nil _ _ _ _, grown_refl _ _⟩
  case round =>
    obtain ⟨k, m, ad, cp, rfl, hm, hk, h1, ho, hg⟩ := hrel
    obtain ⟨c0, c1, f1⟩ := h1.cell
    have H1 := hidd h1
    have HO := hidd ho
    have HG := hidd hg
    have hgz := hg.size
    have HC1 := hidd c1
    obtain ⟨q, hq⟩ : ∃ q, p + k = q := ⟨_, rfl⟩
    rw [hq] at c1 H1 HC1
    have HQ := hidd hq
    clear h1 ho hg
    by_cases hkl : k < wd.length
    · have hat := HAt.out k hkl
      rw [hq] at hat
      obtain ⟨c, hcd⟩ : ∃ c, wd.getD k 0 = c := ⟨_, rfl⟩
      rw [hcd] at hat
      obtain ⟨hp, hv⟩ := byte_in hat
      have hcs : c ∉ sgL := HW.out c (by rw [← hcd, List.getD_eq_getElem?_getD, List.getElem?_eq_getElem hkl]; exact List.getElem_mem _)
      have hpz : (q : Int) < (T.size : Int) := by omega
      have h92 : ((c.toNat : Int) == 92) = false := by
        rw [beq_eq_false_iff_ne]
        intro e
        have : c = 92 := UInt8.toNat_inj.1 (by have : (92 : UInt8).toNat = 92 := rfl; omega)
        subst this
        exact hcs (by decide)
      have HIx : Hid (∀ V, Calls Tryz.prog 112 #[.string sgB, .int .u8 (c.toNat : Int)] V fun e w' => e = .returned (.int .i64 (-1)) ∧ w' = V) := fun V => (Tryz.strings_IndexByte sgB (c.toNat : Int) V).mono fun e w' ⟨e1, e2⟩ => ⟨by
        rw [e1, sg_list]
        have : (c.toNat : Int).toNat.toUInt8 = c := by simp
        rw [this, idx_plain hcs], e2⟩
      have Htk : Hid (wd.take (k + 1) = wd.take k ++ [c]) := hidd (by rw [List.take_succ_eq_append_getElem hkl, ← hcd]; simp [List.getD_eq_getElem?_getD, hkl])
      clear hat hcd hcs hq
      go_wp2
      go_quiet (fail)
      have H2 := hidd (show PsAt (wr.drewN nq) b T q from H1.out)
      have HO2 := hidd (own_drewN HO.out nq)
      have HG2 := hidd (grown_trans HG.out (grown_drewP wr nq (some b)))
      clear H1 HO HG c0 c1 f1
      generalize wr.drewN nq = w2 at *
      obtain ⟨c0, c1, f1⟩ := H2.out.cell
      go_wp2
      go_quiet (fail)
      have H3 := hidd (show PsAt (w2.drewN nq) b T q from H2.out)
      have HO3 := hidd (own_drewN HO2.out nq)
      have HG3 := hidd (grown_trans HG2.out (grown_drewP w2 nq (some b)))
      clear H2 HO2 HG2 c0 c1 f1
      generalize w2.drewN nq = w3 at *
      obtain ⟨c0, c1, f1⟩ := H3.out.cell
      go_wp2
      go_quiet ((go_at_call 112; refine Calls.quiet_of_same (HIx.out _)))
      have H4 := hidd (show PsAt (w3.drewN nq) b T q from H3.out)
      have HO4 := hidd (own_drewN HO3.out nq)
      have HG4 := hidd (grown_trans HG3.out (grown_drewP w3 nq (some b)))
      clear H3 HO3 HG3 c0 c1 f1
      generalize w3.drewN nq = w4 at *
      obtain ⟨c0, c1, f1⟩ := H4.out.cell
      clear HIx
      go_wp2
      refine wp_region_held (S := fun u => u.cell? ⟨b, 0, none⟩ = some (.string T) ∧ u.cell? ⟨b, 1, none⟩ = some (.int .i64 (q : Int))) (by kernel_rfl) ?_
      have hbd : Below w4.heap.size w4 ({ heap := w4.heap, tape := w4.tape, drawn := w4.drawn + 1, os := w4.os, output := w4.output } : World) := (Below.refl _ _).drew
      generalize ({ heap := w4.heap, tape := w4.tape, drawn := w4.drawn + 1, os := w4.os, output := w4.output } : World) = Wd at *
      have hHd : PsAt Wd b T q := H4.out.below hbd
      have hSd : (fun (u : World) => u.cell? ⟨b, 0, none⟩ = some (.string T) ∧ u.cell? ⟨b, 1, none⟩ = some (.int .i64 (q : Int))) Wd := ⟨hHd.cell.1, hHd.cell.2.1⟩
      try simp only [Act.put, List.getElem_toArray, List.getElem_cons_succ, List.getElem_cons_zero, List.setIfInBounds_toArray, List.set_cons_zero, List.set_cons_succ]
      refine tkX 0 (v := .slice ad m cp) (hS := hSd) (h := ?_)
      try simp only [Act.put, List.getElem_toArray, List.getElem_cons_succ, List.getElem_cons_zero, List.setIfInBounds_toArray, List.set_cons_zero, List.set_cons_succ]
      refine tkX 1 (v := .pointer (some ⟨b, 0, none⟩)) (hS := hSd) (h := ?_)
      try simp only [Act.put, List.getElem_toArray, List.getElem_cons_succ, List.getElem_cons_zero, List.setIfInBounds_toArray, List.set_cons_zero, List.set_cons_succ]
      refine tkX 2 (v := .pointer (some ⟨b, 0, none⟩)) (hS := hSd) (h := ?_)
      try simp only [Act.put, List.getElem_toArray, List.getElem_cons_succ, List.getElem_cons_zero, List.setIfInBounds_toArray, List.set_cons_zero, List.set_cons_succ]
      refine tkX 3 (v := .pointer (some ⟨b, 0, none⟩)) (hS := hSd) (h := ?_)
      try simp only [Act.put, List.getElem_toArray, List.getElem_cons_succ, List.getElem_cons_zero, List.setIfInBounds_toArray, List.set_cons_zero, List.set_cons_succ]
      refine tkX 4 (v := .string T) (hS := hSd) (h := ?_)
      try simp only [Act.put, List.getElem_toArray, List.getElem_cons_succ, List.getElem_cons_zero, List.setIfInBounds_toArray, List.set_cons_zero, List.set_cons_succ]
      refine tkX 5 (v := .pointer (some ⟨b, 0, none⟩)) (hS := hSd) (h := ?_)
      try simp only [Act.put, List.getElem_toArray, List.getElem_cons_succ, List.getElem_cons_zero, List.setIfInBounds_toArray, List.set_cons_zero, List.set_cons_succ]
      refine tkX 6 (v := .pointer (some ⟨b, 0, none⟩)) (hS := hSd) (h := ?_)
      try simp only [Act.put, List.getElem_toArray, List.getElem_cons_succ, List.getElem_cons_zero, List.setIfInBounds_toArray, List.set_cons_zero, List.set_cons_succ]
      refine tkX 7 (v := .pointer (some ⟨b, 1, none⟩)) (hS := hSd) (h := ?_)
      try simp only [Act.put, List.getElem_toArray, List.getElem_cons_succ, List.getElem_cons_zero, List.setIfInBounds_toArray, List.set_cons_zero, List.set_cons_succ]
      refine tkX 8 (v := .int .i64 (q : Int)) (hS := hSd) (h := ?_)
      try simp only [Act.put, List.getElem_toArray, List.getElem_cons_succ, List.getElem_cons_zero, List.setIfInBounds_toArray, List.set_cons_zero, List.set_cons_succ]
      refine wpAnyH_take (i := 9) (v := .int .u8 (c.toNat : Int)) rfl (by kernel_rfl) (by kernel_rfl) (by kernel_rfl) (fun _ _ _ h => h) (Or.inl ⟨by kernel_rfl, fun W hW => exec_strIdx W _ _ _ _ rfl T q c hp hv (by kernel_rfl) (by kernel_rfl)⟩) hSd ?_
      try simp only [Act.put, List.getElem_toArray, List.getElem_cons_succ, List.getElem_cons_zero, List.setIfInBounds_toArray, List.set_cons_zero, List.set_cons_succ]
      refine wpAnyH_one 10 (by kernel_rfl) ?_
      refine wpOp_val _ _ rfl (by kernel_rfl) (exec_boxU _ _ _ _ rfl (c.toNat : Int) (by kernel_rfl)) ?_
      have hal : Below Wd.heap.size Wd (Wd.alloc (.cells #[.int .u8 (c.toNat : Int)] 5)) := (Below.refl _ _).alloc (Nat.le_refl _) _
      have hxa := heap_alloc_new Wd (.cells #[.int .u8 (c.toNat : Int)] 5)
      have hbV := hbd.trans (hal.mono hbd.size)
      obtain ⟨V, hVe⟩ : ∃ V, Wd.alloc (.cells #[.int .u8 (c.toNat : Int)] 5) = V := ⟨_, rfl⟩
      obtain ⟨bx, hbx⟩ : ∃ x, Wd.heap.size = x := ⟨_, rfl⟩
      rw [hVe] at hal hxa hbV
      rw [hbx] at hxa
      rw [hVe, hbx]
      clear hVe
      have hHV : PsAt V b T q := H4.out.below hbV
      refine ⟨⟨hHV.cell.1, hHV.cell.2.1⟩, ?_⟩
      try simp only [Act.put, List.getElem_toArray, List.getElem_cons_succ, List.getElem_cons_zero, List.setIfInBounds_toArray, List.set_cons_zero, List.set_cons_succ]
      refine wpAnyH_one 11 (by kernel_rfl) ?_
      have hgz4 := HG4.out.size
      refine wpOp_pushU rfl (by kernel_rfl) _ _ rfl W.heap.size (.slice ad m cp) (wd.take k) (by kernel_rfl) (own_below HO4.out hbV) bx c (by kernel_rfl) hxa (by rw [List.length_take]; omega) (by have := hbV.size; omega) ?_
      intro g7 c7 V2 N7 hN7 ho7 hgr7
      have hH7 : PsAt V2 b T q := hHV.kept hgr7 (fun e => by have := (own_blk HO4.out e.symm).1; omega)
      have hS7 : (fun (u : World) => u.cell? ⟨b, 0, none⟩ = some (.string T) ∧ u.cell? ⟨b, 1, none⟩ = some (.int .i64 (q : Int))) V2 := ⟨hH7.cell.1, hH7.cell.2.1⟩
      refine ⟨hS7, ?_⟩
      try simp only [Act.put, List.getElem_toArray, List.getElem_cons_succ, List.getElem_cons_zero, List.setIfInBounds_toArray, List.set_cons_zero, List.set_cons_succ]
      refine tkX 12 (v := .slice (some ⟨g7, 0, none⟩) N7 c7) (hS := hS7) (h := ?_)
      try simp only [Act.put, List.getElem_toArray, List.getElem_cons_succ, List.getElem_cons_zero, List.setIfInBounds_toArray, List.set_cons_zero, List.set_cons_succ]
      refine wpAnyH_done (by kernel_rfl) ?_ _
      have HG7 : Hid (W.grownBy V2 (some b)) := hidd ⟨hgr7.os.trans (hbV.os.trans HG4.out.os), hgr7.tape.trans (hbV.tape.trans HG4.out.tape), hgr7.output.trans (hbV.output.trans HG4.out.output), by have := hbV.size; have := hgr7.size; omega, fun x hx hne => by
        rw [hgr7.block x (by have := hbV.size; omega) (fun e => by have := (own_blk HO4.out e.symm).1; omega), hbV.block x (by omega), HG4.out.block x hx hne]⟩
      have H7 := hidd hH7
      have HO7 : Hid (V2.ownsRow W.heap.size 5 1 (.slice (some ⟨g7, 0, none⟩) N7 c7) (wd.take (k + 1)).length (u8L (wd.take (k + 1)))) := hidd (by rw [Htk.out, hN7.out]; exact ho7)
      have HN7 : Hid ((wd.take (k + 1)).length = N7) := hidd (by rw [Htk.out]; exact hN7.out)
      clear hSd hHd hbd hal hxa hbV hHV hgr7 ho7 hH7 hS7 H4 HO4 HG4 c0 c1 f1 hN7
      obtain ⟨c0, c1, f1⟩ := H7.out.cell
      go_wp2
      go_roundw
      · refine ⟨k + 1, N7, some ⟨g7, 0, none⟩, c7, rfl, HN7, by omega, ?_, ?_, grown_trans HG7.out (grown_setP _ _ _ _)⟩
        · have e : p + (k + 1) = q + 1 := by have := HQ.out; omega
          rw [e]
          have := H7.out.set (q + 1)
          simpa using this
        · exact own_congr HO7.out (fun x hx => heap_set_other _ _ _ _ _ (by have := (own_blk HO7.out hx).1; omega))
      · have e1 := (H7.out.set (q + 1)).cell.2.1
        have e2 := HC1.out
        have e3 : ((q + 1 : Nat) : Int) = (q : Int) + 1 := by omega
        rw [e3] at e1
        rw [e1, e2]
        have := HQ.out
        simp only
        omega
    · obtain rfl : k = wd.length := by omega
      have HTk : Hid (wd.take wd.length = wd) := hidd List.take_length
      rw [HTk.out] at HO
      have Hcv : Hid (∀ n, (convert 22 9 (.slice ad m cp)).run Tryz.prog (wr.drewN n) = .ok (.string (bs wd)) (wr.drewN n)) := fun n => conv_own (own_drewN HO.out n)
      have HQ2 := hidd hq
      clear hq
      cases hrs : rest with
      | nil =>
        have hqs : ¬ (q : Int) < (T.size : Int) := by
          have h1 := HL.out
          rw [hrs] at h1
          have h2 := HQ2.out
          simp at h1; omega
        clear hrs
        go_wp2
        go_quiet (fail)
        have hcv := Hcv.out nq
        have H2 := hidd (show PsAt (wr.drewN nq) b T q from H1.out)
        have HG2 := hidd (grown_trans HG.out (grown_drewP wr nq (some b)))
        clear H1 HO HG c0 c1 f1
        generalize wr.drewN nq = w2 at *
        go_wp2
        go_ret
        rw [HQ2.out]
        exact ⟨rfl, H2.out, HG2.out⟩
      | cons c r =>
        have hcc := HR.out c (by rw [hrs]; rfl)
        have hat := HRe.out c (by rw [hrs]; rfl)
        rw [HQ2.out] at hat
        obtain ⟨hp, hv⟩ := byte_in hat
        have hpz : (q : Int) < (T.size : Int) := by omega
        have h92 : ((c.toNat : Int) == 92) = false := by
          rw [beq_eq_false_iff_ne]
          intro e
          exact hcc.2 (UInt8.toNat_inj.1 (by have : (92 : UInt8).toNat = 92 := rfl; omega))
        obtain ⟨ix, hix0, hix⟩ : ∃ z : Int, 0 ≤ z ∧ Lib.indexByte sgL c = z := ⟨_, index_ge0 sgL hcc.1, rfl⟩
        have HIx : Hid (∀ V, Calls Tryz.prog 112 #[.string sgB, .int .u8 (c.toNat : Int)] V fun e w' => e = .returned (.int .i64 ix) ∧ w' = V) := fun V => (Tryz.strings_IndexByte sgB (c.toNat : Int) V).mono fun e w' ⟨e1, e2⟩ => ⟨by
          rw [e1, sg_list]
          have : (c.toNat : Int).toNat.toUInt8 = c := by simp
          rw [this, hix], e2⟩
        clear hat hcc hrs hix
        go_wp2
        go_quiet (fail)
        have H2 := hidd (show PsAt (wr.drewN nq) b T q from H1.out)
        have HO2 := hidd (own_drewN HO.out nq)
        have HG2 := hidd (grown_trans HG.out (grown_drewP wr nq (some b)))
        clear H1 HO HG c0 c1 f1 Hcv HC1
        generalize wr.drewN nq = w2 at *
        obtain ⟨c0, c1, f1⟩ := H2.out.cell
        go_wp2
        go_quiet (fail)
        have H3 := hidd (show PsAt (w2.drewN nq) b T q from H2.out)
        have HO3 := hidd (own_drewN HO2.out nq)
        have HG3 := hidd (grown_trans HG2.out (grown_drewP w2 nq (some b)))
        clear H2 HO2 HG2 c0 c1 f1
        generalize w2.drewN nq = w3 at *
        obtain ⟨c0, c1, f1⟩ := H3.out.cell
        go_wp2
        go_quiet ((go_at_call 112; refine Calls.quiet_of_same (HIx.out _)))
        have H4 := hidd (show PsAt (w3.drewN nq) b T q from H3.out)
        have hcv := conv_own (own_drewN HO3.out nq)
        have HG4 := hidd (grown_trans HG3.out (grown_drewP w3 nq (some b)))
        clear H3 HO3 HG3 c0 c1 f1
        generalize w3.drewN nq = w4 at *
        go_wp2
        go_ret
        rw [HQ2.out]
        exact ⟨rfl, H4.out, HG4.out⟩
end Go.Proofs.YtpdiaddgialanaaGreatDoor
