import Derived.Test.YtpdiaddgialanaaGreatDoorLogJ24
import Derived.Test.YtpdiaddgialanaaGreatDoorLogJ17
import Derived.Test.YtpdiaddgialanaaGreatDoorLogJ23
import Derived.Test.YtpdiaddgialanaaGreatDoorLogJ27
namespace Go.Proofs.YtpdiaddgialanaaGreatDoor
open Go Go.RowKit
set_option linter.unusedVariables false
set_option linter.unusedSimpArgs false
set_option maxRecDepth 100000

/-- What recordOf has in memory: the answer's box, the reader, the record. -/
structure RO (w0 W : World) (r : List UInt8) (sh : Bool) (kd sq : Int) (id did : List UInt8) (va : Value) : Prop where
  rdr : RdrG 60 w0 W (w0.heap.size + 1) r sh
  res : W.heap[w0.heap.size]? = some (.cells #[.int .i64 0, .int .i64 0, .string ⟨#[]⟩, .string ⟨#[]⟩, .slice none 0 0] 28)
  rcd : W.heap[w0.heap.size + 1 + 1]? = some (.cells #[.int .i64 kd, .int .i64 sq, .string ⟨id.toArray⟩, .string ⟨did.toArray⟩, va] 28)
theorem RO.lt {w0 W : World} {r : List UInt8} {sh : Bool} {kd sq : Int} {id did : List UInt8} {va : Value} (h : RO w0 W r sh kd sq id did va) : w0.heap.size + 1 + 1 < W.heap.size := (Array.getElem?_eq_some_iff.1 h.rcd).1
theorem RO.call {w0 W W' : World} {r r' : List UInt8} {sh sh' : Bool} {kd sq : Int} {id did : List UInt8} {va : Value} (h : RO w0 W r sh kd sq id did va) (hr : RdrG 60 w0 W' (w0.heap.size + 1) r' sh') (hf : RdFr (w0.heap.size + 1) W W') : RO w0 W' r' sh' kd sq id did va :=
  ⟨hr, (hf.2 _ (by have := h.lt; omega) (by omega)).trans h.res, (hf.2 _ h.lt (by omega)).trans h.rcd⟩
theorem RO.below {w0 W W' : World} {r : List UInt8} {sh : Bool} {kd sq : Int} {id did : List UInt8} {va : Value} (h : RO w0 W r sh kd sq id did va) (hb : Below W.heap.size W W') : RO w0 W' r sh kd sq id did va :=
  ⟨h.rdr.below hb, blko h.res hb, blko h.rcd hb⟩
theorem RO.set {w0 W : World} {r : List UInt8} {sh : Bool} {kd sq kd' sq' : Int} {id did id' did' : List UInt8} {va va' : Value} (h : RO w0 W r sh kd sq id did va) (k : Nat) (u : Value) (hk : (#[.int .i64 kd, .int .i64 sq, .string ⟨id.toArray⟩, .string ⟨did.toArray⟩, va] : Array Value).setIfInBounds k u = #[.int .i64 kd', .int .i64 sq', .string ⟨id'.toArray⟩, .string ⟨did'.toArray⟩, va']) : RO w0 (W.setCell ⟨w0.heap.size + 1 + 1, k, none⟩ u) r sh kd' sq' id' did' va' := by
  refine ⟨h.rdr.keep (h.rdr.old.setCell (p := ⟨w0.heap.size + 1 + 1, k, none⟩) (by dsimp only; omega) _) (heap_set_other _ _ _ _ _ (by omega)), (heap_set_other _ _ _ _ _ (by omega)).trans h.res, ?_⟩
  rw [blk_setk h.rcd, hk]
theorem nextRd_any {ty : TypeId} {w0 W : World} {B : Nat} {p : List UInt8} (hn : p.length ≤ 1048576) (h : RdrG ty w0 W B p false) :
    Calls Tryz.prog 66 #[.pointer (some ⟨B, 0, none⟩)] W fun e w' => e = .returned (.int .i64 (nxK p : Int)) ∧ RdrG ty w0 w' B (nxR p) (nxS p) ∧ RdFr B W w' := by
  cases p with
  | nil => exact next_none h
  | cons x q => exact next_some (by show q.length ≤ _; simp at hn; omega) h
/-- What is read of a part. -/
def RecP (w0 : World) (p : List UInt8) (e : Ending) (w' : World) : Prop :=
  Below w0.heap.size w0 w' ∧ ∃ (kd sq : Int) (id did : List UInt8) (aV : Option Addr) (cV : Nat) (V : List Vl) (xs : List Value) (lo : Nat) (ok : Bool), e = .returned (.tuple #[.agg #[.int .i64 kd, .int .i64 sq, .string ⟨id.toArray⟩, .string ⟨did.toArray⟩, .slice aV V.length cV], .bool ok]) ∧ w0.heap.size ≤ lo ∧ AnsV w' lo w'.heap.size (.slice aV V.length cV) V xs ∧ ((ok = true ∧ partR p = some (kd, sq, id, (did, V))) ∨ (ok = false ∧ partR p = none))
theorem smallG {V : List Vl} (h : ∀ v ∈ V, smallV v) (i : Nat) : (V.getD i vl0).2.1.length ≤ 1048576 ∧ (V.getD i vl0).2.2.length ≤ 1048576 := by
  by_cases hi : i < V.length
  · have := h _ (getD_mem (d := vl0) hi)
    unfold smallV at this
    omega
  · simp [hi, vl0]
/-- What recordOf has when it asks whether the record is valid. -/
def RoCut (w0 : World) (p : List UInt8) (kd : Nat) (sq : Int) (okv : Value) (wr : World) : Prop :=
  ∃ (ok : Bool) (id did : List UInt8) (aV : Option Addr) (cV : Nat) (V : List Vl) (xs : List Value) (lo : Nat) (r : List UInt8) (sh : Bool), okv = .bool ok ∧ RO w0 wr r sh (kd : Int) sq id did (.slice aV V.length cV) ∧ w0.heap.size + 1 + 1 < lo ∧ AnsV wr lo wr.heap.size (.slice aV V.length cV) V xs ∧ id.length ≤ 1048576 ∧ did.length ≤ 1048576 ∧ V.length ≤ 4096 ∧ (∀ v ∈ V, smallV v) ∧
    (if (ok && rcOK ((kd : Int), sq, id, (did, V))) = true then partR p = some ((kd : Int), sq, id, (did, V)) else partR p = none)
theorem RdrG.val {ty : TypeId} {w0 W : World} {B : Nat} {bs : List UInt8} {sh : Bool} (h : RdrG ty w0 W B bs sh) : ∃ a c, W.heap[B]? = some (.cells #[.slice a bs.length c, .bool sh] ty) ∧ ((bs = [] ∧ ∃ a' c', (Value.slice a bs.length c) = .slice a' 0 c') ∨ ∃ b off c', (Value.slice a bs.length c) = .slice (some ⟨b, off, none⟩) bs.length c' ∧ bs.length ≤ c' ∧ b < W.heap.size ∧ BytesAt W b off bs) ∧ (bs.length = 0 ∨ ∃ b off, a = some ⟨b, off, none⟩ ∧ BytesAt W b off bs) := by
  obtain ⟨v, hb, hv⟩ := h.box
  rcases hv with ⟨rfl, a, c, rfl⟩ | ⟨b, off, c, rfl, hc, hlt, hB⟩
  · exact ⟨a, c, hb, Or.inl ⟨rfl, a, c, rfl⟩, Or.inl rfl⟩
  · have hB' := hB.old h.old hlt
    exact ⟨_, c, hb, Or.inr ⟨b, off, c, rfl, hc, Nat.lt_of_lt_of_le hlt h.old.size, hB'⟩, Or.inr ⟨b, off, rfl, hB'⟩⟩
set_option maxHeartbeats 8000000 in
theorem recordOf_any {w0 : World} {u : TypeId} {pv : Value} {a0 : Option Addr} {c : Nat} {p : List UInt8} (hE : ErrC w0 u pv) (hn : p.length ≤ 1048576) (hB : (p = [] ∧ ∃ a c', (Value.slice a0 p.length c) = .slice a 0 c') ∨ ∃ b off c', (Value.slice a0 p.length c) = .slice (some ⟨b, off, none⟩) p.length c' ∧ p.length ≤ c' ∧ b < w0.heap.size ∧ BytesAt w0 b off p) :
    Calls Tryz.prog 52 #[.slice a0 p.length c] w0 (RecP w0 p) := by
  have HE := hidd hE
  clear hE
  have HPD := hidd (partR_del p)
  have HPP := hidd (partR_put p)
  have hrl := numR_len 4611686018427387903 (nxR p) (nxS p)
  have hnl := nxR_len p
  go_enter Tryz.func52, Tryz.ntmps52
  go_upto_region 3 with fail
  obtain ⟨W3, hW3⟩ : ∃ W3, ((w0.alloc (.cells #[.int .i64 0, .int .i64 0, .string ⟨#[]⟩, .string ⟨#[]⟩, .slice none 0 0] 28)).alloc (.cells #[.slice a0 p.length c, .bool false] 60)).alloc (.cells #[.int .i64 0, .int .i64 0, .string ⟨#[]⟩, .string ⟨#[]⟩, .slice none 0 0] 28) = W3 := ⟨_, rfl⟩
  have HS3 : Hid (RO w0 W3 p false 0 0 [] [] (.slice none 0 0)) := by
    have h2 := box_two w0 (.cells #[.int .i64 0, .int .i64 0, .string ⟨#[]⟩, .string ⟨#[]⟩, .slice none 0 0] 28) (.cells #[.slice a0 p.length c, .bool false] 60)
    have h3 := heap_alloc_new ((w0.alloc (.cells #[.int .i64 0, .int .i64 0, .string ⟨#[]⟩, .string ⟨#[]⟩, .slice none 0 0] 28)).alloc (.cells #[.slice a0 p.length c, .bool false] 60)) (.cells #[.int .i64 0, .int .i64 0, .string ⟨#[]⟩, .string ⟨#[]⟩, .slice none 0 0] 28)
    show RO _ _ _ _ _ _ _ _ _
    rw [← hW3]
    refine ⟨⟨(((Below.refl _ _).alloc (Nat.le_refl _) _).alloc (by simp) _).alloc (by simp; omega) _, by omega, _, ?_, hB⟩, ?_, ?_⟩
    · rw [Below.heap_alloc _ _ _ (by simp)]; exact h2.2
    · rw [Below.heap_alloc _ _ _ (by simp; omega)]; exact h2.1
    · simpa using h3
  try rw [hW3]
  clear hW3 hB
  have x0 := blkc HS3.out.rcd 0
  have f0 := blkf HS3.out.rcd 0
  clear x0 f0
  go_wp2_with fail
  refine (nextRd_any hn HS3.out.rdr).mono ?_
  rintro e w4 ⟨rfl, hr4, hf4⟩
  have HS4 := hidd (HS3.out.call hr4 hf4)
  have x0 := blkc HS4.out.rcd 0
  have f0 := blkf HS4.out.rcd 0
  clear hr4 hf4 HS3
  obtain ⟨kd, hkd⟩ : ∃ kd, nxK p = kd := ⟨_, rfl⟩
  rw [hkd] at HPD HPP
  try rw [hkd]
  clear hkd
  dsimp only
  go_upto_region 4 with fail
  have HS5 := hidd (HS4.out.set (kd' := (kd : Int)) (sq' := 0) (id' := []) (did' := []) (va' := .slice none 0 0) 0 (.int .i64 (kd : Int)) (by simp))
  obtain ⟨w5, hw5⟩ : ∃ w5, w4.setCell ⟨w0.heap.size + 1 + 1, 0, none⟩ (.int .i64 (kd : Int)) = w5 := ⟨_, rfl⟩
  rw [hw5] at HS5
  try rw [hw5]
  clear hw5 x0 f0 HS4
  have HN := hidd (number_any (most := 4611686018427387903) (by omega) (by decide) HS5.out.rdr)
  obtain ⟨N, hN⟩ : ∃ N, numR 4611686018427387903 (nxR p) (nxS p) = N := ⟨_, rfl⟩
  rw [hN] at HN HPD HPP hrl
  clear hN
  obtain ⟨sq, r, sh⟩ := N
  dsimp only at HN HPD HPP hrl
  go_wp2_with fail
  refine HN.out.mono ?_
  rintro e w6 ⟨rfl, hr6, hf6⟩
  have HS6 := hidd (HS5.out.call hr6 hf6)
  have x1 := blkc HS6.out.rcd 1
  have f1 := blkf HS6.out.rcd 1
  clear hr6 hf6 HS5 HN
  dsimp only
  go_upto_region 5 with fail
  have HS7 := hidd (HS6.out.set (kd' := (kd : Int)) (sq' := sq) (id' := []) (did' := []) (va' := .slice none 0 0) 1 (.int .i64 sq) (by simp))
  obtain ⟨w7, hw7⟩ : ∃ w7, w6.setCell ⟨w0.heap.size + 1 + 1, 1, none⟩ (.int .i64 sq) = w7 := ⟨_, rfl⟩
  rw [hw7] at HS7
  try rw [hw7]
  clear hw7 x1 f1 HS6
  have x0 := blkc HS7.out.rcd 0
  have hlt7 := HS7.out.lt
  have HB7 := hidd HS7.out.rdr.old
  go_upto_if 15 with fail
  obtain ⟨ar, cr, hbR, hvR, hvS⟩ := HS7.out.rdr.val
  have y0 := blkc hbR 0
  clear hbR
  go_cut [6] (fun okv wr => RoCut w0 p kd sq okv wr)
  case first =>
    by_cases hk1 : kd = 1
    · subst hk1
      have HPP1 := hidd (HPP.out rfl)
      have HD := hidd (docIn_any (w0 := w7) ⟨HE.out.at HB7.out, Nat.lt_of_lt_of_le HE.out.2 HB7.out.size⟩ (by omega) hvR)
      clear HPP HPD hvR hvS
      go_wp2_with fail
      refine HD.out.mono ?_
      rintro e w8 ⟨hb8, ⟨did, V, va, xs, rr, lo, hrd, rfl, hlo, hans⟩ | ⟨hrd, rfl⟩⟩
      · obtain ⟨aA, cA, rfl⟩ := own_formR hans.row
        have HS8 := hidd (HS7.out.below hb8)
        have x3 := blkc HS8.out.rcd 3
        have x4 := blkc HS8.out.rcd 4
        have f3 := blkf HS8.out.rcd 3
        have f4 := blkf HS8.out.rcd 4
        have HAns := hidd hans
        have hsm := rdD_small hrd
        have hdl := (dcOK_parts (rdD_back hrd).2).1.1
        dsimp only at hsm hdl
        obtain ⟨t, ht⟩ : ∃ t, decide (rr.length = 0) = t := ⟨_, rfl⟩
        have HPt : Hid (if (t && rcOK (1, sq, [], (did, V))) = true then partR p = some (1, sq, [], (did, V)) else partR p = none) := by
          show ite _ _ _
          cases rr with
          | nil =>
            have ht' : t = true := by rw [← ht]; rfl
            subst ht'
            rw [HPP1.out, show readO r = some (did, V) by unfold readO; rw [hrd]]
            cases hq : rcOK (1, sq, [], (did, V)) <;> simp [hq]
          | cons z zs =>
            have ht' : t = false := by rw [← ht]; rfl
            subst ht'
            rw [HPP1.out, show readO r = none by unfold readO; rw [hrd]]
            rfl
        rw [ht]
        have Hsm := hidd hsm
        clear hb8 hans hrd HD HPP1 ht HS7 y0 x0 hsm
        dsimp only
        go_wp2_with fail
        go_meet
        case rel =>
          refine ⟨t, [], did, aA, cA, V, xs, lo, r, sh, rfl, ?_, by omega, ?_, by simp, by omega, Hsm.out.1, Hsm.out.2, HPt.out⟩
          · exact (HS8.out.set (kd' := ((1 : Nat) : Int)) (sq' := sq) (id' := []) (did' := did) (va' := .slice none 0 0) 3 _ (by simp)).set (kd' := ((1 : Nat) : Int)) (sq' := sq) (id' := []) (did' := did) (va' := .slice aA V.length cA) 4 _ (by simp)
          · have e : ((w8.setCell ⟨w0.heap.size + 1 + 1, 3, none⟩ (.string ⟨did.toArray⟩)).setCell ⟨w0.heap.size + 1 + 1, 4, none⟩ (.slice aA V.length cA)).heap.size = w8.heap.size := by simp
            rw [e]
            exact HAns.out.keep fun b h1 h2 => by rw [heap_set_other _ _ _ _ _ (by omega), heap_set_other _ _ _ _ _ (by omega)]
      · have HS8 := hidd (HS7.out.below hb8)
        have x3 := blkc HS8.out.rcd 3
        have x4 := blkc HS8.out.rcd 4
        have f3 := blkf HS8.out.rcd 3
        have f4 := blkf HS8.out.rcd 4
        have HPt : Hid (if (false && rcOK (1, sq, [], ([], []))) = true then partR p = some (1, sq, [], ([], [])) else partR p = none) := by
          show ite _ _ _
          rw [HPP1.out, show readO r = none by unfold readO; rw [hrd]]
          rfl
        have hz8 := hb8.size
        clear hb8 hrd HD HPP1 HS7 y0 x0
        dsimp only
        go_wp2_with fail
        go_meet
        case rel =>
          refine ⟨false, [], [], none, 0, [], [], w8.heap.size, r, sh, rfl, ?_, by omega, ?_, by simp, by simp, by simp, by simp, HPt.out⟩
          · exact (HS8.out.set (kd' := ((1 : Nat) : Int)) (sq' := sq) (id' := []) (did' := []) (va' := .slice none 0 0) 3 _ (by simp)).set (kd' := ((1 : Nat) : Int)) (sq' := sq) (id' := []) (did' := []) (va' := .slice none 0 0) 4 _ (by simp)
          · exact AnsV.nil _ _ _
    · have HPD1 := hidd (HPD.out hk1)
      have hkz : ((kd : Int) == 1) = false := by simp; omega
      have hcv := conv_take (W := w7) (c := cr) (l := r) rfl hvS
      have x2 := blkc HS7.out.rcd 2
      have f2 := blkf HS7.out.rcd 2
      have HPt : Hid (if (true && rcOK ((kd : Int), sq, r, ([], []))) = true then partR p = some ((kd : Int), sq, r, ([], [])) else partR p = none) := by
        show ite _ _ _
        rw [HPD1.out]
        cases rcOK ((kd : Int), sq, r, ([], [])) <;> rfl
      clear HPP HPD HPD1 hvR hvS
      go_wp2_with fail
      go_meet
      case rel =>
        refine ⟨true, r, [], none, 0, [], [], w7.heap.size, r, sh, rfl, ?_, by omega, AnsV.nil _ _ _, by omega, by simp, by simp, by simp, HPt.out⟩
        exact HS7.out.set (kd' := (kd : Int)) (sq' := sq) (id' := r) (did' := []) (va' := .slice none 0 0) 2 _ (by simp)
  case rest =>
    obtain ⟨ok, id, did, aV, cV, V, xs, lo, r', sh', rfl, hro, hlo, hans, hidl, hdidl, hVl, hsm, hpt⟩ := hcut
    have HRo := hidd hro
    have HAns := hidd hans
    have HPt := hidd hpt
    have hltc := hro.lt
    have HVd : Hid (∀ W, HoldV W aV V → Calls Tryz.prog 17 #[.agg #[.int .i64 (kd : Int), .int .i64 sq, .string ⟨id.toArray⟩, .string ⟨did.toArray⟩, .slice aV V.length cV]] W fun e w' => e = .returned (.bool (rcOK ((kd : Int), sq, id, (did, V)))) ∧ Below W.heap.size W w') := fun W hW => valid_any (kd : Int) sq id did aV cV V W hidl hdidl (by omega) (smallG hsm) hW
    clear hro hans hpt hsm HPP HPD hvR hvS x0 y0
    have hXA : w0.heap.size + 1 + 1 ≠ w0.heap.size := by omega
    have hB1 : Below wc.heap.size wc wc.drew := below_drewN (Below.refl _ wc) 1
    have hS0 : wc.drew.heap[w0.heap.size + 1 + 1]? = some (.cells #[.int .i64 (kd : Int), .int .i64 sq, .string ⟨id.toArray⟩, .string ⟨did.toArray⟩, .slice aV V.length cV] 28) := blko HRo.out.rcd hB1
    have hR0 := blko HRo.out.res hB1
    have hA0 : AnsV wc.drew lo wc.drew.heap.size (.slice aV V.length cV) V xs := HAns.out.keep fun b _ h2 => hB1.block b h2
    have hO0 : Below w0.heap.size w0 wc.drew := HRo.out.rdr.old.trans (hB1.mono HRo.out.rdr.old.size)
    have hz0 : wc.drew.heap.size = wc.heap.size := rfl
    obtain ⟨B, hB⟩ : ∃ B, rcOK ((kd : Int), sq, id, (did, V)) = B := ⟨_, rfl⟩
    rw [hB] at HVd HPt
    have HBe := hidd hB
    clear hB
    go_upto_region 9 with fail
    refine wp_region_held (S := fun W => W.heap[w0.heap.size + 1 + 1]? = some (.cells #[.int .i64 (kd : Int), .int .i64 sq, .string ⟨id.toArray⟩, .string ⟨did.toArray⟩, .slice aV V.length cV] 28)) (by kernel_rfl) ?_
    try simp only [Act.put, List.getElem_toArray, List.getElem_cons_succ, List.getElem_cons_zero, List.setIfInBounds_toArray, List.set_cons_zero, List.set_cons_succ]
    refine tkW 0 (v := .agg #[.int .i64 (kd : Int), .int .i64 sq, .string ⟨id.toArray⟩, .string ⟨did.toArray⟩, .slice aV V.length cV]) (hx := fun W hW => exec_loadRec W _ _ _ rfl (w0.heap.size + 1 + 1) _ _ _ _ _ (by kernel_rfl) hW) (h := ?_)
    try simp only [Act.put, List.getElem_toArray, List.getElem_cons_succ, List.getElem_cons_zero, List.setIfInBounds_toArray, List.set_cons_zero, List.set_cons_succ]
    refine tkX 1 (v := .bool ok) (h := ?_)
    try simp only [Act.put, List.getElem_toArray, List.getElem_cons_succ, List.getElem_cons_zero, List.setIfInBounds_toArray, List.set_cons_zero, List.set_cons_succ]
    refine tkX 2 (v := .bool ok) (h := ?_)
    try simp only [Act.put, List.getElem_toArray, List.getElem_cons_succ, List.getElem_cons_zero, List.setIfInBounds_toArray, List.set_cons_zero, List.set_cons_succ]
    cases ok with
    | false =>
      refine tkS 3 (h := ?_)
      try simp only [Act.put, List.getElem_toArray, List.getElem_cons_succ, List.getElem_cons_zero, List.setIfInBounds_toArray, List.set_cons_zero, List.set_cons_succ]
      refine tkS 4 (h := ?_)
      try simp only [Act.put, List.getElem_toArray, List.getElem_cons_succ, List.getElem_cons_zero, List.setIfInBounds_toArray, List.set_cons_zero, List.set_cons_succ]
      refine tkX 5 (v := .bool false) (h := ?_)
      try simp only [Act.put, List.getElem_toArray, List.getElem_cons_succ, List.getElem_cons_zero, List.setIfInBounds_toArray, List.set_cons_zero, List.set_cons_succ]
      refine wpAnyH_one 6 (by kernel_rfl) ?_
      refine wpOp_skip (setRec wc.drew w0.heap.size (kd : Int) sq id did aV V.length cV) rfl (by kernel_rfl) (exec_storeRec wc.drew _ _ _ _ rfl w0.heap.size _ _ _ _ _ _ _ _ _ _ _ _ (by kernel_rfl) (by kernel_rfl) hR0) ?_
      have HA := hidd (setRec_at hR0 (kd : Int) sq id did aV V.length cV)
      have HFin : Hid (RecP w0 p (.returned (.tuple #[.agg #[.int .i64 (kd : Int), .int .i64 sq, .string ⟨id.toArray⟩, .string ⟨did.toArray⟩, .slice aV V.length cV], .bool false])) (setRec wc.drew w0.heap.size (kd : Int) sq id did aV V.length cV)) := ⟨setRec_below hO0 (Nat.le_refl _) _ _ _ _ _ _ _, (kd : Int), sq, id, did, aV, cV, V, xs, lo, false, rfl, by omega, by rw [setRec_size]; exact hA0.keep fun b h1 h2 => setRec_oth _ _ _ _ _ _ _ _ _ _ (by omega), Or.inr ⟨rfl, HPt.out⟩⟩
      have hSf := (setRec_oth wc.drew w0.heap.size (kd : Int) sq id did aV V.length cV _ hXA).trans hS0
      refine ⟨hSf, ?_⟩
      try simp only [Act.put, List.getElem_toArray, List.getElem_cons_succ, List.getElem_cons_zero, List.setIfInBounds_toArray, List.set_cons_zero, List.set_cons_succ]
      refine tkX 7 (v := .bool false) (h := ?_)
      try simp only [Act.put, List.getElem_toArray, List.getElem_cons_succ, List.getElem_cons_zero, List.setIfInBounds_toArray, List.set_cons_zero, List.set_cons_succ]
      refine wpAnyH_done (by kernel_rfl) ?_ _
      generalize setRec wc.drew w0.heap.size (kd : Int) sq id did aV V.length cV = wf at *
      clear hS0 hR0 hA0 hO0 hB1 hSf
      have z0 := blkc HA.out 0
      have z1 := blkc HA.out 1
      have z2 := blkc HA.out 2
      have z3 := blkc HA.out 3
      have z4 := blkc HA.out 4
      go_wp2_with fail
      refine bodyPost_ret (v := .tuple #[.agg #[.int .i64 (kd : Int), .int .i64 sq, .string ⟨id.toArray⟩, .string ⟨did.toArray⟩, .slice aV V.length cV], .bool false]) (by simp [results, Tryz.results52, go_sem, *]) rfl ?_
      exact HFin.out
    | true =>
      have HFin0 : Hid (∀ W, Below w0.heap.size w0 W → AnsV W lo W.heap.size (.slice aV V.length cV) V xs → RecP w0 p (.returned (.tuple #[.agg #[.int .i64 (kd : Int), .int .i64 sq, .string ⟨id.toArray⟩, .string ⟨did.toArray⟩, .slice aV V.length cV], .bool B])) W) := fun W hW hAn => ⟨hW, (kd : Int), sq, id, did, aV, cV, V, xs, lo, B, rfl, by omega, hAn, by
        have h := HPt.out
        cases B
        · exact Or.inr ⟨rfl, h⟩
        · exact Or.inl ⟨rfl, h⟩⟩
      refine tkW 3 (v := .agg #[.int .i64 (kd : Int), .int .i64 sq, .string ⟨id.toArray⟩, .string ⟨did.toArray⟩, .slice aV V.length cV]) (hx := fun W hW => exec_loadRec W _ _ _ rfl (w0.heap.size + 1 + 1) _ _ _ _ _ (by kernel_rfl) hW) (h := ?_)
      try simp only [Act.put, List.getElem_toArray, List.getElem_cons_succ, List.getElem_cons_zero, List.setIfInBounds_toArray, List.set_cons_zero, List.set_cons_succ]
      refine wpAnyH_one 4 (by kernel_rfl) ?_
      refine wpOp_call 17 #[.agg #[.int .i64 (kd : Int), .int .i64 sq, .string ⟨id.toArray⟩, .string ⟨did.toArray⟩, .slice aV V.length cV]] rfl (by kernel_rfl) (rbx_call1 _ _ _ _ _ _ rfl _ (by kernel_rfl) (Tryz.call17 _ _)) ?_
      refine (HVd.out _ hA0.hold).mono ?_
      rintro e w9 ⟨rfl, hb9⟩
      have hR9 := blko hR0 hb9
      have hS9 := blko hS0 hb9
      refine ⟨hS9, ?_⟩
      try simp only [Act.put, List.getElem_toArray, List.getElem_cons_succ, List.getElem_cons_zero, List.setIfInBounds_toArray, List.set_cons_zero, List.set_cons_succ]
      refine tkX 5 (v := .bool B) (h := ?_)
      try simp only [Act.put, List.getElem_toArray, List.getElem_cons_succ, List.getElem_cons_zero, List.setIfInBounds_toArray, List.set_cons_zero, List.set_cons_succ]
      refine wpAnyH_one 6 (by kernel_rfl) ?_
      refine wpOp_skip (setRec w9 w0.heap.size (kd : Int) sq id did aV V.length cV) rfl (by kernel_rfl) (exec_storeRec w9 _ _ _ _ rfl w0.heap.size _ _ _ _ _ _ _ _ _ _ _ _ (by kernel_rfl) (by kernel_rfl) hR9) ?_
      have HA := hidd (setRec_at hR9 (kd : Int) sq id did aV V.length cV)
      have HFin := hidd (HFin0.out (setRec w9 w0.heap.size (kd : Int) sq id did aV V.length cV) (setRec_below (hO0.trans (hb9.mono hO0.size)) (Nat.le_refl _) _ _ _ _ _ _ _) (by rw [setRec_size]; exact ((hA0.keep (w' := w9) fun b h1 h2 => hb9.block b h2).mono hb9.size).keep fun b h1 h2 => setRec_oth _ _ _ _ _ _ _ _ _ _ (by omega)))
      have hSf := (setRec_oth w9 w0.heap.size (kd : Int) sq id did aV V.length cV _ hXA).trans hS9
      refine ⟨hSf, ?_⟩
      try simp only [Act.put, List.getElem_toArray, List.getElem_cons_succ, List.getElem_cons_zero, List.setIfInBounds_toArray, List.set_cons_zero, List.set_cons_succ]
      refine tkX 7 (v := .bool B) (h := ?_)
      try simp only [Act.put, List.getElem_toArray, List.getElem_cons_succ, List.getElem_cons_zero, List.setIfInBounds_toArray, List.set_cons_zero, List.set_cons_succ]
      refine wpAnyH_done (by kernel_rfl) ?_ _
      generalize setRec w9 w0.heap.size (kd : Int) sq id did aV V.length cV = wf at *
      clear hS0 hR0 hA0 hO0 hB1 hS9 hR9 hb9 hSf
      have z0 := blkc HA.out 0
      have z1 := blkc HA.out 1
      have z2 := blkc HA.out 2
      have z3 := blkc HA.out 3
      have z4 := blkc HA.out 4
      go_wp2_with fail
      refine bodyPost_ret (v := .tuple #[.agg #[.int .i64 (kd : Int), .int .i64 sq, .string ⟨id.toArray⟩, .string ⟨did.toArray⟩, .slice aV V.length cV], .bool B]) (by simp [results, Tryz.results52, go_sem, *]) rfl ?_
      exact HFin.out
end Go.Proofs.YtpdiaddgialanaaGreatDoor
