import Derived.Test.YtionicjnoogpjaaGreatDoorAnalyzJ10
import Derived.Test.YtionicjnoogpjaaGreatDoorAnalyzJ11
namespace Go.Proofs.YtionicjnoogpjaaGreatDoor
open Go Go.RowKit
set_option linter.unusedVariables false
set_option linter.unusedSimpArgs false
set_option maxRecDepth 100000

/-- A drawn analyser in a box, beside the source. -/
structure CA (w W : World) (b : Nat) (ao : Option Addr) (n cap : Nat) (A : Int) (BX : Nat) (fo st ph : Bool) (aS aY : Option Addr) (cS cY : Nat) (stops : List (List UInt8)) (syns : List (List UInt8 × List UInt8)) (lo hi : Int) : Prop where
  src : Sx b ao n cap W A
  but : But (fun x => x = b) w W
  box : W.heap[BX]? = some (.cells #[.bool fo, .bool st, .bool ph, .slice aS stops.length cS, .slice aY syns.length cY, .int .i64 lo, .int .i64 hi] 26)
  stp : HoldS W aS stops
  syn : HoldY W aY syns
  so : Off aS (fun x => x ≤ b ∨ x = BX)
  yo : Off aY (fun x => x ≤ b ∨ x = BX)
  bl : b < w.heap.size
  xl : w.heap.size ≤ BX
  cb : ∀ j, j < n → ∃ blk off, ao = some ⟨blk, off, none⟩ ∧ blk < b
section
variable {w W W' : World} {b : Nat} {ao : Option Addr} {n cap : Nat} {A : Int} {BX : Nat} {fo st ph : Bool} {aS aY : Option Addr} {cS cY : Nat} {stops : List (List UInt8)} {syns : List (List UInt8 × List UInt8)} {lo hi : Int}
theorem CA.size (h : CA w W b ao n cap A BX fo st ph aS aY cS cY stops syns lo hi) : BX < W.heap.size := (Array.getElem?_eq_some_iff.1 h.box).1
theorem CA.draw (h : CA w W b ao n cap A BX fo st ph aS aY cS cY stops syns lo hi) {A' : Int} (hs : Sx b ao n cap W' A') (hb : But (fun x => x = b) W W') : CA w W' b ao n cap A' BX fo st ph aS aY cS cY stops syns lo hi := by
  have h1 := h.bl
  have h2 := h.xl
  have h4 := h.size
  exact ⟨hs, h.but.trans hb (fun _ _ h => h) (fun _ _ h => h), (hb.block BX h4 (by omega)).trans h.box,
    holdS_heap2 h.stp hb.size (fun blk off e hl => hb.block blk hl (fun q => h.so blk off e (Or.inl (Nat.le_of_eq q)))), holdY_heap h.syn hb.size (fun blk off e hl => hb.block blk hl (fun q => h.yo blk off e (Or.inl (Nat.le_of_eq q)))), h.so, h.yo, h1, h2, h.cb⟩
theorem CA.mono (h : CA w W b ao n cap A BX fo st ph aS aY cS cY stops syns lo hi) {A' : Int} (hA : A ≤ A') : CA w W b ao n cap A' BX fo st ph aS aY cS cY stops syns lo hi := h.draw (h.src.mono hA) (But.refl _ _)
theorem CA.put (h : CA w W b ao n cap A BX fo st ph aS aY cS cY stops syns lo hi) (k : Nat) (u : Value) {aS' aY' : Option Addr} {cS' cY' : Nat} {stops' : List (List UInt8)} {syns' : List (List UInt8 × List UInt8)} {lo' hi' : Int} {fo' st' ph' : Bool}
    (he : (#[.bool fo, .bool st, .bool ph, .slice aS stops.length cS, .slice aY syns.length cY, .int .i64 lo, .int .i64 hi] : Array Value).setIfInBounds k u = #[.bool fo', .bool st', .bool ph', .slice aS' stops'.length cS', .slice aY' syns'.length cY', .int .i64 lo', .int .i64 hi'])
    (h1 : HoldS W aS' stops') (h2 : HoldY W aY' syns') (h3 : Off aS' (fun x => x ≤ b ∨ x = BX)) (h4 : Off aY' (fun x => x ≤ b ∨ x = BX)) :
    CA w (W.setCell ⟨BX, k, none⟩ u) b ao n cap A BX fo' st' ph' aS' aY' cS' cY' stops' syns' lo' hi' := by
  have q1 := h.bl
  have q2 := h.xl
  have hg : ∀ g, g ≠ BX → (W.setCell ⟨BX, k, none⟩ u).heap[g]? = W.heap[g]? := fun g hne => heap_set_other W BX k u g hne
  refine ⟨h.src.set BX k u (by omega) (fun j hj => ?_), ⟨h.but.os, h.but.tape, h.but.output, by have := h.but.size; simpa using this, fun i hi hn => (hg i (by omega)).trans (h.but.block i hi hn)⟩, by rw [blk_setk h.box k u, he], holdS_heap2 h1 (by simp) (fun blk off e _ => hg blk (fun q => h3 blk off e (Or.inr q))), holdY_heap h2 (by simp) (fun blk off e _ => hg blk (fun q => h4 blk off e (Or.inr q))), h3, h4, q1, q2, h.cb⟩
  obtain ⟨blk, off, z1, z2⟩ := h.cb j hj
  exact ⟨blk, off, z1, by omega⟩
theorem CA.setLo (h : CA w W b ao n cap A BX fo st ph aS aY cS cY stops syns lo hi) (z : Int) : CA w (W.setCell ⟨BX, 5, none⟩ (.int .i64 z)) b ao n cap A BX fo st ph aS aY cS cY stops syns z hi := h.put 5 _ rfl h.stp h.syn h.so h.yo
theorem CA.setHi (h : CA w W b ao n cap A BX fo st ph aS aY cS cY stops syns lo hi) (z : Int) : CA w (W.setCell ⟨BX, 6, none⟩ (.int .i64 z)) b ao n cap A BX fo st ph aS aY cS cY stops syns lo z := h.put 6 _ rfl h.stp h.syn h.so h.yo
/-- Another analyser is stored in the box. -/
theorem CA.anew (h : CA w W b ao n cap A BX fo st ph aS aY cS cY stops syns lo hi) {aS' aY' : Option Addr} {cS' cY' : Nat} {stops' : List (List UInt8)} {syns' : List (List UInt8 × List UInt8)} {lo' hi' : Int} {fo' st' ph' : Bool}
    (h1 : HoldS W aS' stops') (h2 : HoldY W aY' syns') (h3 : Off aS' (fun x => x ≤ b ∨ x = BX)) (h4 : Off aY' (fun x => x ≤ b ∨ x = BX)) :
    CA w (((((((W.setCell ⟨BX, 0, none⟩ (.bool fo')).setCell ⟨BX, 1, none⟩ (.bool st')).setCell ⟨BX, 2, none⟩ (.bool ph')).setCell ⟨BX, 3, none⟩ (.slice aS' stops'.length cS')).setCell ⟨BX, 4, none⟩ (.slice aY' syns'.length cY')).setCell ⟨BX, 5, none⟩ (.int .i64 lo')).setCell ⟨BX, 6, none⟩ (.int .i64 hi')) b ao n cap A BX fo' st' ph' aS' aY' cS' cY' stops' syns' lo' hi' := by
  have k0 := h.put 0 (.bool fo') (fo' := fo') rfl h.stp h.syn h.so h.yo
  have k1 := k0.put 1 (.bool st') (st' := st') rfl k0.stp k0.syn h.so h.yo
  have k2 := k1.put 2 (.bool ph') (ph' := ph') rfl k1.stp k1.syn h.so h.yo
  have e2 : HoldS _ aS' stops' := holdS_heap2 h1 (W' := ((W.setCell ⟨BX, 0, none⟩ (.bool fo')).setCell ⟨BX, 1, none⟩ (.bool st')).setCell ⟨BX, 2, none⟩ (.bool ph')) (by simp) (fun blk off e _ => by
    have q : blk ≠ BX := fun q => h3 blk off e (Or.inr q)
    rw [heap_set_other _ _ _ _ _ q, heap_set_other _ _ _ _ _ q, heap_set_other _ _ _ _ _ q])
  have k3 := k2.put 3 (.slice aS' stops'.length cS') (aS' := aS') (cS' := cS') (stops' := stops') rfl e2 k2.syn h3 h.yo
  have e3 : HoldY _ aY' syns' := holdY_heap h2 (W' := (((W.setCell ⟨BX, 0, none⟩ (.bool fo')).setCell ⟨BX, 1, none⟩ (.bool st')).setCell ⟨BX, 2, none⟩ (.bool ph')).setCell ⟨BX, 3, none⟩ (.slice aS' stops'.length cS')) (by simp) (fun blk off e _ => by
    have q : blk ≠ BX := fun q => h4 blk off e (Or.inr q)
    rw [heap_set_other _ _ _ _ _ q, heap_set_other _ _ _ _ _ q, heap_set_other _ _ _ _ _ q, heap_set_other _ _ _ _ _ q])
  have k4 := k3.put 4 (.slice aY' syns'.length cY') (aY' := aY') (cY' := cY') (syns' := syns') rfl k3.stp e3 h3 h4
  exact (k4.setLo lo').setHi hi'
end
theorem sizeS {b : Nat} {ao : Option Addr} {n cap : Nat} {W : World} {A : Int} (h : Sx b ao n cap W A) (hn : n ≤ 1048576) (m : Int) (hm : 1 ≤ m) (hm2 : m ≤ 16777216) :
    Calls Tryz.prog 29 #[.pointer (some ⟨b, 0, none⟩), .int .i64 m] W fun e w' => ∃ x : Int, e = .returned (.int .i64 x) ∧ 1 ≤ x ∧ x ≤ m ∧ w' = W := by
  obtain ⟨a, sd, h1, h2, h3, h4, h5, h6⟩ := h
  exact size_any b ao n cap a sd m W hn hm hm2 h5
theorem proseS {b : Nat} {ao : Option Addr} {n cap : Nat} {W : World} {A : Int} (h : Sx b ao n cap W A) (hn : n ≤ 1048576) (hA : A ≤ 274877906944) (N : Nat) (hN : N ≤ 1000) :
    Calls Tryz.prog 27 #[.pointer (some ⟨b, 0, none⟩), .int .i64 (N : Int)] W fun e w' => ∃ t : ByteArray, e = .returned (.string t) ∧ t.size ≤ 32 * N ∧ Sx b ao n cap w' (A + 6 * (N : Int)) ∧ But (fun x => x = b) W w' := by
  obtain ⟨a, sd, h1, h2, h3, h4, h5, h6⟩ := h
  refine (prose_any b ao n cap a sd N W hn hN h1 (by omega) h3 h4 h5 h6).mono ?_
  rintro e w1 ⟨t, a1, sd1, rfl, ht, ha3, ha4, hsd0, hsd1, hs1', hg1⟩
  exact ⟨t, rfl, ht, ⟨a1, sd1, by omega, by omega, hsd0, hsd1, hs1', h6.kept hg1⟩, but_grown hg1⟩
theorem spoilS {b : Nat} {ao : Option Addr} {n cap : Nat} {W : World} {A : Int} (h : Sx b ao n cap W A) (hn : n ≤ 1048576) (hA : A ≤ 274877906944) (t : ByteArray) (ht : t.size ≤ 65536) :
    Calls Tryz.prog 30 #[.pointer (some ⟨b, 0, none⟩), .string t] W fun e w' => ∃ t' : ByteArray, e = .returned (.string t') ∧ t'.size ≤ t.size + 1 ∧ Sx b ao n cap w' (A + 12) ∧ But (fun x => x = b) W w' := by
  obtain ⟨a, sd, h1, h2, h3, h4, h5, h6⟩ := h
  refine (spoil_any b ao n cap a sd t W hn ht h1 (by omega) h3 h4 h5 h6).mono ?_
  rintro e w1 ⟨t', a1, sd1, rfl, ht, ha3, ha4, hsd0, hsd1, hs1', hg1⟩
  exact ⟨t', rfl, ht, ⟨a1, sd1, by omega, by omega, hsd0, hsd1, hs1', h6.kept hg1⟩, but_grown hg1⟩
theorem exec_loadA (W : World) (ρ : Operand → Value) (o : Oper) (x : Operand) (ho : o.op = .load 26 x) (b : Nat) (u0 u1 u2 u3 u4 u5 u6 : Value) (hx : ρ x = .pointer (some ⟨b, 0, none⟩))
    (h : W.heap[b]? = some (.cells #[u0, u1, u2, u3, u4, u5, u6] 26)) : (execOp ρ o).run Tryz.prog W = .ok (.value (.agg #[u0, u1, u2, u3, u4, u5, u6])) W := by
  have c0 : W.cell? ⟨b, 0, none⟩ = some u0 := blkc h 0
  have c1 : W.cell? ⟨b, 1, none⟩ = some u1 := blkc h 1
  have c2 : W.cell? ⟨b, 2, none⟩ = some u2 := blkc h 2
  have c3 : W.cell? ⟨b, 3, none⟩ = some u3 := blkc h 3
  have c4 : W.cell? ⟨b, 4, none⟩ = some u4 := blkc h 4
  have c5 : W.cell? ⟨b, 5, none⟩ = some u5 := blkc h 5
  have c6 : W.cell? ⟨b, 6, none⟩ = some u6 := blkc h 6
  clear h
  unfold execOp
  simp only [ho, Instr.loadAt, Instr.sureAddr, hx, Sem.run_bind, Sem.run_pure, Result.andThen_ok]
  go_simp
theorem exec_storeA (W : World) (ρ : Operand → Value) (o : Oper) (x y : Operand) (ho : o.op = .store 26 x y) (b : Nat) (r0 r1 r2 r3 r4 r5 r6 : Value) (x0 x1 x2 : Bool) (a3 a4 : Option Addr) (n3 c3 n4 c4 : Nat) (x5 x6 : Int) (hx : ρ x = .pointer (some ⟨b, 0, none⟩)) (hy : ρ y = .agg #[.bool x0, .bool x1, .bool x2, .slice a3 n3 c3, .slice a4 n4 c4, .int .i64 x5, .int .i64 x6])
    (h : W.heap[b]? = some (.cells #[r0, r1, r2, r3, r4, r5, r6] 26)) : (execOp ρ o).run Tryz.prog W = .ok .skip (((((((W.setCell ⟨b, 0, none⟩ (.bool x0)).setCell ⟨b, 1, none⟩ (.bool x1)).setCell ⟨b, 2, none⟩ (.bool x2)).setCell ⟨b, 3, none⟩ (.slice a3 n3 c3)).setCell ⟨b, 4, none⟩ (.slice a4 n4 c4)).setCell ⟨b, 5, none⟩ (.int .i64 x5)).setCell ⟨b, 6, none⟩ (.int .i64 x6)) := by
  have c0' : W.cell? ⟨b, 0, none⟩ = some r0 := blkc h 0
  have f0 := blkf h 0
  have c1' : W.cell? ⟨b, 1, none⟩ = some r1 := blkc h 1
  have f1 := blkf h 1
  have c2' : W.cell? ⟨b, 2, none⟩ = some r2 := blkc h 2
  have f2 := blkf h 2
  have c3' : W.cell? ⟨b, 3, none⟩ = some r3 := blkc h 3
  have f3 := blkf h 3
  have c4' : W.cell? ⟨b, 4, none⟩ = some r4 := blkc h 4
  have f4 := blkf h 4
  have c5' : W.cell? ⟨b, 5, none⟩ = some r5 := blkc h 5
  have f5 := blkf h 5
  have c6' : W.cell? ⟨b, 6, none⟩ = some r6 := blkc h 6
  have f6 := blkf h 6
  clear h
  unfold execOp
  simp only [ho, Instr.storeAt, Instr.sureAddr, hx, hy, Sem.run_bind, Sem.run_pure, Result.andThen_ok]
  go_simp
theorem szS_mem {l : List (List UInt8)} (h : szS l) : ∀ t ∈ l, t.length ≤ 1048576 := by
  intro t ht
  obtain ⟨k, hk, rfl⟩ := List.getElem_of_mem ht
  have := h k hk
  rw [List.getD_eq_getElem?_getD, List.getElem?_eq_getElem hk, Option.getD_some, bs_size] at this
  exact this
theorem szY_mem {l : List (List UInt8 × List UInt8)} (h : szY l) : ∀ y ∈ l, y.1.length ≤ 1048576 ∧ y.2.length ≤ 1048576 := by
  intro t ht
  obtain ⟨k, hk, rfl⟩ := List.getElem_of_mem ht
  have := h k hk
  rw [List.getD_eq_getElem?_getD, List.getElem?_eq_getElem hk, Option.getD_some, bs_size, bs_size] at this
  exact this
/-- An analyser and a text were drawn. -/
def DrawnAn (w : World) (e : Ending) (w' : World) : Prop :=
  ∃ (fo st ph : Bool) (aS aY : Option Addr) (cS cY : Nat) (stops : List (List UInt8)) (syns : List (List UInt8 × List UInt8)) (lo hi : Int) (t : ByteArray), e = .returned (.tuple #[.agg #[.bool fo, .bool st, .bool ph, .slice aS stops.length cS, .slice aY syns.length cY, .int .i64 lo, .int .i64 hi], .string t]) ∧ HoldS w' aS stops ∧ HoldY w' aY syns ∧ smallA stops syns lo hi ∧ t.size ≤ 1048576 ∧ (aS = none → cS = 0) ∧ Below w.heap.size w w'
theorem CA.drawnR {w w2 W : World} {b : Nat} {ao : Option Addr} {n cap : Nat} {A : Int} {BX : Nat} {fo st ph : Bool} {aS aY : Option Addr} {cS cY : Nat} {stops : List (List UInt8)} {syns : List (List UInt8 × List UInt8)} {lo hi : Int} {t : ByteArray} (h : CA w2 W b ao n cap A BX fo st ph aS aY cS cY stops syns lo hi) (hB : Below w.heap.size w w2) {o : Obj} (hR : w2.heap[w.heap.size]? = some o) (hb : b = w.heap.size + 1) (hc : aS = none → cS = 0) (hm : smallA stops syns lo hi) (ht : t.size ≤ 1048576) :
    DrawnAn w (.returned (.tuple #[.agg #[.bool fo, .bool st, .bool ph, .slice aS stops.length cS, .slice aY syns.length cY, .int .i64 lo, .int .i64 hi], .string t])) (((((((W.setCell ⟨w.heap.size, 0, none⟩ (.bool fo)).setCell ⟨w.heap.size, 1, none⟩ (.bool st)).setCell ⟨w.heap.size, 2, none⟩ (.bool ph)).setCell ⟨w.heap.size, 3, none⟩ (.slice aS stops.length cS)).setCell ⟨w.heap.size, 4, none⟩ (.slice aY syns.length cY)).setCell ⟨w.heap.size, 5, none⟩ (.int .i64 lo)).setCell ⟨w.heap.size, 6, none⟩ (.int .i64 hi)) := by
  have hz := hB.size
  refine ⟨fo, st, ph, aS, aY, cS, cY, stops, syns, lo, hi, t, rfl, holdS_heap2 h.stp (by simp) (fun blk off e _ => ?_), holdY_heap h.syn (by simp) (fun blk off e _ => ?_), hm, ht, hc, ?_⟩
  · have q : blk ≠ w.heap.size := fun q => h.so blk off e (Or.inl (by omega))
    rw [heap_set_other _ _ _ _ _ q, heap_set_other _ _ _ _ _ q, heap_set_other _ _ _ _ _ q, heap_set_other _ _ _ _ _ q, heap_set_other _ _ _ _ _ q, heap_set_other _ _ _ _ _ q, heap_set_other _ _ _ _ _ q]
  · have q : blk ≠ w.heap.size := fun q => h.yo blk off e (Or.inl (by omega))
    rw [heap_set_other _ _ _ _ _ q, heap_set_other _ _ _ _ _ q, heap_set_other _ _ _ _ _ q, heap_set_other _ _ _ _ _ q, heap_set_other _ _ _ _ _ q, heap_set_other _ _ _ _ _ q, heap_set_other _ _ _ _ _ q]
  · have h1 : Below w.heap.size w W := hB.trans (h.but.below hz (fun i hi e => by omega))
    iterate 7 refine Below.setCell ?_ (by dsimp only; omega) _
    exact h1
set_option maxHeartbeats 16000000 in
theorem drawAn_any (ao : Option Addr) (n cap : Nat) (w : World) (hn : n ≤ 1048576) (hc : CodeIn w ao n) :
    Calls Tryz.prog 5 #[.slice ao n cap] w (DrawnAn w) := by
  have HCI := hidd hc
  clear hc
  go_enter Tryz.func5, Tryz.ntmps5
  go_upto_region 1 with fail
  have HBl : Hid (Below w.heap.size w (w.alloc (.cells #[.bool false, .bool false, .bool false, .slice none 0 0, .slice none 0 0, .int .i64 0, .int .i64 0] 26))) := (Below.refl _ _).alloc (Nat.le_refl _) _
  have HR0 : Hid ((w.alloc (.cells #[.bool false, .bool false, .bool false, .slice none 0 0, .slice none 0 0, .int .i64 0, .int .i64 0] 26)).heap[w.heap.size]? = some (.cells #[.bool false, .bool false, .bool false, .slice none 0 0, .slice none 0 0, .int .i64 0, .int .i64 0] 26)) := heap_alloc_new _ _
  have HZ0 : Hid ((w.alloc (.cells #[.bool false, .bool false, .bool false, .slice none 0 0, .slice none 0 0, .int .i64 0, .int .i64 0] 26)).heap.size = w.heap.size + 1) := by show _ = _; simp
  generalize w.alloc (.cells #[.bool false, .bool false, .bool false, .slice none 0 0, .slice none 0 0, .int .i64 0, .int .i64 0] 26) = w1 at *
  go_upto_region 2 with (go_at_call 23; refine (source_any ao n cap w1 hn).mono ?_; rintro e w2 ⟨rfl, hs2, hg2⟩)
  have HC1 : Hid (CodeIn w1 ao n) := HCI.out.below HBl.out
  have HS2 : Hid (Sx w1.heap.size ao n cap w2 0) := ⟨0, _, by omega, by omega, by omega, by omega, hs2, HC1.out.code hg2⟩
  have HZ2 : Hid (w1.heap.size < w2.heap.size) := hs2.lt
  have HR2 : Hid (w2.heap[w.heap.size]? = some (.cells #[.bool false, .bool false, .bool false, .slice none 0 0, .slice none 0 0, .int .i64 0, .int .i64 0] 26)) := (hg2.block _ (by have := HZ0.out; omega) (by simp)).trans HR0.out
  have HB2 : Hid (Below w.heap.size w w2) := HBl.out.grown hg2 (by have := HZ0.out; omega) (fun k e => by cases e)
  have HCb : Hid (∀ j, j < n → ∃ blk off, ao = some ⟨blk, off, none⟩ ∧ blk < w1.heap.size) := fun j hj => by
    obtain ⟨blk, off, z, h1, h2, _⟩ := HCI.out j hj
    exact ⟨blk, off, h1, by have := HZ0.out; omega⟩
  clear hs2 hg2 HBl HR0 HC1
  generalize hb : w1.heap.size = b at *
  go_upto_region 3 with (go_at_call 24; refine (drawAz_any b ao n cap 0 w2 hn (by omega) HS2.out (fun j hj => by obtain ⟨blk, off, h1, h2⟩ := HCb.out j hj; exact ⟨blk, off, h1, by have := HZ2.out; omega⟩)).mono ?_; rintro e w3 ⟨fo, st, ph, aS, aY, cS, cY, stops, syns, lo, hi, rfl, hs3, hb3, hS3, hY3, hSo3, hYo3, hx1, hx2, hx3, hx4, hx5, hx6, hx7, hx8, hx9, hx10⟩)
  have HD0 : Hid (CA w2 (w3.alloc (.cells #[.bool fo, .bool st, .bool ph, .slice aS stops.length cS, .slice aY syns.length cY, .int .i64 lo, .int .i64 hi] 26)) b ao n cap 60 w3.heap.size fo st ph aS aY cS cY stops syns lo hi) := by
    have hbel : Below w3.heap.size w3 (w3.alloc (.cells #[.bool fo, .bool st, .bool ph, .slice aS stops.length cS, .slice aY syns.length cY, .int .i64 lo, .int .i64 hi] 26)) := (Below.refl _ _).alloc (Nat.le_refl _) _
    have := HZ2.out
    exact ⟨hs3.alloc _, hb3.alloc _, heap_alloc_new _ _, hS3.below hbel, hY3.below hbel, fun blk off e hx => by have := hSo3 blk off e; omega, fun blk off e hx => by have := hYo3 blk off e; omega, HZ2.out, hb3.size, HCb.out⟩
  have HSz : Hid (Off aS (fun x => x ≤ b ∨ w3.heap.size ≤ x) ∧ Off aY (fun x => x ≤ b ∨ w3.heap.size ≤ x)) := ⟨fun blk off e hx => by have := hSo3 blk off e; have := HZ2.out; omega, fun blk off e hx => by have := hYo3 blk off e; have := HZ2.out; omega⟩
  have HSM : Hid (smallA stops syns lo hi) := ⟨by omega, by omega, fun t ht => szS_mem hx3 t ht, fun y hy => szY_mem hx4 y hy, hx5, hx6, hx7, hx8⟩
  clear hs3 hb3 hS3 hY3 hSo3 hYo3 hx3 hx4 HS2
  generalize w3.alloc (.cells #[.bool fo, .bool st, .bool ph, .slice aS stops.length cS, .slice aY syns.length cY, .int .i64 lo, .int .i64 hi] 26) = w4 at *
  generalize hBX : w3.heap.size = BX at *
  go_upto_if 12 with (go_at_call 25; refine (chanceS HD0.out.src hn (by omega) 8 (by omega) (by omega)).mono ?_; rintro e w5 ⟨x1, rfl, hs5, hb5⟩)
  have HD1 := hidd (HD0.out.draw hs5 hb5)
  clear hs5 hb5 HD0
  go_cut [] (fun wy => ∃ (fo st ph : Bool) (aS aY : Option Addr) (cS cY : Nat) (stops : List (List UInt8)) (syns : List (List UInt8 × List UInt8)) (lo hi : Int), CA w2 wy b ao n cap 130 BX fo st ph aS aY cS cY stops syns lo hi ∧ smallA stops syns lo hi ∧ (aS = none → cS = 0))
  case first =>
    cases x1 with
    | false =>
      go_wp2_with fail
      go_meet
      case rel => exact ⟨_, _, _, _, _, _, _, _, _, _, _, HD1.out.mono (by omega), HSM.out, hx9⟩
    | true =>
      have c0 : w5.cell? ⟨BX, 0, none⟩ = some (.bool fo) := blkc HD1.out.box 0
      have c1 : w5.cell? ⟨BX, 1, none⟩ = some (.bool st) := blkc HD1.out.box 1
      have c2 : w5.cell? ⟨BX, 2, none⟩ = some (.bool ph) := blkc HD1.out.box 2
      have c3 : w5.cell? ⟨BX, 3, none⟩ = some (.slice aS stops.length cS) := blkc HD1.out.box 3
      have c4 : w5.cell? ⟨BX, 4, none⟩ = some (.slice aY syns.length cY) := blkc HD1.out.box 4
      have c5 : w5.cell? ⟨BX, 5, none⟩ = some (.int .i64 lo) := blkc HD1.out.box 5
      have c6 : w5.cell? ⟨BX, 6, none⟩ = some (.int .i64 hi) := blkc HD1.out.box 6
      have fz : ∀ k, w5.frozen? ⟨BX, k, none⟩ = false := fun k => blkf HD1.out.box k
      go_wp2_with fail
      refine (bentAz_any b ao n cap 63 w5 hn (by omega) (HD1.out.src.mono (by omega)) (fun j hj => by obtain ⟨blk, off, h1, h2⟩ := HCb.out j hj; exact ⟨blk, off, h1, by have := HD1.out.bl; have := HD1.out.but.size; omega⟩) fo st ph aS aY cS cY stops syns lo hi HD1.out.stp HD1.out.syn (HSz.out.1.imp (fun x h => by have := HD1.out.size; omega)) (HSz.out.2.imp (fun x h => by have := HD1.out.size; omega)) HSM.out (by omega) (by omega) hx9 hx10).mono ?_
      rintro e w6 ⟨fo', st', ph', aS', aY', cS', cY', stops', syns', lo', hi', rfl, hs6, hb6, hS6, hY6, hSo6, hYo6, hsm6, hp6, hq6, hc6⟩
      have HD2 := hidd (HD1.out.draw hs6 hb6)
      have hlt := HD1.out.size
      have HN1 : Hid (Off aS' (fun x => x ≤ b ∨ x = BX)) := fun blk off e hx => by
        rcases hx with hx | hx
        · exact hSo6 blk off e hx
        · rcases hp6 with q | q
          · rw [q] at e; exact HD1.out.so blk off e (Or.inr hx)
          · exact q blk off e (by omega)
      have HN2 : Hid (Off aY' (fun x => x ≤ b ∨ x = BX)) := fun blk off e hx => by
        rcases hx with hx | hx
        · exact hYo6 blk off e hx
        · rcases hq6 with q | q
          · rw [q] at e; exact HD1.out.yo blk off e (Or.inr hx)
          · exact q blk off e (by omega)
      have HF := hidd (HD2.out.anew (fo' := fo') (st' := st') (ph' := ph') (cS' := cS') (cY' := cY') (lo' := lo') (hi' := hi') hS6 hY6 HN1.out HN2.out)
      have HM := hidd hsm6
      have d0 : w6.cell? ⟨BX, 0, none⟩ = some (.bool fo) := blkc HD2.out.box 0
      have d1 : w6.cell? ⟨BX, 1, none⟩ = some (.bool st) := blkc HD2.out.box 1
      have d2 : w6.cell? ⟨BX, 2, none⟩ = some (.bool ph) := blkc HD2.out.box 2
      have d3 : w6.cell? ⟨BX, 3, none⟩ = some (.slice aS stops.length cS) := blkc HD2.out.box 3
      have d4 : w6.cell? ⟨BX, 4, none⟩ = some (.slice aY syns.length cY) := blkc HD2.out.box 4
      have d5 : w6.cell? ⟨BX, 5, none⟩ = some (.int .i64 lo) := blkc HD2.out.box 5
      have d6 : w6.cell? ⟨BX, 6, none⟩ = some (.int .i64 hi) := blkc HD2.out.box 6
      have fz : ∀ k, w6.frozen? ⟨BX, k, none⟩ = false := fun k => blkf HD2.out.box k
      clear hs6 hb6 hS6 hY6 hSo6 hYo6 hsm6 hp6 hq6 HN1 HN2 HD2 HD1
      go_wp2_with fail
      go_meet
      case rel => exact ⟨_, _, _, _, _, _, _, _, _, _, _, HF.out.mono (by omega), HM.out, hc6⟩
  case rest =>
    obtain ⟨fo', st', ph', aS', aY', cS', cY', stops', syns', lo', hi', hD, hsm, hcs⟩ := hcut
    have HCS := hidd hcs
    clear hcs
    have HD3 := hidd hD
    have HM := hidd hsm
    clear hD hsm HD1 HSM HSz
    go_wp2_with fail
    refine (sizeS HD3.out.src hn 40 (by omega) (by omega)).mono ?_
    rintro e w7 ⟨x, rfl, hx1, hx2, rfl⟩
    go_wp2_with fail
    refine (nextS HD3.out.src hn (by omega) (x + 1) (by omega) (by omega)).mono ?_
    rintro e w8 ⟨P, rfl, hP, hs8, hb8⟩
    have HD4 := hidd (HD3.out.draw hs8 hb8)
    clear hs8 hb8 HD3
    go_wp2_with fail
    refine (proseS HD4.out.src hn (by omega) P (by omega)).mono ?_
    rintro e w9 ⟨tx, rfl, htx, hs9, hb9⟩
    have HD5 := hidd ((HD4.out.draw hs9 hb9).mono (A' := 500) (by omega))
    have htx2 : tx.size ≤ 1280 := by omega
    clear hs9 hb9 HD4 htx
    go_upto_region 7 with (go_at_call 28; refine (nextS HD5.out.src hn (by omega) 20 (by omega) (by omega)).mono ?_; rintro e w10 ⟨Q, rfl, hQ, hs10, hb10⟩)
    have HD6 := hidd (HD5.out.draw hs10 hb10)
    clear hs10 hb10 HD5
    by_cases h0 : Q = 0
    · subst h0
      go_upto_region 8 with fail
      have HQ0 : Hid (CA w2 ({ heap := w10.heap, tape := w10.tape, drawn := w10.drawn + 1, os := w10.os, output := w10.output } : World) b ao n cap _ BX fo' st' ph' aS' aY' cS' cY' stops' syns' lo' hi') := HD6.out.draw (HD6.out.src.below (below_drewN (Below.refl _ _) 1)) (But.of_below (below_drewN (Below.refl _ _) 1))
      refine wp_region_held (S := fun W' => W'.heap[BX]? = some (.cells #[.bool fo', .bool st', .bool ph', .slice aS' stops'.length cS', .slice aY' syns'.length cY', .int .i64 lo', .int .i64 hi'] 26)) (by kernel_rfl) ?_
      generalize ({ heap := w10.heap, tape := w10.tape, drawn := w10.drawn + 1, os := w10.os, output := w10.output } : World) = wd at *
      have hSx := HQ0.out.box
      try simp only [Act.put, List.getElem_toArray, List.getElem_cons_succ, List.getElem_cons_zero, List.setIfInBounds_toArray, List.set_cons_zero, List.set_cons_succ]
      refine wpAnyH_take (i := 0) (v := .agg #[.bool fo', .bool st', .bool ph', .slice aS' stops'.length cS', .slice aY' syns'.length cY', .int .i64 lo', .int .i64 hi']) rfl (by kernel_rfl) (by kernel_rfl) (by kernel_rfl) (fun _ _ _ h => h) (Or.inl ⟨by kernel_rfl, fun W hW => exec_loadA W _ _ _ rfl BX _ _ _ _ _ _ _ (by kernel_rfl) hW⟩) hSx ?_
      try simp only [Act.put, List.getElem_toArray, List.getElem_cons_succ, List.getElem_cons_zero, List.setIfInBounds_toArray, List.set_cons_zero, List.set_cons_succ]
      refine tkX 1 (hS := hSx) (h := ?_)
      try simp only [Act.put, List.getElem_toArray, List.getElem_cons_succ, List.getElem_cons_zero, List.setIfInBounds_toArray, List.set_cons_zero, List.set_cons_succ]
      refine tkX 2 (hS := hSx) (h := ?_)
      try simp only [Act.put, List.getElem_toArray, List.getElem_cons_succ, List.getElem_cons_zero, List.setIfInBounds_toArray, List.set_cons_zero, List.set_cons_succ]
      refine wpAnyH_one 3 (by kernel_rfl) ?_
      refine wpOp_call 30 #[.pointer (some ⟨b, 0, none⟩), .string tx] rfl (by kernel_rfl) (exec_call2 _ _ _ _ _ _ _ _ rfl _ _ (by kernel_rfl) (by kernel_rfl) (Tryz.call30 _ _)) ?_
      refine (spoilS HQ0.out.src hn (by omega) tx (by omega)).mono ?_
      rintro e' wE ⟨t2, rfl, ht2, hsE, hbE⟩
      have HQE := hidd (HQ0.out.draw hsE hbE)
      clear hsE hbE HQ0 hSx
      have hSx := HQE.out.box
      refine ⟨hSx, ?_⟩
      try simp only [Act.put, List.getElem_toArray, List.getElem_cons_succ, List.getElem_cons_zero, List.setIfInBounds_toArray, List.set_cons_zero, List.set_cons_succ]
      have hr := (HQE.out.but.block w.heap.size (by have := HZ0.out; have := HZ2.out; omega) (by have := HZ0.out; omega)).trans HR2.out
      have hne : BX ≠ w.heap.size := by have := HQE.out.xl; have := HZ0.out; have := HZ2.out; omega
      refine wpAnyH_one 4 (by kernel_rfl) ?_
      refine wpOp_skip (((((((wE.setCell ⟨w.heap.size, 0, none⟩ (.bool fo')).setCell ⟨w.heap.size, 1, none⟩ (.bool st')).setCell ⟨w.heap.size, 2, none⟩ (.bool ph')).setCell ⟨w.heap.size, 3, none⟩ (.slice aS' stops'.length cS')).setCell ⟨w.heap.size, 4, none⟩ (.slice aY' syns'.length cY')).setCell ⟨w.heap.size, 5, none⟩ (.int .i64 lo')).setCell ⟨w.heap.size, 6, none⟩ (.int .i64 hi')) rfl (by kernel_rfl) (exec_storeA _ _ _ _ _ rfl w.heap.size _ _ _ _ _ _ _ _ _ _ _ _ _ _ _ _ _ _ (by kernel_rfl) (by kernel_rfl) hr) ?_
      have hSy : (((((((wE.setCell ⟨w.heap.size, 0, none⟩ (.bool fo')).setCell ⟨w.heap.size, 1, none⟩ (.bool st')).setCell ⟨w.heap.size, 2, none⟩ (.bool ph')).setCell ⟨w.heap.size, 3, none⟩ (.slice aS' stops'.length cS')).setCell ⟨w.heap.size, 4, none⟩ (.slice aY' syns'.length cY')).setCell ⟨w.heap.size, 5, none⟩ (.int .i64 lo')).setCell ⟨w.heap.size, 6, none⟩ (.int .i64 hi')).heap[BX]? = some (.cells #[.bool fo', .bool st', .bool ph', .slice aS' stops'.length cS', .slice aY' syns'.length cY', .int .i64 lo', .int .i64 hi'] 26) := by rw [heap_set_other _ _ _ _ _ hne, heap_set_other _ _ _ _ _ hne, heap_set_other _ _ _ _ _ hne, heap_set_other _ _ _ _ _ hne, heap_set_other _ _ _ _ _ hne, heap_set_other _ _ _ _ _ hne, heap_set_other _ _ _ _ _ hne]; exact hSx
      refine ⟨hSy, ?_⟩
      try simp only [Act.put, List.getElem_toArray, List.getElem_cons_succ, List.getElem_cons_zero, List.setIfInBounds_toArray, List.set_cons_zero, List.set_cons_succ]
      refine tkX 5 (hS := hSy) (h := ?_)
      try simp only [Act.put, List.getElem_toArray, List.getElem_cons_succ, List.getElem_cons_zero, List.setIfInBounds_toArray, List.set_cons_zero, List.set_cons_succ]
      refine wpAnyH_done (by kernel_rfl) ?_ _
      have d0 : wE.cell? ⟨w.heap.size, 0, none⟩ = some (.bool false) := blkc hr 0
      have d1 : wE.cell? ⟨w.heap.size, 1, none⟩ = some (.bool false) := blkc hr 1
      have d2 : wE.cell? ⟨w.heap.size, 2, none⟩ = some (.bool false) := blkc hr 2
      have d3 : wE.cell? ⟨w.heap.size, 3, none⟩ = some (.slice none 0 0) := blkc hr 3
      have d4 : wE.cell? ⟨w.heap.size, 4, none⟩ = some (.slice none 0 0) := blkc hr 4
      have d5 : wE.cell? ⟨w.heap.size, 5, none⟩ = some (.int .i64 0) := blkc hr 5
      have d6 : wE.cell? ⟨w.heap.size, 6, none⟩ = some (.int .i64 0) := blkc hr 6
      clear hSy hr
      go_wp2_with fail
      refine bodyPost_ret (v := .tuple #[.agg #[.bool fo', .bool st', .bool ph', .slice aS' stops'.length cS', .slice aY' syns'.length cY', .int .i64 lo', .int .i64 hi'], .string (t2)]) (by simp [results, Tryz.results5, go_sem, *]) rfl ?_
      exact HQE.out.drawnR HB2.out HR2.out HZ0.out HCS.out HM.out (by omega)
    by_cases h1 : Q = 1
    · subst h1
      go_upto_region 10 with fail
      have HQ0 : Hid (CA w2 ({ heap := w10.heap, tape := w10.tape, drawn := w10.drawn + 1, os := w10.os, output := w10.output } : World) b ao n cap _ BX fo' st' ph' aS' aY' cS' cY' stops' syns' lo' hi') := HD6.out.draw (HD6.out.src.below (below_drewN (Below.refl _ _) 1)) (But.of_below (below_drewN (Below.refl _ _) 1))
      refine wp_region_held (S := fun W' => W'.heap[BX]? = some (.cells #[.bool fo', .bool st', .bool ph', .slice aS' stops'.length cS', .slice aY' syns'.length cY', .int .i64 lo', .int .i64 hi'] 26)) (by kernel_rfl) ?_
      generalize ({ heap := w10.heap, tape := w10.tape, drawn := w10.drawn + 1, os := w10.os, output := w10.output } : World) = wd at *
      have hSx := HQ0.out.box
      try simp only [Act.put, List.getElem_toArray, List.getElem_cons_succ, List.getElem_cons_zero, List.setIfInBounds_toArray, List.set_cons_zero, List.set_cons_succ]
      refine wpAnyH_take (i := 0) (v := .agg #[.bool fo', .bool st', .bool ph', .slice aS' stops'.length cS', .slice aY' syns'.length cY', .int .i64 lo', .int .i64 hi']) rfl (by kernel_rfl) (by kernel_rfl) (by kernel_rfl) (fun _ _ _ h => h) (Or.inl ⟨by kernel_rfl, fun W hW => exec_loadA W _ _ _ rfl BX _ _ _ _ _ _ _ (by kernel_rfl) hW⟩) hSx ?_
      try simp only [Act.put, List.getElem_toArray, List.getElem_cons_succ, List.getElem_cons_zero, List.setIfInBounds_toArray, List.set_cons_zero, List.set_cons_succ]
      refine tkX 1 (hS := hSx) (h := ?_)
      try simp only [Act.put, List.getElem_toArray, List.getElem_cons_succ, List.getElem_cons_zero, List.setIfInBounds_toArray, List.set_cons_zero, List.set_cons_succ]
      refine tkX 2 (hS := hSx) (h := ?_)
      try simp only [Act.put, List.getElem_toArray, List.getElem_cons_succ, List.getElem_cons_zero, List.setIfInBounds_toArray, List.set_cons_zero, List.set_cons_succ]
      refine wpAnyH_one 3 (by kernel_rfl) ?_
      refine wpOp_call 28 #[.pointer (some ⟨b, 0, none⟩), .int .i64 2] rfl (by kernel_rfl) (exec_call2 _ _ _ _ _ _ _ _ rfl _ _ (by kernel_rfl) (by kernel_rfl) (Tryz.call28 _ _)) ?_
      refine (nextS HQ0.out.src hn (by omega) 2 (by omega) (by omega)).mono ?_
      rintro e' wE ⟨Z, rfl, hZ, hsE, hbE⟩
      have HQ1 := hidd (HQ0.out.draw hsE hbE)
      clear hsE hbE HQ0 hSx
      have hSx := HQ1.out.box
      refine ⟨hSx, ?_⟩
      try simp only [Act.put, List.getElem_toArray, List.getElem_cons_succ, List.getElem_cons_zero, List.setIfInBounds_toArray, List.set_cons_zero, List.set_cons_succ]
      refine wpAnyH_take (i := 4) (v := .int .i64 (64 + (Z : Int))) rfl (by kernel_rfl) (by kernel_rfl) (by kernel_rfl) (fun _ _ _ h => h) (Or.inl ⟨by kernel_rfl, ?_⟩) hSx ?_
      · (intro w hSw; go_simp; first | done | exact w64_of (by omega) (by omega))
      try simp only [Act.put, List.getElem_toArray, List.getElem_cons_succ, List.getElem_cons_zero, List.setIfInBounds_toArray, List.set_cons_zero, List.set_cons_succ]
      refine wpAnyH_one 5 (by kernel_rfl) ?_
      refine wpOp_call 31 #[.string ⟨#[119]⟩, .int .i64 (64 + (Z : Int))] rfl (by kernel_rfl) (exec_call2 _ _ _ _ _ _ _ _ rfl _ _ (by kernel_rfl) (by kernel_rfl) (Tryz.call31 _ _)) ?_
      have HRp := repeat_any ⟨#[119]⟩ (64 + Z) wE (by decide) (by omega)
      rw [show ((64 + Z : Nat) : Int) = 64 + (Z : Int) by omega] at HRp
      refine HRp.mono ?_
      rintro e' wF ⟨r, rfl, hr, hbF⟩
      have hr2 : r.size ≤ 100 := by have q : (⟨#[119]⟩ : ByteArray).size = 1 := rfl; rw [q] at hr; omega
      have HQE := hidd (HQ1.out.draw (HQ1.out.src.below hbF) (But.of_below hbF))
      clear hbF HQ1 hSx hr HRp
      have hSx := HQE.out.box
      refine ⟨hSx, ?_⟩
      try simp only [Act.put, List.getElem_toArray, List.getElem_cons_succ, List.getElem_cons_zero, List.setIfInBounds_toArray, List.set_cons_zero, List.set_cons_succ]
      refine wpAnyH_take (i := 6) (v := .string (tx ++ r)) rfl (by kernel_rfl) (by kernel_rfl) (by kernel_rfl) (fun _ _ _ h => h) (Or.inl ⟨by kernel_rfl, ?_⟩) hSx ?_
      · (intro w hSw; go_simp; first | done | omega | rw [if_neg (by omega)])
      try simp only [Act.put, List.getElem_toArray, List.getElem_cons_succ, List.getElem_cons_zero, List.setIfInBounds_toArray, List.set_cons_zero, List.set_cons_succ]
      have hr := (HQE.out.but.block w.heap.size (by have := HZ0.out; have := HZ2.out; omega) (by have := HZ0.out; omega)).trans HR2.out
      have hne : BX ≠ w.heap.size := by have := HQE.out.xl; have := HZ0.out; have := HZ2.out; omega
      refine wpAnyH_one 7 (by kernel_rfl) ?_
      refine wpOp_skip (((((((wF.setCell ⟨w.heap.size, 0, none⟩ (.bool fo')).setCell ⟨w.heap.size, 1, none⟩ (.bool st')).setCell ⟨w.heap.size, 2, none⟩ (.bool ph')).setCell ⟨w.heap.size, 3, none⟩ (.slice aS' stops'.length cS')).setCell ⟨w.heap.size, 4, none⟩ (.slice aY' syns'.length cY')).setCell ⟨w.heap.size, 5, none⟩ (.int .i64 lo')).setCell ⟨w.heap.size, 6, none⟩ (.int .i64 hi')) rfl (by kernel_rfl) (exec_storeA _ _ _ _ _ rfl w.heap.size _ _ _ _ _ _ _ _ _ _ _ _ _ _ _ _ _ _ (by kernel_rfl) (by kernel_rfl) hr) ?_
      have hSy : (((((((wF.setCell ⟨w.heap.size, 0, none⟩ (.bool fo')).setCell ⟨w.heap.size, 1, none⟩ (.bool st')).setCell ⟨w.heap.size, 2, none⟩ (.bool ph')).setCell ⟨w.heap.size, 3, none⟩ (.slice aS' stops'.length cS')).setCell ⟨w.heap.size, 4, none⟩ (.slice aY' syns'.length cY')).setCell ⟨w.heap.size, 5, none⟩ (.int .i64 lo')).setCell ⟨w.heap.size, 6, none⟩ (.int .i64 hi')).heap[BX]? = some (.cells #[.bool fo', .bool st', .bool ph', .slice aS' stops'.length cS', .slice aY' syns'.length cY', .int .i64 lo', .int .i64 hi'] 26) := by rw [heap_set_other _ _ _ _ _ hne, heap_set_other _ _ _ _ _ hne, heap_set_other _ _ _ _ _ hne, heap_set_other _ _ _ _ _ hne, heap_set_other _ _ _ _ _ hne, heap_set_other _ _ _ _ _ hne, heap_set_other _ _ _ _ _ hne]; exact hSx
      refine ⟨hSy, ?_⟩
      try simp only [Act.put, List.getElem_toArray, List.getElem_cons_succ, List.getElem_cons_zero, List.setIfInBounds_toArray, List.set_cons_zero, List.set_cons_succ]
      refine tkX 8 (hS := hSy) (h := ?_)
      try simp only [Act.put, List.getElem_toArray, List.getElem_cons_succ, List.getElem_cons_zero, List.setIfInBounds_toArray, List.set_cons_zero, List.set_cons_succ]
      refine wpAnyH_done (by kernel_rfl) ?_ _
      have d0 : wF.cell? ⟨w.heap.size, 0, none⟩ = some (.bool false) := blkc hr 0
      have d1 : wF.cell? ⟨w.heap.size, 1, none⟩ = some (.bool false) := blkc hr 1
      have d2 : wF.cell? ⟨w.heap.size, 2, none⟩ = some (.bool false) := blkc hr 2
      have d3 : wF.cell? ⟨w.heap.size, 3, none⟩ = some (.slice none 0 0) := blkc hr 3
      have d4 : wF.cell? ⟨w.heap.size, 4, none⟩ = some (.slice none 0 0) := blkc hr 4
      have d5 : wF.cell? ⟨w.heap.size, 5, none⟩ = some (.int .i64 0) := blkc hr 5
      have d6 : wF.cell? ⟨w.heap.size, 6, none⟩ = some (.int .i64 0) := blkc hr 6
      clear hSy hr
      go_wp2_with fail
      refine bodyPost_ret (v := .tuple #[.agg #[.bool fo', .bool st', .bool ph', .slice aS' stops'.length cS', .slice aY' syns'.length cY', .int .i64 lo', .int .i64 hi'], .string (tx ++ r)]) (by simp [results, Tryz.results5, go_sem, *]) rfl ?_
      exact HQE.out.drawnR HB2.out HR2.out HZ0.out HCS.out HM.out (by rw [ByteArray.size_append]; omega)
    by_cases h2 : Q = 2
    · subst h2
      have c5 := blkc HD6.out.box 5
      have f5 := blkf HD6.out.box 5
      have HD7 := hidd ((HD6.out.setLo 1).setHi 8)
      have HM2 : Hid (smallA stops' syns' 1 8) := ⟨HM.out.1, HM.out.2.1, HM.out.2.2.1, HM.out.2.2.2.1, by omega, by omega, by omega, by omega⟩
      have c6 := blkc (HD6.out.setLo 1).box 6
      have f6 := blkf (HD6.out.setLo 1).box 6
      go_upto_region 14 with fail
      clear c5 f5 c6 f6 HD6
      generalize (w10.setCell ⟨BX, 5, none⟩ (.int .i64 1)).setCell ⟨BX, 6, none⟩ (.int .i64 8) = w11 at *
      have HQ0 : Hid (CA w2 ({ heap := w11.heap, tape := w11.tape, drawn := w11.drawn + 1, os := w11.os, output := w11.output } : World) b ao n cap _ BX fo' st' ph' aS' aY' cS' cY' stops' syns' 1 8) := HD7.out.draw (HD7.out.src.below (below_drewN (Below.refl _ _) 1)) (But.of_below (below_drewN (Below.refl _ _) 1))
      refine wp_region_held (S := fun W' => W'.heap[BX]? = some (.cells #[.bool fo', .bool st', .bool ph', .slice aS' stops'.length cS', .slice aY' syns'.length cY', .int .i64 1, .int .i64 8] 26)) (by kernel_rfl) ?_
      generalize ({ heap := w11.heap, tape := w11.tape, drawn := w11.drawn + 1, os := w11.os, output := w11.output } : World) = wd at *
      have hSx := HQ0.out.box
      try simp only [Act.put, List.getElem_toArray, List.getElem_cons_succ, List.getElem_cons_zero, List.setIfInBounds_toArray, List.set_cons_zero, List.set_cons_succ]
      refine wpAnyH_take (i := 0) (v := .agg #[.bool fo', .bool st', .bool ph', .slice aS' stops'.length cS', .slice aY' syns'.length cY', .int .i64 1, .int .i64 8]) rfl (by kernel_rfl) (by kernel_rfl) (by kernel_rfl) (fun _ _ _ h => h) (Or.inl ⟨by kernel_rfl, fun W hW => exec_loadA W _ _ _ rfl BX _ _ _ _ _ _ _ (by kernel_rfl) hW⟩) hSx ?_
      try simp only [Act.put, List.getElem_toArray, List.getElem_cons_succ, List.getElem_cons_zero, List.setIfInBounds_toArray, List.set_cons_zero, List.set_cons_succ]
      refine tkX 1 (hS := hSx) (h := ?_)
      try simp only [Act.put, List.getElem_toArray, List.getElem_cons_succ, List.getElem_cons_zero, List.setIfInBounds_toArray, List.set_cons_zero, List.set_cons_succ]
      refine wpAnyH_one 2 (by kernel_rfl) ?_
      refine wpOp_call 31 #[.string ⟨#[108, 111, 110, 103]⟩, .int .i64 200] rfl (by kernel_rfl) (exec_call2 _ _ _ _ _ _ _ _ rfl _ _ (by kernel_rfl) (by kernel_rfl) (Tryz.call31 _ _)) ?_
      refine (repeat_any ⟨#[108, 111, 110, 103]⟩ 200 wd (by decide) (by omega)).mono ?_
      rintro e' wF ⟨r, rfl, hr, hbF⟩
      have hr2 : r.size ≤ 800 := by have q : (⟨#[108, 111, 110, 103]⟩ : ByteArray).size = 4 := rfl; rw [q] at hr; omega
      have HQE := hidd (HQ0.out.draw (HQ0.out.src.below hbF) (But.of_below hbF))
      clear hbF HQ0 hSx hr
      have hSx := HQE.out.box
      refine ⟨hSx, ?_⟩
      try simp only [Act.put, List.getElem_toArray, List.getElem_cons_succ, List.getElem_cons_zero, List.setIfInBounds_toArray, List.set_cons_zero, List.set_cons_succ]
      refine wpAnyH_take (i := 3) (v := .string (tx ++ r)) rfl (by kernel_rfl) (by kernel_rfl) (by kernel_rfl) (fun _ _ _ h => h) (Or.inl ⟨by kernel_rfl, ?_⟩) hSx ?_
      · (intro w hSw; go_simp; first | done | omega | rw [if_neg (by omega)])
      try simp only [Act.put, List.getElem_toArray, List.getElem_cons_succ, List.getElem_cons_zero, List.setIfInBounds_toArray, List.set_cons_zero, List.set_cons_succ]
      have hr := (HQE.out.but.block w.heap.size (by have := HZ0.out; have := HZ2.out; omega) (by have := HZ0.out; omega)).trans HR2.out
      have hne : BX ≠ w.heap.size := by have := HQE.out.xl; have := HZ0.out; have := HZ2.out; omega
      refine wpAnyH_one 4 (by kernel_rfl) ?_
      refine wpOp_skip (((((((wF.setCell ⟨w.heap.size, 0, none⟩ (.bool fo')).setCell ⟨w.heap.size, 1, none⟩ (.bool st')).setCell ⟨w.heap.size, 2, none⟩ (.bool ph')).setCell ⟨w.heap.size, 3, none⟩ (.slice aS' stops'.length cS')).setCell ⟨w.heap.size, 4, none⟩ (.slice aY' syns'.length cY')).setCell ⟨w.heap.size, 5, none⟩ (.int .i64 1)).setCell ⟨w.heap.size, 6, none⟩ (.int .i64 8)) rfl (by kernel_rfl) (exec_storeA _ _ _ _ _ rfl w.heap.size _ _ _ _ _ _ _ _ _ _ _ _ _ _ _ _ _ _ (by kernel_rfl) (by kernel_rfl) hr) ?_
      have hSy : (((((((wF.setCell ⟨w.heap.size, 0, none⟩ (.bool fo')).setCell ⟨w.heap.size, 1, none⟩ (.bool st')).setCell ⟨w.heap.size, 2, none⟩ (.bool ph')).setCell ⟨w.heap.size, 3, none⟩ (.slice aS' stops'.length cS')).setCell ⟨w.heap.size, 4, none⟩ (.slice aY' syns'.length cY')).setCell ⟨w.heap.size, 5, none⟩ (.int .i64 1)).setCell ⟨w.heap.size, 6, none⟩ (.int .i64 8)).heap[BX]? = some (.cells #[.bool fo', .bool st', .bool ph', .slice aS' stops'.length cS', .slice aY' syns'.length cY', .int .i64 1, .int .i64 8] 26) := by rw [heap_set_other _ _ _ _ _ hne, heap_set_other _ _ _ _ _ hne, heap_set_other _ _ _ _ _ hne, heap_set_other _ _ _ _ _ hne, heap_set_other _ _ _ _ _ hne, heap_set_other _ _ _ _ _ hne, heap_set_other _ _ _ _ _ hne]; exact hSx
      refine ⟨hSy, ?_⟩
      try simp only [Act.put, List.getElem_toArray, List.getElem_cons_succ, List.getElem_cons_zero, List.setIfInBounds_toArray, List.set_cons_zero, List.set_cons_succ]
      refine tkX 5 (hS := hSy) (h := ?_)
      try simp only [Act.put, List.getElem_toArray, List.getElem_cons_succ, List.getElem_cons_zero, List.setIfInBounds_toArray, List.set_cons_zero, List.set_cons_succ]
      refine wpAnyH_done (by kernel_rfl) ?_ _
      have d0 : wF.cell? ⟨w.heap.size, 0, none⟩ = some (.bool false) := blkc hr 0
      have d1 : wF.cell? ⟨w.heap.size, 1, none⟩ = some (.bool false) := blkc hr 1
      have d2 : wF.cell? ⟨w.heap.size, 2, none⟩ = some (.bool false) := blkc hr 2
      have d3 : wF.cell? ⟨w.heap.size, 3, none⟩ = some (.slice none 0 0) := blkc hr 3
      have d4 : wF.cell? ⟨w.heap.size, 4, none⟩ = some (.slice none 0 0) := blkc hr 4
      have d5 : wF.cell? ⟨w.heap.size, 5, none⟩ = some (.int .i64 0) := blkc hr 5
      have d6 : wF.cell? ⟨w.heap.size, 6, none⟩ = some (.int .i64 0) := blkc hr 6
      clear hSy hr
      go_wp2_with fail
      refine bodyPost_ret (v := .tuple #[.agg #[.bool fo', .bool st', .bool ph', .slice aS' stops'.length cS', .slice aY' syns'.length cY', .int .i64 1, .int .i64 8], .string (tx ++ r)]) (by simp [results, Tryz.results5, go_sem, *]) rfl ?_
      exact HQE.out.drawnR HB2.out HR2.out HZ0.out HCS.out HM2.out (by rw [ByteArray.size_append]; omega)
    have g0 : ¬ ((Q : Int) = 0) := by omega
    have g1 : ¬ ((Q : Int) = 1) := by omega
    have g2 : ¬ ((Q : Int) = 2) := by omega
    go_upto_region 15 with fail
    have c0 : w10.cell? ⟨BX, 0, none⟩ = some (.bool fo') := blkc HD6.out.box 0
    have c1 : w10.cell? ⟨BX, 1, none⟩ = some (.bool st') := blkc HD6.out.box 1
    have c2 : w10.cell? ⟨BX, 2, none⟩ = some (.bool ph') := blkc HD6.out.box 2
    have c3 : w10.cell? ⟨BX, 3, none⟩ = some (.slice aS' stops'.length cS') := blkc HD6.out.box 3
    have c4 : w10.cell? ⟨BX, 4, none⟩ = some (.slice aY' syns'.length cY') := blkc HD6.out.box 4
    have c5 : w10.cell? ⟨BX, 5, none⟩ = some (.int .i64 lo') := blkc HD6.out.box 5
    have c6 : w10.cell? ⟨BX, 6, none⟩ = some (.int .i64 hi') := blkc HD6.out.box 6
    have hr := (HD6.out.but.block w.heap.size (by have := HZ0.out; have := HZ2.out; omega) (by have := HZ0.out; omega)).trans HR2.out
    have d0 : w10.cell? ⟨w.heap.size, 0, none⟩ = some (.bool false) := blkc hr 0
    have f0 := blkf hr 0
    have d1 : w10.cell? ⟨w.heap.size, 1, none⟩ = some (.bool false) := blkc hr 1
    have f1 := blkf hr 1
    have d2 : w10.cell? ⟨w.heap.size, 2, none⟩ = some (.bool false) := blkc hr 2
    have f2 := blkf hr 2
    have d3 : w10.cell? ⟨w.heap.size, 3, none⟩ = some (.slice none 0 0) := blkc hr 3
    have f3 := blkf hr 3
    have d4 : w10.cell? ⟨w.heap.size, 4, none⟩ = some (.slice none 0 0) := blkc hr 4
    have f4 := blkf hr 4
    have d5 : w10.cell? ⟨w.heap.size, 5, none⟩ = some (.int .i64 0) := blkc hr 5
    have f5 := blkf hr 5
    have d6 : w10.cell? ⟨w.heap.size, 6, none⟩ = some (.int .i64 0) := blkc hr 6
    have f6 := blkf hr 6
    have hne : BX ≠ w.heap.size := by have := HD6.out.xl; have := HZ0.out; have := HZ2.out; omega
    clear hr
    go_wp2_with fail
    refine bodyPost_ret (v := .tuple #[.agg #[.bool fo', .bool st', .bool ph', .slice aS' stops'.length cS', .slice aY' syns'.length cY', .int .i64 lo', .int .i64 hi'], .string (tx)]) (by simp [results, Tryz.results5, go_sem, *]) rfl ?_
    exact HD6.out.drawnR HB2.out HR2.out HZ0.out HCS.out HM.out (by omega)
end Go.Proofs.YtionicjnoogpjaaGreatDoor
