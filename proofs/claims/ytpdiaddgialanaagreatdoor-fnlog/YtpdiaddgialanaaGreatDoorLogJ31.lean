import Derived.Test.YtpdiaddgialanaaGreatDoorLogJ30
namespace Go.Proofs.YtpdiaddgialanaaGreatDoor
open Go Go.RowKit
set_option linter.unusedVariables false
set_option linter.unusedSimpArgs false
set_option maxRecDepth 100000

/-! The law of logs. -/
theorem LI.belowG {w W W' : World} {i : Nat} {bv ev : Value} {R : List Rc} {B : List UInt8} {E : List Nat} {o : Obj} {g : Nat} (h : LI w i bv ev R B E W) (hg : W.heap.size ≤ g) (hb : Below g (W.alloc o) W') : LI w i bv ev R B E W' := by
  have h1 : Below W.heap.size W (W.alloc o) := (Below.refl _ _).alloc (Nat.le_refl _) _
  exact h.below (h1.trans (hb.mono hg))
theorem conv_ownB {W : World} {base : Nat} {v : Value} {l : List UInt8} (h : W.ownsRow base 5 1 v l.length (Lib.byteCells l)) : (convert 22 9 v).run Tryz.prog W = .ok (.string ⟨l.toArray⟩) W := by
  rcases h.2 with ⟨rfl, h0⟩ | ⟨g, cap, cur, rfl, hb, hg, hr⟩
  · have hl : l = [] := List.length_eq_zero_iff.1 h0
    subst hl
    exact run_convert_bytes_nil (P := Tryz.prog) W 22 5 Tryz.underlying22 Tryz.underlying5 0 0 9 Tryz.underlying9
  · exact run_convert_bytes_back (P := Tryz.prog) W 22 9 5 ⟨g, 0, none⟩ cap l Tryz.underlying22 Tryz.underlying5 Tryz.underlying9 (fun j hj => by
      rw [Go.WideShapes.add_plain, Nat.zero_add, h.cellAt j (by omega)]
      simp [Lib.byteCells, hj])
theorem LI.setR {w W : World} {i g8 : Nat} {bv ev : Value} {R : List Rc} {B : List UInt8} {E : List Nat} {cs : Array Value} (h : LI w i bv ev R B E W) (hg : W.heap[g8]? = some (.cells cs 28)) (h8 : w.heap.size ≤ g8) (k : Nat) (u : Value) : LI w i bv ev R B E (W.setCell ⟨g8, k, none⟩ u) :=
  ⟨h.bel.setCell (p := ⟨g8, k, none⟩) h8 u, own_congr h.brw fun x hx => heap_set_other _ _ _ _ _ (fun e => own_apartB h.brw hg (by decide) (by rw [hx, e])), own_congr h.erw fun x hx => heap_set_other _ _ _ _ _ (fun e => own_apartB h.erw hg (by decide) (by rw [hx, e])), h.log, h.few, h.len, h.bnn⟩
theorem own_keepB {W W' : World} {base e sz n : Nat} {v : Value} {xs : List Value} (h : W.ownsRow base e sz v n xs) (hb : Below W.heap.size W W') : W'.ownsRow base e sz v n xs := own_congr h fun x hx => hb.block x (own_ltL h hx)
theorem LI.next {w W : World} {i : Nat} {bv ev : Value} {R : List Rc} {B : List UInt8} {E : List Nat} (h : LI w i bv ev R B E W) : LI w (i + 1) bv ev R B E W := ⟨h.bel, h.brw, h.erw, h.log, Nat.le_succ_of_le h.few, h.len, h.bnn⟩
theorem own_reads {W : World} {base e n : Nat} {ad : Addr} {c : Nat} {xs : List Value} (h : W.ownsRow base e 1 (.slice (some ad) n c) n xs) : ∀ j u, xs[j]? = some u → W.cell? (ad.add j) = some u := fun j u hj => by
  have h0 := h
  rcases h.2 with ⟨e1, _⟩ | ⟨g, cc, cur, e1, _, hg, hr⟩
  · injection e1 with e2
    cases e2
  · injection e1 with e2 _ _
    injection e2 with e3
    subst e3
    rw [Go.WideShapes.add_plain, Nat.zero_add]
    have hl := h0.1
    have hj2 : j < xs.length := (List.getElem?_eq_some_iff.1 hj).1
    rw [h0.cellAt j (by omega)]
    simp [hj]
theorem LI.grow {w W W' : World} {i g cb : Nat} {n : Nat} {ev : Value} {R : List Rc} {B : List UInt8} {E : List Nat} (h : LI w i (.slice (some ⟨g, 0, none⟩) n cb) ev R B E W) (hg : W.grownBy W' (Value.slice (some ⟨g, 0, none⟩) n cb).ownBlock) : Below w.heap.size w W' ∧ W'.ownsRow w.heap.size 3 1 ev E.length (zC (E.map fun (x : Nat) => (x : Int))) := by
  refine ⟨h.bel.grown hg h.bel.size (own_block h.brw), own_congr h.erw fun x hx => hg.block x (own_ltL h.erw hx) ?_⟩
  intro e1
  rcases h.brw.2 with ⟨e2, _⟩ | ⟨g', c', cur, e2, h3, h4, h5⟩
  · cases e2
  · injection e2 with e3
    injection e3 with e4
    injection e4 with e5
    subst e5
    exact own_apartB h.erw h4 (by decide) (by rw [hx]; exact e1)
theorem LI.step {w W V W' : World} {i : Nat} {bv ev : Value} {z : Int} {R R' : List Rc} {B B2 : List UInt8} {E : List Nat} {k g g2 c c2 : Nat} (h : LI w i bv ev R B E W) (hV : Below w.heap.size w V) (hv : V.ownsRow w.heap.size 3 1 ev E.length (zC (E.map fun (x : Nat) => (x : Int)))) (hb : V.ownsRow w.heap.size 5 1 (.slice (some ⟨g, 0, none⟩) k c) (B.length + B2.length) (Lib.byteCells B ++ Lib.byteCells B2)) (hg : (V.alloc (.cells #[.int .i64 z] 3)).grownBy W' ev.ownBlock) (he : W'.ownsRow w.heap.size 3 1 (.slice (some ⟨g2, 0, none⟩) (E.length + 1) c2) (E.length + 1) (zC (E.map fun (x : Nat) => (x : Int)) ++ [.int .i64 ((B.length : Int) + (B2.length : Int))])) (hL : Logs R' (B ++ B2) (E ++ [B.length + B2.length])) (hl : B.length + B2.length ≤ 1048576) (hR : R'.length = R.length + 1) : LI w (i + 1) (.slice (some ⟨g, 0, none⟩) k c) (.slice (some ⟨g2, 0, none⟩) (E.length + 1) c2) R' (B ++ B2) (E ++ [B.length + B2.length]) W' := by
  have hb1 := hb.alloc (.cells #[.int .i64 z] 3)
  have hv1 := hv.alloc (.cells #[.int .i64 z] 3)
  have hz : w.heap.size ≤ V.heap.size := hV.size
  have hne : ∀ x, ev.ownBlock = some x → (Value.slice (some ⟨g, 0, none⟩) k c).ownBlock ≠ some x := fun x hx e1 => by
    rcases hb1.2 with ⟨e2, _⟩ | ⟨g', c', cur, e2, h3, h4, h5⟩
    · cases e2
    · injection e2 with e3
      injection e3 with e4
      injection e4 with e5
      subst e5
      have e6 : some g = some x := e1
      exact own_apartB hv1 h4 (by decide) (by rw [hx, ← e6])
  refine ⟨(hV.alloc hz _).grown hg (by simp; omega) (own_block h.erw), ?_, ?_, hL, by have := h.few; omega, by rw [List.length_append]; exact hl, by simp⟩
  · have e1 : Lib.byteCells (B ++ B2) = Lib.byteCells B ++ Lib.byteCells B2 := by simp [Lib.byteCells]
    rw [e1, List.length_append]
    exact own_congr hb1 fun x hx => hg.block x (own_ltL hb1 hx) (fun e => hne x (by rw [e]) hx)
  · have e1 : zC ((E ++ [B.length + B2.length]).map fun (x : Nat) => (x : Int)) = zC (E.map fun (x : Nat) => (x : Int)) ++ [.int .i64 ((B.length : Int) + (B2.length : Int))] := by
      rw [List.map_append, List.map_singleton, zC_snoc]
      simp
    rw [e1, List.length_append]
    exact he
theorem ErrC.below {w W : World} {u : TypeId} {pv : Value} (h : ErrC w u pv) (hb : Below w.heap.size w W) : ErrC W u pv := ⟨h.at hb, Nat.lt_of_lt_of_le h.2 hb.size⟩
theorem own_cap {W : World} {base e n g c : Nat} {xs : List Value} (h : W.ownsRow base e 1 (.slice (some ⟨g, 0, none⟩) n c) n xs) : n ≤ c ∧ g < W.heap.size := by
  rcases h.2 with ⟨e1, _⟩ | ⟨g', cc, cur, e1, _, hg, hr⟩
  · cases e1
  · injection e1 with e2 e3 e4
    injection e2 with e5
    injection e5 with e6
    subst e6 e4
    exact ⟨hr.1, (Array.getElem?_eq_some_iff.1 hg).1⟩
theorem readLog_own {W : World} {base g c k cut c' : Nat} {B : List UInt8} {u : TypeId} {pv : Value} (hE : ErrC W u pv) (h : W.ownsRow base 5 1 (.slice (some ⟨g, 0, none⟩) k c) k (Lib.byteCells B)) (hk : k ≤ 1048576) (hcut : cut ≤ k) (hc : cut ≤ c') :
    Calls Tryz.prog 8 #[.slice (some ⟨g, 0, none⟩) cut c'] W fun e w' => ∃ (L : List Rc) (r : List UInt8) (aL : Option Addr) (cL : Nat), e = .returned (.tuple #[.slice aL L.length cL, .int .i64 ((cut - r.length : Nat) : Int), .int .i64 0]) ∧ Ends (B.take cut) L r ∧ Below W.heap.size W w' := by
  have hl : B.length = k := by have := h.1; simpa [Lib.byteCells] using this
  have hl2 : (B.take cut).length = cut := by rw [List.length_take]; omega
  have h1 := implLog_any (w0 := W) (b := g) (off := 0) (c := c') (bs := B.take cut) hE (by omega) (own_cap h).2 (by omega) (fun t ht => by
    have ht2 : t < k := by omega
    have := own_reads h t (.int .u8 ((B.getD t 0).toNat : Int)) (by simp [Lib.byteCells, hl, ht2])
    rw [Go.WideShapes.add_plain] at this
    rw [this]
    simp [List.getElem?_take, show t < cut by omega])
  rw [hl2] at h1
  refine h1.mono ?_
  rintro e w' ⟨hb, L, r, vL, ys, lo, hh, va, xs, rfl, hEn, hA⟩
  obtain ⟨aL, cL, rfl⟩ := own_slice hA.row
  exact ⟨L, r, aL, cL, by rw [hl2], hEn, hb⟩
theorem ne_seven {NE NL : Nat} (h : (NE : Int) - 1 = (NL : Int)) (h6 : NL ≤ 6) : NE ≤ 7 := by omega
theorem lawAtN_any (ao : Option Addr) (n cap NB : Nat) (w : World) (hn : n ≤ 1048576) (hm2 : NB ≤ 1048576) (hc : CodeIn w ao n) :
    Calls Tryz.prog 9 #[.slice ao n cap, .int .i64 0, .int .i64 ((NB : Int) + 1)] w fun e w' => ∃ x : Nat, e = .returned (.int .i64 (x : Int)) ∧ x < NB + 1 ∧ Below w.heap.size w w' := by
  have := lawAtC_any ao n cap 0 (NB + 1) w hn (by omega) (by omega) (by omega) hc
  rw [show ((NB + 1 : Nat) : Int) = (NB : Int) + 1 by omega, show ((0 : Nat) : Int) = 0 from rfl] at this
  exact this
set_option maxHeartbeats 16000000 in
theorem logLoop_any {u : TypeId} {pv : Value} (ao : Option Addr) (n cap : Nat) (bo : Option Addr) (m cab : Nat) (w : World) (hn : n ≤ 1048576) (hc : CodeIn w ao n) (hcap : n ≤ cap) (hnil : ao = none → cap = 0) (hm : m ≤ 1048576) (hcb : CodeIn w bo m) (hE : ErrC w u pv) :
    Calls Tryz.prog 3 #[.slice ao n cap, .slice bo m cab] w fun e w' => e = .returned (.bool true) ∧ Below w.heap.size w w' := by
  obtain ⟨i0, hi0, hz0, hz1, hz2⟩ := info_parts Tryz.infoU8L
  obtain ⟨i1, hi1, hy0, hy1, hy2⟩ := info_parts Tryz.infoIntL
  have hnz : ¬ (n : Int) > 1048576 := by omega
  have hmz : ¬ (m : Int) > 1048576 := by omega
  have HC := hidd hc
  have HCb := hidd hcb
  have HE := hidd hE
  clear hc hcb hE
  have HLs : Hid (LI w 0 (.slice (some ⟨w.heap.size, 0, none⟩) 0 0) (.slice (some ⟨w.heap.size + 1, 0, none⟩) 1 1) [] [] [0] ((w.alloc (.cells #[] 5)).alloc (.cells #[.int .i64 0] 3))) := by
    have h1 := own_empty w 5
    have hb2 : Below (w.alloc (.cells #[] 5)).heap.size (w.alloc (.cells #[] 5)) ((w.alloc (.cells #[] 5)).alloc (.cells #[.int .i64 0] 3)) := (Below.refl _ _).alloc (Nat.le_refl _) _
    refine ⟨((Below.refl _ _).alloc (Nat.le_refl _) _).alloc (by simp) _, own_congr h1 fun x hx => hb2.block x (own_ltL h1 hx), ?_, Logs.nil, Nat.le_refl _, Nat.zero_le _, by simp⟩
    have hg := heap_alloc_new (w.alloc (.cells #[] 5)) (.cells #[.int .i64 0] 3)
    exact ⟨rfl, Or.inr ⟨w.heap.size + 1, 1, #[.int .i64 0], rfl, by omega, by simpa using hg, Nat.le_refl _, by unfold maxLen; omega, rfl, rfl⟩⟩
  go_enter Tryz.func3, Tryz.ntmps3
  go_wp2_with fail
  go_loopw [5, 6, 7] (fun bv ev iv wx => ∃ (i : Nat) (R : List Rc) (B : List UInt8) (E : List Nat) (gb cb ge ce : Nat), iv = .int .i64 (i : Int) ∧ bv = .slice (some ⟨gb, 0, none⟩) B.length cb ∧ ev = .slice (some ⟨ge, 0, none⟩) E.length ce ∧ i ≤ 6 ∧ LI w i (.slice (some ⟨gb, 0, none⟩) B.length cb) (.slice (some ⟨ge, 0, none⟩) E.length ce) R B E wx) (fun _ _ iv _ => 6 - (intOf iv).toNat)
  case atStart => exact ⟨0, [], [], [0], _, _, _, _, rfl, rfl, rfl, by omega, HLs.out⟩
  case round =>
    obtain ⟨i, R, B, E, gb, cb, ge, ce, rfl, rfl, rfl, hi6, hL⟩ := hrel
    have HL := hidd hL
    clear HLs hL
    obtain ⟨NB, hNB⟩ : ∃ k, B.length = k := ⟨_, rfl⟩
    obtain ⟨NE, hNE⟩ : ∃ k, E.length = k := ⟨_, rfl⟩
    rw [hNB, hNE] at HL
    simp only [hNB, hNE]
    have HNB := hidd hNB
    have HNE := hidd hNE
    clear hNB hNE
    by_cases hi : i < 6
    · have hiz : (i : Int) < 6 := by omega
      obtain ⟨c0, hc0, h0, h255⟩ : ∃ c0 : Int, IntKind.u8.wrap (60 * (i : Int)) = c0 ∧ 0 ≤ c0 ∧ c0 ≤ 255 := ⟨_, rfl, by rw [IntKind.wrap_u8]; omega, by rw [IntKind.wrap_u8]; omega⟩
      go_upto_region 8 with fail
      go_cut [8] (fun v8 wy => ∃ (g8 : Nat) (kd sq : Int) (id did : List UInt8) (a : Option Addr) (c : Nat) (V : List Vl), v8 = .pointer (some ⟨g8, 0, none⟩) ∧ wy.heap[g8]? = some (.cells #[.int .i64 kd, .int .i64 sq, .string ⟨id.toArray⟩, .string ⟨did.toArray⟩, .slice a V.length c] 28) ∧ (∃ wq : World, HoldV wq a V ∧ wq.heap.size ≤ g8 ∧ Below wq.heap.size wq wy) ∧ id.length ≤ 10 ∧ did.length ≤ 40 ∧ SmB V ∧ LI w i (.slice (some ⟨gb, 0, none⟩) NB cb) (.slice (some ⟨ge, 0, none⟩) NE ce) R B E wy ∧ w.heap.size ≤ g8)
      case first =>
        cases ao with
        | none =>
          have hn0 : n = 0 := by
            rcases Nat.eq_zero_or_pos n with h | h
            · exact h
            · obtain ⟨_, _, _, h1, _⟩ := HC.out 0 h
              cases h1
          subst hn0
          have hcz := hnil rfl
          subst hcz
          have hba : Below wr.heap.size wr (wr.alloc (.cells #[.int .u8 c0] 5)) := (Below.refl _ _).alloc (Nat.le_refl _) _
          have HLa := hidd (HL.out.below hba)
          have HGa := hidd (heap_alloc_new wr (.cells #[.int .u8 c0] 5))
          have HZa := hidd (Nat.le_refl wr.heap.size)
          have HCa := hidd ((HC.out.below HLa.out.bel))
          clear hba
          go_wp2_with (at_builtin; refine wpList_append_code rfl _ _ rfl wr.heap.size c0 ⟨h0, h255⟩ rfl HGa.out none 0 _ rfl (fun j hj => HCa.out j (by omega)) (by omega) (by simp) ?_)
          intro g' cap' w5 hc5 hb5
          have HC5 := hidd hc5
          have HL5 : Hid (LI w i (.slice (some ⟨gb, 0, none⟩) NB cb) (.slice (some ⟨ge, 0, none⟩) NE ce) R B E w5) := HL.out.belowG (by simp) hb5
          clear hc5 hb5 HLa HGa HZa HCa
          go_wp2_with fail
          refine (drawRB_any (some ⟨g', 0, none⟩) (1 + 0) cap' w5 (by omega) HC5.out).mono ?_
          rintro e w6 ⟨kd, sq, id, did, a, c, V, rfl, hid, hd, hH, hS, hb6⟩
          have HL6 := hidd (HL5.out.below hb6)
          have HH := hidd hH
          have HB6 := hidd hb6
          have HSv := hidd hS
          clear hH hb6 HC5 HL5 hS
          go_wp2_with fail
          go_meet
          case rel => exact ⟨w6.heap.size, kd, sq, id, did, a, c, V, rfl, heap_alloc_new w6 _, ⟨w6, HH.out, Nat.le_refl _, (Below.refl _ _).alloc (Nat.le_refl _) _⟩, hid, hd, HSv.out, HL6.out.below ((Below.refl _ _).alloc (Nat.le_refl _) _), HL6.out.bel.size⟩

        | some ad =>
          by_cases hn50 : (n : Int) ≤ 50
          · have hcapz : (n : Int) ≤ (cap : Int) := by omega
            have hba : Below wr.heap.size wr (wr.alloc (.cells #[.int .u8 c0] 5)) := (Below.refl _ _).alloc (Nat.le_refl _) _
            have HLa := hidd (HL.out.below hba)
            have HGa := hidd (heap_alloc_new wr (.cells #[.int .u8 c0] 5))
            have HZa := hidd (Nat.le_refl wr.heap.size)
            have HCa := hidd ((HC.out.below HLa.out.bel))
            clear hba
            go_wp2_with (at_builtin; refine wpList_append_code rfl _ _ rfl wr.heap.size c0 ⟨h0, h255⟩ rfl HGa.out (some ad) n _ rfl (fun j hj => HCa.out j (by omega)) (by omega) (by simp) ?_)
            intro g' cap' w5 hc5 hb5
            have HC5 := hidd hc5
            have HL5 : Hid (LI w i (.slice (some ⟨gb, 0, none⟩) NB cb) (.slice (some ⟨ge, 0, none⟩) NE ce) R B E w5) := HL.out.belowG (by simp) hb5
            clear hc5 hb5 HLa HGa HZa HCa
            go_wp2_with fail
            refine (drawRB_any (some ⟨g', 0, none⟩) (1 + n) cap' w5 (by omega) HC5.out).mono ?_
            rintro e w6 ⟨kd, sq, id, did, a, c, V, rfl, hid, hd, hH, hS, hb6⟩
            have HL6 := hidd (HL5.out.below hb6)
            have HH := hidd hH
            have HB6 := hidd hb6
            have HSv := hidd hS
            clear hH hb6 HC5 HL5 hS
            go_wp2_with fail
            go_meet
            case rel => exact ⟨w6.heap.size, kd, sq, id, did, a, c, V, rfl, heap_alloc_new w6 _, ⟨w6, HH.out, Nat.le_refl _, (Below.refl _ _).alloc (Nat.le_refl _) _⟩, hid, hd, HSv.out, HL6.out.below ((Below.refl _ _).alloc (Nat.le_refl _) _), HL6.out.bel.size⟩

          · have hcapz : (50 : Int) ≤ (cap : Int) := by omega
            have hba : Below wr.heap.size wr (wr.alloc (.cells #[.int .u8 c0] 5)) := (Below.refl _ _).alloc (Nat.le_refl _) _
            have HLa := hidd (HL.out.below hba)
            have HGa := hidd (heap_alloc_new wr (.cells #[.int .u8 c0] 5))
            have HZa := hidd (Nat.le_refl wr.heap.size)
            have HCa := hidd ((HC.out.below HLa.out.bel))
            clear hba
            go_wp2_with (at_builtin; refine wpList_append_code rfl _ _ rfl wr.heap.size c0 ⟨h0, h255⟩ rfl HGa.out (some ad) 50 _ rfl (fun j hj => HCa.out j (by omega)) (by omega) (by simp) ?_)
            intro g' cap' w5 hc5 hb5
            have HC5 := hidd hc5
            have HL5 : Hid (LI w i (.slice (some ⟨gb, 0, none⟩) NB cb) (.slice (some ⟨ge, 0, none⟩) NE ce) R B E w5) := HL.out.belowG (by simp) hb5
            clear hc5 hb5 HLa HGa HZa HCa
            go_wp2_with fail
            refine (drawRB_any (some ⟨g', 0, none⟩) (1 + 50) cap' w5 (by omega) HC5.out).mono ?_
            rintro e w6 ⟨kd, sq, id, did, a, c, V, rfl, hid, hd, hH, hS, hb6⟩
            have HL6 := hidd (HL5.out.below hb6)
            have HH := hidd hH
            have HB6 := hidd hb6
            have HSv := hidd hS
            clear hH hb6 HC5 HL5 hS
            go_wp2_with fail
            go_meet
            case rel => exact ⟨w6.heap.size, kd, sq, id, did, a, c, V, rfl, heap_alloc_new w6 _, ⟨w6, HH.out, Nat.le_refl _, (Below.refl _ _).alloc (Nat.le_refl _) _⟩, hid, hd, HSv.out, HL6.out.below ((Below.refl _ _).alloc (Nat.le_refl _) _), HL6.out.bel.size⟩

      case rest =>
        obtain ⟨g8, kd, sq, id, did, a, c, V, rfl, hbx, hH, hid, hd, hS, hLI, hg8⟩ := hcut
        have HL1 := hidd hLI
        have HH := hidd hH
        have HSv := hidd hS
        have HBx := hidd hbx
        obtain ⟨NV, hNV⟩ : ∃ k, V.length = k := ⟨_, rfl⟩
        have HNV := hidd hNV
        rw [hNV] at HBx
        clear hLI hH hS hbx hNV HL
        have b0 := blkc HBx.out 0
        have b1 := blkc HBx.out 1
        have b1f := blkf HBx.out 1
        simp only [List.getElem?_toArray, List.getElem?_cons_zero, List.getElem?_cons_succ] at b0 b1
        go_upto_if 48 with fail
        go_cut [] (fun wy => ∃ sq' : Int, (sq' = (NE : Int) ∨ sq' < 1) ∧ wy.heap[g8]? = some (.cells #[.int .i64 kd, .int .i64 sq', .string ⟨id.toArray⟩, .string ⟨did.toArray⟩, .slice a NV c] 28) ∧ (∃ wq : World, HoldV wq a V ∧ wq.heap.size ≤ g8 ∧ Below wq.heap.size wq wy) ∧ LI w i (.slice (some ⟨gb, 0, none⟩) NB cb) (.slice (some ⟨ge, 0, none⟩) NE ce) R B E wy)
        case first =>
          by_cases hsq : sq ≥ 1
          · go_wp2_with fail
            go_meet
            case rel =>
              obtain ⟨wq, h1, h2, h3⟩ := HH.out
              exact ⟨(NE : Int), Or.inl rfl, blk_setk HBx.out 1 _, ⟨wq, h1, h2, h3.setCell (p := ⟨g8, 1, none⟩) h2 _⟩, HL1.out.setR HBx.out hg8 1 _⟩
          · go_wp2_with fail
            go_meet
            case rel => exact ⟨sq, Or.inr (by omega), HBx.out, HH.out, HL1.out⟩
        case rest =>
          obtain ⟨sq', hsq', hbx', hH', hL'⟩ := hcut
          have HL2 := hidd hL'
          have HH2 := hidd hH'
          have HBx2 := hidd hbx'
          have HSq := hidd hsq'
          clear hsq' hbx' hH' hL' HL1 HH HBx b0 b1 b1f
          obtain ⟨XB, XC, hX⟩ : ∃ XB XC, rcO (kd, sq', id, (did, V)) = (XB, XC) := ⟨_, _, rfl⟩
          have HX := hidd hX
          have HR1 : Hid (∀ (fn : Nat) (W : World), RecC fn → HoldV W a V → Calls Tryz.prog fn #[.agg #[.int .i64 kd, .int .i64 sq', .string ⟨id.toArray⟩, .string ⟨did.toArray⟩, .slice a NV c]] W fun e w' => ∃ a1 c1, e = .returned (.tuple #[.slice a1 XB.length c1, .int .i64 XC]) ∧ w'.ownsRow W.heap.size 5 1 (.slice a1 XB.length c1) XB.length (Lib.byteCells XB) ∧ Below W.heap.size W w') := fun fn W hf hW => by
            have := recB_any hf kd sq' id did a c V W hid hd HSv.out hW
            rw [HNV.out, hX] at this
            refine this.mono ?_
            rintro e w' ⟨v, rfl, h1, h2⟩
            obtain ⟨a1, c1, rfl⟩ := own_slice h1
            exact ⟨a1, c1, rfl, h1, h2⟩
          clear hX
          obtain ⟨NX, hNX⟩ : ∃ k, XB.length = k := ⟨_, rfl⟩
          have HNX := hidd hNX
          rw [hNX] at HR1
          clear hNX
          have b0 := blkc HBx2.out 0
          have b1 := blkc HBx2.out 1
          have b2 := blkc HBx2.out 2
          have b3 := blkc HBx2.out 3
          have b4 := blkc HBx2.out 4
          simp only [List.getElem?_toArray, List.getElem?_cons_zero, List.getElem?_cons_succ] at b0 b1 b2 b3 b4
          go_wp2_with fail
          refine (HR1.out _ _ implRec_any (by obtain ⟨wq, h1, _, h3⟩ := HH2.out; exact h1.below h3)).mono ?_
          rintro e w8 ⟨a1, c1, rfl, ho1, hb8⟩
          have HL8 := hidd (HL2.out.below hb8)
          have HBx8 := hidd (blko HBx2.out hb8)
          have HO1 := hidd ho1
          have HH8 : Hid (HoldV w8 a V) := by obtain ⟨wq, h1, _, h3⟩ := HH2.out; exact (h1.below h3).below hb8
          clear ho1 hb8 HL2 HBx2 HH2 b0 b1 b2 b3 b4
          have b0 := blkc HBx8.out 0
          have b1 := blkc HBx8.out 1
          have b2 := blkc HBx8.out 2
          have b3 := blkc HBx8.out 3
          have b4 := blkc HBx8.out 4
          simp only [List.getElem?_toArray, List.getElem?_cons_zero, List.getElem?_cons_succ] at b0 b1 b2 b3 b4
          go_wp2_with fail
          refine (HR1.out _ _ specRec_any HH8.out).mono ?_
          rintro e w9 ⟨a2, c2, rfl, ho2, hb9⟩
          have HL9 := hidd (HL8.out.below hb9)
          have HO1' := hidd (own_keepB HO1.out hb9)
          have hcv1 : (convert 22 9 (.slice a1 NX c1)).run Tryz.prog w9 = .ok (.string ⟨XB.toArray⟩) w9 := by have h1 := HO1'.out; rw [← HNX.out] at h1 ⊢; exact conv_ownB h1
          have hcv2 : (convert 22 9 (.slice a2 NX c2)).run Tryz.prog w9 = .ok (.string ⟨XB.toArray⟩) w9 := by have h1 := ho2; rw [← HNX.out] at h1 ⊢; exact conv_ownB h1
          clear ho2 hb9 HL8 HBx8 HH8 HO1 HR1 b0 b1 b2 b3 b4
          generalize (⟨XB.toArray⟩ : ByteArray) = XS at hcv1 hcv2
          by_cases hXC : XC = 0
          · subst hXC
            have HP : Hid (rcOK (kd, sq', id, (did, V)) = true ∧ XB = partB (rcPart (kd, sq', id, (did, V))) ∧ XB.length ≤ 1048576 ∧ 4 ≤ XB.length) := by
              have h1 := HX.out
              unfold rcO at h1
              by_cases h2 : rcOK (kd, sq', id, (did, V)) = true
              · rw [if_pos h2] at h1
                by_cases h3 : 1048576 < (partB (rcPart (kd, sq', id, (did, V)))).length
                · rw [if_pos h3] at h1
                  injection h1 with _ h4
                  cases h4
                · rw [if_neg h3] at h1
                  injection h1 with h4 _
                  refine ⟨h2, h4.symm, by rw [← h4]; omega, ?_⟩
                  rw [← h4, partB, List.length_append]
                  have : (four (sumL (rcPart (kd, sq', id, (did, V))))).length = 4 := rfl
                  omega
              · rw [if_neg h2] at h1
                injection h1 with _ h4
                cases h4
            have hNB1 : NB ≤ 1048576 := by have := HL9.out.len; rw [HNB.out] at this; exact this
            have hNX1 : NX ≤ 1048576 := by have := HP.out.2.2.1; rw [HNX.out] at this; exact this
            have hNX4 : 4 ≤ NX := by have := HP.out.2.2.2; rw [HNX.out] at this; exact this
            have hwr : IntKind.i64.wrap ((NB : Int) + (NX : Int)) = (NB : Int) + (NX : Int) := by rw [IntKind.wrap_i64]; omega
            by_cases hfit : (NB : Int) + (NX : Int) ≤ 1048576
            · cases a1 with
              | none =>
                exfalso
                rcases HO1'.out.2 with ⟨_, h0⟩ | ⟨g, cc, cur, e1, _⟩
                · omega
                · injection e1 with e2
                  cases e2
              | some ad1 =>
                have HB9 := HL9.out.brw
                rw [HNB.out] at HB9
                have HBr := hidd HB9
                have HSz := hidd HL9.out.bel.size
                go_wp2_with (at_builtin; refine wpList_append_own _ rfl _ _ 22 rfl w.heap.size 5 i0 (.int .u8 0) 1 1 Tryz.underlying22 hi0 hz0 hz1 hz2 rfl (by decide) _ _ _ rfl HBr.out ad1 NX c1 (Lib.byteCells XB) rfl ?c0 ?c1 ?c2 ?c3 ?c4 ?c5 ?_)
                case c0 => have := HNX.out; simp [Lib.byteCells, this]
                case c1 => exact own_reads HO1'.out
                case c2 => intro x hx; simp only [Lib.byteCells, List.mem_map] at hx; obtain ⟨y, _, rfl⟩ := hx; rfl
                case c3 => unfold maxLen; omega
                case c4 => omega
                case c5 => exact HSz.out
                intro v' w10 hown' hgrow hne
                obtain ⟨g', cap', rfl⟩ : ∃ g cc, v' = .slice (some ⟨g, 0, none⟩) (NB + NX) cc := by
                  rcases hown'.2 with ⟨_, h0⟩ | ⟨g, cc, cur, e1, _⟩
                  · omega
                  · exact ⟨g, cc, e1⟩
                have HW := hidd (HL9.out.grow hgrow)
                have HOb := hidd hown'
                clear hown' hgrow hne HBr HB9 HO1' hcv1 hcv2
                have HE0 := HW.out.2
                rw [HNE.out] at HE0
                have HEr := hidd (HE0.alloc (.cells #[.int .i64 ((NB : Int) + (NX : Int))] 3))
                have HSy : Hid (w.heap.size ≤ w10.heap.size) := hidd HW.out.1.size
                have hNE7 : NE ≤ 7 := by
                  have h1 := HL9.out.log.len.1
                  have h2 := HL9.out.few
                  rw [HNE.out] at h1
                  omega
                clear HE0
                go_wp2_with (at_builtin; refine wpList_append_own _ rfl _ _ 23 rfl w.heap.size 3 i1 (.int .i64 0) 1 8 Tryz.underlying23 hi1 hy0 hy1 hy2 rfl (by decide) _ _ _ rfl HEr.out ⟨w10.heap.size, 0, none⟩ 1 1 [.int .i64 ((NB : Int) + (NX : Int))] rfl rfl ?d1 ?d2 ?d3 ?d4 ?d5 ?_)
                case d1 =>
                  intro j x hj
                  match j, hj with
                  | 0, hj => simp at hj; subst hj; simp [Addr.add]
                case d2 => intro x hu; simp at hu; subst hu; rfl
                case d3 => unfold maxLen; omega
                case d4 => omega
                case d5 => have := HSy.out; simp; omega
                intro v2 w11 hown2 hgrow2 hne2
                obtain ⟨g2, cap2, rfl⟩ : ∃ g cc, v2 = .slice (some ⟨g, 0, none⟩) (NE + 1) cc := by
                  rcases hown2.2 with ⟨_, h0⟩ | ⟨g, cc, cur, e1, _⟩
                  · omega
                  · exact ⟨g, cc, e1⟩
                have HF : Hid (LI w (i + 1) (.slice (some ⟨g', 0, none⟩) (NB + NX) cap') (.slice (some ⟨g2, 0, none⟩) (NE + 1) cap2) (R ++ [(kd, sq', id, (did, V))]) (B ++ XB) (E ++ [B.length + XB.length]) w11) := by
                  obtain ⟨q1, q2, q3, q4⟩ := HP.out
                  have hl := HL9.out.log.len.1
                  have hq := (rcOK_kind q1).2.1
                  have hs : sq' = ((R.length + 1 : Nat) : Int) := by
                    obtain ⟨q, h1, h2, h3⟩ := hq
                    rcases HSq.out with h4 | h4
                    · rw [h4, ← HNE.out, hl]
                    · omega
                  rw [← HNE.out]
                  refine LI.step (B2 := XB) (g := g') (g2 := g2) (c := cap') (c2 := cap2) (k := NB + NX) HL9.out HW.out.1 HW.out.2 (by rw [HNB.out, HNX.out]; exact HOb.out) hgrow2 (by rw [HNE.out, HNB.out, HNX.out]; exact hown2) ?_ (by rw [HNB.out, HNX.out]; omega) (by simp)
                  subst q2
                  exact Logs.snoc HL9.out.log q1 (by have : (rcPart (kd, sq', id, (did, V))).length ≤ (partB (rcPart (kd, sq', id, (did, V)))).length := by (simp only [partB, List.length_append]; omega)
                                                     omega) hs
                clear hown2 hgrow2 hne2 HEr HW HOb HL9
                go_wp2_with fail
                go_roundw
                case rel =>
                  refine ⟨i + 1, R ++ [(kd, sq', id, (did, V))], B ++ XB, E ++ [B.length + XB.length], g', cap', g2, cap2, by go_num, ?_, ?_, by omega, ?_⟩
                  · rw [List.length_append, HNB.out, HNX.out]
                  · rw [List.length_append, HNE.out]; rfl
                  · have := HF.out
                    rw [List.length_append, HNB.out, HNX.out, List.length_append, HNE.out]
                    rw [HNB.out, HNX.out] at this
                    exact this
                case measure => simp [intOf]; omega
            · go_wp2_with fail
              go_roundw
              case rel => exact ⟨i + 1, R, B, E, gb, cb, ge, ce, by go_num, by rw [HNB.out], by rw [HNE.out], by omega, by rw [HNB.out, HNE.out]; exact HL9.out.next⟩
              case measure => simp [intOf]; omega
          · have hXz : ¬ XC = 0 := hXC
            go_wp2_with fail
            go_roundw
            case rel => exact ⟨i + 1, R, B, E, gb, cb, ge, ce, by go_num, by rw [HNB.out], by rw [HNE.out], by omega, by rw [HNB.out, HNE.out]; exact HL9.out.next⟩
            case measure => simp [intOf]; omega
    · have hiz : ¬ (i : Int) < 6 := by omega
      have HOe := hidd (own_empty wr 5)
      have HBl := hidd (HL.out.below ((Below.refl _ _).alloc (Nat.le_refl _) (.cells #[] 5)))
      have HBb := HBl.out.brw
      rw [HNB.out] at HBb
      have HBy := hidd HBb
      have hNB1 : NB ≤ 1048576 := by have := HL.out.len; rw [HNB.out] at this; exact this
      have HSz := hidd HL.out.bel.size
      clear HBb
      go_wp2_with (at_builtin; refine wpList_append_own _ rfl _ _ 22 rfl wr.heap.size 5 i0 (.int .u8 0) 1 1 Tryz.underlying22 hi0 hz0 hz1 hz2 rfl (by decide) _ _ _ rfl HOe.out ⟨gb, 0, none⟩ NB cb (Lib.byteCells B) rfl ?c0 ?c1 ?c2 ?c3 ?c4 ?c5 ?_)
      case c0 => have := HNB.out; simp [Lib.byteCells, this]
      case c1 => intro j x hj; have := own_reads HBy.out j x hj; rwa [Go.WideShapes.add_plain, Nat.zero_add] at this
      case c2 => intro x hx; simp only [Lib.byteCells, List.mem_map] at hx; obtain ⟨y, _, rfl⟩ := hx; rfl
      case c3 => unfold maxLen; omega
      case c4 => omega
      intro v' w10 hown' hgrow hne
      obtain ⟨g', cap', rfl⟩ : ∃ g cc, v' = .slice (some ⟨g, 0, none⟩) NB cc := by
        rcases hown'.2 with ⟨e1, h0⟩ | ⟨g, cc, cur, e1, _⟩
        · exact absurd e1 hne
        · exact ⟨g, cc, e1⟩
      have HLx : Hid (LI w i (.slice (some ⟨gb, 0, none⟩) NB cb) (.slice (some ⟨ge, 0, none⟩) NE ce) R B E w10) := by
        refine HL.out.below ?_
        exact ((Below.refl _ _).alloc (Nat.le_refl _) _).grown hgrow (by simp) (fun k hk => by simp only [Value.ownBlock, Option.some.injEq] at hk; omega)
      have HEx : Hid (ErrC w10 u pv) := HE.out.below HLx.out.bel
      have HOx := hidd hown'
      clear hown' hgrow hne HBl HBy HOe
      go_wp2_with fail
      refine (readLog_own HEx.out HOx.out hNB1 (Nat.le_refl _) (by have := own_cap HOx.out; omega)).mono ?_
      rintro e w11 ⟨L1, r1, aL, cL, rfl, hEn, hb11⟩
      have hr1 : L1 = R ∧ r1 = [] := by
        have h1 := HLx.out.log.whole
        rw [List.take_of_length_le (by rw [HNB.out]; exact Nat.le_refl _)] at hEn
        exact Ends.uniq hEn h1
      obtain ⟨rfl, rfl⟩ := hr1
      have hRl : (NE : Int) - 1 = (L1.length : Int) := by have h1 := HLx.out.log.len.1; rw [HNE.out] at h1; omega
      have HLy := hidd (HLx.out.below hb11)
      clear hb11 hEn HLx HOx HEx HL
      have HCy := hidd (HCb.out.below HLy.out.bel)
      have hL6 : L1.length ≤ 6 := Nat.le_trans HLy.out.few hi6
      obtain ⟨NL, hNL⟩ : ∃ k, L1.length = k := ⟨_, rfl⟩
      have HNL := hidd hNL
      rw [hNL] at hL6 hRl
      have hNE7 : NE ≤ 7 := ne_seven hRl hL6
      simp only [hNL]
      clear hNL
      have hb2 : ((NL : Int) != (NE : Int) - 1) = false := by simp; omega
      have hwr : IntKind.i64.wrap ((NE : Int) - 1) = (NE : Int) - 1 := by rw [IntKind.wrap_i64]; omega
      clear hRl
      go_wp2_with fail
      refine (lawAtN_any bo m cab NB w11 hm hNB1 HCy.out).mono ?_
      rintro e w12 ⟨cut, rfl, hcut, hb12⟩
      have HLz := hidd (HLy.out.below hb12)
      have HEz : Hid (ErrC w12 u pv) := HE.out.below HLz.out.bel
      clear hb12 HLy HCy
      have HBz := HLz.out.brw
      rw [HNB.out] at HBz
      have HOz := hidd HBz
      have hcz : (cut : Int) ≤ (cb : Int) := by have := (own_cap HBz).1; omega
      have hcz2 : cut ≤ cb := by omega
      clear HBz
      go_wp2_with fail
      refine (readLog_own HEz.out HOz.out hNB1 (by omega) (by omega)).mono ?_
      rintro e w13 ⟨L2, r2, aM, cM, rfl, hEn, hb13⟩
      have HLq := hidd (HLz.out.below hb13)
      obtain ⟨K, L, r, ek, k1, k2, k3, k4, k5, k6⟩ := HLz.out.log.cut cut (by rw [HNB.out]; omega)
      obtain ⟨rfl, rfl⟩ := Ends.uniq hEn k1
      have hek : cut - r2.length = ek := by omega
      have hKE : K < NE := by have := (List.getElem?_eq_some_iff.1 k3).1; rw [HNE.out] at this; exact this
      have HK5 := hidd k5
      have HK6 := hidd k6
      have HK3 := hidd k3
      have HCe : Hid (∀ j a : Nat, E[j]? = some a → w13.cell? ⟨ge, j, none⟩ = some (.int .i64 (a : Int))) := fun j a hj => by
        have h1 := HLq.out.erw
        rw [HNE.out] at h1
        have := own_reads h1 j (.int .i64 (a : Int)) (by simp [zC, hj])
        rwa [Go.WideShapes.add_plain, Nat.zero_add] at this
      have HBq := hidd HLq.out.bel
      rw [hek, k2]
      clear hEn k1 k2 k3 k4 k5 k6 hb13 HLz HOz HEz HLq
      go_wp2_with fail
      go_loopw [20] (fun kv wx => ∃ k : Nat, kv = .int .i64 (k : Int) ∧ k ≤ K ∧ wx = w13) (fun kv _ => 7 - (intOf kv).toNat)
      case atStart => exact ⟨0, rfl, by omega, rfl⟩
      case round =>
        obtain ⟨k, rfl, hkK, hwx⟩ := hrel
        obtain rfl := hwx.symm
        have hwk : IntKind.i64.wrap ((k : Int) + 1) = (k : Int) + 1 := by rw [IntKind.wrap_i64]; omega
        by_cases hk : k < K
        · obtain ⟨a, ha⟩ : ∃ a, E[k + 1]? = some a := ⟨_, List.getElem?_eq_getElem (by rw [HNE.out]; omega)⟩
          have hac : (a : Int) ≤ (cut : Int) := by have := HK5.out (k + 1) a (by omega) ha; omega
          have c1 := HCe.out (k + 1) a ha
          have hz1 : (k : Int) + 1 < (NE : Int) := by omega
          clear ha
          go_wp2_with fail
          go_roundw
          case rel => exact ⟨k + 1, by go_num, by omega, by first | trivial | rfl⟩
          case measure => simp [intOf]; omega
        · obtain rfl : k = K := by omega
          have cK := HCe.out k ek HK3.out
          by_cases hend : k + 1 < NE
          · obtain ⟨a, ha⟩ : ∃ a, E[k + 1]? = some a := ⟨_, List.getElem?_eq_getElem (by rw [HNE.out]; omega)⟩
            have hac : ¬ (a : Int) ≤ (cut : Int) := by have := HK6.out a ha; omega
            have c1 := HCe.out (k + 1) a ha
            have hz1 : (k : Int) + 1 < (NE : Int) := by omega
            clear ha
            go_wp2_with fail
            go_ret
            exact ⟨by simp, HBq.out⟩
          · have hz1 : ¬ (k : Int) + 1 < (NE : Int) := by omega
            go_wp2_with fail
            go_ret
            exact ⟨by simp, HBq.out⟩
end Go.Proofs.YtpdiaddgialanaaGreatDoor
