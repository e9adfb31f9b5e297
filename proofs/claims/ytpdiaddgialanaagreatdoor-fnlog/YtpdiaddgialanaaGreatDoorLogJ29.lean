import Derived.Test.YtpdiaddgialanaaGreatDoorLogJ28
import Derived.ChangeKeysEq
import Derived.OrdersHeld
namespace Go.Proofs.YtpdiaddgialanaaGreatDoor
open Go Go.RowKit
set_option linter.unusedVariables false
set_option linter.unusedSimpArgs false
set_option maxRecDepth 100000

theorem eqItem8 (w : World) (xs ys : Array Value) (i : Nat) (x y : Int) (hx : xs[i]? = some (.int .u8 x)) (hy : ys[i]? = some (.int .u8 y)) (is : List Nat) :
    (Op.eqItems (9998 + 1) 5 1 xs ys (i :: is)).run Tryz.prog w = if x == y then (Op.eqItems (9998 + 1) 5 1 xs ys is).run Tryz.prog w else .ok false w := by
  have hk : Tryz.prog.plainKey 5 = true := by kernel_rfl
  have h1 := run_part_plain (P := Tryz.prog) w hk hx
  have h2 := run_part_plain (P := Tryz.prog) w hk hy
  have h3 : (Op.equalIn (9998 + 1) 5 (.int .u8 x) (.int .u8 y)).run Tryz.prog w = .ok (x == y) w := run_equalIn_int w 9998 _ _ _ _ _ Tryz.underlying5
  simp only [Op.eqItems, Nat.mul_one, Sem.run_bind, h1, h2, h3, Result.andThen_ok]
  cases hxy : (x == y) <;> simp
/-- Two arrays of four bytes compared. -/
theorem eq4_run (w : World) (a0 a1 a2 a3 b0 b1 b2 b3 : Int) : (Op.equalIn 10000 54 (.agg #[.int .u8 a0, .int .u8 a1, .int .u8 a2, .int .u8 a3]) (.agg #[.int .u8 b0, .int .u8 b1, .int .u8 b2, .int .u8 b3])).run Tryz.prog w = .ok (a0 == b0 && (a1 == b1 && (a2 == b2 && a3 == b3))) w := by
  obtain ⟨i, hi⟩ := info_of_underlying (P := Tryz.prog) Tryz.underlying5
  have hc : Tryz.prog.cellsOf 5 = 1 := by kernel_rfl
  rw [show (10000 : Nat) = 9998 + 1 + 1 from rfl, run_equalIn_array (P := Tryz.prog) w (9998 + 1) _ _ Tryz.underlying54 hi, hc, show List.range 4 = [0, 1, 2, 3] from rfl,
    eqItem8 w _ _ 0 a0 b0 rfl rfl, eqItem8 w _ _ 1 a1 b1 rfl rfl, eqItem8 w _ _ 2 a2 b2 rfl rfl, eqItem8 w _ _ 3 a3 b3 rfl rfl]
  cases (a0 == b0) <;> cases (a1 == b1) <;> cases (a2 == b2) <;> cases (a3 == b3) <;> simp [Op.eqItems]
theorem arr4_run (a : Option Addr) (c : Nat) (W : World) : (Instr.arrayAt 54 (.slice a 4 c)).run Tryz.prog W = .ok (.pointer a) W := by
  simp [Instr.arrayAt, run_underlying Tryz.underlying54]
theorem take4_eq {q : List UInt8} (h : 4 ≤ q.length) : ∃ e0 e1 e2 e3, q.take 4 = [e0, e1, e2, e3] := by
  match q, h with
  | a :: b :: c :: d :: t, _ => exact ⟨a, b, c, d, rfl⟩
theorem four_iff (sm : Nat) (h : sm < 4294967296) (e0 e1 e2 e3 : UInt8) : four sm = [e0, e1, e2, e3] ↔ (sm / 16777216 = e0.toNat ∧ sm / 65536 % 256 = e1.toNat ∧ sm / 256 % 256 = e2.toNat ∧ sm % 256 = e3.toNat) := by
  have k : ∀ (x : Nat) (y : UInt8), x < 256 → (UInt8.ofNat x = y ↔ x = y.toNat) := fun x y hx => by
    constructor
    · rintro rfl
      rw [UInt8.toNat_ofNat']; omega
    · rintro rfl
      exact UInt8.ofNat_toNat
  unfold four
  simp only [List.cons.injEq, and_true]
  rw [k _ _ (by omega), k _ _ (by omega), k _ _ (by omega), k _ _ (by omega)]
theorem recN_no1 {bs : List UInt8} (h : rdN 1048576 bs = none) : recN bs = none := by unfold recN; rw [h]
theorem recN_no2 {bs r : List UInt8} {n : Nat} (h : rdN 1048576 bs = some (n, r)) (hl : ¬ n + 4 ≤ r.length) : recN bs = none := by unfold recN; rw [h]; simp only; rw [if_neg (fun e => hl e.1)]
theorem recN_no3 {bs r : List UInt8} {n : Nat} (h : rdN 1048576 bs = some (n, r)) (hl : four (sumL (r.take n)) ≠ (r.drop n).take 4) : recN bs = none := by unfold recN; rw [h]; simp only; rw [if_neg (fun e => hl e.2)]
theorem recN_yes {bs r : List UInt8} {n : Nat} (h : rdN 1048576 bs = some (n, r)) (hl : n + 4 ≤ r.length) (hs : four (sumL (r.take n)) = (r.drop n).take 4) : recN bs = match partR (r.take n) with
    | none => none
    | some x => some (x, r.drop (n + 4)) := by
  unfold recN
  rw [h]
  simp only
  rw [if_pos ⟨hl, hs⟩]
  cases partR (r.take n) <;> rfl
set_option maxHeartbeats 1000000 in
theorem implSum_nil (a : Option Addr) (cap : Nat) (w : World) :
    Calls Tryz.prog 42 #[.slice a 0 cap] w fun e w' => e = .returned (.int .i64 (sumL [] : Nat)) ∧ w' = w := by
  have hs : ((sumL [] : Nat) : Int) = 2166136261 := by rfl
  have HS := hidd hs
  clear hs
  go_enter Tryz.func42, Tryz.ntmps42
  go_wp2
  go_loop [3, 11] (fun hv i => i = .int .i64 0 ∧ hv = .int .u32 2166136261) (fun _ i => 0)
  case atStart => exact ⟨rfl, rfl⟩
  case round =>
    obtain ⟨rfl, rfl⟩ := hrel
    go_wp2
    go_ret
    rw [HS.out]
    exact ⟨rfl, rfl⟩
set_option maxHeartbeats 2000000 in
theorem sumBytes_nil (a : Option Addr) (cap : Nat) (w : World) :
    Calls Tryz.prog 20 #[.slice a 0 cap] w fun e w' => e = .returned (.agg #[.int .u8 ((sumL [] / 16777216 : Nat) : Int), .int .u8 ((sumL [] / 65536 % 256 : Nat) : Int), .int .u8 ((sumL [] / 256 % 256 : Nat) : Int), .int .u8 ((sumL [] % 256 : Nat) : Int)]) ∧ Below w.heap.size w w' := by
  have HBa := hidd ((Below.refl w.heap.size w).alloc (Nat.le_refl _) (.cells #[.int .u8 0, .int .u8 0, .int .u8 0, .int .u8 0] 54))
  have HS := hidd (fun (W : World) => implSum_nil a cap W)
  have hlt := sumL_lt []
  obtain ⟨n, hn⟩ : ∃ n, sumL [] = n := ⟨_, rfl⟩
  rw [hn] at HS hlt
  have Hn := hidd hn
  clear hn
  go_enter Tryz.func20, Tryz.ntmps20
  go_wp2_with fail
  refine (HS.out _).mono ?_
  rintro e w1 ⟨rfl, rfl⟩
  dsimp only
  go_wp2_with fail
  refine bodyPost_ret (v := .agg #[.int .u8 ((n : Int) / 16777216), .int .u8 ((n : Int) / 65536 % 256), .int .u8 ((n : Int) / 256 % 256), .int .u8 ((n : Int) % 256)]) (by simp [results, Tryz.results20, go_sem, *]) rfl ?_
  refine ⟨?_, (Below.refl w.heap.size w).alloc (Nat.le_refl _) _⟩
  rw [Hn.out]
  congr 4
/-- What the log's reader has behind a part. -/
def LrCut (w0 Wa : World) (B : Nat) (bs : List UInt8) (v : Value) (wr : World) : Prop := ∃ a m c, v = .slice a m c ∧ RdFr B Wa wr ∧
  ((RdrG 62 w0 wr B [] true ∧ recN bs = none) ∨ ∃ n r, rdN 1048576 bs = some (n, r) ∧ n ≤ r.length ∧ m = n ∧ RdrG 62 w0 wr B (r.drop n) false ∧ (n = 0 ∨ ∃ b off, a = some ⟨b, off, none⟩ ∧ n ≤ c ∧ b < w0.heap.size ∧ BytesAt w0 b off (r.take n)))
/-- What it has behind the sum. -/
def LsCut (w0 Wa : World) (B : Nat) (bs : List UInt8) (a4 : Option Addr) (m4 c4 : Nat) (v : Value) (wr : World) : Prop := ∃ a m c, v = .slice a m c ∧ RdFr B Wa wr ∧
  ((RdrG 62 w0 wr B [] true ∧ recN bs = none) ∨ ∃ n r b5 off5, rdN 1048576 bs = some (n, r) ∧ n + 4 ≤ r.length ∧ m4 = n ∧ m = 4 ∧ RdrG 62 w0 wr B (r.drop (n + 4)) false ∧ (n = 0 ∨ ∃ b off, a4 = some ⟨b, off, none⟩ ∧ n ≤ c4 ∧ b < w0.heap.size ∧ BytesAt w0 b off (r.take n)) ∧ a = some ⟨b5, off5, none⟩ ∧ b5 < w0.heap.size ∧ BytesAt w0 b5 off5 ((r.drop n).take 4))
/-- What a record read off a log comes to. -/
def RdP (w0 W : World) (B : Nat) (bs : List UInt8) (e : Ending) (w' : World) : Prop := ∃ (kd sq : Int) (id did : List UInt8) (aV : Option Addr) (cV : Nat) (V : List Vl) (xs : List Value) (lo : Nat) (ok : Bool), e = .returned (.tuple #[.agg #[.int .i64 kd, .int .i64 sq, .string ⟨id.toArray⟩, .string ⟨did.toArray⟩, .slice aV V.length cV], .bool ok]) ∧ W.heap.size ≤ lo ∧ AnsV w' lo w'.heap.size (.slice aV V.length cV) V xs ∧ Below w0.heap.size w0 w' ∧ RdFr B W w' ∧
  ((ok = true ∧ ∃ r, recN bs = some ((kd, sq, id, (did, V)), r) ∧ RdrG 62 w0 w' B r false) ∨ (ok = false ∧ recN bs = none))
theorem RdFr.fin {B A0 : Nat} {W Wa wc w' : World} (hA : W.heap.size = A0) (ha : Below W.heap.size W Wa) (hf : RdFr B Wa wc) (hw : ∀ b, b < wc.heap.size → b ≠ A0 → w'.heap[b]? = wc.heap[b]?) (hs : wc.heap.size ≤ w'.heap.size) : RdFr B W w' := by
  have h1 := ha.size
  have h2 := hf.1
  exact ⟨by omega, fun b hb hne => (hw b (by omega) (by omega)).trans ((hf.2 b (by omega) hne).trans (ha.block b hb))⟩
theorem RdFr.ofB {B : Nat} {W W' : World} (h : Below W.heap.size W W') : RdFr B W W' := ⟨h.size, fun b hb _ => h.block b hb⟩
set_option maxHeartbeats 8000000 in
theorem record_any {w0 W : World} {u : TypeId} {pv : Value} {B : Nat} {bs : List UInt8} (hE : ErrC w0 u pv) (hn : bs.length ≤ 1048576) (h : RdrG 62 w0 W B bs false) :
    Calls Tryz.prog 24 #[.pointer (some ⟨B, 0, none⟩)] W (RdP w0 W B bs) := by
  have HE := hidd hE
  have HBa := hidd ((Below.refl W.heap.size W).alloc (Nat.le_refl _) (.cells #[.int .i64 0, .int .i64 0, .string ⟨#[]⟩, .string ⟨#[]⟩, .slice none 0 0] 28))
  have HX := hidd (heap_alloc_new W (.cells #[.int .i64 0, .int .i64 0, .string ⟨#[]⟩, .string ⟨#[]⟩, .slice none 0 0] 28))
  have HR := hidd (h.below HBa.out)
  have hBl := h.lt
  have hOl := h.old.size
  clear h hE
  go_enter Tryz.func24, Tryz.ntmps24
  go_upto_region 1 with fail
  obtain ⟨Wa, hWa⟩ : ∃ Wa, W.alloc (.cells #[.int .i64 0, .int .i64 0, .string ⟨#[]⟩, .string ⟨#[]⟩, .slice none 0 0] 28) = Wa := ⟨_, rfl⟩
  rw [hWa] at HBa HX HR
  try rw [hWa]
  clear hWa
  obtain ⟨A0, hA0⟩ : ∃ A0, W.heap.size = A0 := ⟨_, rfl⟩
  rw [hA0] at HX hBl
  try rw [hA0]
  have HA0 := hidd hA0
  clear hA0
  have hAl : A0 < Wa.heap.size := (Array.getElem?_eq_some_iff.1 HX.out).1
  go_cut [4] (fun v wr => LrCut w0 Wa B bs v wr)
  case first =>
    have HN := hidd (number_any (most := 1048576) hn (by decide) HR.out.drew)
    cases hrd : rdN 1048576 bs with
    | none =>
      rw [numR_no hrd] at HN
      have HT := hidd (fun (W' : World) (h' : RdrG 62 w0 W' B [] true) => takeG_some (n := 0) (by simp) h' (by simp))
      have HNo := hidd (recN_no1 hrd)
      clear hrd
      go_region_with (first
        | (go_at_call 51; refine HN.out.mono ?_; rintro e' w2 ⟨rfl, h2, hf2⟩)
        | (go_at_call 50; refine (HT.out _ h2).mono ?_; rintro e'' w3 ⟨a3, c3, rfl, hb3, h3, hf3⟩))
      all_goals
        have HF : Hid (RdrG 62 w0 w3 B [] true ∧ RdFr B Wa w3) := ⟨by simpa using h3, hf2.trans hf3⟩
        clear h2 h3 hf2 hf3
        go_wp2_with fail
        go_meet
        exact ⟨a3, 0, c3, rfl, HF.out.2, Or.inl ⟨HF.out.1, HNo.out⟩⟩
    | some y =>
      obtain ⟨n, r⟩ := y
      rw [numR_rd hrd] at HN
      have hql := rdN_len hrd
      have Hrd := hidd hrd
      clear hrd
      by_cases hle : n ≤ r.length
      · have HT := hidd (fun (W' : World) (h' : RdrG 62 w0 W' B r false) => takeG_some (n := n) (by omega) h' hle)
        go_region_with (first
          | (go_at_call 51; refine HN.out.mono ?_; rintro e' w2 ⟨rfl, h2, hf2⟩)
          | (go_at_call 50; refine (HT.out _ h2).mono ?_; rintro e'' w3 ⟨a3, c3, rfl, hb3, h3, hf3⟩))
        all_goals
          have HF : Hid (RdrG 62 w0 w3 B (r.drop n) false ∧ RdFr B Wa w3) := ⟨h3, hf2.trans hf3⟩
          have HB3 := hidd hb3
          clear h2 h3 hf2 hf3 hb3
          go_wp2_with fail
          go_meet
          exact ⟨a3, n, c3, rfl, HF.out.2, Or.inr ⟨n, r, Hrd.out, hle, rfl, HF.out.1, HB3.out⟩⟩
      · have HT := hidd (fun (W' : World) (h' : RdrG 62 w0 W' B r false) => takeG_none (n := n) (by omega) (by omega) h' hle)
        have HNo := hidd (recN_no2 Hrd.out (by omega))
        go_region_with (first
          | (go_at_call 51; refine HN.out.mono ?_; rintro e' w2 ⟨rfl, h2, hf2⟩)
          | (go_at_call 50; refine (HT.out _ h2).mono ?_; rintro e'' w3 ⟨rfl, h3, hf3⟩))
        all_goals
          have HF : Hid (RdrG 62 w0 w3 B [] true ∧ RdFr B Wa w3) := ⟨h3, hf2.trans hf3⟩
          clear h2 h3 hf2 hf3
          go_wp2_with fail
          go_meet
          exact ⟨none, 0, 0, rfl, HF.out.2, Or.inl ⟨HF.out.1, HNo.out⟩⟩
  case rest =>
    obtain ⟨a4, m4, c4, rfl, hf4, h4⟩ := hcut
    have HF4 := hidd hf4
    have H4 := hidd h4
    clear hf4 h4 HR
    go_upto_region 2 with fail
    go_cut [5] (fun v wr => LsCut w0 Wa B bs a4 m4 c4 v wr)
    case first =>
      rcases H4.out with ⟨h4, hno⟩ | ⟨n, r, hrd, hle, rfl, h4, hb4⟩
      · have HT := hidd (takeG_none (n := 4) (by simp) (by omega) h4 (by simp))
        have HNo := hidd hno
        clear h4 hno H4
        go_wp2_with fail
        refine HT.out.mono ?_
        rintro e w5 ⟨rfl, h5, hf5⟩
        have HF : Hid (RdrG 62 w0 w5 B [] true ∧ RdFr B Wa w5) := ⟨h5, HF4.out.trans hf5⟩
        clear h5 hf5 HT
        go_wp2_with fail
        go_meet
        case rel => exact ⟨none, 0, 0, rfl, HF.out.2, Or.inl ⟨HF.out.1, HNo.out⟩⟩
      · have hql := rdN_len hrd
        have Hrd := hidd hrd
        have HB4 := hidd hb4
        have hdl : (r.drop m4).length = r.length - m4 := List.length_drop
        clear hrd hb4
        by_cases h44 : m4 + 4 ≤ r.length
        · have HT := hidd (takeG_some (n := 4) (by omega) h4 (by omega))
          have Hd : Hid ((r.drop m4).drop 4 = r.drop (m4 + 4)) := by show _ = _; rw [List.drop_drop]
          unfold TakeG at HT
          rw [Hd.out] at HT
          clear h4 H4 hdl
          go_wp2_with fail
          refine HT.out.mono ?_
          rintro e w5 ⟨a5, c5, rfl, hb5, h5, hf5⟩
          obtain ⟨b5, off5, rfl, hc5, hl5, hby5⟩ := hb5.resolve_left (by omega)
          have HF : Hid (RdrG 62 w0 w5 B (r.drop (m4 + 4)) false ∧ RdFr B Wa w5) := ⟨h5, HF4.out.trans hf5⟩
          have HBy := hidd hby5
          clear h5 hf5 HT hb5 hby5
          go_wp2_with fail
          go_meet
          case rel => exact ⟨_, 4, c5, rfl, HF.out.2, Or.inr ⟨m4, r, b5, off5, Hrd.out, h44, rfl, rfl, HF.out.1, HB4.out, rfl, hl5, HBy.out⟩⟩
        · have HT := hidd (takeG_none (n := 4) (by omega) (by omega) h4 (by omega))
          have HNo := hidd (recN_no2 Hrd.out h44)
          clear h4 H4 hdl
          go_wp2_with fail
          refine HT.out.mono ?_
          rintro e w5 ⟨rfl, h5, hf5⟩
          have HF : Hid (RdrG 62 w0 w5 B [] true ∧ RdFr B Wa w5) := ⟨h5, HF4.out.trans hf5⟩
          clear h5 hf5 HT
          go_wp2_with fail
          go_meet
          case rel => exact ⟨none, 0, 0, rfl, HF.out.2, Or.inl ⟨HF.out.1, HNo.out⟩⟩
    case rest =>
      obtain ⟨a5, m5, c5, rfl, hf5, h5⟩ := hcut
      have HA5 := hidd ((hf5.2 A0 hAl (by omega)).trans HX.out)
      have HF5 := hidd hf5
      have hsz5 := hf5.1
      clear hf5 H4 HF4 HX
      rcases h5 with ⟨h5, hno⟩ | ⟨n, r, b5, off5, hrd, hle, rfl, rfl, h5, hb4, rfl, hl5, hby5⟩
      · obtain ⟨v5, hbx, _⟩ := h5.box
        have y1 := blkc hbx 1
        have z0 := blkc HA5.out 0
        have z1 := blkc HA5.out 1
        have z2 := blkc HA5.out 2
        have z3 := blkc HA5.out 3
        have z4 := blkc HA5.out 4
        have g0 := blkf HA5.out 0
        have g1 := blkf HA5.out 1
        have g2 := blkf HA5.out 2
        have g3 := blkf HA5.out 3
        have g4 := blkf HA5.out 4
        have HO5 := hidd h5.old
        have HNo := hidd hno
        clear hbx h5 hno
        go_upto_region 3 with fail
        go_quiet (fail)
        go_wp2_with fail
        refine bodyPost_ret (v := .tuple #[.agg #[.int .i64 0, .int .i64 0, .string ⟨#[]⟩, .string ⟨#[]⟩, .slice none 0 0], .bool false]) (by simp [results, Tryz.results24, go_sem, *]) rfl ?_
        have hbd : Below wc.heap.size wc (wc.drewN nq) := below_drewN (Below.refl _ _) nq
        show RdP w0 W B bs _ (setRec (wc.drewN nq) A0 0 0 [] [] none 0 0)
        have hA0 := HA0.out
        exact ⟨0, 0, [], [], none, 0, [], [], W.heap.size, false, rfl, Nat.le_refl _, AnsV.nil _ _ _, setRec_below (below_drewN HO5.out nq) (by omega) _ _ _ _ _ _ _, RdFr.fin HA0.out HBa.out HF5.out (fun b h1 h2 => (setRec_oth _ _ _ _ _ _ _ _ _ _ h2).trans (hbd.block b h1)) (by rw [setRec_size]; exact hbd.size), Or.inr ⟨rfl, HNo.out⟩⟩
      · obtain ⟨v5, hbx, _⟩ := h5.box
        have y1 := blkc hbx 1
        have H5 := hidd h5
        have hpl : (r.take m4).length = m4 := by rw [List.length_take]; omega
        have hql := rdN_len hrd
        have Hrd := hidd hrd
        have HB4 := hidd hb4
        obtain ⟨e0, e1, e2, e3, hE4⟩ := take4_eq (q := r.drop m4) (by rw [List.length_drop]; omega)
        rw [hE4] at hby5
        have hO := h5.old
        have c0 : wc.cell? ⟨b5, off5, none⟩ = some (.int .u8 (e0.toNat : Int)) := by have := hby5.old hO hl5 0 (by simp); simpa using this
        have c1 : wc.cell? ⟨b5, off5 + 1, none⟩ = some (.int .u8 (e1.toNat : Int)) := by have := hby5.old hO hl5 1 (by simp); simpa using this
        have c2 : wc.cell? ⟨b5, off5 + 2, none⟩ = some (.int .u8 (e2.toNat : Int)) := by have := hby5.old hO hl5 2 (by simp); simpa using this
        have c3 : wc.cell? ⟨b5, off5 + 3, none⟩ = some (.int .u8 (e3.toNat : Int)) := by have := hby5.old hO hl5 3 (by simp); simpa using this
        have hb5c : b5 < wc.heap.size := Nat.lt_of_lt_of_le hl5 hO.size
        have hBp : (r.take m4 = [] ∧ ∃ a c', (Value.slice a4 (r.take m4).length c4) = .slice a 0 c') ∨ ∃ b off c', (Value.slice a4 (r.take m4).length c4) = .slice (some ⟨b, off, none⟩) (r.take m4).length c' ∧ (r.take m4).length ≤ c' ∧ b < wc.heap.size ∧ BytesAt wc b off (r.take m4) := by
          rcases hb4 with h0 | ⟨b, off, rfl, h1, h2, h3⟩
          · refine Or.inl ⟨by rw [h0]; rfl, a4, c4, by rw [hpl, h0]⟩
          · exact Or.inr ⟨b, off, c4, rfl, by omega, Nat.lt_of_lt_of_le h2 hO.size, h3.old hO h2⟩
        have HBp := hidd hBp
        have hlim := sumL_lt (r.take m4)
        have HSu : Hid (∀ W', Below wc.heap.size wc W' → Calls Tryz.prog 20 #[.slice a4 m4 c4] W' fun e w' => e = .returned (.agg #[.int .u8 ((sumL (r.take m4) / 16777216 : Nat) : Int), .int .u8 ((sumL (r.take m4) / 65536 % 256 : Nat) : Int), .int .u8 ((sumL (r.take m4) / 256 % 256 : Nat) : Int), .int .u8 ((sumL (r.take m4) % 256 : Nat) : Int)]) ∧ Below W'.heap.size W' w') := by
          intro W' hW'
          rcases hBp with ⟨h0, _⟩ | ⟨b, off, c', e, h1, h2, h3⟩
          · rw [h0]
            have hm0 : m4 = 0 := by rw [← hpl, h0]; rfl
            subst hm0
            exact sumBytes_nil a4 c4 W'
          · simp only [Value.slice.injEq, true_and] at e
            obtain ⟨rfl, rfl⟩ := e
            have := sumBytes_any b off c4 (r.take m4) W' (h3.below hW') (Nat.lt_of_lt_of_le h2 hW'.size)
            rw [hpl] at this
            exact this
        have HEq := hidd (four_iff (sumL (r.take m4)) hlim e0 e1 e2 e3)
        have HE4 := hidd hE4
        clear hbx h5 hby5 hE4 hrd hb4 hBp hO
        obtain ⟨sm, hsm⟩ : ∃ sm, sumL (r.take m4) = sm := ⟨_, rfl⟩
        rw [hsm] at HSu hlim HEq
        have Hsm := hidd hsm
        clear hsm
        have xa := fun W => arr4_run (some ⟨b5, off5, none⟩) c5 W
        have xe := fun W => eq4_run W ((sm : Int) / 16777216) ((sm : Int) / 65536 % 256) ((sm : Int) / 256 % 256) ((sm : Int) % 256) (e0.toNat : Int) (e1.toNat : Int) (e2.toNat : Int) (e3.toNat : Int)
        have HT : Hid ((!((sm : Int) / 16777216 == (e0.toNat : Int) && ((sm : Int) / 65536 % 256 == (e1.toNat : Int) && ((sm : Int) / 256 % 256 == (e2.toNat : Int) && (sm : Int) % 256 == (e3.toNat : Int))))) = true ↔ ¬ four sm = [e0, e1, e2, e3]) := by
          rw [HEq.out]
          simp only [Bool.not_eq_true', ← Bool.not_eq_true, Bool.and_eq_true, beq_iff_eq]
          refine not_congr ⟨fun h => ⟨by omega, by omega, by omega, by omega⟩, fun h => ⟨by omega, by omega, by omega, by omega⟩⟩
        go_upto_region 3 with fail
        go_cut [30] (fun cv wy => ∃ T : Bool, cv = .bool T ∧ (T = true ↔ ¬ four sm = [e0, e1, e2, e3]) ∧ Below wc.heap.size wc wy)
        case first =>
          go_region_with (go_at_call 20; refine (HSu.out _ (by first | exact below_drewN (Below.refl _ _) 1 | exact Below.refl _ _)).mono ?_; rintro e w6 ⟨rfl, hb6⟩; have HB6 := hidd hb6; have d0 := (hb6.cell (p := ⟨b5, off5, none⟩) (by first | exact hb5c | simpa using hb5c)).trans c0; have d1 := (hb6.cell (p := ⟨b5, off5 + 1, none⟩) (by first | exact hb5c | simpa using hb5c)).trans c1; have d2 := (hb6.cell (p := ⟨b5, off5 + 2, none⟩) (by first | exact hb5c | simpa using hb5c)).trans c2; have d3 := (hb6.cell (p := ⟨b5, off5 + 3, none⟩) (by first | exact hb5c | simpa using hb5c)).trans c3; clear hb6)
          all_goals
            go_wp2_with fail
            go_meet
            exact ⟨_, rfl, by have h := HT.out; simp only [Bool.not_and] at h; exact h, by first | exact HB6.out | exact (below_drewN (Below.refl _ _) 1).trans HB6.out | exact below_drewN HB6.out 1⟩
        case rest =>
          obtain ⟨T, rfl, hT, hbw⟩ := hcut
          have HBw := hidd hbw
          have HA6 := hidd (blko HA5.out hbw)
          have H6 := hidd (H5.out.below hbw)
          have hA0 := HA0.out
          have hfin := fun (w' : World) (hs : wc.heap.size ≤ w'.heap.size) (hw : ∀ b, b < wc.heap.size → b ≠ A0 → w'.heap[b]? = wc.heap[b]?) => RdFr.fin HA0.out HBa.out (HF5.out.trans (RdFr.ofB hbw)) hw hs
          have HFin := hidd hfin
          have HSuf : Hid (∀ W', Below wc.heap.size wc W' → Below w0.heap.size w0 W') := fun W' h => H6.out.old.trans (h.mono H6.out.old.size)
          clear hbw hfin HSu xa xe HT c0 c1 c2 c3 y1 HA5 H5 HF5
          cases T with
          | true =>
            have HNo := hidd (recN_no3 Hrd.out (by rw [Hsm.out, HE4.out]; exact hT.1 rfl))
            have z0 := blkc HA6.out 0
            have z1 := blkc HA6.out 1
            have z2 := blkc HA6.out 2
            have z3 := blkc HA6.out 3
            have z4 := blkc HA6.out 4
            have g0 := blkf HA6.out 0
            have g1 := blkf HA6.out 1
            have g2 := blkf HA6.out 2
            have g3 := blkf HA6.out 3
            have g4 := blkf HA6.out 4
            clear hT
            go_wp2_with fail
            refine bodyPost_ret (v := .tuple #[.agg #[.int .i64 0, .int .i64 0, .string ⟨#[]⟩, .string ⟨#[]⟩, .slice none 0 0], .bool false]) (by simp [results, Tryz.results24, go_sem, *]) rfl ?_
            show RdP w0 W B bs _ (setRec wc A0 0 0 [] [] none 0 0)
            exact ⟨0, 0, [], [], none, 0, [], [], W.heap.size, false, rfl, Nat.le_refl _, AnsV.nil _ _ _, setRec_below H6.out.old (by omega) _ _ _ _ _ _ _, HFin.out _ (by rw [setRec_size]; exact Nat.le_refl _) (fun b h1 h2 => setRec_oth _ _ _ _ _ _ _ _ _ _ h2), Or.inr ⟨rfl, HNo.out⟩⟩
          | false =>
            have hs4 : four (sumL (r.take m4)) = (r.drop m4).take 4 := by
              rw [Hsm.out, HE4.out]
              exact Classical.byContradiction fun h => by have := hT.2 h; cases this
            have HYes := hidd (recN_yes Hrd.out hle hs4)
            have HRc : Hid (Calls Tryz.prog 52 #[.slice a4 m4 c4] wc (RecP wc (r.take m4))) := by
              have := recordOf_any (w0 := wc) (a0 := a4) (c := c4) (p := r.take m4) ⟨HE.out.at H6.out.old, by have := HE.out.2; have := H6.out.old.size; omega⟩ (by omega) (by
                rcases HBp.out with h | ⟨b, off, c', h1, h2, h3, h4⟩
                · exact Or.inl h
                · exact Or.inr ⟨b, off, c', h1, h2, Nat.lt_of_lt_of_le h3 HBw.out.size, h4.below HBw.out⟩)
              rw [hpl] at this
              exact this
            clear hT hs4 HBp
            go_wp2_with fail
            refine HRc.out.mono ?_
            rintro e w7 ⟨hb7, kd, sq, id, did, aV, cV, V, xs, lo, ok, rfl, hlo, hans, hp⟩
            have hA7 := blko HA6.out hb7
            have z0 := blkc hA7 0
            have z1 := blkc hA7 1
            have z2 := blkc hA7 2
            have z3 := blkc hA7 3
            have z4 := blkc hA7 4
            have g0 := blkf hA7 0
            have g1 := blkf hA7 1
            have g2 := blkf hA7 2
            have g3 := blkf hA7 3
            have g4 := blkf hA7 4
            have HB7 := hidd hb7
            have HAns := hidd hans
            have HP := hidd hp
            have hz7 := hb7.size
            have hAl7 : A0 < wc.heap.size := (Array.getElem?_eq_some_iff.1 HA6.out).1
            clear hb7 hans hp hA7 HRc
            dsimp only
            go_wp2_with fail
            refine bodyPost_ret (v := .tuple #[.agg #[.int .i64 kd, .int .i64 sq, .string ⟨id.toArray⟩, .string ⟨did.toArray⟩, .slice aV V.length cV], .bool ok]) (by simp [results, Tryz.results24, go_sem, *]) rfl ?_
            show RdP w0 W B bs _ (setRec w7 A0 kd sq id did aV V.length cV)
            refine ⟨kd, sq, id, did, aV, cV, V, xs, lo, ok, rfl, by omega, ?_, setRec_below (HSuf.out _ HB7.out) (by omega) _ _ _ _ _ _ _, HFin.out _ (by rw [setRec_size]; exact hz7) (fun b h1 h2 => (setRec_oth _ _ _ _ _ _ _ _ _ _ h2).trans (HB7.out.block b h1)), ?_⟩
            · rw [setRec_size]
              exact HAns.out.keep fun b h1 h2 => setRec_oth _ _ _ _ _ _ _ _ _ _ (by omega)
            · rcases HP.out with ⟨h1, h2⟩ | ⟨h1, h2⟩
              · refine Or.inl ⟨h1, r.drop (m4 + 4), ?_, ?_⟩
                · rw [HYes.out, h2]
                · have h7 := H6.out.below HB7.out
                  exact h7.keep (setRec_below (HSuf.out _ HB7.out) (by omega) _ _ _ _ _ _ _) (setRec_oth _ _ _ _ _ _ _ _ _ _ (by omega))
              · exact Or.inr ⟨h1, by rw [HYes.out, h2]⟩
end Go.Proofs.YtpdiaddgialanaaGreatDoor
