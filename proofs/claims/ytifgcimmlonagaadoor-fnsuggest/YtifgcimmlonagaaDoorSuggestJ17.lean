import Derived.Test.YtifgcimmlonagaaDoorSuggestJ15
import Derived.Test.YtifgcimmlonagaaDoorSuggestJ16
namespace Go.Proofs.YtifgcimmlonagaaDoor
open Go Go.RowKit
set_option linter.unusedVariables false
set_option maxRecDepth 100000
set_option linter.unusedSimpArgs false

theorem decodeGo_enc (x : Int) (c : List Int) (h : chr x = true) : Lib.decodeGo (bs (encs (x :: c))) = (x.toNat, (Lib.encodeRune x).length) := by
  have hl := encodeRune_length x
  have hs : ¬ (bs (encs (x :: c))).size = 0 := by rw [bs_size, encs_cons, List.length_append]; omega
  rw [Lib.decodeGo, if_neg hs, ← Lib.decodeL_drop, List.drop_zero]
  show Lib.decodeL (encs (x :: c)) = _
  rw [encs_cons]
  exact decode_encode x h _
theorem Mv.keep {p base : Nat} {w w' : World} {v v' : Value} (h : Mv p w v w' v') (hv : ∀ b, v.ownBlock = some b → base ≤ b) {b : Nat} (hb : b < base) (hp : b ≠ p) (hl : b < w.heap.size) : w'.heap[b]? = w.heap[b]? :=
  h.but.block b hl (fun e => by
    rcases e with e | e
    · exact hp e
    · have := hv b e; omega)
theorem Tabs.mv {p base : Nat} {w w' : World} {v v' : Value} (ht : Tabs w) (h : Mv p w v w' v') (hv : ∀ b, v.ownBlock = some b → base ≤ b) (hp : 1 < p) (hb : 1 < base) : Tabs w' := by
  have k : ∀ b, b < 2 → ∀ j u, w.cell? ⟨b, j, none⟩ = some u → w'.cell? ⟨b, j, none⟩ = some u := fun b hb2 j u hc => by
    have hk := h.keep (b := b) hv (by omega) (by omega) (cell_lt hc)
    exact (World.cell?_of_block (a := ⟨b, j, none⟩) hk).trans hc
  exact ⟨fun c hc => k 0 (by omega) _ _ (ht.1 c hc), fun i hi => ⟨k 1 (by omega) _ _ (ht.2 i hi).1, k 1 (by omega) _ _ (ht.2 i hi).2⟩⟩
/-- What stays while words are walked. -/
structure Fix (w : World) (base pw : Nat) (sa : Option Addr) (a : List Int) : Prop where
  text : TxAt w sa a
  tabs : Tabs w
theorem Fix.mv {base pw : Nat} {w w' : World} {v v' : Value} {sa : Option Addr} {a : List Int} (h : Fix w base pw sa a) (hm : Mv pw w v w' v') (hv : ∀ b, v.ownBlock = some b → base ≤ b) (hsa : ∀ g off, sa = some ⟨g, off, none⟩ → g < base ∧ g ≠ pw) (hp : 1 < pw) (hb : pw < base) : Fix w' base pw sa a := by
  refine ⟨?_, h.tabs.mv hm hv hp (by omega)⟩
  rcases h.text with h1 | ⟨g, off, h1, h2, h3⟩
  · exact .inl h1
  · have hg := hsa g off h1
    exact .inr ⟨g, off, h1, Nat.lt_of_lt_of_le h2 hm.but.size, fun t ht => (World.cell?_of_block (a := ⟨g, off + t, none⟩) (hm.keep hv hg.1 hg.2 h2)).trans (h3 t ht)⟩
theorem Fix.below {base pw : Nat} {w w' : World} {sa : Option Addr} {a : List Int} (h : Fix w base pw sa a) (hb : Below w.heap.size w w') : Fix w' base pw sa a := ⟨h.text.below hb, h.tabs.below hb⟩
theorem Sv.mv {base pw : Nat} {w w' : World} {v v' wv : Value} {W : List (List Int)} (h : Sv w base pw wv W) (hm : Mv pw w v w' v') (hv : ∀ b, v.ownBlock = some b → base ≤ b) : Sv w' base pw wv W := by
  obtain ⟨s, cw, h1, h2, h3, h4⟩ := h
  refine ⟨s, cw, h1, h2, ?_, h4⟩
  rcases h3 with h5 | ⟨g, off, h5, h6, h7⟩
  · exact .inl h5
  · by_cases hW : W = []
    · exact .inl hW
    · have hg := h4 hW g off h5
      exact .inr ⟨g, off, h5, Nat.lt_of_lt_of_le h6 hm.but.size, fun t ht => (World.cell?_of_block (a := ⟨g, off + t, none⟩) (hm.keep hv hg.1 hg.2 h6)).trans (h7 t ht)⟩
theorem NwAt.vb {w : World} {base pw : Nat} {s : Option Addr} {ca : Nat} {a : List Int} {v : Value} {E : List NW} (h : NwAt w base pw s ca a v E) : ∀ b, v.ownBlock = some b → base ≤ b := fun b e => (h.row.lt b e).1
theorem Sv.below {base pw : Nat} {w w' : World} {wv : Value} {W : List (List Int)} (h : Sv w base pw wv W) (hb : Below w.heap.size w w') : Sv w' base pw wv W := by
  obtain ⟨s, cw, h1, h2, h3, h4⟩ := h
  exact ⟨s, cw, h1, h2, h3.below hb, h4⟩
def WalkC (a : List Int) (base pw : Nat) (sa : Option Addr) (ca m : Nat) : Prop := ∀ (b : List Int) (W : List (List Int)) (wv : Value) (E : List NW) (v : Value) (w : World),
  b.length + m ≤ 100000 → WOk b m W → Sv w base pw wv W → NwAt w base pw sa ca a v E → Fix w base pw sa a → base ≤ w.heap.size → E.length + W.length ≤ 100000 →
  Calls Tryd.prog 27 #[.pointer (some ⟨pw, 0, none⟩), wv, .int .i64 ((encs b).length : Int), nsV a b] w fun e w' => e = .returned (.tuple #[]) ∧ ∃ v', NwAt w' base pw sa ca a v' (E ++ foundW a W) ∧ Mv pw w v w' v'
theorem eq5 (W : World) : (Op.equalIn 9999 53 (.agg #[.int .i64 0, .int .i64 0, .int .i64 0, .int .i64 0, .int .i64 0]) (.agg #[.int .i64 0, .int .i64 0, .int .i64 0, .int .i64 0, .int .i64 0])).run Tryd.prog W = .ok true W := by kernel_rfl
theorem take_all {W : List (List Int)} {n d : Nat} {x : Int} (hn : n ≤ W.length) (h : ∀ j, j < n → (W.getD j []).getD d 0 = x) : ∀ rs ∈ W.take n, rs.getD d 0 = x := by
  intro rs hr
  obtain ⟨j, hj, rfl⟩ := List.getElem_of_mem hr
  rw [List.length_take] at hj
  have := h j (by omega)
  rw [List.getD_eq_getElem?_getD (l := W), List.getElem?_eq_getElem (by omega)] at this
  rw [List.getElem_take]
  exact this
theorem exec_sliceTo (W : World) (ρ : Operand → Value) (o : Oper) (x y : Operand) (ho : o.op = .slice 23 x none (some y) none) (ad : Addr) (L cw n : Nat) (hx : ρ x = .slice (some ad) L cw) (hy : ρ y = .int .i64 (n : Int)) (h1 : n ≤ cw) : (execOp ρ o).run Tryd.prog W = .ok (.value (.slice (some ad) n cw)) W := by
  unfold execOp
  simp only [ho, Option.map_some, Option.map_none, hx, hy, Sem.run_bind, Sem.run_pure, Result.andThen_ok]
  go_simp
theorem exec_addI (W : World) (ρ : Operand → Value) (o : Oper) (x y : Operand) (ho : o.op = .binOp .add 3 x y 3) (p q : Int) (hx : ρ x = .int .i64 p) (hy : ρ y = .int .i64 q) (h0 : 0 ≤ p + q) (h1 : p + q ≤ 1000000000) : (execOp ρ o).run Tryd.prog W = .ok (.value (.int .i64 (p + q))) W := by
  unfold execOp
  have hw : IntKind.i64.wrap (p + q) = p + q := IntWalk.i64_in _ ⟨by omega, by omega⟩
  simp only [ho, hx, hy, Sem.run_bind, Sem.run_pure, Result.andThen_ok]
  go_simp
theorem exec_loadNst (W : World) (ρ : Operand → Value) (o : Oper) (x : Operand) (ho : o.op = .load 55 x) (b : Nat) (u0 u1 u2 u3 u4 u5 : Value) (hx : ρ x = .pointer (some ⟨b, 0, none⟩))
    (h0 : W.cell? ⟨b, 0, none⟩ = some u0) (h1 : W.cell? ⟨b, 1, none⟩ = some u1) (h2 : W.cell? ⟨b, 2, none⟩ = some u2) (h3 : W.cell? ⟨b, 3, none⟩ = some u3) (h4 : W.cell? ⟨b, 4, none⟩ = some u4) (h5 : W.cell? ⟨b, 5, none⟩ = some u5) : (execOp ρ o).run Tryd.prog W = .ok (.value (.agg #[u0, u1, u2, u3, u4, u5])) W := by
  unfold execOp
  simp only [ho, Instr.loadAt, Instr.sureAddr, hx, Sem.run_bind, Sem.run_pure, Result.andThen_ok]
  go_simp
def vlenW : Value → Nat
  | .slice _ n _ => n
  | _ => 0
/-- What the loop has. -/
structure WkInv (a b : List Int) (base pw : Nat) (sa : Option Addr) (ca m : Nat) (w : World) (v0 : Value) (Z : List NW) (W : List (List Int)) (wv : Value) (W2 : List (List Int)) (E2 : List NW) (v2 : Value) (wr : World) : Prop where
  sv : Sv wr base pw wv W2
  ok : WOk b m W2
  ne : ∀ rs ∈ W2, rs ≠ b
  res : E2 ++ foundW a W2 = Z
  nw : NwAt wr base pw sa ca a v2 E2
  mv : Mv pw w v0 wr v2
  box : wr.heap[w.heap.size]? = some (.cells (nsC (b.length : Int) (bF a b)) 55)
  fx : Fix wr base pw sa a
  len : E2.length + W2.length ≤ 100000
set_option maxHeartbeats 16000000 in
theorem walk_step (a : List Int) (base pw : Nat) (sa : Option Addr) (ca m : Nat) (hal : a.length ≤ 200) (hsa : ∀ g off, sa = some ⟨g, off, none⟩ → g < base ∧ g ≠ pw) (hp1 : 1 < pw) (hpb : pw < base) (hIH : ∀ k, m = k + 1 → WalkC a base pw sa ca k) : WalkC a base pw sa ca m := by
  intro b W wv E v w hbm hok hsv hnw hfx hbw hel
  have HIH := hidd hIH
  have HSA := hidd hsa
  have HOK := hidd hok
  have HSV := hidd hsv
  have HNW := hidd hnw
  have HFX := hidd hfx
  obtain ⟨Z, hZ⟩ : ∃ Z, E ++ foundW a W = Z := ⟨_, rfl⟩
  rw [hZ]
  have HZ := hidd hZ
  have hV0 : nsV a b = .agg (nsC (b.length : Int) (bF a b)) := rfl
  rw [hV0]
  have Hb0 := hidd (heap_alloc_new w (.cells (nsC (b.length : Int) (bF a b)) 55))
  have HB0 : Hid (Below w.heap.size w (w.alloc (.cells (nsC (b.length : Int) (bF a b)) 55))) := (Below.refl _ _).alloc (Nat.le_refl _) _
  have hdb : (encs b).length ≤ 400000 := by have := encs_le b; omega
  clear hV0 hZ hIH hsa hok hnw hfx
  have hsv' := hsv
  obtain ⟨s, cw, rfl, hcw, hT, hg⟩ := hsv'
  have HT := hidd hT
  clear hT hg hsv
  unfold nsC at Hb0 HB0
  go_enter Tryd.func27, Tryd.ntmps27
  unfold nsC
  go_upto_region 1 with fail
  generalize w.alloc (.cells #[Value.int .i64 (b.length : Int), .int .i64 (bF a b 0), .int .i64 (bF a b 1), .int .i64 (bF a b 2), .int .i64 (bF a b 3), .int .i64 (bF a b 4)] 55) = w0 at *
  obtain ⟨q, hq⟩ : ∃ q : Bool, (match W with | [] => false | x :: _ => decide (x = b)) = q := ⟨_, rfl⟩
  go_cut [22] (fun c wy => c = .bool q ∧ wy = w0)
  case first =>
    cases W with
    | nil =>
      have Hq : Hid (false = q) := hq
      clear hq
      simp only [List.length_nil]
      go_wp2_with fail
      go_meet
      case rel => exact ⟨by rw [← Hq.out], rfl⟩
    | cons x W' =>
      obtain ⟨⟨c, hc⟩, hl, hch⟩ := HOK.out.1 x (by simp)
      obtain ⟨g, off, rfl, hgl, hcs⟩ := HT.out.resolve_left (by simp)
      have x0 := (HB0.out.cell (p := ⟨g, off + 0, none⟩) hgl).trans (hcs 0 (by simp))
      simp only [List.getD_cons_zero, Nat.add_zero] at x0
      have hsz : (bs (encs x)).size = (encs x).length := bs_size _
      have hxl : (encs x).length ≤ 400000 := by have := encs_le x; omega
      have hqq : (((encs x).length : Int) == ((encs b).length : Int)) = q := by
        rw [← hq]
        simp only
        by_cases e : x = b
        · rw [e]; simp
        · have hne : ¬ (encs x).length = (encs b).length := by
            rw [hc, encs_append, List.length_append]
            intro h2
            have h3 := (encs_len_zero c).1 (by omega)
            rw [h3, List.append_nil] at hc
            exact e hc
          rw [decide_eq_false e, beq_eq_false_iff_ne]
          omega
      have hpos : ((W'.length + 1 : Nat) : Int) > 0 := by omega
      have hpos2 : (0 : Int) < ((W'.length + 1 : Nat) : Int) := by omega
      clear hcs hc hq
      generalize bs (encs x) = S0 at *
      simp only [List.length_cons] at *
      go_wp2_with fail
      go_meet
      case rel => exact ⟨by rw [← hqq], rfl⟩
  case rest =>
    obtain ⟨rfl, hww⟩ := hcut
    obtain rfl := hww.symm
    clear hww
    go_upto_if 22 with fail
    go_cut [1] (fun wv wy => ∃ W2 E2 v2, WkInv a b base pw sa ca m w v Z W wv W2 E2 v2 wy)
    case first =>
      have HN0 := hidd (HNW.out.below HB0.out)
      have HF0 := hidd (HFX.out.below HB0.out)
      have HM0 : Hid (Mv pw w v w0 v) := Mv.of_below HB0.out
      have HS0 : Hid (Sv w0 base pw (.slice s W.length cw) W) := HSV.out.mv HM0.out HNW.out.vb
      cases q with
      | false =>
        have Hne : Hid (∀ rs ∈ W, rs ≠ b) := by
          cases W with
          | nil => exact fun rs h => by cases h
          | cons x W' =>
            intro rs hr
            rcases List.mem_cons.1 hr with rfl | hr
            · exact of_decide_eq_false hq
            · exact HOK.out.tail rs hr
        clear hq
        go_wp2_with fail
        go_meet
        case rel => exact ⟨W, E, v, HS0.out, HOK.out, Hne.out, HZ.out, HN0.out, HM0.out, Hb0.out, HF0.out, hel⟩
      | true =>
        cases W with
        | nil => cases hq
        | cons x W' =>
          have hxb : x = b := of_decide_eq_true hq
          subst hxb
          clear hq
          obtain ⟨g, off, rfl, hgl, hcs⟩ := HT.out.resolve_left (by simp)
          have x0 := (HB0.out.cell (p := ⟨g, off + 0, none⟩) hgl).trans (hcs 0 (by simp))
          simp only [List.getD_cons_zero, Nat.add_zero] at x0
          obtain ⟨d0, d1, d2, d3, d4, d5⟩ := six (r := (x.length : Int)) (f := bF a x) Hb0.out
          have hl0 := (Array.getElem?_eq_some_iff.1 Hb0.out).1
          have hgb : g < base ∧ g ≠ pw := by
            obtain ⟨s', cw', e1, _, _, e4⟩ := HSV.out
            simp only [Value.slice.injEq] at e1
            exact e4 (by simp) g off e1.1.symm
          have hg0 : g < w0.heap.size := Nat.lt_of_lt_of_le hgl HB0.out.size
          have HMt : Hid (∀ W1, Below w0.heap.size w0 W1 → Calls Tryd.prog 42 #[.pointer (some ⟨pw, 0, none⟩), .string (bs (encs x)), .agg #[.int .i64 (x.length : Int), .int .i64 (bF a x 0), .int .i64 (bF a x 1), .int .i64 (bF a x 2), .int .i64 (bF a x 3), .int .i64 (bF a x 4)]] W1 fun e w' => e = .returned (.tuple #[]) ∧ ∃ v', NwAt w' base pw sa ca a v' (E ++ meetE a x (encs x)) ∧ Mv pw w v w' v' ∧ w'.heap[g]? = w0.heap[g]? ∧ w'.heap[w.heap.size]? = w0.heap[w.heap.size]?) := by
            intro W1 h
            have hz1 := h.size
            have hz2 := HB0.out.size
            refine (meet_any a x (encs x) base pw sa ca v E W1 hal (by omega) (by omega) (by omega) (HN0.out.below h)).mono ?_
            rintro e w' ⟨rfl, v', hn', hm'⟩
            refine ⟨rfl, v', hn', HM0.out.trans ((Mv.of_below h).trans hm'), ?_, ?_⟩
            · rw [hm'.keep HNW.out.vb hgb.1 hgb.2 (by omega), h.block g hg0]
            · rw [hm'.but.block _ (by omega) (fun e => ?_), h.block _ hl0]
              rcases e with e | e
              · omega
              · obtain ⟨_, cur, hc⟩ := own_blk (HN0.out.below h).row e
                exact blk_ne (blko Hb0.out h) hc (by decide) rfl
          generalize bs (encs x) = S0 at *
          clear hcs
          go_upto_region 2 with fail
          go_region_held3 (fun W1 => W1.cell? ⟨g, off, none⟩ = some (.string S0) ∧ W1.cell? ⟨w.heap.size, 0, none⟩ = some (.int .i64 (x.length : Int)) ∧ W1.cell? ⟨w.heap.size, 1, none⟩ = some (.int .i64 (bF a x 0)) ∧ W1.cell? ⟨w.heap.size, 2, none⟩ = some (.int .i64 (bF a x 1)) ∧ W1.cell? ⟨w.heap.size, 3, none⟩ = some (.int .i64 (bF a x 2)) ∧ W1.cell? ⟨w.heap.size, 4, none⟩ = some (.int .i64 (bF a x 3)) ∧ W1.cell? ⟨w.heap.size, 5, none⟩ = some (.int .i64 (bF a x 4)))
            (first | exact ⟨x0, d0, d1, d2, d3, d4, d5⟩ | exact S1.out | go_keep)
            ((go_at_call 42; refine (HMt.out _ (by first | exact Below.refl _ _ | exact below_drewN (Below.refl _ _) 1)).mono ?_; rintro e w' ⟨rfl, v', hn', hm', hk1, hk2⟩; have HN' := hidd hn'; have HM' := hidd hm'; have HK1 := hidd hk1; have HK2 := hidd hk2; have S1 := hidd (And.intro ((World.cell?_of_block (a := ⟨g, off, none⟩) hk1).trans x0) (And.intro ((World.cell?_of_block (a := ⟨w.heap.size, 0, none⟩) hk2).trans d0) (And.intro ((World.cell?_of_block (a := ⟨w.heap.size, 1, none⟩) hk2).trans d1) (And.intro ((World.cell?_of_block (a := ⟨w.heap.size, 2, none⟩) hk2).trans d2) (And.intro ((World.cell?_of_block (a := ⟨w.heap.size, 3, none⟩) hk2).trans d3) (And.intro ((World.cell?_of_block (a := ⟨w.heap.size, 4, none⟩) hk2).trans d4) ((World.cell?_of_block (a := ⟨w.heap.size, 5, none⟩) hk2).trans d5))))))); clear hn' hm' hk1 hk2))
          all_goals
            have HSn := hidd (HSV.out.mv HM'.out HNW.out.vb)
            have HFn := hidd (HFX.out.mv HM'.out HNW.out.vb HSA.out hp1 hpb)
            clear S1 x0 d0 d1 d2 d3 d4 d5
            simp only [List.length_cons] at HSn ⊢
            go_upto_region 3 with fail
            generalize Value.slice (some ⟨g, off, none⟩) (W'.length + 1) cw = wv at *
            have hl1 : 1 ≤ (x :: W').length := by simp
            have hl2 : (x :: W').length ≤ 1048576 := by simp only [List.length_cons] at hel ⊢; omega
            go_wp2_with (first | (refine wpSv_from rfl _ _ rfl _ (x :: W') 1 rfl rfl HSn.out hl1 (Nat.le_refl _) hl2 ?_; intro v3 hv3; have HS3 := hidd hv3; clear hv3))
            go_meet
            refine ⟨W', E ++ meetE a x (encs x), v', HS3.out, HOK.out.sub (List.sublist_cons_self _ _), HOK.out.tail, ?_, HN'.out, HM'.out, HK2.out.trans Hb0.out, HFn.out, ?_⟩
            · rw [← HZ.out, foundW_cons, List.append_assoc]; rfl
            · have : (meetE a x (encs x)).length ≤ 1 := by unfold meetE; split <;> simp
              rw [List.length_append]
              simp only [List.length_cons] at hel
              omega
    case rest =>
      obtain ⟨W2, E2, v2, hinv⟩ := hcut
      have HI := hidd hinv
      clear hinv HT HSV HNW HFX Hb0 HB0 hq
      go_wp2_with fail
      go_loopw [1] (fun wv wr => ∃ W2 E2 v2, WkInv a b base pw sa ca m w v Z W wv W2 E2 v2 wr) (fun wv _ => vlenW wv)
      case atStart => exact ⟨W2, E2, v2, HI.out⟩
      case round =>
        clear HI
        obtain ⟨W3, E3, v3, hinv⟩ := hrel
        have HI := hidd hinv
        obtain ⟨s3, cw3, rfl, hcw3, hT3, hg3⟩ := hinv.sv
        by_cases hW3 : W3 = []
        · subst hW3
          have HE : Hid (E3 = Z) := by
            show _ = _
            have := hinv.res
            rw [foundW_nil, List.append_nil] at this
            exact this
          clear hinv hT3 hg3
          simp only [List.length_nil] at *
          go_wp2_with fail
          go_end0
          exact ⟨rfl, v3, by rw [← HE.out]; exact HI.out.nw, HI.out.mv⟩
        · have hpos : 0 < W3.length := List.length_pos_iff.2 hW3
          obtain ⟨x, c, e0, hx, hx', hl0, hch⟩ := hinv.ok.form hinv.ne hpos
          obtain ⟨k, hk⟩ : ∃ k, m = k + 1 := by
            have hm0 : W3.getD 0 [] ∈ W3 := by
              rw [List.getD_eq_getElem?_getD, List.getElem?_eq_getElem hpos]
              exact List.getElem_mem hpos
            have := (hinv.ok.1 _ hm0).2.1
            rw [e0, List.length_append, List.length_cons] at this
            exact ⟨m - 1, by omega⟩
          obtain ⟨g, off, rfl, hgl, hcs⟩ := hT3.resolve_left hW3
          have hgb := hg3 hW3 g off rfl
          have x0 := hcs 0 hpos
          rw [e0, Nat.add_zero] at x0
          have hbz : (encs b).length ≤ (bs (encs (b ++ x :: c))).size := by rw [bs_size, encs_append, List.length_append]; omega
          have hzz : (bs (encs (b ++ x :: c))).size ≤ 1048576 := by rw [bs_size, ← e0]; omega
          have hsf := slice_from (bs (encs (b ++ x :: c))) (encs b).length hbz hzz
          rw [rest_ext] at hsf
          have hxb := (chr_iff x).1 hx
          obtain ⟨xn, hxn⟩ : ∃ xn : Nat, x.toNat = xn := ⟨_, rfl⟩
          have hxz : (xn : Int) = x := by omega
          have HDe : Hid (Calls Tryd.prog 43 #[.string (bs (encs (x :: c)))] wr fun e w' => e = .returned (.tuple #[.int .i32 (xn : Int), .int .i64 ((Lib.encodeRune x).length : Int)]) ∧ Below wr.heap.size wr w') := by
            have h := Tryd.utf8_DecodeRuneInString (bs (encs (x :: c))) wr hinv.fx.tabs
            rw [decodeGo_enc x c hx, hxn] at h
            exact h
          have hposz : (W3.length : Int) > 0 := by omega
          have hposz2 : (0 : Int) < (W3.length : Int) := by omega
          have hx31 : (xn : Int) ≤ 1114111 := by omega
          have hwl : W3.length ≤ 100000 := by have := hinv.len; omega
          have hbl2 : b.length ≤ 100000 := by omega
          have Hk := hidd hk
          have Hxz := hidd hxz
          have He0 := hidd e0
          have Hx := hidd hx
          have Hx' := hidd hx'
          have hel2 := encodeRune_length x
          clear hinv hT3 hg3 hcs hbz e0 hl0 hch hx hx' hk hxn hxb hxz hW3
          generalize bs (encs (b ++ x :: c)) = S0 at *
          generalize bs (encs (x :: c)) = S1 at *
          go_wp2_with fail
          refine HDe.out.mono ?_
          rintro e w2 ⟨rfl, hb2⟩
          have HB2 := hidd hb2
          have HAl := hidd (alike_any b m W3 x (some ⟨g, off, none⟩) cw3 w2 HI.out.ok HI.out.ne hpos Hx'.out (by
            obtain ⟨s', cw', e1, _, e3, _⟩ := HI.out.sv
            simp only [Value.slice.injEq] at e1
            rw [← e1.1] at e3
            exact e3.below hb2) (by omega) (by omega))
          clear hb2 HDe x0 hsf
          go_wp2_with fail
          refine HAl.out.mono ?_
          rintro e w3 ⟨n, rfl, hn1, hn2, hall, hw3⟩
          obtain rfl := hw3.symm
          have HAll := hidd hall
          obtain ⟨d0, d1, d2, d3, d4, d5⟩ := six (blko HI.out.box HB2.out)
          have HFo := hidd (follow_any a b x sa ca pw v3 w2 hal (by omega) (blko HI.out.nw.box HB2.out) (HI.out.fx.text.below HB2.out))
          have hV0 : nsV a b = .agg (nsC (b.length : Int) (bF a b)) := rfl
          rw [hV0] at HFo
          unfold nsC at HFo
          clear hall hw3 HAl hV0
          have hxz := Hxz.out
          go_wp2_with fail
          refine HFo.out.mono ?_
          rintro e w4 ⟨V, rfl, hV, hb4⟩
          have HB4 := hidd (HB2.out.trans (hb4.mono HB2.out.size))
          clear hb4 HFo d0 d1 d2 d3 d4 d5
          rcases hV with ⟨hd, rfl⟩ | ⟨hnd, rfl⟩
          · have HD := hidd hd
            clear hd
            have hE5 := eq5
            go_upto_region 10 with fail
            generalize hw5 : w4.alloc (.cells #[Value.int .i64 0, .int .i64 0, .int .i64 0, .int .i64 0, .int .i64 0, .int .i64 0] 55) = w5 at *
            have HB5 : Hid (Below wr.heap.size wr w5) := by rw [← hw5]; exact HB4.out.alloc (by have := HB4.out.size; omega) _
            have HS5 := hidd (HI.out.sv.below HB5.out)
            clear hw5 hE5
            generalize hwv : Value.slice (some ⟨g, off, none⟩) W3.length cw3 = wv3 at *
            have hvl : vlenW wv3 = W3.length := by rw [← hwv]; rfl
            clear hwv
            go_wp2_with (first | (refine wpSv_from rfl _ _ rfl _ W3 n rfl rfl HS5.out hn2 hn1 (by omega) ?_; intro v6 hv6; have HS6 := hidd hv6; clear hv6))
            go_roundw
            case rel =>
              have hsub : (W3.drop n).Sublist W3 := List.drop_sublist _ _
              refine ⟨W3.drop n, E3, v3, HS6.out, HI.out.ok.sub hsub, fun rs hr => HI.out.ne rs (hsub.subset hr), ?_, HI.out.nw.below HB5.out, HI.out.mv.trans (Mv.of_below HB5.out), blko HI.out.box HB5.out, HI.out.fx.below HB5.out, ?_⟩
              · have hres := HI.out.res
                rw [← List.take_append_drop n W3, foundW_append] at hres
                have hst : WOk (b ++ [x]) k (W3.take n) := by
                  have ho := HI.out.ok.sub (List.take_sublist n W3)
                  rw [Hk.out] at ho
                  exact ho.step (fun rs hr => HI.out.ne rs (List.mem_of_mem_take hr)) (take_all hn2 HAll.out)
                rw [foundW_dead a (b ++ [x]) k _ hst HD.out, List.nil_append] at hres
                exact hres
              · have := HI.out.len
                rw [List.length_drop]
                omega
            case measure =>
              obtain ⟨s', cw', e1, _, _, _⟩ := HS6.out
              rw [e1]
              show (W3.drop n).length < W3.length
              rw [List.length_drop]
              omega
          · have HND := hidd hnd
            clear hnd
            have hVV : nsV a (b ++ [x]) = .agg (nsC ((b.length : Int) + 1) (bF a (b ++ [x]))) := by
              unfold nsV
              rw [List.length_append, List.length_singleton]
              rfl
            have hst : WOk (b ++ [x]) k (W3.take n) := by
              have ho := HI.out.ok.sub (List.take_sublist n W3)
              rw [Hk.out] at ho
              exact ho.step (fun rs hr => HI.out.ne rs (List.mem_of_mem_take hr)) (take_all hn2 HAll.out)
            have HST := hidd hst
            have hkb : b.length + 1 + k ≤ 100000 := by have := Hk.out; omega
            have hen : ((encs (b ++ [x])).length : Int) = ((encs b).length : Int) + ((Lib.encodeRune x).length : Int) := by rw [encs_snoc, List.length_append]; omega
            have HIc : Hid (∀ W1, Below wr.heap.size wr W1 → Calls Tryd.prog 27 #[.pointer (some ⟨pw, 0, none⟩), .slice (some ⟨g, off, none⟩) n cw3, .int .i64 (((encs b).length : Int) + ((Lib.encodeRune x).length : Int)), .agg (nsC ((b.length : Int) + 1) (bF a (b ++ [x])))] W1 fun e w' => e = .returned (.tuple #[]) ∧ ∃ v', NwAt w' base pw sa ca a v' (E3 ++ foundW a (W3.take n)) ∧ Mv pw W1 v3 w' v' ∧ ∀ b2, b2 < W1.heap.size → b2 ≠ pw → v3.ownBlock ≠ some b2 → w'.heap[b2]? = W1.heap[b2]?) := by
              intro W1 h
              have hz1 := h.size
              have hz2 := HI.out.mv.but.size
              have hsv : Sv W1 base pw (.slice (some ⟨g, off, none⟩) n cw3) (W3.take n) := by
                obtain ⟨s', cw', e1, e2, e3, e4⟩ := HI.out.sv
                simp only [Value.slice.injEq] at e1
                obtain ⟨rfl, _, rfl⟩ := e1
                have hl : (W3.take n).length = n := by rw [List.length_take]; omega
                exact ⟨_, _, by rw [hl], by rw [hl]; omega, (e3.below h).take n, fun _ => e4 (fun e => by rw [e] at hpos; simp at hpos)⟩
              have hc := HIH.out k Hk.out (b ++ [x]) (W3.take n) (.slice (some ⟨g, off, none⟩) n cw3) E3 v3 W1 (by rw [List.length_append, List.length_singleton]; omega) HST.out hsv (HI.out.nw.below h) (HI.out.fx.below h) (by omega) (by have := HI.out.len; rw [List.length_take]; omega)
              rw [hen, hVV] at hc
              refine hc.mono ?_
              rintro e w' ⟨rfl, v', k1, k2⟩
              exact ⟨rfl, v', k1, k2, fun b2 h2 n1 n2 => k2.but.block b2 h2 (fun e => by
                rcases e with e | e
                · exact n1 e
                · exact n2 e)⟩
            rw [hVV]
            generalize bF a (b ++ [x]) = G at *
            unfold nsC at HIc ⊢
            have hb0 : ((b.length : Int) + 1 == 0) = false := by rw [beq_eq_false_iff_ne]; omega
            clear hVV hst hen
            go_upto_region 9 with fail
            generalize hw5 : w4.alloc (.cells #[Value.int .i64 ((b.length : Int) + 1), .int .i64 (G 0), .int .i64 (G 1), .int .i64 (G 2), .int .i64 (G 3), .int .i64 (G 4)] 55) = w5 at *
            have HB5 : Hid (Below wr.heap.size wr w5) := by rw [← hw5]; exact HB4.out.alloc (by have := HB4.out.size; omega) _
            have hbx5 : w5.heap[w4.heap.size]? = some (.cells (nsC ((b.length : Int) + 1) G) 55) := by rw [← hw5]; exact heap_alloc_new w4 _
            have Hbx5 := hidd hbx5
            have hz5 := (Array.getElem?_eq_some_iff.1 hbx5).1
            obtain ⟨d0, d1, d2, d3, d4, d5⟩ := six hbx5
            have hncw : n ≤ cw3 := by omega
            have hbs : w.heap.size < wr.heap.size := (Array.getElem?_eq_some_iff.1 HI.out.box).1
            have HCl : Hid (∀ W1, Below w5.heap.size w5 W1 → Calls Tryd.prog 27 #[.pointer (some ⟨pw, 0, none⟩), .slice (some ⟨g, off, none⟩) n cw3, .int .i64 (((encs b).length : Int) + ((Lib.encodeRune x).length : Int)), .agg #[.int .i64 ((b.length : Int) + 1), .int .i64 (G 0), .int .i64 (G 1), .int .i64 (G 2), .int .i64 (G 3), .int .i64 (G 4)]] W1 fun e w' => e = .returned (.tuple #[]) ∧ ∃ v', NwAt w' base pw sa ca a v' (E3 ++ foundW a (W3.take n)) ∧ Mv pw wr v3 w' v' ∧ w'.heap[w4.heap.size]? = w5.heap[w4.heap.size]? ∧ w'.heap[w.heap.size]? = wr.heap[w.heap.size]?) := by
              intro W1 h
              have hb1 : Below wr.heap.size wr W1 := HB5.out.trans (h.mono HB5.out.size)
              refine (HIc.out W1 hb1).mono ?_
              rintro e w' ⟨rfl, v', k1, k2, k3⟩
              have hvn : ∀ (b2 : Nat) (cs : Array Value), W1.heap[b2]? = some (.cells cs 55) → v3.ownBlock ≠ some b2 := fun b2 cs hc e => by
                obtain ⟨_, cur, hc2⟩ := own_blk (HI.out.nw.below hb1).row e
                exact blk_ne hc hc2 (by decide) rfl
              have hz1 := h.size
              have hzr := HB5.out.size
              have hz4 := HB4.out.size
              refine ⟨rfl, v', k1, (Mv.of_below hb1).trans k2, ?_, ?_⟩
              · rw [k3 w4.heap.size (by omega) (by have := HI.out.nw.lt; omega) (hvn _ _ (blko Hbx5.out h)), h.block _ hz5]
              · rw [k3 w.heap.size (by omega) (by omega) (hvn _ _ (blko HI.out.box hb1)), hb1.block _ hbs]
            clear hw5 hbx5
            refine wp_region_held_drew (S := fun W1 => W1.cell? ⟨w4.heap.size, 0, none⟩ = some (.int .i64 ((b.length : Int) + 1)) ∧ W1.cell? ⟨w4.heap.size, 1, none⟩ = some (.int .i64 (G 0)) ∧ W1.cell? ⟨w4.heap.size, 2, none⟩ = some (.int .i64 (G 1)) ∧ W1.cell? ⟨w4.heap.size, 3, none⟩ = some (.int .i64 (G 2)) ∧ W1.cell? ⟨w4.heap.size, 4, none⟩ = some (.int .i64 (G 3)) ∧ W1.cell? ⟨w4.heap.size, 5, none⟩ = some (.int .i64 (G 4))) (by kernel_rfl) ?_ (fun hHeld => ?_)
            · exact ⟨d0, d1, d2, d3, d4, d5⟩
            refine tkX 0 (h := ?_)
            refine tkX 1 (h := ?_)
            refine tkX 2 (h := ?_)
            (simp only [Act.put, List.getElem_toArray, List.getElem_cons_succ, List.getElem_cons_zero, List.setIfInBounds_toArray, List.set_cons_zero, List.set_cons_succ])
            refine tkW 3 (v := .slice (some ⟨g, off, none⟩) n cw3) (hx := fun W1 _ => exec_sliceTo W1 _ _ _ _ rfl ⟨g, off, none⟩ W3.length cw3 n (by kernel_rfl) (by kernel_rfl) hncw) (h := ?_)
            (simp only [Act.put, List.getElem_toArray, List.getElem_cons_succ, List.getElem_cons_zero, List.setIfInBounds_toArray, List.set_cons_zero, List.set_cons_succ])
            refine tkX 4 (h := ?_)
            refine tkX 5 (h := ?_)
            (simp only [Act.put, List.getElem_toArray, List.getElem_cons_succ, List.getElem_cons_zero, List.setIfInBounds_toArray, List.set_cons_zero, List.set_cons_succ])
            refine tkW 6 (v := .int .i64 (((encs b).length : Int) + ((Lib.encodeRune x).length : Int))) (hx := fun W1 _ => exec_addI W1 _ _ _ _ rfl _ _ (by kernel_rfl) (by kernel_rfl) (by omega) (by omega)) (h := ?_)
            (simp only [Act.put, List.getElem_toArray, List.getElem_cons_succ, List.getElem_cons_zero, List.setIfInBounds_toArray, List.set_cons_zero, List.set_cons_succ])
            refine tkW 7 (v := .agg #[.int .i64 ((b.length : Int) + 1), .int .i64 (G 0), .int .i64 (G 1), .int .i64 (G 2), .int .i64 (G 3), .int .i64 (G 4)]) (hx := fun W1 hS => exec_loadNst W1 _ _ _ rfl w4.heap.size _ _ _ _ _ _ (by kernel_rfl) hS.1 hS.2.1 hS.2.2.1 hS.2.2.2.1 hS.2.2.2.2.1 hS.2.2.2.2.2) (h := ?_)
            (simp only [Act.put, List.getElem_toArray, List.getElem_cons_succ, List.getElem_cons_zero, List.setIfInBounds_toArray, List.set_cons_zero, List.set_cons_succ])
            refine wpAnyH_ready (rs := [8]) (by kernel_rfl) (by simp) ?_
            refine AllReadyH.cons rfl (fun K hK => ?_) AllReadyH.nil
            go_simp
            refine (HCl.out _ (below_drewN (Below.refl _ _) 1)).mono ?_
            rintro e w' ⟨rfl, v', hn', hm', hk1, hk2⟩
            have HN' := hidd hn'
            have HM' := hidd hm'
            have HK2 := hidd hk2
            dsimp only
            refine hK.out _ _ ⟨(World.cell?_of_block (a := ⟨w4.heap.size, 0, none⟩) hk1).trans d0, (World.cell?_of_block (a := ⟨w4.heap.size, 1, none⟩) hk1).trans d1, (World.cell?_of_block (a := ⟨w4.heap.size, 2, none⟩) hk1).trans d2, (World.cell?_of_block (a := ⟨w4.heap.size, 3, none⟩) hk1).trans d3, (World.cell?_of_block (a := ⟨w4.heap.size, 4, none⟩) hk1).trans d4, (World.cell?_of_block (a := ⟨w4.heap.size, 5, none⟩) hk1).trans d5⟩ (fun hHeld1 => ?_)
            clear hK K hn' hm' hk1 hk2
            (try simp only [Act.put, List.getElem_toArray, List.getElem_cons_succ, List.getElem_cons_zero, List.setIfInBounds_toArray, List.set_cons_zero, List.set_cons_succ])
            refine wpAnyH_done (by kernel_rfl) ?_ _
            clear hHeld hHeld1
            have HSn := hidd (HI.out.sv.mv HM'.out HI.out.nw.vb)
            have HFn := hidd (HI.out.fx.mv HM'.out HI.out.nw.vb HSA.out hp1 hpb)
            clear d0 d1 d2 d3 d4 d5
            go_upto_region 10 with fail
            generalize Value.slice (some ⟨g, off, none⟩) W3.length cw3 = wv3 at *
            go_wp2_with (first | (refine wpSv_from rfl _ _ rfl _ W3 n rfl rfl HSn.out hn2 hn1 (by omega) ?_; intro v6 hv6; have HS6 := hidd hv6; clear hv6))
            go_roundw
            case rel =>
              have hsub : (W3.drop n).Sublist W3 := List.drop_sublist _ _
              refine ⟨W3.drop n, E3 ++ foundW a (W3.take n), v', HS6.out, HI.out.ok.sub hsub, fun rs hr => HI.out.ne rs (hsub.subset hr), ?_, HN'.out, HI.out.mv.trans HM'.out, HK2.out.trans HI.out.box, HFn.out, ?_⟩
              · have hres := HI.out.res
                rw [← List.take_append_drop n W3, foundW_append, ← List.append_assoc] at hres
                exact hres
              · have h1 := HI.out.len
                have h2 := foundW_len a (W3.take n)
                rw [List.length_take] at h2
                rw [List.length_drop, List.length_append]
                omega
            case measure =>
              obtain ⟨s', cw', e1, _, _, _⟩ := HS6.out
              rw [e1]
              show (W3.drop n).length < W3.length
              rw [List.length_drop]
              omega
theorem walk_all (a : List Int) (base pw : Nat) (sa : Option Addr) (ca : Nat) (hal : a.length ≤ 200) (hsa : ∀ g off, sa = some ⟨g, off, none⟩ → g < base ∧ g ≠ pw) (hp1 : 1 < pw) (hpb : pw < base) : ∀ m, WalkC a base pw sa ca m
  | 0 => walk_step a base pw sa ca 0 hal hsa hp1 hpb (fun k hk => by omega)
  | m + 1 => walk_step a base pw sa ca (m + 1) hal hsa hp1 hpb (fun k hk => by
    have : k = m := by omega
    subst this
    exact walk_all a base pw sa ca hal hsa hp1 hpb k)
end Go.Proofs.YtifgcimmlonagaaDoor
