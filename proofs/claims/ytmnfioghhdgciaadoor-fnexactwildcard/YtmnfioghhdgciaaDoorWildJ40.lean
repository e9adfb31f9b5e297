import Derived.Test.YtmnfioghhdgciaaDoorWildJ07
import Derived.Test.YtmnfioghhdgciaaDoorWildJ18
import Derived.Deep.RegionHeld3
namespace Go.Proofs.YtmnfioghhdgciaaDoor
open Go Go.RowKit
set_option linter.unusedVariables false
set_option maxRecDepth 100000
set_option linter.unusedSimpArgs false

theorem RowsF.one {W : World} {base : Nat} {v : Value} {zs : List Int} (h : W.ownsRow base 3 1 v zs.length (zI zs)) : RowsF W base (upd (fun _ => none) 0 (some (v, zs))) := by
  refine ⟨fun a u ys ha => ?_, fun a b u ys x xs hab ha hb => ?_⟩
  · by_cases e : a = 0
    · subst e; rw [upd_same] at ha; cases ha; exact h
    · rw [upd_other _ _ e] at ha; cases ha
  · by_cases e : a = 0
    · subst e
      rw [upd_other _ _ (Ne.symm hab)] at hb; cases hb
    · rw [upd_other _ _ e] at ha; cases ha
theorem RowsF.setB {W : World} {base : Nat} {R : RowMap} (h : RowsF W base R) {i g n cap : Nat} {zs : List Int} (hi : R i = some (.slice (some ⟨g, 0, none⟩) n cap, zs)) (hn : zs.length = n) {k : Nat} (hk : k < n) (x : Int) : RowsF (W.setCell ⟨g, k, none⟩ (.int .i64 x)) base (upd R i (some (.slice (some ⟨g, 0, none⟩) n cap, zs.set k x))) ∧ W.frozen? ⟨g, k, none⟩ = false ∧ W.cell? ⟨g, k, none⟩ = some (.int .i64 (zs.getD k 0)) := by
  subst hn
  have ho := h.own i _ _ hi
  obtain ⟨_, cur, hcur⟩ := own_blk ho (b := g) rfl
  refine ⟨h.set hi hk x, blkf hcur k, ?_⟩
  rw [ho.cellAt k (by omega)]
  simp [zI, hk]
theorem RowsF.cellB {W : World} {base : Nat} {R : RowMap} (h : RowsF W base R) {i g n cap : Nat} {zs : List Int} (hi : R i = some (.slice (some ⟨g, 0, none⟩) n cap, zs)) (hn : zs.length = n) {k : Nat} (hk : k < n) : W.cell? ⟨g, k, none⟩ = some (.int .i64 (zs.getD k 0)) := by
  subst hn
  rw [(h.own i _ _ hi).cellAt k (by omega)]
  simp [zI, hk]
theorem exec_loadArc (W : World) (ρ : Operand → Value) (o : Oper) (x : Operand) (ho : o.op = .load 84 x) (b off : Nat) (v : Value) (hx : ρ x = .pointer (some ⟨b, off, none⟩)) (h0 : W.cell? ⟨b, off, none⟩ = some v) : (execOp ρ o).run Tryd.prog W = .ok (.value v) W := by
  unfold execOp
  simp only [ho, Instr.loadAt, Instr.sureAddr, hx, Sem.run_bind, Sem.run_pure, Result.andThen_ok]
  go_simp
theorem exec_boxArc (W : World) (ρ : Operand → Value) (o : Oper) (x : Operand) (ho : o.op = .buildSlice 84 1 #[(0, x)]) (a b : Int) (hx : ρ x = .agg #[.int .i64 a, .int .i64 b]) :
    (execOp ρ o).run Tryd.prog W = .ok (.value (.slice (some ⟨W.heap.size, 0, none⟩) 1 1)) (W.alloc (.cells #[.int .i64 a, .int .i64 b] 92)) := by
  unfold execOp
  simp only [ho, hx, Sem.run_bind, Sem.run_pure, Result.andThen_ok]
  go_simp
theorem exec_storeArc (W : World) (ρ : Operand → Value) (o : Oper) (x y : Operand) (ho : o.op = .store 84 x y) (b off : Nat) (a : Option Addr) (n c : Nat) (u : Value) (hx : ρ x = .pointer (some ⟨b, off, none⟩)) (hy : ρ y = .slice a n c) (h0 : W.cell? ⟨b, off, none⟩ = some u) (hf : W.frozen? ⟨b, off, none⟩ = false) : (execOp ρ o).run Tryd.prog W = .ok .skip (W.setCell ⟨b, off, none⟩ (.slice a n c)) := by
  unfold execOp
  simp only [ho, hx, hy, Sem.run_bind, Sem.run_pure, Result.andThen_ok]
  go_simp
set_option maxHeartbeats 8000000 in
theorem least_any (vl vf vn : Value) (ls : List Int) (fins : List Bool) (nxt : List (List Nat)) (w : World) (hls : HoldI w vl ls) (hraw : RawOK w vf vn fins nxt (ls.length + 1)) :
    Calls Tryd.prog 30 #[.agg #[vl, vf, vn]] w (LsPost w ls fins nxt) := by
  obtain ⟨i0, hi, hz0, hz1, hz2⟩ := info_parts Tryd.infoIntL
  obtain ⟨ia, hia, ha0, ha1, ha2⟩ := info_parts Tryd.infoArcD
  obtain ⟨is, his, hs0, hs1, hs2⟩ := info_parts Tryd.infoStD
  obtain ⟨hf, hnx, hlen, hpos, hfew, hwide, hrows⟩ := hraw
  have HRw : Hid (RawOK w vf vn fins nxt (ls.length + 1)) := ⟨hf, hnx, hlen, hpos, hfew, hwide, hrows⟩
  have HSh := hidd HRw.out.shut
  obtain ⟨af, cf, rfl, hff⟩ := hf
  obtain ⟨an, cn, rfl, hnn⟩ := hnx
  obtain ⟨al, cl, rfl, hll⟩ := hls
  obtain ⟨gf, of, rfl, hgf, hcf⟩ := hff.resolve_left (fun h => by rw [h] at hpos; simp at hpos)
  obtain ⟨gN, oN, rfl, hgN, hcN⟩ := hnn.resolve_left (fun h => by rw [h] at hlen; simp at hlen; omega)
  have HF := hidd hcf
  have HN := hidd hcN
  have HLen := hidd hlen
  have HLl := hidd hll
  have hwd := hwide.2
  obtain ⟨S, hS⟩ : ∃ S, ls.length + 1 = S := ⟨_, rfl⟩
  rw [hS] at HRw HSh hwd hrows
  have HRo := hidd hrows
  have HS := hidd hS
  clear hS
  clear hff hnn hcf hcN hrows hlen hll hwide
  have Hbx : Hid (((w.alloc (.cells #[.slice al ls.length cl, .slice (some ⟨gf, of, none⟩) fins.length cf, .slice (some ⟨gN, oN, none⟩) nxt.length cn] 38)).alloc (.cells #[.slice none 0 0] 24)).heap[w.heap.size]? = some (.cells #[.slice al ls.length cl, .slice (some ⟨gf, of, none⟩) fins.length cf, .slice (some ⟨gN, oN, none⟩) nxt.length cn] 38) ∧ ((w.alloc (.cells #[.slice al ls.length cl, .slice (some ⟨gf, of, none⟩) fins.length cf, .slice (some ⟨gN, oN, none⟩) nxt.length cn] 38)).alloc (.cells #[.slice none 0 0] 24)).heap[w.heap.size + 1]? = some (.cells #[.slice none 0 0] 24)) := box_two w _ _
  have HBa : Hid (Below w.heap.size w ((w.alloc (.cells #[.slice al ls.length cl, .slice (some ⟨gf, of, none⟩) fins.length cf, .slice (some ⟨gN, oN, none⟩) nxt.length cn] 38)).alloc (.cells #[.slice none 0 0] 24))) := ((Below.refl _ _).alloc (Nat.le_refl _) _).alloc (by simp) _
  go_enter Tryd.func30, Tryd.ntmps30
  go_upto_region 1 with fail
  generalize (w.alloc (.cells #[.slice al ls.length cl, .slice (some ⟨gf, of, none⟩) fins.length cf, .slice (some ⟨gN, oN, none⟩) nxt.length cn] 38)).alloc (.cells #[.slice none 0 0] 24) = wa at *
  obtain ⟨rb, hrb⟩ : ∃ rb, w.heap.size = rb := ⟨_, rfl⟩
  have r0 : wa.cell? ⟨rb, 0, none⟩ = some (.slice al ls.length cl) := by rw [← hrb]; exact blkc Hbx.out.1 0
  have r1 : wa.cell? ⟨rb, 1, none⟩ = some (.slice (some ⟨gf, of, none⟩) fins.length cf) := by rw [← hrb]; exact blkc Hbx.out.1 1
  have r2 : wa.cell? ⟨rb, 2, none⟩ = some (.slice (some ⟨gN, oN, none⟩) nxt.length cn) := by rw [← hrb]; exact blkc Hbx.out.1 2
  simp only [hrb]
  have Hrb := hidd hrb
  clear hrb
  have HCall := hidd (classes_any (.slice al ls.length cl) _ _ fins nxt (S) wa (HRw.out.below HBa.out))
  go_wp2_with fail
  refine HCall.out.mono ?_
  rintro e w3 ⟨v, κl, c, rfl, hown, hkl, hparts, honto, hbel⟩
  rcases own_cases hown with ⟨_, h0⟩ | ⟨gc, cc, rfl, hgc1, hgc2⟩
  · omega
  have HKl := hidd hkl
  have HPa := hidd hparts
  have HOn := hidd honto
  have HB3 : Hid (Below w.heap.size w w3) := HBa.out.trans (hbel.mono HBa.out.size)
  have HO3 : Hid (w3.ownsRow w.heap.size 3 1 (.slice (some ⟨gc, 0, none⟩) fins.length cc) fins.length (zI (nat2 κl))) := own_mono hown HBa.out.size
  have HBx3 : Hid (w3.heap[rb]? = some (.cells #[.slice al ls.length cl, .slice (some ⟨gf, of, none⟩) fins.length cf, .slice (some ⟨gN, oN, none⟩) nxt.length cn] 38) ∧ w3.heap[rb + 1]? = some (.cells #[.slice none 0 0] 24)) := by
    rw [← Hrb.out]
    exact ⟨blko Hbx.out.1 hbel, blko Hbx.out.2 hbel⟩
  have hcn : c ≤ fins.length := by
    have := card_le (List.range c) List.nodup_range fins.length (atN κl) (fun x hx => honto.2 x (List.mem_range.1 hx))
    simpa using this
  have hc0 : 0 < c := by have := honto.1 0 hpos; omega
  clear hown hkl hparts honto hbel HCall r0 r1 r2 Hbx HBa
  have HCl : Hid (∀ q, q < fins.length → w3.cell? ⟨gc, q, none⟩ = some (.int .i64 ((atN κl q : Nat) : Int))) := by
    show ∀ _, _
    intro q hq
    have := HKl.out
    rw [HO3.out.cellAt q (by omega)]
    simp [zI, nat2, atN, this, hq]
  go_wp2
  go_loop [4, 5] (fun nv iv => ∃ i N : Nat, i ≤ fins.length ∧ iv = .int .i64 (i : Int) ∧ nv = .int .i64 (N : Int) ∧ N ≤ c ∧ ∀ q, q < i → atN κl q < N) (fun _ iv => fins.length - (intOf iv).toNat)
  case atStart => exact ⟨0, 0, Nat.zero_le _, rfl, rfl, by omega, fun q hq => by omega⟩
  case round =>
    obtain ⟨i, N, hin, rfl, rfl, hNc, hNq⟩ := hrel
    have HNq := hidd hNq
    clear hNq
    by_cases hlt : i < fins.length
    · have hltz : (i : Int) < (fins.length : Int) := by omega
      -- <<
      have c0 := HCl.out i hlt
      have hkc := HOn.out.1 i hlt
      obtain ⟨K, hK⟩ : ∃ K, atN κl i = K := ⟨_, rfl⟩
      rw [hK] at c0 hkc
      have HK := hidd hK
      clear hK
      obtain ⟨M, hM⟩ : ∃ M, max N (K + 1) = M := ⟨_, rfl⟩
      have hmx : (if (K : Int) + 1 > (N : Int) then (K : Int) + 1 else (N : Int)) = (M : Int) := by split <;> omega
      have HM : Hid (∀ q, q < i + 1 → atN κl q < M) := by
        show ∀ _, _
        intro q hq
        by_cases e : q = i
        · rw [e, HK.out]; omega
        · have := HNq.out q (by omega); omega
      have hMc : M ≤ c := by omega
      clear hM
      go_wp2
      go_round
      case rel => exact ⟨i + 1, M, by omega, by go_num, rfl, hMc, HM.out⟩
      case measure => simp [intOf]; omega
      -- >>
    · have hltz : ¬ (i : Int) < (fins.length : Int) := by omega
      obtain rfl : i = fins.length := by omega
      obtain rfl : N = c := by
        obtain ⟨q, hq, he⟩ := HOn.out.2 (c - 1) (by omega)
        have := HNq.out q hq
        omega
      clear HNq
      go_wp2_with (at_make; refine wpList_make_full _ rfl _ _ 30 rfl w3.heap.size 3 i0 (.int .i64 0) 1 Tryd.underlying30 hi hz0 hz1 _ _ _ _ N rfl rfl (by omega) (by omega) ?b2 ?b3 (Nat.le_refl _) ?_)
      case b2 => omega
      case b3 => unfold maxLen; omega
      intro w4 hown4 hgrow4
      have HB4 : Hid (Below w3.heap.size w3 w4) := (Below.refl _ _).grown hgrow4 (Nat.le_refl _) (fun k h => by cases h)
      obtain ⟨gr, hgr⟩ : ∃ gr, w3.heap.size = gr := ⟨_, rfl⟩
      have HR4 : Hid (RowsF w4 w.heap.size (upd (upd (fun _ => none) 0 (some (.slice (some ⟨gc, 0, none⟩) fins.length cc, nat2 κl))) 1 (some (.slice (some ⟨gr, 0, none⟩) N N, nat2 (repL (atN κl) fins.length N fins.length))))) := by
        have h1 : RowsF w3 w.heap.size (upd (fun _ => none) 0 (some (.slice (some ⟨gc, 0, none⟩) fins.length cc, nat2 κl))) := RowsF.one (by rw [nat2_len, HKl.out]; exact HO3.out)
        refine h1.new HB4.out HB3.out.size ?_
        have e0 : (madeCells #[Value.int .i64 0] N).toList = List.replicate N (Value.int .i64 0) := toList_madeCells_one _ _
        rw [e0] at hown4
        rw [nat2_len, repL_len, repL_last, ← zI_zeros, ← hgr]
        exact hown4
      have HX4 : Hid (Below w.heap.size w w4 ∧ w4.heap[rb]? = some (.cells #[.slice al ls.length cl, .slice (some ⟨gf, of, none⟩) fins.length cf, .slice (some ⟨gN, oN, none⟩) nxt.length cn] 38) ∧ w4.heap[rb + 1]? = some (.cells #[.slice none 0 0] 24)) := ⟨HB3.out.trans (HB4.out.mono HB3.out.size), blko HBx3.out.1 HB4.out, blko HBx3.out.2 HB4.out⟩
      simp only [hgr]
      clear hown4 hgrow4 hgr HB4 HCl HB3 HO3 HBx3
      have hn1 : (fins.length : Int) - 1 = (((fins.length - 1 : Nat) : Nat) : Int) := by omega
      clear hn1
      go_wp2
      go_loopw [7] (fun iv wx => ∃ (j : Nat) (R : RowMap), j ≤ fins.length ∧ iv = .int .i64 ((j : Int) - 1) ∧ RowsF wx w.heap.size R ∧ R 0 = some (.slice (some ⟨gc, 0, none⟩) fins.length cc, nat2 κl) ∧ R 1 = some (.slice (some ⟨gr, 0, none⟩) N N, nat2 (repL (atN κl) fins.length N j)) ∧ Below w.heap.size w wx ∧ wx.heap[rb]? = some (.cells #[.slice al ls.length cl, .slice (some ⟨gf, of, none⟩) fins.length cf, .slice (some ⟨gN, oN, none⟩) nxt.length cn] 38) ∧ wx.heap[rb + 1]? = some (.cells #[.slice none 0 0] 24)) (fun iv _ => (intOf iv + 1).toNat)
      case atStart => exact ⟨fins.length, _, Nat.le_refl _, rfl, HR4.out, by rw [upd_other _ _ (by omega), upd_same], upd_same _ _ _, HX4.out⟩
      case round =>
        clear HR4 HX4
        obtain ⟨j, R, hjn, rfl, hR, hR0, hR1, hbel, hx1, hx2⟩ := hrel
        have HR := hidd hR
        have HR0 := hidd hR0
        have HR1 := hidd hR1
        have HBe := hidd hbel
        have HX1 := hidd hx1
        have HX2 := hidd hx2
        clear hR hR0 hR1 hbel hx1 hx2
        by_cases hj : 0 < j
        · have hj1 := hj
          -- <<
          obtain ⟨i, rfl⟩ : ∃ i, j = i + 1 := ⟨j - 1, by omega⟩
          have hjz : ((i + 1 : Nat) : Int) - 1 = (i : Int) := by omega
          simp only [hjz]
          have hige : (i : Int) ≥ 0 := by omega
          have hin : i < fins.length := by omega
          have hinz : (i : Int) < (fins.length : Int) := by omega
          have hkl := HKl.out
          have c0 := HR.out.cellB HR0.out (by rw [nat2_len]; exact hkl) hin
          rw [nat2_at _ _ (by omega)] at c0
          have hkc := HOn.out.1 i hin
          have HSt := hidd (repL_step (n := fins.length) hin hkc)
          have hset := HR.out.setB HR1.out (by rw [nat2_len, repL_len]) hkc (i : Int)
          change wr.cell? ⟨gc, i, none⟩ = some (.int .i64 ((atN κl i : Nat) : Int)) at c0
          obtain ⟨K, hK⟩ : ∃ K, atN κl i = K := ⟨_, rfl⟩
          rw [hK] at c0 hkc HSt hset
          have hkz : (K : Int) < (N : Int) := by omega
          obtain ⟨HS1, f1, d1⟩ := hset
          have HS1 := hidd HS1
          have hgrw := own_blk (HR.out.own 1 _ _ HR1.out) (b := gr) rfl
          obtain ⟨hge, cur, hcur⟩ := hgrw
          have HX : Hid (Below w.heap.size w (wr.setCell ⟨gr, K, none⟩ (.int .i64 (i : Int))) ∧ (wr.setCell ⟨gr, K, none⟩ (.int .i64 (i : Int))).heap[rb]? = some (.cells #[.slice al ls.length cl, .slice (some ⟨gf, of, none⟩) fins.length cf, .slice (some ⟨gN, oN, none⟩) nxt.length cn] 38) ∧ (wr.setCell ⟨gr, K, none⟩ (.int .i64 (i : Int))).heap[rb + 1]? = some (.cells #[.slice none 0 0] 24)) := by
            refine ⟨HBe.out.trans (((But.refl (fun b => b = gr) wr).set gr K _ rfl).below HBe.out.size (fun i hi e => by omega)), ?_, ?_⟩
            · rw [heap_set_other wr gr K _ rb (blk_ne HX1.out hcur (by decide))]; exact HX1.out
            · rw [heap_set_other wr gr K _ (rb + 1) (blk_ne HX2.out hcur (by decide))]; exact HX2.out
          clear hK hkl hcur
          go_wp2
          go_roundw
          case rel => exact ⟨i, _, by omega, by go_num, HS1.out, by rw [upd_other _ _ (by omega)]; exact HR0.out, by rw [upd_same, HSt.out]; simp [nat2, List.map_set], HX.out⟩
          case measure => simp [intOf]
          -- >>
        · obtain rfl : j = 0 := by omega
          have hjz : ((0 : Nat) : Int) - 1 = -1 := by omega
          simp only [hjz]
          have HRe : Hid (∀ y, y < N → atN (repL (atN κl) fins.length N 0) y < fins.length ∧ atN κl (atN (repL (atN κl) fins.length N 0) y) = y) := fun y hy => repL_ok HOn.out hy
          have HRl := hidd (repL_len (atN κl) fins.length N 0)
          obtain ⟨RL, hRL⟩ : ∃ RL, repL (atN κl) fins.length N 0 = RL := ⟨_, rfl⟩
          rw [hRL] at HRe HRl HR1
          clear hRL hjz hj hjn
          have HRowc : Hid (∀ q, q < fins.length → ∃ gq oq cq, ∀ W, Below w.heap.size w W → W.cell? ⟨gN, oN + q, none⟩ = some (.slice (some ⟨gq, oq, none⟩) (S) cq) ∧ ∀ k, k < S → W.cell? ⟨gq, oq + k, none⟩ = some (.int .i64 (((autR fins nxt).nx q k : Nat) : Int))) := by
            show ∀ _, _
            intro q hq
            obtain ⟨u0, hu0, hI0⟩ := HN.out q (by have := HLen.out; omega)
            obtain ⟨hr1, hr2⟩ := HRo.out q hq
            obtain ⟨aq, cq, rfl, hqq⟩ := hI0
            rw [nat2_len, hr1] at hu0 hqq
            obtain ⟨gq, oq, rfl, hgq, hcq⟩ := hqq.resolve_left (fun h => by
              have := congrArg List.length h
              rw [nat2_len, hr1] at this
              have := HS.out
              simp at *
              omega)
            refine ⟨gq, oq, cq, fun W hW => ⟨(hW.cell (p := ⟨gN, oN + q, none⟩) hgN).trans hu0, fun k hk => (hW.cell (p := ⟨gq, oq + k, none⟩) hgq).trans ?_⟩⟩
            rw [hcq k hk, nat2_at _ _ (by omega)]
            rfl
          have HFinc : Hid (∀ W, Below w.heap.size w W → ∀ q, q < fins.length → W.cell? ⟨gf, of + q, none⟩ = some (.bool ((autR fins nxt).fin q))) := by
            show ∀ _, _
            intro W hW q hq
            exact (hW.cell (p := ⟨gf, of + q, none⟩) hgf).trans (HF.out q hq)
          have HDd : Hid (∀ y, y < N → (((autR fins nxt).fin (atN RL y) = false ∧ ∀ a, a < S → atN κl ((autR fins nxt).nx (atN RL y) a) = y) ↔ (autR fins nxt).lang (S) (atN RL y) = emptyL)) := by
            show ∀ _, _
            intro y hy
            obtain ⟨h1, h2⟩ := HRe.out y hy
            have := HPa.out.dead HSh.out h1
            rw [h2] at this
            exact this
          have HCls : Hid (∀ W R', RowsF W w.heap.size R' → R' 0 = some (.slice (some ⟨gc, 0, none⟩) fins.length cc, nat2 κl) → ∀ q, q < fins.length → W.cell? ⟨gc, q, none⟩ = some (.int .i64 ((atN κl q : Nat) : Int))) := by
            show ∀ _, _
            intro W R' h1 h2 q hq
            have hkl := HKl.out
            rw [h1.cellB h2 (by rw [nat2_len]; exact hkl) hq, nat2_at _ _ (by omega)]
            rfl
          have HRpc : Hid (∀ W R', RowsF W w.heap.size R' → R' 1 = some (.slice (some ⟨gr, 0, none⟩) N N, nat2 RL) → ∀ y, y < N → W.cell? ⟨gr, y, none⟩ = some (.int .i64 ((atN RL y : Nat) : Int))) := by
            show ∀ _, _
            intro W R' h1 h2 y hy
            have hrl := HRl.out
            rw [h1.cellB h2 (by rw [nat2_len]; exact hrl) hy, nat2_at _ _ (by omega)]
            rfl
          clear HF HN HRo
          generalize wr = W0 at *
          go_wp2
          go_loopw [8, 9] (fun dv yv wx => ∃ y q : Nat, y ≤ N ∧ yv = .int .i64 (y : Int) ∧ wx = W0.drewN q ∧ ((dv = .int .i64 (-1) ∧ ∀ z, z < y → (autR fins nxt).lang (S) (atN RL z) ≠ emptyL) ∨ ∃ d : Nat, d < N ∧ dv = .int .i64 (d : Int) ∧ (autR fins nxt).lang (S) (atN RL d) = emptyL)) (fun _ yv _ => N - (intOf yv).toNat)
          case atStart => exact ⟨0, 0, Nat.zero_le _, rfl, rfl, Or.inl ⟨rfl, fun z hz => by omega⟩⟩
          case round =>
            obtain ⟨y, q, hyN, rfl, hwq, hor⟩ := hrel
            have HWq := hidd hwq
            have HOr := hidd hor
            have HRq : Hid (RowsF wr w.heap.size R) := by show RowsF _ _ _; rw [hwq]; exact HR.out.below (below_drewN (Below.refl _ _) q)
            have HBq : Hid (Below w.heap.size w wr) := by show Below _ _ _; rw [hwq]; exact below_drewN HBe.out q
            have HXq : Hid (wr.heap[rb]? = some (.cells #[.slice al ls.length cl, .slice (some ⟨gf, of, none⟩) fins.length cf, .slice (some ⟨gN, oN, none⟩) nxt.length cn] 38)) := by show _ = _; rw [hwq]; exact HX1.out
            clear hwq hor
            by_cases hlt : y < N
            · have hltz : (y : Int) < (N : Int) := by omega
              -- <<
              have r1 : wr.cell? ⟨rb, 1, none⟩ = some (.slice (some ⟨gf, of, none⟩) fins.length cf) := blkc HXq.out 1
              have p0 := HRpc.out wr R HRq.out HR1.out y hlt
              obtain ⟨hp1, hp2⟩ := HRe.out y hlt
              have f0 := HFinc.out wr HBq.out _ hp1
              obtain ⟨gq, oq, cq, hrow⟩ := HRowc.out _ hp1
              have HRow := hidd hrow
              have HDy := hidd (HDd.out y hlt)
              have HNb : Hid (∀ a, a < S → (autR fins nxt).nx (atN RL y) a < fins.length) := fun a ha => HSh.out _ a hp1 ha
              clear hrow hp2
              obtain ⟨P, hP⟩ : ∃ P, atN RL y = P := ⟨_, rfl⟩
              rw [hP] at p0 hp1 f0 HRow HDy HNb
              have HP := hidd hP
              clear hP
              have hp1z : (P : Int) < (fins.length : Int) := by omega
              have hp1n : (P : Int) < (nxt.length : Int) := by have := HLen.out; omega
              obtain ⟨fb, hfb⟩ : ∃ fb, (autR fins nxt).fin P = fb := ⟨_, rfl⟩
              rw [hfb] at f0 HDy
              clear hfb
              go_wp2
              go_quiet (fail)
              go_wp2
              clear r1 p0 f0
              have HWq2 : Hid (wr.drewN nq = W0.drewN (q + nq)) := by show _ = _; rw [HWq.out, World.drewN_drewN]
              generalize wr.drewN nq = W1 at *
              generalize q + nq = q1 at *
              clear HRq HBq HXq HWq
              have HEnd : Hid (∀ (W : World), (∃ q, W = W0.drewN q) → (autR fins nxt).lang S P ≠ emptyL → ∃ y' q : Nat, y' ≤ N ∧ Value.int .i64 ((y : Int) + 1) = .int .i64 (y' : Int) ∧ W = W0.drewN q ∧ ((u8 = .int .i64 (-1) ∧ ∀ z, z < y' → (autR fins nxt).lang S (atN RL z) ≠ emptyL) ∨ ∃ d : Nat, d < N ∧ u8 = .int .i64 (d : Int) ∧ (autR fins nxt).lang S (atN RL d) = emptyL)) := by
                show ∀ _, _
                rintro W ⟨q, hq⟩ hne
                refine ⟨y + 1, q, by omega, by simp, hq, ?_⟩
                rcases HOr.out with ⟨h1, h2⟩ | h1
                · refine Or.inl ⟨h1, fun z hz => ?_⟩
                  by_cases e : z = y
                  · rw [e, HP.out]; exact hne
                  · exact h2 z (by omega)
                · exact Or.inr h1
              go_loopw [10, 11] (fun sv kv wx => ∃ (b : Bool) (k q2 : Nat), k ≤ S ∧ sv = .bool b ∧ kv = .int .i64 (k : Int) ∧ wx = W0.drewN q2 ∧ (b = true ↔ fb = false ∧ ∀ a, a < k → atN κl ((autR fins nxt).nx P a) = y)) (fun _ kv _ => S - (intOf kv).toNat)
              case atStart => exact ⟨!fb, 0, q1, Nat.zero_le _, rfl, rfl, HWq2.out, by cases fb <;> simp⟩
              case round =>
                clear HWq2
                obtain ⟨b, k, q2, hk, rfl, rfl, hwq, hiff⟩ := hrel
                have HWq := hidd hwq
                have HIff := hidd hiff
                have HRq : Hid (RowsF wr w.heap.size R) := by show RowsF _ _ _; rw [hwq]; exact HR.out.below (below_drewN (Below.refl _ _) q2)
                have HBq : Hid (Below w.heap.size w wr) := by show Below _ _ _; rw [hwq]; exact below_drewN HBe.out q2
                have HXq : Hid (wr.heap[rb]? = some (.cells #[.slice al ls.length cl, .slice (some ⟨gf, of, none⟩) fins.length cf, .slice (some ⟨gN, oN, none⟩) nxt.length cn] 38)) := by show _ = _; rw [hwq]; exact HX1.out
                have r2 : wr.cell? ⟨rb, 2, none⟩ = some (.slice (some ⟨gN, oN, none⟩) nxt.length cn) := blkc HXq.out 2
                clear hwq hiff
                have p0 := HRpc.out wr R HRq.out HR1.out y hlt
                rw [HP.out] at p0
                obtain ⟨g1, g2⟩ := HRow.out wr HBq.out
                by_cases hkl : k < S
                · have hklz : (k : Int) < (S : Int) := by omega
                  have hklb : decide ((k : Int) < (S : Int)) = true := by simpa using hkl
                  have g3 := g2 k hkl
                  have hxb := HNb.out k hkl
                  have c1 := HCls.out wr R HRq.out HR0.out _ hxb
                  clear g2
                  obtain ⟨X, hX⟩ : ∃ X, (autR fins nxt).nx P k = X := ⟨_, rfl⟩
                  rw [hX] at g3 hxb c1
                  have HXk := hidd hX
                  clear hX
                  have hxz : (X : Int) < (fins.length : Int) := by omega
                  obtain ⟨C, hC⟩ : ∃ C, atN κl X = C := ⟨_, rfl⟩
                  rw [hC] at c1
                  have HCc := hidd hC
                  clear hC
                  cases b with
                  | false =>
                    have HFa : Hid ((autR fins nxt).lang S P ≠ emptyL) := by
                      show _ ≠ _
                      intro e
                      obtain ⟨h1, h2⟩ := HDy.out.2 e
                      have := HIff.out.2 ⟨h1, fun a ha => h2 a (by omega)⟩
                      cases this
                    clear g3 c1
                    go_wp2
                    go_quiet (fail)
                    go_wp2
                    go_roundw
                    case rel => exact HEnd.out _ ⟨_, by rw [HWq.out, World.drewN_drewN]⟩ HFa.out
                    case measure => simp [intOf]; omega
                  | true =>
                    have hcb : ((C : Int) == (y : Int)) = decide (C = y) := by rw [Bool.eq_iff_iff]; simp; omega
                    obtain ⟨bb, hbb⟩ : ∃ bb, decide (C = y) = bb := ⟨_, rfl⟩
                    rw [hbb] at hcb
                    have HIf2 : Hid (bb = true ↔ fb = false ∧ ∀ a, a < k + 1 → atN κl ((autR fins nxt).nx P a) = y) := by
                      have h1 := HIff.out.1 rfl
                      show _ ↔ _
                      rw [← hbb, decide_eq_true_iff]
                      constructor
                      · intro e
                        refine ⟨h1.1, fun a ha => ?_⟩
                        by_cases ea : a = k
                        · rw [ea, HXk.out, HCc.out]; exact e
                        · exact h1.2 a (by omega)
                      · rintro ⟨_, h2⟩
                        have := h2 k (by omega)
                        rw [HXk.out, HCc.out] at this
                        exact this
                    clear hbb
                    go_wp2
                    go_quiet (fail)
                    go_wp2
                    go_quiet (fail)
                    go_wp2
                    go_roundw
                    case rel => exact ⟨bb, k + 1, _, by omega, rfl, by go_num, by rw [HWq.out, World.drewN_drewN], HIf2.out⟩
                    case measure => simp [intOf]; omega
                · have hklz : ¬ (k : Int) < (S : Int) := by omega
                  have hklb : decide ((k : Int) < (S : Int)) = false := by simpa using hkl
                  obtain rfl : k = S := by omega
                  cases b with
                  | false =>
                    have HFa : Hid ((autR fins nxt).lang k P ≠ emptyL) := by
                      show _ ≠ _
                      intro e
                      have := HIff.out.2 (HDy.out.2 e)
                      cases this
                    go_wp2
                    go_quiet (fail)
                    go_wp2
                    go_roundw
                    case rel => exact HEnd.out _ ⟨_, by rw [HWq.out, World.drewN_drewN]⟩ HFa.out
                    case measure => simp [intOf]; omega
                  | true =>
                    have HFa : Hid ((autR fins nxt).lang k P = emptyL) := HDy.out.1 (HIff.out.1 rfl)
                    go_wp2
                    go_quiet (fail)
                    go_wp2
                    go_roundw
                    case rel => exact ⟨y + 1, _, by omega, by go_num, by rw [HWq.out, World.drewN_drewN], Or.inr ⟨y, hlt, rfl, by rw [HP.out]; exact HFa.out⟩⟩
                    case measure => simp [intOf]; omega
              -- >>
            · have hltz : ¬ (y : Int) < (N : Int) := by omega
              obtain rfl : y = N := by omega
              have HDead : Hid (∃ dead : Int, u8 = .int .i64 dead ∧ -1 ≤ dead ∧ dead < (y : Int) ∧ ∀ z, z < y → ((dead = (z : Int)) ↔ (autR fins nxt).lang S (atN RL z) = emptyL)) := by
                rcases HOr.out with ⟨h1, h2⟩ | ⟨d, hd, h1, h2⟩
                · exact ⟨-1, h1, by omega, by omega, fun z hz => ⟨fun e => by omega, fun e => absurd e (h2 z hz)⟩⟩
                · refine ⟨(d : Int), h1, by omega, by omega, fun z hz => ⟨fun e => ?_, fun e => ?_⟩⟩
                  · have : d = z := by omega
                    rw [← this]; exact h2
                  · obtain ⟨a1, a2⟩ := HRe.out z hz
                    obtain ⟨b1, b2⟩ := HRe.out d hd
                    have := (HPa.out _ _ a1 b1).2 (e.trans h2.symm)
                    rw [a2, b2] at this
                    omega
              obtain ⟨dead, rfl, hdl, hdu, hdd⟩ := HDead.out
              have HDz := hidd hdd
              clear hdd HOr HDead
              have HX2q : Hid (wr.heap[rb + 1]? = some (.cells #[.slice none 0 0] 24)) := by show _ = _; rw [HWq.out]; exact HX2.out
              have HXr := hidd HRq.out
              clear HWq HR HBe HX1 HX2
              generalize wr = W1 at *
              go_wp2_with (at_make; refine wpList_make_full _ rfl _ _ 30 rfl W1.heap.size 3 i0 (.int .i64 0) 1 Tryd.underlying30 hi hz0 hz1 _ _ _ _ y rfl rfl (by omega) (by omega) ?b6 ?b7 (Nat.le_refl _) ?_)
              case b6 => omega
              case b7 => unfold maxLen; omega
              intro w4 hown4 hgrow4
              have HB4 : Hid (Below W1.heap.size W1 w4) := (Below.refl _ _).grown hgrow4 (Nat.le_refl _) (fun k h => by cases h)
              obtain ⟨gm, hgm⟩ : ∃ gm, W1.heap.size = gm := ⟨_, rfl⟩
              have HR4 : Hid (RowsF w4 w.heap.size (upd R 2 (some (.slice (some ⟨gm, 0, none⟩) y y, minus1 y 0)))) := by
                refine HRq.out.new HB4.out HBq.out.size ?_
                have e0 : (madeCells #[Value.int .i64 0] y).toList = List.replicate y (Value.int .i64 0) := toList_madeCells_one _ _
                rw [e0] at hown4
                rw [minus1_len, minus1_zero, ← hgm]
                simpa [zI] using hown4
              have HX4 : Hid (Below w.heap.size w w4 ∧ w4.heap[rb]? = some (.cells #[.slice al ls.length cl, .slice (some ⟨gf, of, none⟩) fins.length cf, .slice (some ⟨gN, oN, none⟩) nxt.length cn] 38) ∧ w4.heap[rb + 1]? = some (.cells #[.slice none 0 0] 24)) := ⟨HBq.out.trans (HB4.out.mono HBq.out.size), blko HXq.out HB4.out, blko HX2q.out HB4.out⟩
              simp only [hgm]
              clear hown4 hgrow4 hgm HB4 HRq HXr HBq HXq HX2q
              go_wp2
              go_loopw [13] (fun zv wx => ∃ (z : Nat) (R : RowMap), z ≤ y ∧ zv = .int .i64 (z : Int) ∧ RowsF wx w.heap.size R ∧ R 0 = some (.slice (some ⟨gc, 0, none⟩) fins.length cc, nat2 κl) ∧ R 1 = some (.slice (some ⟨gr, 0, none⟩) y y, nat2 RL) ∧ R 2 = some (.slice (some ⟨gm, 0, none⟩) y y, minus1 y z) ∧ Below w.heap.size w wx ∧ wx.heap[rb]? = some (.cells #[.slice al ls.length cl, .slice (some ⟨gf, of, none⟩) fins.length cf, .slice (some ⟨gN, oN, none⟩) nxt.length cn] 38) ∧ wx.heap[rb + 1]? = some (.cells #[.slice none 0 0] 24)) (fun zv _ => y - (intOf zv).toNat)
              case atStart => exact ⟨0, _, Nat.zero_le _, rfl, HR4.out, by rw [upd_other _ _ (by omega)]; exact HR0.out, by rw [upd_other _ _ (by omega)]; exact HR1.out, upd_same _ _ _, HX4.out⟩
              case round =>
                clear HR4 HX4 HR0 HR1
                obtain ⟨z, R, hzy, rfl, hR, hR0, hR1, hR2, hbel, hx1, hx2⟩ := hrel
                have HR := hidd hR
                have HR0 := hidd hR0
                have HR1 := hidd hR1
                have HR2 := hidd hR2
                have HBe := hidd hbel
                have HX1 := hidd hx1
                have HX2 := hidd hx2
                clear hR hR0 hR1 hR2 hbel hx1 hx2
                by_cases hlz : z < y
                · have hlzz : (z : Int) < (y : Int) := by omega
                  -- <<
                  obtain ⟨hs1, f1, d1⟩ := HR.out.setB HR2.out (minus1_len _ _) hlz (-1)
                  have HS1 := hidd hs1
                  obtain ⟨hge, cur, hcur⟩ := own_blk (HR.out.own 2 _ _ HR2.out) (b := gm) rfl
                  have HX : Hid (Below w.heap.size w (wr.setCell ⟨gm, z, none⟩ (.int .i64 (-1))) ∧ (wr.setCell ⟨gm, z, none⟩ (.int .i64 (-1))).heap[rb]? = some (.cells #[.slice al ls.length cl, .slice (some ⟨gf, of, none⟩) fins.length cf, .slice (some ⟨gN, oN, none⟩) nxt.length cn] 38) ∧ (wr.setCell ⟨gm, z, none⟩ (.int .i64 (-1))).heap[rb + 1]? = some (.cells #[.slice none 0 0] 24)) := by
                    refine ⟨HBe.out.trans (((But.refl (fun b => b = gm) wr).set gm z _ rfl).below HBe.out.size (fun i hi e => by omega)), ?_, ?_⟩
                    · rw [heap_set_other wr gm z _ rb (blk_ne HX1.out hcur (by decide))]; exact HX1.out
                    · rw [heap_set_other wr gm z _ (rb + 1) (blk_ne HX2.out hcur (by decide))]; exact HX2.out
                  clear hs1 hcur
                  go_wp2
                  go_roundw
                  case rel => exact ⟨z + 1, _, by omega, by go_num, HS1.out, by rw [upd_other _ _ (by omega)]; exact HR0.out, by rw [upd_other _ _ (by omega)]; exact HR1.out, by rw [upd_same, minus1_step hlz], HX.out⟩
                  case measure => simp [intOf]; omega
                  -- >>
                · have hlzz : ¬ (z : Int) < (y : Int) := by omega
                  obtain rfl : z = y := by omega
                  rw [minus1_all] at HR2
                  have c0 := HCls.out wr R HR.out HR0.out 0 hpos
                  have hk0 := HOn.out.1 0 hpos
                  obtain ⟨K, hK⟩ : ∃ K, atN κl 0 = K := ⟨_, rfl⟩
                  rw [hK] at c0 hk0
                  have HK := hidd hK
                  clear hK
                  have hposz : (0 : Int) < (fins.length : Int) := by omega
                  have hkz : (K : Int) < (z : Int) := by omega
                  go_upto_region 29 with fail
                  have HB5 : Hid (Below wr.heap.size wr (wr.alloc (.cells #[.int .i64 (K : Int)] 3))) := (Below.refl _ _).alloc (Nat.le_refl _) _
                  have HR5 : Hid (RowsF (wr.alloc (.cells #[.int .i64 (K : Int)] 3)) w.heap.size (upd R 3 (some (.slice (some ⟨wr.heap.size, 0, none⟩) 1 1, nat2 [K])))) := by
                    refine HR.out.new HB5.out HBe.out.size ?_
                    have := World.ownsRow_lit (base := wr.heap.size) (e := 3) (size := 1) wr #[.int .i64 (K : Int)] 1 (Nat.le_refl _) (by unfold maxLen; omega) (by simp)
                    simpa [zI, nat2] using this
                  have HY5 : Hid (Below w.heap.size w (wr.alloc (.cells #[.int .i64 (K : Int)] 3)) ∧ (wr.alloc (.cells #[.int .i64 (K : Int)] 3)).heap[rb]? = some (.cells #[.slice al ls.length cl, .slice (some ⟨gf, of, none⟩) fins.length cf, .slice (some ⟨gN, oN, none⟩) nxt.length cn] 38) ∧ (wr.alloc (.cells #[.int .i64 (K : Int)] 3)).heap[rb + 1]? = some (.cells #[.slice none 0 0] 24)) := ⟨HBe.out.trans (HB5.out.mono HBe.out.size), blko HX1.out HB5.out, blko HX2.out HB5.out⟩
                  obtain ⟨go, hgo⟩ : ∃ go, wr.heap.size = go := ⟨_, rfl⟩
                  rw [hgo] at HR5
                  simp only [hgo]
                  clear hgo HB5 c0 HBe HX1 HX2
                  generalize wr.alloc (.cells #[.int .i64 (K : Int)] 3) = W5 at *
                  have c0 := HCls.out W5 _ HR5.out (by rw [upd_other _ _ (by omega)]; exact HR0.out) 0 hpos
                  rw [HK.out] at c0
                  have hR25 : upd R 3 (some (.slice (some ⟨go, 0, none⟩) 1 1, nat2 [K])) 2 = some (.slice (some ⟨gm, 0, none⟩) z z, numL z []) := by rw [upd_other _ _ (by omega)]; exact HR2.out
                  obtain ⟨hs5, f5, d5⟩ := HR5.out.setB hR25 (numL_len _ _) hk0 0
                  have hnl : (numL z []).set K 0 = numL z [K] := (numL_push (o := []) hk0 (by simp)).symm
                  rw [hnl] at hs5
                  have HS5 := hidd hs5
                  obtain ⟨hge, cur, hcur⟩ := own_blk (HR5.out.own 2 _ _ hR25) (b := gm) rfl
                  have HY6 : Hid (Below w.heap.size w (W5.setCell ⟨gm, K, none⟩ (.int .i64 0)) ∧ (W5.setCell ⟨gm, K, none⟩ (.int .i64 0)).heap[rb]? = some (.cells #[.slice al ls.length cl, .slice (some ⟨gf, of, none⟩) fins.length cf, .slice (some ⟨gN, oN, none⟩) nxt.length cn] 38) ∧ (W5.setCell ⟨gm, K, none⟩ (.int .i64 0)).heap[rb + 1]? = some (.cells #[.slice none 0 0] 24)) := by
                    refine ⟨HY5.out.1.trans (((But.refl (fun b => b = gm) W5).set gm K _ rfl).below HY5.out.1.size (fun i hi e => by omega)), ?_, ?_⟩
                    · rw [heap_set_other W5 gm K _ rb (blk_ne HY5.out.2.1 hcur (by decide))]; exact HY5.out.2.1
                    · rw [heap_set_other W5 gm K _ (rb + 1) (blk_ne HY5.out.2.2 hcur (by decide))]; exact HY5.out.2.2
                  clear hs5 hcur hnl
                  go_upto_region 30 with fail
                  generalize W5.setCell ⟨gm, K, none⟩ (.int .i64 0) = W6 at *
                  clear c0 f5 d5 HR5 HY5 hR25
                  go_upto_region 31 with fail
                  obtain ⟨T, hT⟩ : ∃ T, sysC (autR fins nxt) (atN κl) (atN RL) (fun c => decide (dead = (c : Int))) = T := ⟨_, rfl⟩
                  have HT := hidd hT
                  have HTo : Hid (∀ x k, T.gto x k = atN κl ((autR fins nxt).nx (atN RL x) k)) := by show ∀ _, _; intro x k; rw [← hT]; rfl
                  have HTd : Hid (∀ x, T.dead x = decide (dead = (x : Int))) := by show ∀ _, _; intro x; rw [← hT]; rfl
                  have HTf : Hid (∀ x, T.fin x = (autR fins nxt).fin (atN RL x)) := by show ∀ _, _; intro x; rw [← hT]; rfl
                  clear hT
                  have HTl : Hid (∀ x k, x < z → k ≤ ls.length → T.gto x k < z) := by
                    show ∀ _, _
                    intro x k hx hk
                    rw [HTo.out]
                    exact HOn.out.1 _ (HSh.out _ k (HRe.out x hx).1 (by have := HS.out; omega))
                  have HL6 : Hid (Ls6 w (W6.alloc (.cells #[.slice none 0 0] 24)) rb W6.heap.size #[.slice al ls.length cl, .slice (some ⟨gf, of, none⟩) fins.length cf, .slice (some ⟨gN, oN, none⟩) nxt.length cn] (upd (upd R 3 (some (.slice (some ⟨go, 0, none⟩) 1 1, nat2 [K]))) 2 (some (.slice (some ⟨gm, 0, none⟩) z z, numL z [K]))) (.slice none 0 0) []) := by
                    have hb : Below W6.heap.size W6 (W6.alloc (.cells #[.slice none 0 0] 24)) := (Below.refl _ _).alloc (Nat.le_refl _) _
                    have hlt := (Array.getElem?_eq_some_iff.1 HY6.out.2.2).1
                    exact ⟨HY6.out.1.trans (hb.mono HY6.out.1.size), blko HY6.out.2.1 hb, blko HY6.out.2.2 hb, heap_alloc_new _ _, HS5.out.below hb, DfaM.nil _ _, HY6.out.1.size, by omega⟩
                  obtain ⟨db, hdb⟩ : ∃ db, W6.heap.size = db := ⟨_, rfl⟩
                  rw [hdb] at HL6
                  simp only [hdb]
                  have hR30 : upd (upd R 3 (some (.slice (some ⟨go, 0, none⟩) 1 1, nat2 [K]))) 2 (some (.slice (some ⟨gm, 0, none⟩) z z, numL z [K])) 3 = some (.slice (some ⟨go, 0, none⟩) 1 1, nat2 [K]) := by rw [upd_other _ _ (by omega), upd_same]
                  have HRR : Hid (∃ R', R' 0 = some (.slice (some ⟨gc, 0, none⟩) fins.length cc, nat2 κl) ∧ R' 1 = some (.slice (some ⟨gr, 0, none⟩) z z, nat2 RL) ∧ R' 2 = some (.slice (some ⟨gm, 0, none⟩) z z, numL z [K]) ∧ R' 3 = some (.slice (some ⟨go, 0, none⟩) 1 1, nat2 [K]) ∧ Ls6 w (W6.alloc (.cells #[.slice none 0 0] 24)) rb db #[.slice al ls.length cl, .slice (some ⟨gf, of, none⟩) fins.length cf, .slice (some ⟨gN, oN, none⟩) nxt.length cn] R' (.slice none 0 0) []) :=
                    ⟨_, by rw [upd_other _ _ (by omega), upd_other _ _ (by omega)]; exact HR0.out, by rw [upd_other _ _ (by omega), upd_other _ _ (by omega)]; exact HR1.out, upd_same _ _ _, hR30, HL6.out⟩
                  clear hdb HL6 hR30 HS5 HY6 HR HR0 HR1 HR2
                  generalize W6.alloc (.cells #[.slice none 0 0] 24) = W7 at *
                  go_wp2
                  go_loopw [14, 16] (fun vo iv wx => ∃ (i : Nat) (o : List Nat) (l : List MSt) (v : Value) (R : RowMap), iv = .int .i64 (i : Int) ∧ i ≤ o.length ∧ (∃ g c, vo = .slice (some ⟨g, 0, none⟩) o.length c) ∧ R 0 = some (.slice (some ⟨gc, 0, none⟩) fins.length cc, nat2 κl) ∧ R 1 = some (.slice (some ⟨gr, 0, none⟩) z z, nat2 RL) ∧ R 2 = some (.slice (some ⟨gm, 0, none⟩) z z, numL z o) ∧ R 3 = some (vo, nat2 o) ∧ Ls6 w wx rb db #[.slice al ls.length cl, .slice (some ⟨gf, of, none⟩) fins.length cf, .slice (some ⟨gN, oN, none⟩) nxt.length cn] R v l ∧ bfs (T.nexts ls.length) i 0 [K] = o ∧ (∀ x ∈ o, x < z) ∧ o.Nodup ∧ l.map Prod.snd = (o.take i).map (T.state ls.length ls o) ∧ (∀ x ∈ o.take i, ∀ a, a ≤ ls.length → T.gto x a ∈ o ∨ T.dead (T.gto x a) = true)) (fun _ iv _ => z + 1 - (intOf iv).toNat)
                  case atStart =>
                    obtain ⟨R', q0, q1, q2, q3, q4⟩ := HRR.out
                    exact ⟨0, [K], [], _, R', rfl, by simp, ⟨_, _, rfl⟩, q0, q1, q2, q3, q4, rfl, by simpa using hk0, by simp, by simp, by simp⟩
                  case round =>
                    clear HRR
                    obtain ⟨i, o, l, v, R', rfl, hio, ⟨g3, c3, rfl⟩, q0, q1, q2, q3, q4, q5, q6, q7, q8, q9⟩ := hrel
                    have HQ0 := hidd q0
                    have HQ1 := hidd q1
                    have HQ2 := hidd q2
                    have HQ3 := hidd q3
                    have HL6 := hidd q4
                    have HQ5 := hidd q5
                    have HQ6 := hidd q6
                    have HQ7 := hidd q7
                    have HQ8 := hidd q8
                    have HQ9 := hidd q9
                    have hoz : o.length ≤ z := nat_nodup_le z o q7 q6
                    clear q0 q1 q2 q3 q4 q5 q6 q7 q8 q9
                    by_cases hlo : i < o.length
                    · have hloz : (i : Int) < (o.length : Int) := by omega
                      obtain ⟨x, hx⟩ : ∃ x, o[i]? = some x := ⟨o[i], List.getElem?_eq_getElem hlo⟩
                      have hxz := HQ6.out x (List.mem_of_getElem? hx)
                      have r1 : wr.cell? ⟨rb, 1, none⟩ = some (.slice (some ⟨gf, of, none⟩) fins.length cf) := blkc HL6.out.rawb 1
                      have o1 : wr.cell? ⟨g3, i, none⟩ = some (.int .i64 (x : Int)) := by
                        rw [HL6.out.rows.cellB HQ3.out (nat2_len _) hlo, nat2_at _ _ hlo, List.getD_eq_getElem?_getD, hx]; rfl
                      have p1 := HRpc.out wr R' HL6.out.rows HQ1.out x hxz
                      obtain ⟨hp1, hp2⟩ := HRe.out x hxz
                      have f1 := HFinc.out wr HL6.out.below _ hp1
                      have hff := HTf.out x
                      obtain ⟨P, hP⟩ : ∃ P, atN RL x = P := ⟨_, rfl⟩
                      rw [hP] at p1 hp1 f1 hff
                      have HP := hidd hP
                      rw [← hff] at f1
                      obtain ⟨fb, hfb⟩ : ∃ fb, T.fin x = fb := ⟨_, rfl⟩
                      rw [hfb] at f1
                      have HFb := hidd hfb
                      have HX := hidd hx
                      clear hff hfb hP hp2 hx
                      have hxzz : (x : Int) < (z : Int) := by omega
                      have hpz : (P : Int) < (fins.length : Int) := by omega
                      have hpn : (P : Int) < (nxt.length : Int) := by have := HLen.out; omega
                      go_upto_region 34 with fail
                      go_region_held3 (fun W => W.cell? ⟨rb, 1, none⟩ = some (.slice (some ⟨gf, of, none⟩) fins.length cf) ∧ W.cell? ⟨g3, i, none⟩ = some (.int .i64 (x : Int)) ∧ W.cell? ⟨gr, x, none⟩ = some (.int .i64 (P : Int)) ∧ W.cell? ⟨gf, of + P, none⟩ = some (.bool fb)) (first | exact ⟨r1, o1, p1, f1⟩ | go_keep) (fail)
                      -- L7
                      have HL7 : Hid (Ls7 w ((wr.alloc (.cells #[.bool fb, .slice none 0 0, .int .i64 (-1)] 86)).drew) rb db wr.heap.size #[.slice al ls.length cl, .slice (some ⟨gf, of, none⟩) fins.length cf, .slice (some ⟨gN, oN, none⟩) nxt.length cn] R' v l (.slice none 0 0) fb (arcsTo T ls.length ls (o7 T ls.length x o 0) x (min 0 ls.length)) (e7 T ls.length x o 0)) := by
                        have h1 := (HL6.out.start fb (-1)).keep (below_drewN (Below.refl _ _) 1)
                        have e1 : arcsTo T ls.length ls (o7 T ls.length x o 0) x (min 0 ls.length) = [] := by simp [arcsTo, toldTo]
                        have e2 : e7 T ls.length x o 0 = -1 := by simp [e7]
                        rw [e1, e2]
                        exact h1
                      obtain ⟨sb, hsb⟩ : ∃ sb, wr.heap.size = sb := ⟨_, rfl⟩
                      rw [hsb] at HL7
                      simp only [hsb]
                      clear hsb r1 o1 p1 f1 HL6
                      generalize (wr.alloc (.cells #[.bool fb, .slice none 0 0, .int .i64 (-1)] 86)).drew = W8 at *
                      obtain ⟨gq, oq, cq, hrow⟩ := HRowc.out P hp1
                      have HRow := hidd hrow
                      clear hrow
                      have hSp : 0 < S := by have := HS.out; omega
                      have r2 : W8.cell? ⟨rb, 2, none⟩ = some (.slice (some ⟨gN, oN, none⟩) nxt.length cn) := blkc HL7.out.rawb 2
                      have o1 : W8.cell? ⟨g3, i, none⟩ = some (.int .i64 (x : Int)) := by
                        rw [HL7.out.rows.cellB HQ3.out (nat2_len _) hlo, nat2_at _ _ hlo, List.getD_eq_getElem?_getD, HX.out]; rfl
                      have p1 := HRpc.out W8 R' HL7.out.rows HQ1.out x hxz
                      rw [HP.out] at p1
                      obtain ⟨g1, g2⟩ := HRow.out W8 HL7.out.below
                      have hTm := HTo.out x ls.length
                      rw [HP.out] at hTm
                      have hxm := HSh.out P ls.length hp1 (by have := HS.out; omega)
                      have g2m := g2 ls.length (by have := HS.out; omega)
                      have c1 := HCls.out W8 R' HL7.out.rows HQ0.out _ hxm
                      rw [← hTm] at c1
                      obtain ⟨Xm, hXm⟩ : ∃ Xm, (autR fins nxt).nx P ls.length = Xm := ⟨_, rfl⟩
                      rw [hXm] at g2m hxm c1
                      obtain ⟨O, hO⟩ : ∃ O, T.gto x ls.length = O := ⟨_, rfl⟩
                      rw [hO] at c1
                      have HO := hidd hO
                      have hSm : (S : Int) - 1 = (ls.length : Int) := by have := HS.out; omega
                      have hmS : (ls.length : Int) < (S : Int) := by have := HS.out; omega
                      have hxmz : (Xm : Int) < (fins.length : Int) := by omega
                      clear g2 hTm hXm hO
                      go_wp2
                      go_quiet (fail)
                      go_wp2
                      have HL7q := hidd (HL7.out.keep (below_drewN (Below.refl _ _) nq))
                      have g2m' : (W8.drewN nq).cell? ⟨gq, oq + ls.length, none⟩ = some (.int .i64 (Xm : Int)) := by simpa using g2m
                      have c1' : (W8.drewN nq).cell? ⟨gc, Xm, none⟩ = some (.int .i64 (O : Int)) := by simpa using c1
                      clear r2 o1 p1 g1 g2m c1 HL7
                      generalize W8.drewN nq = W9 at *
                      go_wp2
                      clear g2m' c1'
                      have HOk := hidd (o7_ok HQ6.out HQ7.out (fun k hk => HTl.out x k hxz hk))
                      go_loopw [14, 20] (fun vo kv wx => ∃ (k : Nat) (R : RowMap) (va : Value), k ≤ S ∧ kv = .int .i64 (k : Int) ∧ (∃ g c, vo = .slice (some ⟨g, 0, none⟩) (o7 T ls.length x o k).length c) ∧ R 0 = some (.slice (some ⟨gc, 0, none⟩) fins.length cc, nat2 κl) ∧ R 1 = some (.slice (some ⟨gr, 0, none⟩) z z, nat2 RL) ∧ R 2 = some (.slice (some ⟨gm, 0, none⟩) z z, numL z (o7 T ls.length x o k)) ∧ R 3 = some (vo, nat2 (o7 T ls.length x o k)) ∧ Ls7 w wx rb db sb #[.slice al ls.length cl, .slice (some ⟨gf, of, none⟩) fins.length cf, .slice (some ⟨gN, oN, none⟩) nxt.length cn] R v l va fb (arcsTo T ls.length ls (o7 T ls.length x o k) x (min k ls.length)) (e7 T ls.length x o k)) (fun _ kv _ => S - (intOf kv).toNat)
                      case atStart => exact ⟨0, R', _, Nat.zero_le _, rfl, ⟨g3, c3, by rw [o7_zero]⟩, HQ0.out, HQ1.out, by rw [o7_zero]; exact HQ2.out, by rw [o7_zero]; exact HQ3.out, HL7q.out⟩
                      case round =>
                        clear HL7q HQ0 HQ1 HQ2 HQ3
                        obtain ⟨k, R, va, hkS, rfl, ⟨g3', c3', rfl⟩, q0, q1, q2, q3, q4⟩ := hrel
                        have HQ0 := hidd q0
                        have HQ1 := hidd q1
                        have HQ2 := hidd q2
                        have HQ3 := hidd q3
                        have HL7 := hidd q4
                        clear q0 q1 q2 q3 q4
                        have r0 : wr.cell? ⟨rb, 0, none⟩ = some (.slice al ls.length cl) := blkc HL7.out.rawb 0
                        by_cases hkm : k ≤ ls.length
                        · have hkmz : (k : Int) ≤ (ls.length : Int) := by omega
                          have hkSz : (k : Int) < (S : Int) := by have := HS.out; omega
                          obtain ⟨g1, g2⟩ := HRow.out wr HL7.out.below
                          have g2k := g2 k (by have := HS.out; omega)
                          have hxk := HSh.out P k hp1 (by have := HS.out; omega)
                          have hTk := HTo.out x k
                          rw [HP.out] at hTk
                          have c1 := HCls.out wr R HL7.out.rows HQ0.out _ hxk
                          rw [← hTk] at c1
                          have hCz := HTl.out x k hxz hkm
                          obtain ⟨X, hX⟩ : ∃ X, (autR fins nxt).nx P k = X := ⟨_, rfl⟩
                          rw [hX] at g2k hxk c1
                          have hDC := HTd.out (T.gto x k)
                          have d1 := HL7.out.rows.cellB HQ2.out (numL_len _ _) hCz
                          rw [numL_at _ hCz] at d1
                          have HSet := hidd (HL7.out.setInt HQ2.out (numL_len _ _) hCz ((o7 T ls.length x o k).length : Int))
                          obtain ⟨_, curm, hcurm⟩ := own_blk (HL7.out.rows.own 2 _ _ HQ2.out) (b := gm) rfl
                          have HFz : Hid (∀ q, wr.frozen? ⟨gm, q, none⟩ = false) := fun q => blkf hcurm q
                          have HPu := hidd (fun hn => numL_push (o := o7 T ls.length x o k) hCz hn)
                          have HokK := hidd (HOk.out k)
                          have hlz : (o7 T ls.length x o k).length ≤ z := nat_nodup_le z _ (HOk.out k).2 (HOk.out k).1
                          obtain ⟨C, hC⟩ : ∃ C, T.gto x k = C := ⟨_, rfl⟩
                          rw [hC] at c1 hCz hDC d1 HSet HPu
                          have HC := hidd hC
                          have hxkz : (X : Int) < (fins.length : Int) := by omega
                          have hCzz : (C : Int) < (z : Int) := by omega
                          clear g2 hTk hX hC hcurm
                          -- CASES
                          by_cases hA : k < ls.length ∧ C = O
                          · obtain ⟨hkl, hCO⟩ := hA
                            have hklz : (k : Int) < (ls.length : Int) := by omega
                            have hklb : decide ((k : Int) < (ls.length : Int)) = true := by simpa using hkl
                            have hcob : ((C : Int) == (O : Int)) = true := by simp [hCO]
                            have HSm := hidd (o7_same (o := o) hkl (show T.gto x k = T.gto x ls.length by rw [HC.out, HO.out]; exact hCO) ls)
                            clear HSet d1 hDC HPu hCO
                            go_wp2
                            go_roundw
                            case rel =>
                              have e1 : min k ls.length = k := by omega
                              have e2 : min (k + 1) ls.length = k + 1 := by omega
                              have e3 : e7 T ls.length x o (k + 1) = e7 T ls.length x o k := by unfold e7; rw [if_pos (by omega), if_pos (by omega)]
                              exact ⟨k + 1, R, va, by omega, by go_num, ⟨g3', c3', by rw [HSm.out.1]⟩, HQ0.out, HQ1.out, by rw [HSm.out.1]; exact HQ2.out, by rw [HSm.out.1]; exact HQ3.out, by rw [e2, e3, HSm.out.2]; have h1 := HL7.out; rw [e1] at h1; exact h1⟩
                            case measure => simp [intOf]; omega
                          · have HOm7 : Hid ((o7 T ls.length x o (k + 1)) = meetD T (o7 T ls.length x o k) C) := by
                              show _ = _
                              by_cases hkl : k < ls.length
                              · rw [(o7_arc (o := o) hkl (show T.gto x k ≠ T.gto x ls.length by rw [HC.out, HO.out]; exact fun e => hA ⟨hkl, e⟩) ls).1, HC.out]
                              · have hkm2 : k = ls.length := by omega
                                rw [← HC.out, hkm2]
                                exact (o7_els (T := T) (m := ls.length) (x := x) (o := o) ls).1
                            have HOa7 : Hid (k < ls.length → arcsTo T ls.length ls (o7 T ls.length x o (k + 1)) x (k + 1) = arcsTo T ls.length ls (o7 T ls.length x o k) x k ++ [(ls.getD k 0, T.num (o7 T ls.length x o (k + 1)) (T.gto x k))]) := by
                              show _ → _
                              intro hkl
                              exact (o7_arc (o := o) hkl (show T.gto x k ≠ T.gto x ls.length by rw [HC.out, HO.out]; exact fun e => hA ⟨hkl, e⟩) ls).2
                            have HOe7 : Hid (k = ls.length → arcsTo T ls.length ls (o7 T ls.length x o (k + 1)) x ls.length = arcsTo T ls.length ls (o7 T ls.length x o k) x ls.length) := by
                              show _ → _
                              intro hkm2
                              rw [hkm2]
                              exact (o7_els (T := T) (m := ls.length) (x := x) (o := o) ls).2
                            have HA := hidd hA
                            clear hA
                            go_upto_region 41 with fail
                            go_cut [183] (fun bv wy => bv = .bool false ∧ wy = wr)
                            case first =>
                              by_cases hkl : k < ls.length
                              · have hklz : (k : Int) < (ls.length : Int) := by omega
                                have hklb : decide ((k : Int) < (ls.length : Int)) = true := by simpa using hkl
                                have hcob : ((C : Int) == (O : Int)) = false := by have := HA.out; simp; omega
                                go_wp2
                                go_meet
                                case rel => exact ⟨rfl, rfl⟩
                              · have hklz : ¬ (k : Int) < (ls.length : Int) := by omega
                                have hklb : decide ((k : Int) < (ls.length : Int)) = false := by simpa using hkl
                                go_wp2
                                go_meet
                                case rel => exact ⟨rfl, rfl⟩
                            case rest =>
                              obtain ⟨rfl, hwc⟩ := hcut
                              obtain rfl := hwc.symm
                              clear hwc
                              go_upto_region 42 with fail
                              go_cut [193] (fun bv wy => bv = .bool (decide (¬ dead = (C : Int) ∧ C ∉ (o7 T ls.length x o k))) ∧ wy = wr)
                              case first =>
                                by_cases hdd : dead = (C : Int)
                                · have hdb : ((C : Int) != dead) = false := by simp [hdd]
                                  have hx1 : decide (¬ dead = (C : Int) ∧ C ∉ (o7 T ls.length x o k)) = false := by simp [hdd]
                                  go_wp2
                                  go_meet
                                  case rel => exact ⟨by rw [hx1], rfl⟩
                                · have hdb : ((C : Int) != dead) = true := by simp; omega
                                  by_cases hcm : C ∈ (o7 T ls.length x o k)
                                  · rw [if_pos hcm] at d1
                                    have hx1 : decide (¬ dead = (C : Int) ∧ C ∉ (o7 T ls.length x o k)) = false := by simp [hcm]
                                    generalize ix (o7 T ls.length x o k) C = J at *
                                    have hJb : decide ((J : Int) < 0) = false := by simp
                                    have hJz : ¬ (J : Int) < 0 := by omega
                                    go_wp2
                                    go_meet
                                    case rel => exact ⟨by rw [hx1], rfl⟩
                                  · rw [if_neg hcm] at d1
                                    have hx1 : decide (¬ dead = (C : Int) ∧ C ∉ (o7 T ls.length x o k)) = true := by simp [hdd, hcm]
                                    go_wp2
                                    go_meet
                                    case rel => exact ⟨by rw [hx1], rfl⟩
                              case rest =>
                                obtain ⟨rfl, hwc⟩ := hcut
                                obtain rfl := hwc.symm
                                clear hwc
                                go_upto_if 193 with fail
                                go_cut [14] (fun vo wy => ∃ (R2 : RowMap) (g c : Nat), vo = .slice (some ⟨g, 0, none⟩) ((o7 T ls.length x o (k + 1))).length c ∧ R2 0 = some (.slice (some ⟨gc, 0, none⟩) fins.length cc, nat2 κl) ∧ R2 1 = some (.slice (some ⟨gr, 0, none⟩) z z, nat2 RL) ∧ R2 2 = some (.slice (some ⟨gm, 0, none⟩) z z, numL z (o7 T ls.length x o (k + 1))) ∧ R2 3 = some (vo, nat2 (o7 T ls.length x o (k + 1))) ∧ Ls7 w wy rb db sb #[.slice al ls.length cl, .slice (some ⟨gf, of, none⟩) fins.length cf, .slice (some ⟨gN, oN, none⟩) nxt.length cn] R2 v l va fb (arcsTo T ls.length ls (o7 T ls.length x o k) x (min k ls.length)) (e7 T ls.length x o k))
                                case first =>
                                  by_cases hnw : ¬ dead = (C : Int) ∧ C ∉ (o7 T ls.length x o k)
                                  · have hx1 : decide (¬ dead = (C : Int) ∧ C ∉ (o7 T ls.length x o k)) = true := by simpa using hnw
                                    obtain ⟨hdd, hcm⟩ := hnw
                                    have HO1 : Hid ((o7 T ls.length x o (k + 1)) = (o7 T ls.length x o k) ++ [C]) := by
                                      show _ = _
                                      rw [HOm7.out]
                                      unfold meetD
                                      rw [if_neg (by rw [hDC]; simpa using hdd)]
                                      unfold meet
                                      rw [if_neg hcm]
                                    have HNl := hidd (HPu.out hcm)
                                    have fm := HFz.out C
                                    rw [if_neg hcm] at d1
                                    rw [hx1]
                                    clear hDC hdd HPu hcm hx1
                                    have hlz2 := hlz
                                    obtain ⟨Lo, hLo⟩ : ∃ Lo, ((o7 T ls.length x o k)).length = Lo := ⟨_, rfl⟩
                                    rw [hLo] at HSet hlz2
                                    simp only [hLo]
                                    have HLo := hidd hLo
                                    clear hLo hlz
                                    go_upto_region 44 with fail
                                    generalize wr.setCell ⟨gm, C, none⟩ (.int .i64 (Lo : Int)) = W1 at *
                                    have HR3 : Hid (upd R 2 (some (.slice (some ⟨gm, 0, none⟩) z z, (numL z (o7 T ls.length x o k)).set C (Lo : Int))) 3 = some (.slice (some ⟨g3', 0, none⟩) Lo c3', nat2 (o7 T ls.length x o k))) := by show _ = _; rw [upd_other _ _ (by omega), ← HLo.out]; exact HQ3.out
                                    have HOw : Hid (W1.ownsRow w.heap.size 3 1 (.slice (some ⟨g3', 0, none⟩) Lo c3') Lo (zI (nat2 (o7 T ls.length x o k)))) := by
                                      have := HSet.out.rows.own _ _ _ HR3.out
                                      rw [nat2_len, HLo.out] at this
                                      exact this
                                    have hb1 := HSet.out.below.size
                                    clear fm d1
                                    go_wp2_with (at_builtin; refine wp_push rfl _ _ 30 3 rfl i0 (.int .i64 0) 8 Tryd.underlying30 hi hz0 hz1 hz2 rfl w.heap.size _ _ _ rfl HOw.out _ rfl rfl (by omega) (by decide) hb1 ?_)
                                    intro vo' W2 hown2 hbut2 hat2 hne2
                                    rcases own_cases hown2 with ⟨e, _⟩ | ⟨g5, c5, rfl, hg51, hg52⟩
                                    · exact absurd e hne2
                                    have HLg := hidd (HSet.out.growInt (u' := .slice (some ⟨g5, 0, none⟩) (Lo + 1) c5) (ys := nat2 ((o7 T ls.length x o k) ++ [C])) HR3.out hbut2 (by rw [nat2_app, zI_app, List.length_append, nat2_len, HLo.out]; exact hown2) hat2)
                                    clear hown2 hbut2 hat2 hne2 HOw HR3 HSet
                                    go_wp2
                                    go_meet
                                    case rel => exact ⟨_, g5, c5, by rw [HO1.out, List.length_append, HLo.out]; rfl, by rw [upd_other _ _ (by omega), upd_other _ _ (by omega)]; exact HQ0.out, by rw [upd_other _ _ (by omega), upd_other _ _ (by omega)]; exact HQ1.out, by rw [upd_other _ _ (by omega), upd_same, HO1.out, HNl.out, HLo.out], by rw [upd_same, HO1.out], HLg.out⟩
                                  · have hx1 : decide (¬ dead = (C : Int) ∧ C ∉ (o7 T ls.length x o k)) = false := by simpa using hnw
                                    have HO1 : Hid ((o7 T ls.length x o (k + 1)) = (o7 T ls.length x o k)) := by
                                      show _ = _
                                      rw [HOm7.out]
                                      unfold meetD
                                      by_cases hdd : dead = (C : Int)
                                      · rw [if_pos (by rw [hDC]; simpa using hdd)]
                                      · rw [if_neg (by rw [hDC]; simpa using hdd)]
                                        unfold meet
                                        rw [if_pos (by
                                          apply Classical.byContradiction
                                          intro hcm
                                          exact hnw ⟨hdd, hcm⟩)]
                                    rw [hx1]
                                    clear hnw hx1
                                    go_wp2
                                    go_meet
                                    case rel => exact ⟨R, g3', c3', by rw [HO1.out], HQ0.out, HQ1.out, by rw [HO1.out]; exact HQ2.out, by rw [HO1.out]; exact HQ3.out, HL7.out⟩
                                case rest =>
                                  obtain ⟨R2, g5, c5, rfl, q0, q1, q2, q3, q4⟩ := hcut
                                  have HE0 := hidd q0
                                  have HE1 := hidd q1
                                  have HE2 := hidd q2
                                  have HE3 := hidd q3
                                  have HLg := hidd q4
                                  clear q0 q1 q2 q3 q4 HSet d1 HQ0 HQ1 HQ2 HQ3 HL7 HPu r0 g1 g2k c1
                                  have HCm : Hid (C ∈ (o7 T ls.length x o (k + 1)) ∨ T.dead C = true) := by show _ ∨ _; rw [HOm7.out]; exact meetD_mem T _ C
                                  have d1 := HLg.out.rows.cellB HE2.out (numL_len _ _) hCz
                                  rw [numL_at _ hCz] at d1
                                  obtain ⟨pl, hpl⟩ : ∃ pl, T.num (o7 T ls.length x o (k + 1)) C = pl := ⟨_, rfl⟩
                                  have HPl := hidd hpl
                                  generalize wc = W2 at *
                                  go_upto_if 205 with fail
                                  go_cut [22] (fun pv wy => pv = .int .i64 pl ∧ wy = W2)
                                  case first =>
                                    by_cases hdd : dead = (C : Int)
                                    · have hdb : ((C : Int) != dead) = false := by simp [hdd]
                                      have hp1 : pl = -1 := by rw [← hpl]; unfold Sys.num; rw [if_pos (by rw [hDC]; simpa using hdd)]
                                      clear hpl
                                      go_wp2
                                      go_meet
                                      case rel => exact ⟨by rw [hp1], rfl⟩
                                    · have hdb : ((C : Int) != dead) = true := by simp; omega
                                      have hnd : ¬ T.dead C = true := by rw [hDC]; simpa using hdd
                                      rw [if_pos (HCm.out.resolve_right hnd)] at d1
                                      have hp1 : (ix (o7 T ls.length x o (k + 1)) C : Int) = pl := by rw [← hpl]; unfold Sys.num; rw [if_neg hnd]
                                      rw [hp1] at d1
                                      clear hpl hp1
                                      go_wp2
                                      go_meet
                                      case rel => exact ⟨rfl, rfl⟩
                                  case rest =>
                                    obtain ⟨rfl, hwc⟩ := hcut
                                    obtain rfl := hwc.symm
                                    clear hwc d1 hpl hDC
                                    by_cases hkl : k < ls.length
                                    · have hkl0 := hkl
                                      obtain ⟨gl, ol, rfl, hgl, hcl⟩ := HLl.out.resolve_left (fun e => by rw [e] at hkl; simp at hkl)
                                      have hklz : (k : Int) < (ls.length : Int) := by omega
                                      have l0 := hcl k hkl
                                      obtain ⟨lk, hlk⟩ : ∃ lk, ls.getD k 0 = lk := ⟨_, rfl⟩
                                      rw [hlk] at l0
                                      have HLk := hidd hlk
                                      have hal : (arcsTo T ls.length ls (o7 T ls.length x o k) x (min k ls.length)).length ≤ 1048577 := by
                                        have h1 := List.length_filter_le (fun a => decide (T.gto x a ≠ T.gto x ls.length)) (List.range (min k ls.length))
                                        rw [List.length_range] at h1
                                        have h2 : (arcsTo T ls.length ls (o7 T ls.length x o k) x (min k ls.length)).length = ((List.range (min k ls.length)).filter fun a => decide (T.gto x a ≠ T.gto x ls.length)).length := List.length_map _
                                        have := HS.out
                                        omega
                                      have HLd := hidd (HLg.out.keep (below_drewN (Below.refl _ _) 1))
                                      have HOa : Hid ((W2.drew.alloc (.cells #[.int .i64 lk, .int .i64 pl] 92)).ownsRow w.heap.size 92 2 va (arcsTo T ls.length ls (o7 T ls.length x o k) x (min k ls.length)).length (arcCells (arcsTo T ls.length ls (o7 T ls.length x o k) x (min k ls.length)))) := HLd.out.cur.arcs.alloc _
                                      have hba : w.heap.size ≤ (W2.drew.alloc (.cells #[.int .i64 lk, .int .i64 pl] 92)).heap.size := by have := HLd.out.below.size; simp at this ⊢; omega
                                      have HNw : Hid (∀ (j : Nat) u, [Value.int .i64 lk, .int .i64 pl][j]? = some u → (W2.drew.alloc (.cells #[.int .i64 lk, .int .i64 pl] 92)).cell? ((⟨W2.drew.heap.size, 0, none⟩ : Addr).add j) = some u) := by
                                        show ∀ _, _
                                        intro j u hj
                                        rw [add_head, blkc (heap_alloc_new W2.drew (.cells #[.int .i64 lk, .int .i64 pl] 92)) j]
                                        simpa using hj
                                      have S1 : W2.drew.cell? ⟨rb, 0, none⟩ = some (.slice (some ⟨gl, ol, none⟩) ls.length cl) ∧ W2.drew.cell? ⟨gl, ol + k, none⟩ = some (.int .i64 lk) := ⟨blkc HLd.out.rawb 0, (HLd.out.below.cell (p := ⟨gl, ol + k, none⟩) hgl).trans l0⟩
                                      have hB2 : Below W2.drew.heap.size W2.drew (W2.drew.alloc (.cells #[.int .i64 lk, .int .i64 pl] 92)) := (Below.refl _ _).alloc (Nat.le_refl _) _
                                      have S2 : (W2.drew.alloc (.cells #[.int .i64 lk, .int .i64 pl] 92)).cell? ⟨rb, 0, none⟩ = some (.slice (some ⟨gl, ol, none⟩) ls.length cl) ∧ (W2.drew.alloc (.cells #[.int .i64 lk, .int .i64 pl] 92)).cell? ⟨gl, ol + k, none⟩ = some (.int .i64 lk) := ⟨blkc (blko HLd.out.rawb hB2) 0, ((HLd.out.below.trans (hB2.mono HLd.out.below.size)).cell (p := ⟨gl, ol + k, none⟩) hgl).trans l0⟩
                                      have t1 : W2.drew.cell? ⟨sb, 1, none⟩ = some va := blkc HLd.out.cur.box 1
                                      have t2 : (W2.drew.alloc (.cells #[.int .i64 lk, .int .i64 pl] 92)).cell? ⟨sb, 1, none⟩ = some va := blkc (blko HLd.out.cur.box hB2) 1
                                      have ral : W2.cell? ⟨rb, 0, none⟩ = some (.slice (some ⟨gl, ol, none⟩) ls.length cl) := blkc HLg.out.rawb 0
                                      clear hcl hlk
                                      go_upto_region 49 with fail
                                      refine wp_region_held (S := fun W' => W'.cell? ⟨rb, 0, none⟩ = some (.slice (some ⟨gl, ol, none⟩) ls.length cl) ∧ W'.cell? ⟨gl, ol + k, none⟩ = some (.int .i64 lk)) (by kernel_rfl) ?_
                                      try simp only [Act.put, List.getElem_toArray, List.getElem_cons_succ, List.getElem_cons_zero, List.setIfInBounds_toArray, List.set_cons_zero, List.set_cons_succ]
                                      refine tkX 0 (h := ?_)
                                      try simp only [Act.put, List.getElem_toArray, List.getElem_cons_succ, List.getElem_cons_zero, List.setIfInBounds_toArray, List.set_cons_zero, List.set_cons_succ]
                                      refine tkX 2 (h := ?_)
                                      try simp only [Act.put, List.getElem_toArray, List.getElem_cons_succ, List.getElem_cons_zero, List.setIfInBounds_toArray, List.set_cons_zero, List.set_cons_succ]
                                      refine tkX 3 (h := ?_)
                                      try simp only [Act.put, List.getElem_toArray, List.getElem_cons_succ, List.getElem_cons_zero, List.setIfInBounds_toArray, List.set_cons_zero, List.set_cons_succ]
                                      refine tkX 4 (h := ?_)
                                      try simp only [Act.put, List.getElem_toArray, List.getElem_cons_succ, List.getElem_cons_zero, List.setIfInBounds_toArray, List.set_cons_zero, List.set_cons_succ]
                                      refine tkX 5 (h := ?_)
                                      try simp only [Act.put, List.getElem_toArray, List.getElem_cons_succ, List.getElem_cons_zero, List.setIfInBounds_toArray, List.set_cons_zero, List.set_cons_succ]
                                      refine tkX 6 (h := ?_)
                                      try simp only [Act.put, List.getElem_toArray, List.getElem_cons_succ, List.getElem_cons_zero, List.setIfInBounds_toArray, List.set_cons_zero, List.set_cons_succ]
                                      refine tkX 7 (h := ?_)
                                      try simp only [Act.put, List.getElem_toArray, List.getElem_cons_succ, List.getElem_cons_zero, List.setIfInBounds_toArray, List.set_cons_zero, List.set_cons_succ]
                                      refine tkX 8 (h := ?_)
                                      try simp only [Act.put, List.getElem_toArray, List.getElem_cons_succ, List.getElem_cons_zero, List.setIfInBounds_toArray, List.set_cons_zero, List.set_cons_succ]
                                      refine wpAnyH_two 1 9 (by kernel_rfl) ?oA ?oB
                                      case oA =>
                                        refine wpOp_val va _ rfl (by kernel_rfl) (exec_loadArc _ _ _ _ rfl sb 1 va (by kernel_rfl) t1) ?_
                                        refine ⟨S1, ?_⟩
                                        try simp only [Act.put, List.getElem_toArray, List.getElem_cons_succ, List.getElem_cons_zero, List.setIfInBounds_toArray, List.set_cons_zero, List.set_cons_succ]
                                        refine wpAnyH_one 9 (by kernel_rfl) ?_
                                        refine wpOp_val (.slice (some ⟨W2.drew.heap.size, 0, none⟩) 1 1) (W2.drew.alloc (.cells #[.int .i64 lk, .int .i64 pl] 92)) rfl (by kernel_rfl) (exec_boxArc _ _ _ _ rfl lk pl (by kernel_rfl)) ?_
                                        refine ⟨S2, ?_⟩
                                        try simp only [Act.put, List.getElem_toArray, List.getElem_cons_succ, List.getElem_cons_zero, List.setIfInBounds_toArray, List.set_cons_zero, List.set_cons_succ]
                                        refine wpAnyH_one 10 (by kernel_rfl) ?_
                                        refine wpOp_wp rfl (by kernel_rfl) (wp_append_lies _ (.tmp 216) (.tmp 224) 84 rfl w.heap.size 92 ia (.agg #[.int .i64 0, .int .i64 0]) 2 16 Tryd.underlying84 hia ha0 ha1 ha2 rfl (by decide) va (arcsTo T ls.length ls (o7 T ls.length x o k) x (min k ls.length)).length (arcCells (arcsTo T ls.length ls (o7 T ls.length x o k) x (min k ls.length))) (by kernel_rfl) HOa.out ⟨W2.drew.heap.size, 0, none⟩ 1 1 [.int .i64 lk, .int .i64 pl] (by kernel_rfl) rfl HNw.out (by intro u' hu'; simp at hu'; rcases hu' with rfl | rfl <;> rfl) (by omega) (by unfold maxLen; omega) (by omega) hba _ rfl ?_)
                                        intro g6 cp6 w6 hown6 hgrow6 hat6 hlt6
                                        have hbut6 : But (fun b => va.ownBlock = some b) W2.drew w6 := ⟨hgrow6.os, hgrow6.tape, hgrow6.output, by have := hgrow6.size; simp at this ⊢; omega, fun b hb hn => by rw [hgrow6.block b (by simp at hb ⊢; omega) (fun e => hn e.symm), Below.heap_alloc _ _ _ hb]⟩
                                        have hat6' : ∀ b, (Value.slice (some ⟨g6, 0, none⟩) ((arcsTo T ls.length ls (o7 T ls.length x o k) x (min k ls.length)).length + 1) cp6).ownBlock = some b → va.ownBlock = some b ∨ W2.drew.heap.size ≤ b := by
                                          intro b hb
                                          cases hb
                                          rcases hat6 with h5 | h5
                                          · exact Or.inl h5
                                          · exact Or.inr (by rw [h5]; simp)
                                        have HAr := hidd (HLd.out.arc (a := (lk, pl)) hbut6 hown6 hat6')
                                        have s6 := blkc HAr.out.2 1
                                        have f6 := blkf HAr.out.2 1
                                        have S6 : w6.cell? ⟨rb, 0, none⟩ = some (.slice (some ⟨gl, ol, none⟩) ls.length cl) ∧ w6.cell? ⟨gl, ol + k, none⟩ = some (.int .i64 lk) := by
                                          have h1 := HLd.out.rawb
                                          have h2 := HLd.out.cur.arcs
                                          refine ⟨?_, ?_⟩
                                          · rw [hbut6.cell (p := ⟨rb, 0, none⟩) (Array.getElem?_eq_some_iff.1 h1).1 (fun e => by
                                              obtain ⟨_, c9, h9⟩ := own_blk h2 e
                                              exact blk_ne h1 h9 (by decide) rfl)]
                                            exact blkc h1 0
                                          · rw [hbut6.cell (p := ⟨gl, ol + k, none⟩) (Nat.lt_of_lt_of_le hgl HLd.out.below.size) (fun e => by
                                              have := (own_blk h2 e).1
                                              have h3 : gl < w.heap.size := hgl
                                              dsimp only at this
                                              omega)]
                                            exact (HLd.out.below.cell (p := ⟨gl, ol + k, none⟩) hgl).trans l0
                                        have S7 : (w6.setCell ⟨sb, 1, none⟩ (.slice (some ⟨g6, 0, none⟩) ((arcsTo T ls.length ls (o7 T ls.length x o k) x (min k ls.length)).length + 1) cp6)).cell? ⟨rb, 0, none⟩ = some (.slice (some ⟨gl, ol, none⟩) ls.length cl) ∧ (w6.setCell ⟨sb, 1, none⟩ (.slice (some ⟨g6, 0, none⟩) ((arcsTo T ls.length ls (o7 T ls.length x o k) x (min k ls.length)).length + 1) cp6)).cell? ⟨gl, ol + k, none⟩ = some (.int .i64 lk) := ⟨blkc HAr.out.1.rawb 0, (HAr.out.1.below.cell (p := ⟨gl, ol + k, none⟩) hgl).trans l0⟩
                                        clear hown6 hgrow6 hat6 hlt6 hbut6 hat6'
                                        refine ⟨S6, ?_⟩
                                        try simp only [Act.put, List.getElem_toArray, List.getElem_cons_succ, List.getElem_cons_zero, List.setIfInBounds_toArray, List.set_cons_zero, List.set_cons_succ]
                                        refine tkX 11 (h := ?_)
                                        try simp only [Act.put, List.getElem_toArray, List.getElem_cons_succ, List.getElem_cons_zero, List.setIfInBounds_toArray, List.set_cons_zero, List.set_cons_succ]
                                        refine wpAnyH_one 12 (by kernel_rfl) ?_
                                        refine wpOp_skip (w6.setCell ⟨sb, 1, none⟩ (.slice (some ⟨g6, 0, none⟩) ((arcsTo T ls.length ls (o7 T ls.length x o k) x (min k ls.length)).length + 1) cp6)) rfl (by kernel_rfl) (exec_storeArc _ _ _ _ _ rfl sb 1 (some ⟨g6, 0, none⟩) ((arcsTo T ls.length ls (o7 T ls.length x o k) x (min k ls.length)).length + 1) cp6 va (by kernel_rfl) (by kernel_rfl) s6 f6) ?_
                                        refine ⟨S7, ?_⟩
                                        try simp only [Act.put, List.getElem_toArray, List.getElem_cons_succ, List.getElem_cons_zero, List.setIfInBounds_toArray, List.set_cons_zero, List.set_cons_succ]
                                        refine wpAnyH_done (by kernel_rfl) ?_ _
                                        have HL9 : Hid (Ls7 w (w6.setCell ⟨sb, 1, none⟩ (.slice (some ⟨g6, 0, none⟩) ((arcsTo T ls.length ls (o7 T ls.length x o k) x (min k ls.length)).length + 1) cp6)) rb db sb #[.slice (some ⟨gl, ol, none⟩) ls.length cl, .slice (some ⟨gf, of, none⟩) fins.length cf, .slice (some ⟨gN, oN, none⟩) nxt.length cn] R2 v l (.slice (some ⟨g6, 0, none⟩) ((arcsTo T ls.length ls (o7 T ls.length x o k) x (min k ls.length)).length + 1) cp6) fb (arcsTo T ls.length ls (o7 T ls.length x o (k + 1)) x (min (k + 1) ls.length)) (e7 T ls.length x o (k + 1))) := by
                                          have h1 := HAr.out.1
                                          have e1 : min k ls.length = k := by omega
                                          have e2 : min (k + 1) ls.length = k + 1 := by omega
                                          have e3 : e7 T ls.length x o (k + 1) = e7 T ls.length x o k := by unfold e7; rw [if_pos (by omega), if_pos (by omega)]
                                          rw [e1] at h1 ⊢
                                          rw [e2, e3, HOa7.out hkl, HC.out, HPl.out, HLk.out]
                                          exact h1
                                        clear HAr s6 f6 S6 S7
                                        go_wp2
                                        go_roundw
                                        · have h9 := HL9.out
                                          have h8 : min k ls.length = k := Nat.min_eq_left (Nat.le_of_lt hkl)
                                          rw [h8] at h9
                                          exact ⟨k + 1, R2, _, HS.out ▸ Nat.succ_le_succ (Nat.le_of_lt hkl), by go_num, ⟨g5, c5, rfl⟩, HE0.out, HE1.out, HE2.out, HE3.out, h9⟩
                                        · simp [intOf]; omega
                                      case oB =>
                                        refine wpOp_val (.slice (some ⟨W2.drew.heap.size, 0, none⟩) 1 1) (W2.drew.alloc (.cells #[.int .i64 lk, .int .i64 pl] 92)) rfl (by kernel_rfl) (exec_boxArc _ _ _ _ rfl lk pl (by kernel_rfl)) ?_
                                        refine ⟨S2, ?_⟩
                                        try simp only [Act.put, List.getElem_toArray, List.getElem_cons_succ, List.getElem_cons_zero, List.setIfInBounds_toArray, List.set_cons_zero, List.set_cons_succ]
                                        refine wpAnyH_one 1 (by kernel_rfl) ?_
                                        refine wpOp_val va _ rfl (by kernel_rfl) (exec_loadArc _ _ _ _ rfl sb 1 va (by kernel_rfl) t2) ?_
                                        refine ⟨S2, ?_⟩
                                        try simp only [Act.put, List.getElem_toArray, List.getElem_cons_succ, List.getElem_cons_zero, List.setIfInBounds_toArray, List.set_cons_zero, List.set_cons_succ]
                                        refine wpAnyH_one 10 (by kernel_rfl) ?_
                                        refine wpOp_wp rfl (by kernel_rfl) (wp_append_lies _ (.tmp 216) (.tmp 224) 84 rfl w.heap.size 92 ia (.agg #[.int .i64 0, .int .i64 0]) 2 16 Tryd.underlying84 hia ha0 ha1 ha2 rfl (by decide) va (arcsTo T ls.length ls (o7 T ls.length x o k) x (min k ls.length)).length (arcCells (arcsTo T ls.length ls (o7 T ls.length x o k) x (min k ls.length))) (by kernel_rfl) HOa.out ⟨W2.drew.heap.size, 0, none⟩ 1 1 [.int .i64 lk, .int .i64 pl] (by kernel_rfl) rfl HNw.out (by intro u' hu'; simp at hu'; rcases hu' with rfl | rfl <;> rfl) (by omega) (by unfold maxLen; omega) (by omega) hba _ rfl ?_)
                                        intro g6 cp6 w6 hown6 hgrow6 hat6 hlt6
                                        have hbut6 : But (fun b => va.ownBlock = some b) W2.drew w6 := ⟨hgrow6.os, hgrow6.tape, hgrow6.output, by have := hgrow6.size; simp at this ⊢; omega, fun b hb hn => by rw [hgrow6.block b (by simp at hb ⊢; omega) (fun e => hn e.symm), Below.heap_alloc _ _ _ hb]⟩
                                        have hat6' : ∀ b, (Value.slice (some ⟨g6, 0, none⟩) ((arcsTo T ls.length ls (o7 T ls.length x o k) x (min k ls.length)).length + 1) cp6).ownBlock = some b → va.ownBlock = some b ∨ W2.drew.heap.size ≤ b := by
                                          intro b hb
                                          cases hb
                                          rcases hat6 with h5 | h5
                                          · exact Or.inl h5
                                          · exact Or.inr (by rw [h5]; simp)
                                        have HAr := hidd (HLd.out.arc (a := (lk, pl)) hbut6 hown6 hat6')
                                        have s6 := blkc HAr.out.2 1
                                        have f6 := blkf HAr.out.2 1
                                        have S6 : w6.cell? ⟨rb, 0, none⟩ = some (.slice (some ⟨gl, ol, none⟩) ls.length cl) ∧ w6.cell? ⟨gl, ol + k, none⟩ = some (.int .i64 lk) := by
                                          have h1 := HLd.out.rawb
                                          have h2 := HLd.out.cur.arcs
                                          refine ⟨?_, ?_⟩
                                          · rw [hbut6.cell (p := ⟨rb, 0, none⟩) (Array.getElem?_eq_some_iff.1 h1).1 (fun e => by
                                              obtain ⟨_, c9, h9⟩ := own_blk h2 e
                                              exact blk_ne h1 h9 (by decide) rfl)]
                                            exact blkc h1 0
                                          · rw [hbut6.cell (p := ⟨gl, ol + k, none⟩) (Nat.lt_of_lt_of_le hgl HLd.out.below.size) (fun e => by
                                              have := (own_blk h2 e).1
                                              have h3 : gl < w.heap.size := hgl
                                              dsimp only at this
                                              omega)]
                                            exact (HLd.out.below.cell (p := ⟨gl, ol + k, none⟩) hgl).trans l0
                                        have S7 : (w6.setCell ⟨sb, 1, none⟩ (.slice (some ⟨g6, 0, none⟩) ((arcsTo T ls.length ls (o7 T ls.length x o k) x (min k ls.length)).length + 1) cp6)).cell? ⟨rb, 0, none⟩ = some (.slice (some ⟨gl, ol, none⟩) ls.length cl) ∧ (w6.setCell ⟨sb, 1, none⟩ (.slice (some ⟨g6, 0, none⟩) ((arcsTo T ls.length ls (o7 T ls.length x o k) x (min k ls.length)).length + 1) cp6)).cell? ⟨gl, ol + k, none⟩ = some (.int .i64 lk) := ⟨blkc HAr.out.1.rawb 0, (HAr.out.1.below.cell (p := ⟨gl, ol + k, none⟩) hgl).trans l0⟩
                                        clear hown6 hgrow6 hat6 hlt6 hbut6 hat6'
                                        refine ⟨S6, ?_⟩
                                        try simp only [Act.put, List.getElem_toArray, List.getElem_cons_succ, List.getElem_cons_zero, List.setIfInBounds_toArray, List.set_cons_zero, List.set_cons_succ]
                                        refine tkX 11 (h := ?_)
                                        try simp only [Act.put, List.getElem_toArray, List.getElem_cons_succ, List.getElem_cons_zero, List.setIfInBounds_toArray, List.set_cons_zero, List.set_cons_succ]
                                        refine wpAnyH_one 12 (by kernel_rfl) ?_
                                        refine wpOp_skip (w6.setCell ⟨sb, 1, none⟩ (.slice (some ⟨g6, 0, none⟩) ((arcsTo T ls.length ls (o7 T ls.length x o k) x (min k ls.length)).length + 1) cp6)) rfl (by kernel_rfl) (exec_storeArc _ _ _ _ _ rfl sb 1 (some ⟨g6, 0, none⟩) ((arcsTo T ls.length ls (o7 T ls.length x o k) x (min k ls.length)).length + 1) cp6 va (by kernel_rfl) (by kernel_rfl) s6 f6) ?_
                                        refine ⟨S7, ?_⟩
                                        try simp only [Act.put, List.getElem_toArray, List.getElem_cons_succ, List.getElem_cons_zero, List.setIfInBounds_toArray, List.set_cons_zero, List.set_cons_succ]
                                        refine wpAnyH_done (by kernel_rfl) ?_ _
                                        have HL9 : Hid (Ls7 w (w6.setCell ⟨sb, 1, none⟩ (.slice (some ⟨g6, 0, none⟩) ((arcsTo T ls.length ls (o7 T ls.length x o k) x (min k ls.length)).length + 1) cp6)) rb db sb #[.slice (some ⟨gl, ol, none⟩) ls.length cl, .slice (some ⟨gf, of, none⟩) fins.length cf, .slice (some ⟨gN, oN, none⟩) nxt.length cn] R2 v l (.slice (some ⟨g6, 0, none⟩) ((arcsTo T ls.length ls (o7 T ls.length x o k) x (min k ls.length)).length + 1) cp6) fb (arcsTo T ls.length ls (o7 T ls.length x o (k + 1)) x (min (k + 1) ls.length)) (e7 T ls.length x o (k + 1))) := by
                                          have h1 := HAr.out.1
                                          have e1 : min k ls.length = k := by omega
                                          have e2 : min (k + 1) ls.length = k + 1 := by omega
                                          have e3 : e7 T ls.length x o (k + 1) = e7 T ls.length x o k := by unfold e7; rw [if_pos (by omega), if_pos (by omega)]
                                          rw [e1] at h1 ⊢
                                          rw [e2, e3, HOa7.out hkl, HC.out, HPl.out, HLk.out]
                                          exact h1
                                        clear HAr s6 f6 S6 S7
                                        go_wp2
                                        go_roundw
                                        · have h9 := HL9.out
                                          have h8 : min k ls.length = k := Nat.min_eq_left (Nat.le_of_lt hkl)
                                          rw [h8] at h9
                                          exact ⟨k + 1, R2, _, HS.out ▸ Nat.succ_le_succ (Nat.le_of_lt hkl), by go_num, ⟨g5, c5, rfl⟩, HE0.out, HE1.out, HE2.out, HE3.out, h9⟩
                                        · simp [intOf]; omega
                                    · have hkl0 := hkl
                                      have hkm2 : k = ls.length := by omega
                                      have hklz : ¬ (k : Int) < (ls.length : Int) := by omega
                                      have s1 : W2.cell? ⟨sb, 2, none⟩ = some (.int .i64 (e7 T ls.length x o k)) := blkc HLg.out.cur.box 2
                                      have f1 := blkf HLg.out.cur.box 2
                                      have ral : W2.cell? ⟨rb, 0, none⟩ = some (.slice al ls.length cl) := blkc HLg.out.rawb 0
                                      have HL9 : Hid (Ls7 w (W2.setCell ⟨sb, 2, none⟩ (.int .i64 pl)) rb db sb #[.slice al ls.length cl, .slice (some ⟨gf, of, none⟩) fins.length cf, .slice (some ⟨gN, oN, none⟩) nxt.length cn] R2 v l va fb (arcsTo T ls.length ls (o7 T ls.length x o (k + 1)) x (min (k + 1) ls.length)) (e7 T ls.length x o (k + 1))) := by
                                        have h1 := HLg.out.els pl
                                        have e1 : min k ls.length = ls.length := by omega
                                        have e2 : min (k + 1) ls.length = ls.length := by omega
                                        have e3 : e7 T ls.length x o (k + 1) = pl := by
                                          unfold e7
                                          have hC2 : T.gto x ls.length = C := by rw [← hkm2]; exact HC.out
                                          rw [if_neg (by omega), hC2, HPl.out]
                                        rw [e1] at h1
                                        rw [e2, e3, HOe7.out hkm2]
                                        exact h1
                                      go_wp2
                                      go_roundw
                                      · exact ⟨k + 1, _, _, by have := HS.out; omega, by go_num, ⟨g5, c5, rfl⟩, HE0.out, HE1.out, HE2.out, HE3.out, HL9.out⟩
                                      · simp [intOf]; omega
                          -- END
                        -- EX7
                        · have hkmz : ¬ (k : Int) ≤ (ls.length : Int) := by omega
                          go_upto_region 51 with fail
                          have hkS2 : k = ls.length + 1 := by have := HS.out; omega
                          subst hkS2
                          obtain ⟨m1, m2, m3, m4⟩ := told_more (T := T) (ls := ls) HX.out HQ8.out HQ9.out
                          have o1 : wr.cell? ⟨g3', i, none⟩ = some (.int .i64 (x : Int)) := by
                            rw [HL7.out.rows.cellB HQ3.out (nat2_len _) (by omega), nat2_at _ _ (by omega), List.getD_eq_getElem?_getD, m3]; rfl
                          have hiL : (i : Int) < ((((o7 T ls.length x o (ls.length + 1))).length : Nat) : Int) := by omega
                          have HM1 := hidd m1
                          have HM2 := hidd m2
                          have HM4 := hidd m4
                          have HBf : Hid (bfs (T.nexts ls.length) (i + 1) 0 [K] = (o7 T ls.length x o (ls.length + 1))) := by show _ = _; rw [bfs_step HQ5.out HX.out, o7_last]
                          have HSt : Hid (T.state ls.length ls (o7 T ls.length x o (ls.length + 1)) x = (fb, arcsTo T ls.length ls (o7 T ls.length x o (ls.length + 1)) x (min (ls.length + 1) ls.length), e7 T ls.length x o (ls.length + 1))) := by
                            show _ = _
                            have e2 : min (ls.length + 1) ls.length = ls.length := by omega
                            have e3 : e7 T ls.length x o (ls.length + 1) = T.num (o7 T ls.length x o (ls.length + 1)) (T.gto x ls.length) := by unfold e7; rw [if_neg (by omega)]
                            rw [state_of, e2, e3, HFb.out]
                          have hll : l.length = i := by
                            have := congrArg List.length HQ8.out
                            rw [List.length_map, List.length_map, List.length_take] at this
                            omega
                          have Hll := hidd hll
                          have hl40 : (l.length + 1) * 40 ≤ 140737488355328 := by omega
                          clear m1 m2 m3 m4 hll r0 hkmz
                          by_cases hdx : dead = (x : Int)
                          · have hdxb : ((x : Int) == dead) = true := by simp [hdx]
                            have HLr := hidd HL7.out.reset
                            have HSd : Hid (((.slice none 0 0, false, [], -1) : MSt).2 = T.state ls.length ls (o7 T ls.length x o (ls.length + 1)) x) := by
                              show _ = _
                              have hdd : T.dead x = true := by rw [HTd.out]; simpa using hdx
                              have hem := (HDz.out x hxz).1 hdx
                              obtain ⟨a1, a2⟩ := (HDd.out x hxz).2 hem
                              obtain ⟨b1, b2, b3⟩ := state_dead (T := T) (m := ls.length) (x := x) (ls := ls) (q := (o7 T ls.length x o (ls.length + 1))) (by rw [HTf.out]; exact a1) (fun a ha => by rw [HTo.out]; exact a2 a (by have := HS.out; omega)) hdd
                              rw [state_of, b1, b2, b3]
                            clear hdx
                            have s0' : wr.cell? ⟨sb, 0, none⟩ = some (.bool fb) := blkc HL7.out.cur.box 0
                            have s1' : wr.cell? ⟨sb, 1, none⟩ = some va := blkc HL7.out.cur.box 1
                            have s2' : wr.cell? ⟨sb, 2, none⟩ = some (.int .i64 (e7 T ls.length x o (ls.length + 1))) := blkc HL7.out.cur.box 2
                            have f0' := blkf HL7.out.cur.box 0
                            have f1' := blkf HL7.out.cur.box 1
                            have f2' := blkf HL7.out.cur.box 2
                            go_upto_region 53 with fail
                            generalize ((wr.setCell ⟨sb, 0, none⟩ (.bool false)).setCell ⟨sb, 1, none⟩ (.slice none 0 0)).setCell ⟨sb, 2, none⟩ (.int .i64 (-1)) = W2 at *
                            clear s0' s1' s2' f0' f1' f2' o1 HL7
                            have dc : W2.cell? ⟨db, 0, none⟩ = some v := blkc HLr.out.dbox 0
                            have s0 : W2.cell? ⟨sb, 0, none⟩ = some (.bool false) := blkc HLr.out.cur.box 0
                            have s1 : W2.cell? ⟨sb, 1, none⟩ = some (.slice none 0 0) := blkc HLr.out.cur.box 1
                            have s2 : W2.cell? ⟨sb, 2, none⟩ = some (.int .i64 (-1)) := blkc HLr.out.cur.box 2
                            have HRo3 := hidd HLr.out.cur.dfa.row
                            have hba := HLr.out.below.size
                            have HOc : Hid (∀ y ∈ (#[.bool false, (.slice none 0 0), .int .i64 (-1)] : Array Value).toList, y.oneCell' = true) := by
                              show ∀ _, _
                              intro y hy
                              have h2 := HLr.out.cur.arcs.2
                              have hv : ((.slice none 0 0) : Value).oneCell' = true := by
                                rcases h2 with ⟨h3, _⟩ | ⟨_, _, _, h3, _⟩
                                · rw [h3]; rfl
                                · rw [h3]; rfl
                              simp at hy
                              rcases hy with rfl | rfl | rfl
                              · rfl
                              · exact hv
                              · rfl
                            go_wp2_with (at_builtin; refine wp_pushk rfl _ _ 22 86 rfl is (.agg #[.bool false, .slice none 0 0, .int .i64 0]) 3 40 Tryd.underlying22 his hs0 hs1 hs2 rfl (by decide) w.heap.size v _ _ rfl HRo3.out #[.bool false, (.slice none 0 0), .int .i64 (-1)] rfl HOc.out rfl (by omega) (by decide) hba ?_)
                            intro v' W3 hown3 hbut3 hat3 hne3
                            rcases hown3.2 with ⟨e9, _⟩ | ⟨g7, c7, cur7, rfl, _⟩
                            · exact absurd e9 hne3
                            obtain ⟨hL6, hd3⟩ := HLr.out.done hbut3 hown3
                            have HL6 := hidd hL6
                            have dc3 : W3.cell? ⟨db, 0, none⟩ = some v := blkc hd3 0
                            have f3 := blkf hd3 0
                            clear hL6 hd3 hown3 hbut3 hat3 hne3 dc s0 s1 s2 HRo3 HOc
                            go_wp2
                            go_roundw
                            case rel => exact ⟨i + 1, (o7 T ls.length x o (ls.length + 1)), _, _, R, by go_num, HM4.out, ⟨g3', c3', rfl⟩, HQ0.out, HQ1.out, HQ2.out, HQ3.out, HL6.out, HBf.out, (HOk.out _).1, (HOk.out _).2, by rw [List.map_append, List.map_singleton]; rw [← HM1.out]; congr 1; rw [HSd.out], HM2.out⟩
                            case measure => simp [intOf]; omega
                          · have hdxb : ((x : Int) == dead) = false := by simp; omega
                            clear hdx
                            go_upto_region 53 with fail
                            clear o1
                            have dc : wr.cell? ⟨db, 0, none⟩ = some v := blkc HL7.out.dbox 0
                            have s0 : wr.cell? ⟨sb, 0, none⟩ = some (.bool fb) := blkc HL7.out.cur.box 0
                            have s1 : wr.cell? ⟨sb, 1, none⟩ = some va := blkc HL7.out.cur.box 1
                            have s2 : wr.cell? ⟨sb, 2, none⟩ = some (.int .i64 (e7 T ls.length x o (ls.length + 1))) := blkc HL7.out.cur.box 2
                            have HRo3 := hidd HL7.out.cur.dfa.row
                            have hba := HL7.out.below.size
                            have HOc : Hid (∀ y ∈ (#[.bool fb, va, .int .i64 (e7 T ls.length x o (ls.length + 1))] : Array Value).toList, y.oneCell' = true) := by
                              show ∀ _, _
                              intro y hy
                              have h2 := HL7.out.cur.arcs.2
                              have hv : (va : Value).oneCell' = true := by
                                rcases h2 with ⟨h3, _⟩ | ⟨_, _, _, h3, _⟩
                                · rw [h3]; rfl
                                · rw [h3]; rfl
                              simp at hy
                              rcases hy with rfl | rfl | rfl
                              · rfl
                              · exact hv
                              · rfl
                            go_wp2_with (at_builtin; refine wp_pushk rfl _ _ 22 86 rfl is (.agg #[.bool false, .slice none 0 0, .int .i64 0]) 3 40 Tryd.underlying22 his hs0 hs1 hs2 rfl (by decide) w.heap.size v _ _ rfl HRo3.out #[.bool fb, va, .int .i64 (e7 T ls.length x o (ls.length + 1))] rfl HOc.out rfl (by omega) (by decide) hba ?_)
                            intro v' W3 hown3 hbut3 hat3 hne3
                            rcases hown3.2 with ⟨e9, _⟩ | ⟨g7, c7, cur7, rfl, _⟩
                            · exact absurd e9 hne3
                            obtain ⟨hL6, hd3⟩ := HL7.out.done hbut3 hown3
                            have HL6 := hidd hL6
                            have dc3 : W3.cell? ⟨db, 0, none⟩ = some v := blkc hd3 0
                            have f3 := blkf hd3 0
                            clear hL6 hd3 hown3 hbut3 hat3 hne3 dc s0 s1 s2 HRo3 HOc
                            go_wp2
                            go_roundw
                            case rel => exact ⟨i + 1, (o7 T ls.length x o (ls.length + 1)), _, _, R, by go_num, HM4.out, ⟨g3', c3', rfl⟩, HQ0.out, HQ1.out, HQ2.out, HQ3.out, HL6.out, HBf.out, (HOk.out _).1, (HOk.out _).2, by rw [List.map_append, List.map_singleton]; rw [← HM1.out]; congr 1; rw [← HSt.out], HM2.out⟩
                            case measure => simp [intOf]; omega
                    -- EX6
                    · have hloz : ¬ (i : Int) < (o.length : Int) := by omega
                      obtain rfl : i = o.length := by omega
                      have hKo : K ∈ o := by
                        obtain ⟨r, hr⟩ := bfs_pre (T.nexts ls.length) o.length 0 [K]
                        rw [← HQ5.out, hr]
                        simp
                      have hll : l.length = o.length := by
                        have := congrArg List.length HQ8.out
                        rw [List.length_map, List.length_map, List.take_length] at this
                        exact this
                      have hop := List.length_pos_of_mem hKo
                      have HLs : Hid (sysL.Least ls.length ls ((autR fins nxt).lang (ls.length + 1) 0) (l.map Prod.snd)) := by
                        show Sys.Least _ _ _ _ _
                        have hTl : T.Least ls.length ls K (l.map Prod.snd) := ⟨o, ⟨o.length, HQ5.out, Nat.le_refl _⟩, by rw [HQ8.out, List.take_length]⟩
                        rw [← HT.out, ← HK.out] at hTl
                        have hSh := HSh.out
                        have hPa := HPa.out
                        have hDz := HDz.out
                        rw [← HS.out] at hSh hPa hDz
                        refine Parts.least (κ := atN κl) (rep := atN RL) (dead := fun c => decide (dead = (c : Int))) hSh hPa hpos (fun q hq => HRe.out _ (HOn.out.1 q hq)) (fun q hq => ?_) hTl
                        obtain ⟨b1, b2⟩ := HRe.out _ (HOn.out.1 q hq)
                        rw [decide_eq_true_iff, hDz _ (HOn.out.1 q hq), (hPa _ _ b1 hq).1 b2]
                      rcases HL6.out.dfa.row.2 with ⟨_, h0⟩ | ⟨g7, c7, cur7, rfl, _⟩
                      · omega
                      have dc : wr.cell? ⟨db, 0, none⟩ = some (.slice (some ⟨g7, 0, none⟩) l.length c7) := blkc HL6.out.dbox 0
                      have rc : wr.cell? ⟨rb + 1, 0, none⟩ = some (.slice none 0 0) := blkc HL6.out.res 0
                      have fc := blkf HL6.out.res 0
                      have rc2 : (wr.setCell ⟨rb + 1, 0, none⟩ (.slice (some ⟨g7, 0, none⟩) l.length c7)).cell? ⟨rb + 1, 0, none⟩ = some (.slice (some ⟨g7, 0, none⟩) l.length c7) := by
                        have := blk_setk HL6.out.res 0 (.slice (some ⟨g7, 0, none⟩) l.length c7)
                        rw [blkc this 0]
                        simp
                      have Rc2 := hidd rc2
                      clear rc2
                      have HFin : Hid (DfaM (wr.setCell ⟨rb + 1, 0, none⟩ (.slice (some ⟨g7, 0, none⟩) l.length c7)) w.heap.size (.slice (some ⟨g7, 0, none⟩) l.length c7) l ∧ Below w.heap.size w (wr.setCell ⟨rb + 1, 0, none⟩ (.slice (some ⟨g7, 0, none⟩) l.length c7))) := by
                        have hr := HL6.out.res
                        have hrb2 := Hrb.out
                        refine ⟨HL6.out.dfa.congr fun b cs t ht _ hh => ?_, HL6.out.below.trans (((But.refl (fun b => b = rb + 1) wr).set (rb + 1) 0 _ rfl).below HL6.out.below.size (fun j hj e => by omega))⟩
                        rw [heap_set_other wr (rb + 1) 0 _ b (by
                          rintro rfl
                          rw [hr] at hh
                          simp only [Option.some.injEq, Obj.cells.injEq] at hh
                          rcases ht with rfl | rfl
                          · exact absurd hh.2.1 (by decide)
                          · exact absurd hh.2.1 (by decide))]
                        exact hh
                      have hl4 : l.length ≤ 4294967296 := by omega
                      have Hl4 := hidd hl4
                      clear hl4 hll hop hKo
                      generalize hLl : l.length = Ll at *
                      have HLl := hidd hLl
                      clear hLl
                      generalize rb + 1 = tb at *
                      go_upto_region 54 with fail
                      refine wp_region_list ?_
                      refine wpL_loadDfa rfl _ rfl db (some ⟨g7, 0, none⟩) Ll c7 (by kernel_rfl) dc ?_
                      refine wpL_storeDfa rfl _ _ rfl tb (some ⟨g7, 0, none⟩) Ll c7 (.slice none 0 0) (by kernel_rfl) (by kernel_rfl) rc fc ?_
                      refine wpList_nil ?_
                      unfold Exit.then
                      dsimp only
                      apply_assumption
                      refine wp_ret ?_
                      try simp only [Act.put, List.getElem_toArray, List.getElem_cons_succ, List.getElem_cons_zero, List.setIfInBounds_toArray, List.set_cons_zero, List.set_cons_succ]
                      refine bodyPost_ret (v := .agg #[.slice (some ⟨g7, 0, none⟩) Ll c7]) (by have rc3 := Rc2.out; simp [results, Tryd.results30, go_sem, rc3]) rfl ?_
                      exact ⟨_, l, rfl, HFin.out.1, HLs.out, by rw [HLl.out]; exact Hl4.out, HFin.out.2⟩
end Go.Proofs.YtmnfioghhdgciaaDoor
