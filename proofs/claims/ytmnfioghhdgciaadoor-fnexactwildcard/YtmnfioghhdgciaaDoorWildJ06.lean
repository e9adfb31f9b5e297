import Derived.Test.YtmnfioghhdgciaaDoorWildJ05
namespace Go.Proofs.YtmnfioghhdgciaaDoor
open Go Go.RowKit
set_option linter.unusedVariables false
set_option maxRecDepth 100000

def ClPost (w : World) (fins : List Bool) (nxt : List (List Nat)) (S : Nat) (e : Ending) (w' : World) : Prop :=
  ∃ v κl c, e = .returned v ∧ w'.ownsRow w.heap.size 3 1 v fins.length (zI (nat2 κl)) ∧ κl.length = fins.length ∧ Parts (autR fins nxt) S fins.length (atN κl) ∧ Onto fins.length (atN κl) c ∧ Below w.heap.size w w'
/-- The first classes: which states accept. -/
def kap0 (fins : List Bool) (i : Nat) : List Nat := (List.range fins.length).map fun q => if q < i ∧ fins.getD q false = true then 1 else 0
theorem kap0_len (fins : List Bool) (i : Nat) : (kap0 fins i).length = fins.length := by simp [kap0]
theorem kap0_zero (fins : List Bool) : kap0 fins 0 = List.replicate fins.length 0 := by
  rw [List.eq_replicate_iff]
  refine ⟨kap0_len fins 0, fun x hx => ?_⟩
  obtain ⟨q, _, rfl⟩ := List.mem_map.1 hx
  simp
theorem kap0_no {fins : List Bool} {i : Nat} (h : fins.getD i false = false) : kap0 fins (i + 1) = kap0 fins i := by
  refine List.map_congr_left fun q _ => ?_
  by_cases e : q = i
  · subst e; rw [h]; simp
  · have : (q < i + 1) ↔ (q < i) := by omega
    simp only [this]
theorem kap0_yes {fins : List Bool} {i : Nat} (hi : i < fins.length) (h : fins.getD i false = true) : kap0 fins (i + 1) = (kap0 fins i).set i 1 := by
  refine List.ext_getElem? fun q => ?_
  rw [List.getElem?_set, kap0_len]
  by_cases hq : q < fins.length
  · by_cases e : i = q
    · subst e
      rw [if_pos rfl, if_pos hi]
      have h' : fins[i] = true := by simpa [List.getD_eq_getElem?_getD, hi] using h
      simp [kap0, hi, h']
    · rw [if_neg e]
      have : (q < i + 1) ↔ (q < i) := by omega
      simp [kap0, hq, this]
  · rw [if_neg (by omega)]
    simp [kap0, hq]
theorem atN_kap0 (fins : List Bool) (nxt : List (List Nat)) {q : Nat} (hq : q < fins.length) : atN (kap0 fins fins.length) q = if (autR fins nxt).fin q = true then 1 else 0 := by
  show (kap0 fins fins.length).getD q 0 = if fins.getD q false = true then 1 else 0
  simp [kap0, hq]
/-- The classes of the first states of a round. -/
def nextL (A : Aut) (S n : Nat) (κ : Nat → Nat) (i : Nat) : List Nat := (List.range n).map fun q => if q < i then ix (sigsOf A S κ i) (sigOf A S κ q) else 0
theorem nextL_len (A : Aut) (S n : Nat) (κ : Nat → Nat) (i : Nat) : (nextL A S n κ i).length = n := by simp [nextL]
theorem nextL_zero (A : Aut) (S n : Nat) (κ : Nat → Nat) : nextL A S n κ 0 = List.replicate n 0 := by
  rw [List.eq_replicate_iff]
  refine ⟨nextL_len A S n κ 0, fun x hx => ?_⟩
  obtain ⟨q, _, rfl⟩ := List.mem_map.1 hx
  simp
theorem nextL_succ (A : Aut) (S : Nat) {n : Nat} (κ : Nat → Nat) {i : Nat} (hi : i < n) : nextL A S n κ (i + 1) = (nextL A S n κ i).set i (ix (sigsOf A S κ (i + 1)) (sigOf A S κ i)) := by
  refine List.ext_getElem? fun q => ?_
  rw [List.getElem?_set, nextL_len]
  by_cases hq : q < n
  · by_cases e : i = q
    · subst e
      rw [if_pos rfl, if_pos hi]
      simp [nextL, hi]
    · rw [if_neg e]
      have h1 : (q < i + 1) ↔ (q < i) := by omega
      by_cases h2 : q < i
      · obtain ⟨r, hr⟩ := sigsOf_pre A S κ (show i ≤ i + 1 by omega)
        have : ix (sigsOf A S κ (i + 1)) (sigOf A S κ q) = ix (sigsOf A S κ i) (sigOf A S κ q) := by
          rw [hr]; exact ix_pre (sigsOf_mem.2 ⟨q, h2, rfl⟩)
        simp [nextL, hq, h1, h2, this]
      · simp [nextL, hq, h1, h2]
  · rw [if_neg (by omega)]
    simp [nextL, hq]
theorem nextL_all (A : Aut) (S n : Nat) (κ : Nat → Nat) {q : Nat} (hq : q < n) : atN (nextL A S n κ n) q = roundOf A S n κ q := by
  simp [atN, nextL, hq, roundOf]
def sigTo (A : Aut) (κ : Nat → Nat) (q k : Nat) : List Nat := κ q :: (List.range k).map fun a => κ (A.nx q a)
theorem sigTo_succ (A : Aut) (κ : Nat → Nat) (q k : Nat) : sigTo A κ q (k + 1) = sigTo A κ q k ++ [κ (A.nx q k)] := by simp [sigTo, List.range_succ]
theorem sigTo_len (A : Aut) (κ : Nat → Nat) (q k : Nat) : (sigTo A κ q k).length = k + 1 := by simp [sigTo]
def hashTo (A : Aut) (κ : Nat → Nat) (q k : Nat) : Nat := ((List.range k).map fun a => κ (A.nx q a)).foldl mixH (κ q)
theorem hashTo_succ (A : Aut) (κ : Nat → Nat) (q k : Nat) : hashTo A κ q (k + 1) = (hashTo A κ q k * 31 + κ (A.nx q k)) % 1000003 := by
  simp [hashTo, List.range_succ, List.foldl_append, mixH]
theorem hashTo_all (A : Aut) (S : Nat) (κ : Nat → Nat) (q : Nat) : hashTo A κ q S % 1024 = hashOf (sigOf A S κ q) := rfl
theorem hashTo_le (A : Aut) (κ : Nat → Nat) (q k B : Nat) (h : κ q ≤ B) : hashTo A κ q k ≤ B + 1000003 := by
  cases k with
  | zero => simp [hashTo]; omega
  | succ k =>
    rw [hashTo_succ]
    have := Nat.mod_lt (hashTo A κ q k * 31 + κ (A.nx q k)) (show 0 < 1000003 by omega)
    omega
def R0c (cv nv : Value) (κl nl : List Nat) : RowMap := fun a => if a = 0 then some (cv, nat2 κl) else if a = 1 then some (nv, nat2 nl) else if 4 ≤ a ∧ a % 2 = 0 then some (.slice none 0 0, []) else none
theorem R0c_rows {W W' : World} {base : Nat} {cv nv : Value} {κl nl : List Nat} (hc : W.ownsRow base 3 1 cv κl.length (zI (nat2 κl))) (hb : Below W.heap.size W W') (hn : W'.ownsRow W.heap.size 3 1 nv nl.length (zI (nat2 nl))) (hbase : base ≤ W.heap.size) : RowsF W' base (R0c cv nv κl nl) := by
  have h0 : RowsF W base (fun a => if a = 0 then some (cv, nat2 κl) else if 4 ≤ a ∧ a % 2 = 0 then some (.slice none 0 0, []) else none) := by
    refine ⟨fun a v zs ha => ?_, fun a b v zs u ys hab ha hb => ?_⟩
    · split at ha
      · cases ha; rw [nat2_len]; exact hc
      · split at ha
        · cases ha; exact World.ownsRow_nil _ _ _ _
        · cases ha
    · split at ha
      · split at hb
        · omega
        · split at hb
          · cases hb
            cases hv : v.ownBlock with
            | none => exact Or.inl rfl
            | some k => exact Or.inr (by simp [Value.ownBlock])
          · cases hb
      · split at ha
        · cases ha; exact Or.inl rfl
        · cases ha
  have h1 := h0.new hb hbase (i := 1) (v := nv) (zs := nat2 nl) (by rw [nat2_len]; exact hn)
  have e : upd (fun a => if a = 0 then some (cv, nat2 κl) else if 4 ≤ a ∧ a % 2 = 0 then some (.slice none 0 0, []) else none) 1 (some (nv, nat2 nl)) = R0c cv nv κl nl := by
    funext a
    unfold upd R0c
    by_cases h1 : a = 1
    · subst h1; simp
    · simp [h1]
  rw [e] at h1
  exact h1
theorem zI_zeros (n : Nat) : List.replicate n (Value.int .i64 0) = zI (nat2 (List.replicate n 0)) := by simp [zI, nat2]
set_option maxHeartbeats 8000000 in
theorem classes_any (vl vf vn : Value) (fins : List Bool) (nxt : List (List Nat)) (S : Nat) (w : World) (hraw : RawOK w vf vn fins nxt S) :
    Calls Tryd.prog 48 #[.agg #[vl, vf, vn]] w (ClPost w fins nxt S) := by
  obtain ⟨i0, hi, hz0, hz1, hz2⟩ := info_parts Tryd.infoIntL
  obtain ⟨i1, hi1, hy0, hy1, hy2⟩ := info_parts Tryd.infoSlI
  obtain ⟨hf, hnx, hlen, hpos, hfew, hwide, hrows⟩ := hraw
  have HRw : Hid (RawOK w vf vn fins nxt S) := ⟨hf, hnx, hlen, hpos, hfew, hwide, hrows⟩
  have HSh := hidd HRw.out.shut
  obtain ⟨af, cf, rfl, hff⟩ := hf
  obtain ⟨an, cn, rfl, hnn⟩ := hnx
  obtain ⟨gf, of, rfl, hgf, hcf⟩ := hff.resolve_left (fun h => by rw [h] at hpos; simp at hpos)
  obtain ⟨gN, oN, rfl, hgN, hcN⟩ := hnn.resolve_left (fun h => by rw [h] at hlen; simp at hlen; omega)
  have HF := hidd hcf
  have HN := hidd hcN
  have HRo := hidd hrows
  have HLen := hidd hlen
  clear hff hnn hcf hcN hrows hlen
  have Hbx := hidd (heap_alloc_new w (.cells #[vl, .slice (some ⟨gf, of, none⟩) fins.length cf, .slice (some ⟨gN, oN, none⟩) nxt.length cn] 38))
  have HBa : Hid (Below w.heap.size w (w.alloc (.cells #[vl, .slice (some ⟨gf, of, none⟩) fins.length cf, .slice (some ⟨gN, oN, none⟩) nxt.length cn] 38))) := (Below.refl _ _).alloc (Nat.le_refl _) _
  go_enter Tryd.func48, Tryd.ntmps48
  go_upto_region 1 with fail
  obtain ⟨wa, hwa⟩ : ∃ wa, w.alloc (.cells #[vl, .slice (some ⟨gf, of, none⟩) fins.length cf, .slice (some ⟨gN, oN, none⟩) nxt.length cn] 38) = wa := ⟨_, rfl⟩
  rw [hwa] at Hbx HBa
  try rw [hwa]
  clear hwa
  obtain ⟨rb, hrb⟩ : ∃ rb, w.heap.size = rb := ⟨_, rfl⟩
  have r1 : wa.cell? ⟨rb, 1, none⟩ = some (.slice (some ⟨gf, of, none⟩) fins.length cf) := by rw [← hrb]; exact blkc Hbx.out 1
  simp only [hrb]
  go_wp2_with (at_make; refine wpList_make_full _ rfl _ _ 30 rfl wa.heap.size 3 i0 (.int .i64 0) 1 Tryd.underlying30 hi hz0 hz1 _ _ _ _ fins.length rfl rfl (by omega) (by omega) ?b2 ?b3 (Nat.le_refl _) ?_)
  case b2 => rw [hz2]; omega
  case b3 => unfold maxLen; omega
  intro w1 hown1 hgrow1
  have HO1 : Hid (w1.ownsRow wa.heap.size 3 1 (.slice (some ⟨wa.heap.size, 0, none⟩) fins.length fins.length) fins.length (zI (nat2 (kap0 fins 0)))) := by
    have e0 : (madeCells #[Value.int .i64 0] fins.length).toList = List.replicate fins.length (Value.int .i64 0) := toList_madeCells_one _ _
    rw [e0] at hown1
    show World.ownsRow _ _ _ _ _ _ _
    rw [kap0_zero, ← zI_zeros]
    exact hown1
  have HB1 : Hid (Below wa.heap.size wa w1) := (Below.refl _ _).grown hgrow1 (Nat.le_refl _) (fun k h => by cases h)
  clear hown1 hgrow1 r1
  obtain ⟨gc, hgc⟩ : ∃ gc, wa.heap.size = gc := ⟨_, rfl⟩
  rw [hgc] at HO1 HB1
  simp only [hgc]
  have hgcw : rb < gc := by rw [← hgc, ← hrb]; exact (Array.getElem?_eq_some_iff.1 Hbx.out).1
  have hrbw : Hid (w.heap.size = rb) := hrb
  have hgcW : Hid (wa.heap.size = gc) := hgc
  clear hrb hgc
  go_wp2
  go_loopw [4] (fun iv wx => ∃ i : Nat, i ≤ fins.length ∧ iv = .int .i64 (i : Int) ∧ wx.ownsRow gc 3 1 (.slice (some ⟨gc, 0, none⟩) fins.length fins.length) fins.length (zI (nat2 (kap0 fins i))) ∧ Below gc wa wx) (fun iv _ => fins.length - (intOf iv).toNat)
  case atStart => exact ⟨0, Nat.zero_le _, rfl, HO1.out, HB1.out⟩
  case round =>
    clear HO1 HB1
    obtain ⟨i, hin, rfl, hown, hbel⟩ := hrel
    have HO := hidd hown
    have HBe := hidd hbel
    clear hown hbel
    have r1 : wr.cell? ⟨rb, 1, none⟩ = some (.slice (some ⟨gf, of, none⟩) fins.length cf) := (HBe.out.cell (p := ⟨rb, 1, none⟩) hgcw).trans (by rw [← hrbw.out]; exact blkc Hbx.out 1)
    by_cases hlt : i < fins.length
    · have hltz : (i : Int) < (fins.length : Int) := by omega
      have c0 : wr.cell? ⟨gf, of + i, none⟩ = some (.bool (fins.getD i false)) := (HBe.out.cell (p := ⟨gf, of + i, none⟩) (by have := hrbw.out; show gf < gc; omega)).trans ((HBa.out.cell (p := ⟨gf, of + i, none⟩) hgf).trans (HF.out i hlt))
      cases hb : fins.getD i false with
      | false =>
        have HK := hidd (kap0_no hb)
        rw [hb] at c0
        clear hb
        go_wp2
        go_roundw
        case rel => exact ⟨i + 1, by omega, by go_num, by rw [HK.out]; exact HO.out, HBe.out⟩
        case measure => simp [intOf]; omega
      | true =>
        have HK := hidd (kap0_yes hlt hb)
        rw [hb] at c0
        clear hb
        obtain ⟨hge, cur, hcur⟩ := own_blk HO.out (b := gc) rfl
        have f1 := blkf hcur i
        have d1 : wr.cell? ⟨gc, i, none⟩ = some (.int .i64 ((nat2 (kap0 fins i)).getD i 0)) := by
          rw [HO.out.cellAt i (by omega)]; simp [zI, nat2, kap0_len, hlt]
        have R1 : Hid ((wr.setCell ⟨gc, i, none⟩ (.int .i64 1)).ownsRow gc 3 1 (.slice (some ⟨gc, 0, none⟩) fins.length fins.length) fins.length (zI (nat2 (kap0 fins (i + 1)))) ∧ Below gc wa (wr.setCell ⟨gc, i, none⟩ (.int .i64 1))) := by
          refine ⟨?_, HBe.out.trans (((But.refl (fun b => b = gc) wr).set gc i _ rfl).below (by have := HBe.out.size; have := hgcW.out; omega) (fun j hj e => by omega))⟩
          have := own_setI HO.out hlt 1
          rw [HK.out, show nat2 ((kap0 fins i).set i 1) = (nat2 (kap0 fins i)).set i 1 by simp [nat2, List.map_set]]
          exact this
        clear hcur
        go_wp2
        go_roundw
        case rel => exact ⟨i + 1, by omega, by go_num, R1.out.1, R1.out.2⟩
        case measure => simp [intOf]; omega
    · have hltz : ¬ (i : Int) < (fins.length : Int) := by omega
      obtain rfl : i = fins.length := by omega
      have HI0 : Hid (w.heap.size ≤ gc ∧ (∀ q, q < fins.length → atN (kap0 fins fins.length) q ≤ fins.length) ∧ Coarse (autR fins nxt) S fins.length (atN (kap0 fins fins.length)) ∧ FinOf (autR fins nxt) fins.length (atN (kap0 fins fins.length)) ∧ wr.ownsRow w.heap.size 3 1 (.slice (some ⟨gc, 0, none⟩) fins.length fins.length) fins.length (zI (nat2 (kap0 fins fins.length))) ∧ Below w.heap.size w wr ∧ wr.heap[rb]? = some (.cells #[vl, .slice (some ⟨gf, of, none⟩) fins.length cf, .slice (some ⟨gN, oN, none⟩) nxt.length cn] 38)) := by
        have hr := hrbw.out
        have he : ∀ q, q < fins.length → atN (kap0 fins fins.length) q = if (autR fins nxt).fin q = true then 1 else 0 := fun q hq => atN_kap0 fins nxt hq
        obtain ⟨h1, h2⟩ := fin_coarse (autR fins nxt) S fins.length
        refine ⟨by omega, fun q hq => ?_, fun q r hq hr' e => ?_, fun q r hq hr' e => ?_, own_mono HO.out (by omega), HBa.out.trans (HBe.out.mono (by omega)), ?_⟩
        · rw [he q hq]; split <;> omega
        · rw [he q hq, he r hr']; exact h1 q r hq hr' e
        · rw [he q hq, he r hr'] at e; exact h2 q r hq hr' e
        · rw [HBe.out.block rb hgcw, ← hr]; exact Hbx.out
      clear HO HBe r1
      generalize wr = W0 at *
      go_wp2
      go_loopw [3, 5] (fun cv kv wx => ∃ (κl : List Nat) (c gk cc : Nat), cv = .slice (some ⟨gk, 0, none⟩) fins.length cc ∧ kv = .int .i64 (c : Int) ∧ c ≤ fins.length ∧ κl.length = fins.length ∧ (∀ q, q < fins.length → atN κl q ≤ fins.length) ∧ Coarse (autR fins nxt) S fins.length (atN κl) ∧ FinOf (autR fins nxt) fins.length (atN κl) ∧ (c = 0 ∨ Onto fins.length (atN κl) c) ∧ wx.ownsRow w.heap.size 3 1 cv fins.length (zI (nat2 κl)) ∧ Below w.heap.size w wx ∧ wx.heap[rb]? = some (.cells #[vl, .slice (some ⟨gf, of, none⟩) fins.length cf, .slice (some ⟨gN, oN, none⟩) nxt.length cn] 38)) (fun _ kv _ => fins.length + 1 - (intOf kv).toNat)
      case atStart => exact ⟨kap0 fins fins.length, 0, gc, fins.length, rfl, rfl, by omega, kap0_len _ _, HI0.out.2.1, HI0.out.2.2.1, HI0.out.2.2.2.1, Or.inl rfl, HI0.out.2.2.2.2.1, HI0.out.2.2.2.2.2.1, HI0.out.2.2.2.2.2.2⟩
      case round =>
        clear HI0
        obtain ⟨κl, c, gk, cc, rfl, rfl, hcn, hkl, hkb, hco, hfo, honto, hown, hbel, hbox⟩ := hrel
        have HKl := hidd hkl
        have HKb := hidd hkb
        have HCo := hidd hco
        have HFo := hidd hfo
        have HOn := hidd honto
        have HO := hidd hown
        have HBe := hidd hbel
        have HBox := hidd hbox
        have hzr := hbel.size
        clear hkl hkb hco hfo honto hown hbel hbox
        go_upto_region 9 with fail
        have HOs := hidd (own_empty wr 30)
        have HB1 : Hid (Below wr.heap.size wr (wr.alloc (.cells #[] 30))) := (Below.refl _ _).alloc (Nat.le_refl _) _
        have hz1' : (wr.alloc (.cells #[] 30)).heap.size = wr.heap.size + 1 := by simp
        have Hz1 := hidd hz1'
        clear hz1'
        generalize wr.alloc (.cells #[] 30) = W1 at *
        go_upto_region 10 with (at_make; refine wpList_make_full _ rfl _ _ 35 rfl W1.heap.size 30 i1 (.slice none 0 0) 1 Tryd.underlying35 hi1 hy0 hy1 _ _ _ _ 1024 rfl rfl (by omega) (by omega) ?b4 ?b5 (Nat.le_refl _) ?_)
        case b4 => rw [hy2]; omega
        case b5 => unfold maxLen; omega
        intro w2 hown2 hgrow2
        have hcs : ∃ bs : Array Value, w2.heap[W1.heap.size]? = some (.cells bs 30) ∧ bs.size = 1024 ∧ ∀ h, h < 1024 → bs[h]? = some (.slice none 0 0) := by
          rcases hown2.2 with ⟨h', _⟩ | ⟨g, cap, cur, h', _, hg, hc1, hc2, hc3, hc4⟩
          · simp at h'
          · simp only [Value.slice.injEq, Option.some.injEq, Addr.mk.injEq, and_true, true_and] at h'
            obtain ⟨rfl, rfl⟩ := h'
            refine ⟨cur, hg, by omega, fun h hh => ?_⟩
            have e0 : (madeCells #[Value.slice none 0 0] 1024).toList = List.replicate 1024 (Value.slice none 0 0) := toList_madeCells_one _ _
            rw [e0] at hc4
            have e1 := congrArg (fun l => l[h]?) hc4
            rw [List.take_of_length_le (by simp; omega), List.getElem?_replicate, if_pos hh] at e1
            simpa using e1
        have HCs := hidd hcs
        have HB2 : Hid (Below W1.heap.size W1 w2) := (Below.refl _ _).grown hgrow2 (Nat.le_refl _) (fun k h => by cases h)
        clear hcs hown2 hgrow2
        obtain ⟨gb, hgb⟩ : ∃ gb, W1.heap.size = gb := ⟨_, rfl⟩
        simp only [hgb]
        go_wp2_with (at_make; refine wpList_make_full _ rfl _ _ 30 rfl w2.heap.size 3 i0 (.int .i64 0) 1 Tryd.underlying30 hi hz0 hz1 _ _ _ _ fins.length rfl rfl (by omega) (by omega) ?b6 ?b7 (Nat.le_refl _) ?_)
        case b6 => rw [hz2]; omega
        case b7 => unfold maxLen; omega
        intro w3 hown3 hgrow3
        have hn3 : w3.ownsRow w2.heap.size 3 1 (.slice (some ⟨w2.heap.size, 0, none⟩) fins.length fins.length) fins.length (zI (nat2 (nextL (autR fins nxt) S fins.length (atN κl) 0))) := by
          have e0 : (madeCells #[Value.int .i64 0] fins.length).toList = List.replicate fins.length (Value.int .i64 0) := toList_madeCells_one _ _
          rw [e0] at hown3
          rw [nextL_zero, ← zI_zeros]
          exact hown3
        have hb3 : Below w2.heap.size w2 w3 := (Below.refl _ _).grown hgrow3 (Nat.le_refl _) (fun k h => by cases h)
        have HC3 : Hid (Cl3 w w3 rb gb gk cc w2.heap.size fins.length vl (.slice (some ⟨gf, of, none⟩) fins.length cf) (.slice (some ⟨gN, oN, none⟩) nxt.length cn) κl (nextL (autR fins nxt) S fins.length (atN κl) 0) [] (.slice (some ⟨wr.heap.size, 0, none⟩) 0 0) [] (R0c (.slice (some ⟨gk, 0, none⟩) fins.length cc) (.slice (some ⟨w2.heap.size, 0, none⟩) fins.length fins.length) κl (nextL (autR fins nxt) S fins.length (atN κl) 0))) := by
          have hb1 := HB1.out
          have hb2 := HB2.out
          have hs1 := hb1.size
          have hs2 := hb2.size
          have hb12 : Below wr.heap.size wr w2 := hb1.trans (hb2.mono hs1)
          have hb13 : Below wr.heap.size wr w3 := hb12.trans (hb3.mono hb12.size)
          obtain ⟨bs, q1, q2, q3⟩ := HCs.out
          have hkl := HKl.out
          refine ⟨HBe.out.trans (hb13.mono hzr), blko HBox.out hb13, ?_, rfl, rfl, own_mono (own_below HOs.out (hb2.trans (hb3.mono hs2))) hzr, fun j u s h1 _ => by simp at h1, ⟨bs, ?_, q2, fun h hh => ⟨_, q3 h hh, ?_⟩⟩, ?_, ?_⟩
          · exact R0c_rows (by rw [hkl]; exact own_below HO.out hb12) hb3 (by rw [nextL_len]; exact hn3) (by omega)
          · rw [← hgb, hb3.block _ (by have := (Array.getElem?_eq_some_iff.1 q1).1; exact this)]; exact q1
          · simp [R0c, bkt, nat2]; omega
          · have := Hz1.out; simp [Value.ownBlock]; omega
          · omega
        obtain ⟨gn, hgn⟩ : ∃ gn, w2.heap.size = gn := ⟨_, rfl⟩
        rw [hgn] at HC3
        simp only [hgn]
        clear hn3 hb3 hown3 hgrow3 HCs HB2 HB1 HOs HO HBe HBox hgn hgb Hz1 hzr
        obtain ⟨vs0, hvs0⟩ : ∃ vs0, Value.slice (some ⟨wr.heap.size, 0, none⟩) 0 0 = vs0 := ⟨_, rfl⟩
        rw [hvs0] at HC3
        try rw [hvs0]
        have HV0 : Hid (∃ g c, vs0 = .slice (some ⟨g, 0, none⟩) 0 c) := ⟨_, _, hvs0.symm⟩
        clear hvs0
        have hgnl : Hid (w.heap.size ≤ w.heap.size) := Nat.le_refl _
        go_wp2
        go_loopw [6, 9] (fun vs iv wx => ∃ (i : Nat) (us : List Value) (R : RowMap), i ≤ fins.length ∧ iv = .int .i64 (i : Int) ∧ (∃ g c, vs = .slice (some ⟨g, 0, none⟩) (sigsOf (autR fins nxt) S (atN κl) i).length c) ∧ Cl3 w wx rb gb gk cc gn fins.length vl (.slice (some ⟨gf, of, none⟩) fins.length cf) (.slice (some ⟨gN, oN, none⟩) nxt.length cn) κl (nextL (autR fins nxt) S fins.length (atN κl) i) (sigsOf (autR fins nxt) S (atN κl) i) vs us R) (fun _ iv _ => fins.length - (intOf iv).toNat)
        case atStart => exact ⟨0, [], _, Nat.zero_le _, rfl, HV0.out, HC3.out⟩
        case round =>
          clear HC3 HV0
          obtain ⟨i, us, R, hin, rfl, ⟨gs, cs, rfl⟩, hcl⟩ := hrel
          have HC := hidd hcl
          clear hcl
          by_cases hlt : i < fins.length
          · have hltz : (i : Int) < (fins.length : Int) := by omega
            have hltn : (i : Int) < (nxt.length : Int) := by have := HLen.out; omega
            have hcell : ∀ (W : World), Below w.heap.size w W → ∀ q, q < fins.length → (∀ (v : Value) (R' : RowMap), RowsF W w.heap.size R' → R' 0 = some (.slice (some ⟨gk, 0, none⟩) fins.length cc, nat2 κl) → W.cell? ⟨gk, q, none⟩ = some (.int .i64 ((atN κl q : Nat) : Int))) := by
              intro W _ q hq v R' hR' h0
              have hk := HKl.out
              have ho := hR'.own 0 _ _ h0
              rw [nat2_len, hk] at ho
              rw [ho.cellAt q (by omega)]
              simp [zI, nat2, atN, hk, hq]
            have HCell := hidd hcell
            clear hcell
            have c0 := HCell.out wr HC.out.below i hlt (.bool true) R HC.out.rows HC.out.cls
            have hki := HKb.out i hlt
            obtain ⟨u0, hu0, hI0⟩ := HN.out i (by have := HLen.out; omega)
            obtain ⟨hr1, hr2⟩ := HRo.out i hlt
            obtain ⟨aq, cq, rfl, hqq⟩ := hI0
            rw [nat2_len, hr1] at hu0 hqq
            obtain ⟨gq, oq, rfl, hgq, hcq⟩ := hqq.resolve_left (fun h => by
              have := congrArg List.length h
              rw [nat2_len, hr1] at this
              simp at this
              omega)
            have HRowc : Hid (∀ W, Below w.heap.size w W → W.cell? ⟨gN, oN + i, none⟩ = some (.slice (some ⟨gq, oq, none⟩) S cq) ∧ ∀ k, k < S → W.cell? ⟨gq, oq + k, none⟩ = some (.int .i64 (((autR fins nxt).nx i k : Nat) : Int))) := by
              show ∀ _, _
              intro W hW
              refine ⟨(hW.cell (p := ⟨gN, oN + i, none⟩) hgN).trans hu0, fun k hk => (hW.cell (p := ⟨gq, oq + k, none⟩) hgq).trans ?_⟩
              rw [hcq k hk, nat2_at _ _ (by omega)]
              rfl
            have HNxb : Hid (∀ k, k < S → (autR fins nxt).nx i k < fins.length) := fun k hk => hr2 k hk
            clear hu0 hqq hcq hr1 hr2
            obtain ⟨K, hK⟩ : ∃ K, atN κl i = K := ⟨_, rfl⟩
            rw [hK] at c0 hki
            have HKi := hidd hK
            clear hK
            go_upto_region 15 with fail
            have HC1 : Hid (Cl3 w (wr.alloc (.cells #[.int .i64 (K : Int)] 3)) rb gb gk cc gn fins.length vl (.slice (some ⟨gf, of, none⟩) fins.length cf) (.slice (some ⟨gN, oN, none⟩) nxt.length cn) κl (nextL (autR fins nxt) S fins.length (atN κl) i) (sigsOf (autR fins nxt) S (atN κl) i) (.slice (some ⟨gs, 0, none⟩) (sigsOf (autR fins nxt) S (atN κl) i).length cs) us (upd R 2 (some (.slice (some ⟨wr.heap.size, 0, none⟩) 1 1, nat2 (sigTo (autR fins nxt) (atN κl) i 0))))) := by
              have hba : Below wr.heap.size wr (wr.alloc (.cells #[.int .i64 (K : Int)] 3)) := (Below.refl _ _).alloc (Nat.le_refl _) _
              refine HC.out.rowed (HC.out.below.trans (hba.mono HC.out.below.size)) (fun b hb _ => hba.block b hb) (HC.out.rows.new hba HC.out.below.size ?_) (fun a ha => upd_other _ _ ha)
              have := World.ownsRow_lit (base := wr.heap.size) (e := 3) (size := 1) wr #[.int .i64 (K : Int)] 1 (Nat.le_refl _) (by unfold maxLen; omega) (by simp)
              have e : zI (nat2 (sigTo (autR fins nxt) (atN κl) i 0)) = [.int .i64 (K : Int)] := by simp [sigTo, zI, nat2, HKi.out]
              rw [e]
              simpa [sigTo, nat2] using this
            have HC1b := hidd HC1.out.below
            clear c0
            generalize wr.alloc (.cells #[.int .i64 (K : Int)] 3) = W2 at *
            have c0 := HCell.out W2 HC1b.out i hlt (.bool true) _ HC1.out.rows HC1.out.cls
            rw [HKi.out] at c0
            obtain ⟨sv0, hsv0⟩ : ∃ sv0, Value.slice (some ⟨wr.heap.size, 0, none⟩) 1 1 = sv0 := ⟨_, rfl⟩
            rw [hsv0] at HC1
            try rw [hsv0]
            clear hsv0 HC
            generalize wr = Wz at *
            go_wp2
            go_loopw [10, 11, 12] (fun sv hv kv wx => ∃ (k : Nat) (R : RowMap), k ≤ S ∧ kv = .int .i64 (k : Int) ∧ hv = .int .i64 ((hashTo (autR fins nxt) (atN κl) i k : Nat) : Int) ∧ R 2 = some (sv, nat2 (sigTo (autR fins nxt) (atN κl) i k)) ∧ Cl3 w wx rb gb gk cc gn fins.length vl (.slice (some ⟨gf, of, none⟩) fins.length cf) (.slice (some ⟨gN, oN, none⟩) nxt.length cn) κl (nextL (autR fins nxt) S fins.length (atN κl) i) (sigsOf (autR fins nxt) S (atN κl) i) (.slice (some ⟨gs, 0, none⟩) (sigsOf (autR fins nxt) S (atN κl) i).length cs) us R) (fun _ _ kv _ => S - (intOf kv).toNat)
            case atStart => exact ⟨0, _, Nat.zero_le _, rfl, by simp [hashTo, HKi.out], upd_same _ _ _, HC1.out⟩
            case round =>
              clear HC1 HC1b c0
              obtain ⟨k, R1, hkS, rfl, rfl, hR2, hcl⟩ := hrel
              have HC := hidd hcl
              have HR2 := hidd hR2
              clear hcl hR2
              have r2 : wr.cell? ⟨rb, 2, none⟩ = some (.slice (some ⟨gN, oN, none⟩) nxt.length cn) := blkc HC.out.box 2
              obtain ⟨g1, g2⟩ := HRowc.out wr HC.out.below
              by_cases hlk : k < S
              · have hlkz : (k : Int) < (S : Int) := by omega
                have g3 := g2 k hlk
                have hxb := HNxb.out k hlk
                have c1 := HCell.out wr HC.out.below _ hxb (.bool true) _ HC.out.rows HC.out.cls
                have hCb := HKb.out _ hxb
                have HSg := hidd (sigTo_succ (autR fins nxt) (atN κl) i k)
                have HSl := hidd (sigTo_len (autR fins nxt) (atN κl) i k)
                have HHs := hidd (hashTo_succ (autR fins nxt) (atN κl) i k)
                have hHb := hashTo_le (autR fins nxt) (atN κl) i k fins.length (by rw [HKi.out]; exact hki)
                clear g2
                obtain ⟨X, hX⟩ : ∃ X, (autR fins nxt).nx i k = X := ⟨_, rfl⟩
                rw [hX] at g3 hxb c1 hCb HSg HHs
                have HX := hidd hX
                clear hX
                obtain ⟨C, hC⟩ : ∃ C, atN κl X = C := ⟨_, rfl⟩
                rw [hC] at c1 hCb HSg HHs
                have HCc := hidd hC
                clear hC
                obtain ⟨H, hH⟩ : ∃ H, hashTo (autR fins nxt) (atN κl) i k = H := ⟨_, rfl⟩
                rw [hH] at HHs hHb
                simp only [hH]
                clear hH
                obtain ⟨sg, hsg⟩ : ∃ sg, sigTo (autR fins nxt) (atN κl) i k = sg := ⟨_, rfl⟩
                rw [hsg] at HSg HSl HR2
                clear hsg
                have hxz : (X : Int) < (fins.length : Int) := by omega
                have HOwn := hidd (HC.out.rows.own 2 _ _ HR2.out)
                have HBs := hidd HC.out.below.size
                have hsl := HSl.out
                go_upto_region 20 with (at_builtin; refine wp_push rfl _ _ 30 3 rfl i0 (.int .i64 0) 8 Tryd.underlying30 hi hz0 hz1 hz2 rfl w.heap.size _ _ _ rfl HOwn.out _ rfl rfl ?p1 (by decide) HBs.out ?_)
                case p1 => rw [nat2_len, hsl]; omega
                intro sv' w' hown' hbut hat hne
                have HC' : Hid (Cl3 w w' rb gb gk cc gn fins.length vl (.slice (some ⟨gf, of, none⟩) fins.length cf) (.slice (some ⟨gN, oN, none⟩) nxt.length cn) κl (nextL (autR fins nxt) S fins.length (atN κl) i) (sigsOf (autR fins nxt) S (atN κl) i) (.slice (some ⟨gs, 0, none⟩) (sigsOf (autR fins nxt) S (atN κl) i).length cs) us (upd R1 2 (some (sv', nat2 (sigTo (autR fins nxt) (atN κl) i (k + 1)))))) := by
                  refine HC.out.rowed (HC.out.below.trans (hbut.below HC.out.below.size (fun j hj e => by have := (own_blk HOwn.out e).1; omega))) (fun b hb hnb => hbut.block b hb (fun e => ?_)) (HC.out.rows.growB HR2.out hbut ?_ hat) (fun a ha => upd_other _ _ ha)
                  · obtain ⟨_, cur, h2⟩ := own_blk HOwn.out e
                    exact hnb cur h2
                  · rw [HSg.out, nat2_app, zI_app, List.length_append]
                    exact hown'
                clear hown' hbut hat hne HOwn HR2 HC r2 g1 g3 c1 HBs hsl
                have r2 : w'.cell? ⟨rb, 2, none⟩ = some (.slice (some ⟨gN, oN, none⟩) nxt.length cn) := blkc HC'.out.box 2
                obtain ⟨g1, g2⟩ := HRowc.out w' HC'.out.below
                have g3 := g2 k hlk
                rw [HX.out] at g3
                clear g2
                have c1 := HCell.out w' HC'.out.below X hxb (.bool true) _ HC'.out.rows HC'.out.cls
                rw [HCc.out] at c1
                obtain ⟨H', hH'⟩ : ∃ H', (H * 31 + C) % 1000003 = H' := ⟨_, rfl⟩
                have hmod : ((H : Int) * 31 + (C : Int)) % 1000003 = (H' : Int) := by omega
                have HHn : Hid (hashTo (autR fins nxt) (atN κl) i (k + 1) = H') := HHs.out.trans hH'
                have hH'b : H' < 1000003 := by omega
                clear hH' HHs
                go_wp2
                go_roundw
                case rel => exact ⟨k + 1, _, by omega, by go_num, by rw [HHn.out, hmod], upd_same _ _ _, HC'.out⟩
                case measure => simp [intOf]; omega
              · have hlkz : ¬ (k : Int) < (S : Int) := by omega
                obtain rfl : k = S := by omega
                have hHb := hashTo_le (autR fins nxt) (atN κl) i k fins.length (by rw [HKi.out]; exact hki)
                have HHa := hidd (hashTo_all (autR fins nxt) k (atN κl) i)
                have HSe : Hid (sigTo (autR fins nxt) (atN κl) i k = sigOf (autR fins nxt) k (atN κl) i) := rfl
                obtain ⟨sg, hsg⟩ : ∃ sg, sigOf (autR fins nxt) k (atN κl) i = sg := ⟨_, rfl⟩
                rw [hsg] at HSe HHa
                rw [HSe.out] at HR2
                have HSgn := hidd hsg
                clear hsg g2
                obtain ⟨H, hH⟩ : ∃ H, hashTo (autR fins nxt) (atN κl) i k = H := ⟨_, rfl⟩
                rw [hH] at HHa hHb
                simp only [hH]
                clear hH
                obtain ⟨h, hh⟩ : ∃ h, H % 1024 = h := ⟨_, rfl⟩
                have hmod : (H : Int) % 1024 = (h : Int) := by omega
                have hh1024 : h < 1024 := by omega
                have HHh : Hid (hashOf sg = h) := HHa.out.symm.trans hh
                clear hh HHa
                obtain ⟨bs, b1, b2, b3⟩ := HC.out.bk
                obtain ⟨ub, hub, hRb⟩ := b3 h hh1024
                have k1 : wr.cell? ⟨gb, h, none⟩ = some ub := (blkc b1 h).trans hub
                have HIb := HC.out.rows.hold hRb
                obtain ⟨ab, cb, rfl, hIb⟩ := HIb
                rw [nat2_len] at k1
                have HBk := hidd b1
                have HB2 := hidd b2
                have HB3 := hidd b3
                have HRb := hidd hRb
                have HUb := hidd hub
                have hbl := bkt_len (sigsOf (autR fins nxt) k (atN κl) i) h
                have hsl := sigsOf_le (autR fins nxt) k (atN κl) i
                clear b1 b2 b3 hRb hub
                obtain ⟨L, hL⟩ : ∃ L, sigsOf (autR fins nxt) k (atN κl) i = L := ⟨_, rfl⟩
                rw [hL] at HC k1 HB3 HRb hbl hsl hIb HUb
                simp only [hL]
                have HLn : Hid (L.Nodup) := by show L.Nodup; rw [← hL]; exact sigsOf_nodup _ _ _ _
                have HLe := hidd hL
                clear hL
                obtain ⟨B, hB⟩ : ∃ B, bkt L h = B := ⟨_, rfl⟩
                rw [hB] at k1 HRb hbl hIb
                have HBm : Hid (∀ j, j ∈ B ↔ j < L.length ∧ hashOf (L.getD j []) = h) := by show ∀ j, _; intro j; rw [← hB]; exact bkt_mem
                have HBe' := hidd hB
                clear hB
                have hul : us.length = L.length := by have := HC.out.outer.1; omega
                have Hul := hidd hul
                have HSgl : Hid (sg.length = k + 1) := by show _ = _; rw [← HSgn.out]; simp [sigOf]
                have HLl : Hid (∀ (j : Nat) (t : List Nat), L[j]? = some t → t.length = k + 1) := by
                  show ∀ _, _
                  intro j t ht
                  obtain ⟨q, _, hq⟩ := sigsOf_mem.1 (show t ∈ sigsOf (autR fins nxt) k (atN κl) i by rw [HLe.out]; exact List.mem_of_getElem? ht)
                  rw [← hq]; simp [sigOf]
                rcases own_cases (HC.out.rows.own 2 _ _ HR2.out) with ⟨_, h0⟩ | ⟨gg, cg, rfl, hgg1, hgg2⟩
                · rw [nat2_len, HSgl.out] at h0; omega
                rw [nat2_len, HSgl.out] at HR2
                have HIs := hidd (HC.out.rows.hold HR2.out)
                clear hul
                generalize wr = W5 at *
                have hsgl := HSgl.out
                simp only [nat2_len, hsgl]
                clear hsgl
                go_wp2
                clear r2 g1
                go_loopw [13, 14] (fun av kv wx => ∃ k' q : Nat, k' ≤ B.length ∧ kv = .int .i64 (k' : Int) ∧ wx = W5.drewN q ∧ ((av = .int .i64 (-1) ∧ ∀ j, j < k' → L.getD (B.getD j 0) [] ≠ sg) ∨ ∃ j : Nat, av = .int .i64 (j : Int) ∧ L[j]? = some sg)) (fun _ kv _ => B.length - (intOf kv).toNat)
                case atStart => exact ⟨0, 0, Nat.zero_le _, rfl, rfl, Or.inl ⟨rfl, fun j hj => by omega⟩⟩
                case round =>
                  obtain ⟨k', q, hk', rfl, hwq, hor⟩ := hrel
                  have HWq := hidd hwq
                  have HBq : Hid (Below W5.heap.size W5 wr) := by show Below _ _ _; rw [hwq]; exact below_drewN (Below.refl _ _) q
                  clear hwq
                  have k2 := (HBq.out.cell (p := ⟨gb, h, none⟩) (cell_lt k1)).trans k1
                  rcases hor with ⟨rfl, hno⟩ | ⟨j, rfl, hj⟩
                  · have HNo := hidd hno
                    clear hno
                    by_cases hkl : k' < B.length
                    · have hklz : (k' : Int) < (B.length : Int) := by omega
                      have hklb : decide ((k' : Int) < (B.length : Int)) = true := by simpa using hkl
                      obtain ⟨gB, oB, rfl, hgB, hcB⟩ := hIb.resolve_left (fun e => by
                        have := congrArg List.length e
                        rw [nat2_len, List.length_nil] at this
                        omega)
                      have d0 : wr.cell? ⟨gB, oB + k', none⟩ = some (.int .i64 ((B.getD k' 0 : Nat) : Int)) := by
                        rw [HBq.out.cell (p := ⟨gB, oB + k', none⟩) hgB, hcB k' (by rw [nat2_len]; exact hkl), nat2_at _ _ hkl]
                      have hjm := (HBm.out (B.getD k' 0)).1 (by rw [List.getD_eq_getElem?_getD, List.getElem?_eq_getElem hkl, Option.getD_some]; exact List.getElem_mem hkl)
                      obtain ⟨j, hj⟩ : ∃ j, B.getD k' 0 = j := ⟨_, rfl⟩
                      rw [hj] at d0 hjm
                      have hjl := hjm.1
                      have hjlz : (j : Int) < (L.length : Int) := by omega
                      obtain ⟨t, ht⟩ : ∃ t, L[j]? = some t := ⟨L[j], List.getElem?_eq_getElem hjl⟩
                      obtain ⟨us', hus'⟩ : ∃ u, us[j]? = some u := ⟨us[j]'(by have := Hul.out; omega), List.getElem?_eq_getElem _⟩
                      have hRj := HC.out.sig j us' t hus' ht
                      have d1 : wr.cell? ⟨gs, j, none⟩ = some us' := by
                        rw [HBq.out.cell (p := ⟨gs, j, none⟩) ((own_blk HC.out.outer (b := gs) rfl).2.elim fun _ hh => (Array.getElem?_eq_some_iff.1 hh).1), HC.out.outer.cellAt j (by omega)]
                        exact hus'
                      have HCall := hidd (same_any (nat2 t) (nat2 sg) us' (.slice (some ⟨gg, 0, none⟩) (k + 1) cg) wr (by rw [nat2_len, HLl.out j t ht]; omega) (by rw [nat2_len, HSgl.out]; omega) ((HC.out.rows.hold hRj).below HBq.out) (HIs.out.below HBq.out))
                      obtain ⟨ad', cp', rfl, -⟩ := HC.out.rows.hold hRj
                      have Hj := hidd hj
                      have Ht := hidd ht
                      clear hj ht hus' hRj hjm hcB
                      rw [nat2_len, HLl.out j t Ht.out] at d1 HCall
                      go_wp2_with fail
                      refine HCall.out.mono ?_
                      rintro e w' ⟨rfl, q', hw'⟩
                      have HW' := hidd hw'
                      clear hw'
                      have HBq' : Hid (Below W5.heap.size W5 w') := by show Below _ _ _; rw [HW'.out]; exact below_drewN HBq.out q'
                      have HW2 : Hid (w' = W5.drewN (q + q')) := by show _ = _; rw [HW'.out, HWq.out, World.drewN_drewN]
                      have k3 := (HBq'.out.cell (p := ⟨gb, h, none⟩) (cell_lt k1)).trans k1
                      have d2 : w'.cell? ⟨gB, oB + k', none⟩ = some (.int .i64 (j : Int)) := by rw [HW'.out]; simpa using d0
                      clear k2 d0 d1 HCall
                      by_cases hts : t = sg
                      · have hd : decide (nat2 t = nat2 sg) = true := by rw [hts]; simp
                        have HF1 : Hid (L[j]? = some sg) := by show _ = _; rw [← hts]; exact Ht.out
                        rw [hd]
                        clear hd hts
                        go_wp2
                        go_roundw
                        case rel => exact ⟨k' + 1, q + q', by omega, by go_num, HW2.out, Or.inr ⟨j, rfl, HF1.out⟩⟩
                        case measure => simp [intOf]; omega
                      · have hd : decide (nat2 t = nat2 sg) = false := by rw [decide_eq_false_iff_not]; exact fun e => hts (nat2_inj e)
                        have HF1 : Hid (∀ j', j' < k' + 1 → L.getD (B.getD j' 0) [] ≠ sg) := by
                          show ∀ j', j' < k' + 1 → _
                          intro j' hj'
                          by_cases e : j' = k'
                          · rw [e, Hj.out, List.getD_eq_getElem?_getD, Ht.out]; exact hts
                          · exact HNo.out j' (by omega)
                        rw [hd]
                        clear hd hts
                        go_wp2
                        go_roundw
                        case rel => exact ⟨k' + 1, q + q', by omega, by go_num, HW2.out, Or.inl ⟨rfl, HF1.out⟩⟩
                        case measure => simp [intOf]; omega
                    · have hklz : ¬ (k' : Int) < (B.length : Int) := by omega
                      have hklb : decide ((k' : Int) < (B.length : Int)) = false := by simpa using hkl
                      obtain rfl : k' = B.length := by omega
                      have HNew : Hid (sg ∉ L) := by
                        show _ ∉ _
                        intro hm
                        obtain ⟨j, hj⟩ := List.mem_iff_getElem?.1 hm
                        have hjl := (List.getElem?_eq_some_iff.1 hj).1
                        have hjd : L.getD j [] = sg := by rw [List.getD_eq_getElem?_getD, hj]; rfl
                        obtain ⟨x, hx⟩ := List.mem_iff_getElem?.1 ((HBm.out j).2 ⟨hjl, by rw [hjd]; exact HHh.out⟩)
                        have hxl := (List.getElem?_eq_some_iff.1 hx).1
                        refine HNo.out x hxl ?_
                        rw [show B.getD x 0 = j by rw [List.getD_eq_getElem?_getD, hx]; rfl]
                        exact hjd
                      have HLs : Hid (sigsOf (autR fins nxt) k (atN κl) (i + 1) = L ++ [sg]) := by
                        show _ = _
                        rw [sigsOf_succ, HLe.out, HSgn.out]
                        unfold meet
                        rw [if_neg HNew.out]
                      have HC5 := hidd (HC.out.keep HBq.out)
                      have HNx : Hid (nextL (autR fins nxt) k fins.length (atN κl) (i + 1) = (nextL (autR fins nxt) k fins.length (atN κl) i).set i L.length) := by
                        show _ = _
                        rw [nextL_succ _ _ _ hlt, HLs.out, HSgn.out, ix_new HNew.out]
                      have HO5 := hidd HC5.out.outer
                      have hB5 := HC5.out.below.size
                      have k4 := k2
                      clear k1 k2 HC HBq
                      go_upto_region 31 with (at_builtin; refine wp_push rfl _ _ 35 30 rfl i1 (.slice none 0 0) 24 Tryd.underlying35 hi1 hy0 hy1 hy2 rfl w.heap.size _ _ _ rfl HO5.out _ rfl rfl ?p3 (by decide) hB5 ?_)
                      case p3 => omega
                      intro vs' w6 hown6 hbut6 hat6 hne6
                      obtain ⟨R6, p1, p2, p3, p4, p5, p6, p7⟩ := HC5.out.pushed HR2.out hbut6 hown6 hat6
                      rcases own_cases hown6 with ⟨e, _⟩ | ⟨g6, c6, rfl, hg61, hg62⟩
                      · exact absurd e hne6
                      have HP1 := hidd p1
                      have HP2 := hidd p2
                      have HP3 := hidd p3
                      have HP4 := hidd p4
                      have HP5 := hidd p5
                      have HP7 := hidd p7
                      have HP8 := hidd hown6
                      have HP6 : Hid (w6.heap[gb]? = some (.cells bs 30)) := by
                        show _ = _
                        rw [p6]
                        obtain ⟨bs', q1, q2, q3⟩ := HC5.out.bk
                        rw [q1]
                        have := q1.symm.trans (by rw [HWq.out]; exact HBk.out : wr.heap[gb]? = some (.cells bs 30))
                        exact this ▸ rfl
                      have HR6 : Hid (R6 (4 + 2 * h) = some (.slice ab B.length cb, nat2 B)) := by
                        show _ = _
                        have := HRb.out
                        rw [nat2_len] at this
                        rw [p1 _ (by omega) (by omega)]; exact this
                      clear hown6 hbut6 hat6 hne6 p1 p2 p3 p4 p5 p6 p7 k4 HO5
                      have k5 : w6.cell? ⟨gb, h, none⟩ = some (.slice ab B.length cb) := by
                        have := (blkc HP6.out h).trans HUb.out
                        rw [nat2_len, HBe'.out] at this
                        exact this
                      have HO6 : Hid (w6.ownsRow w.heap.size 3 1 (.slice ab B.length cb) B.length (zI (nat2 B))) := by
                        have := HP4.out.own _ _ _ HR6.out
                        rw [nat2_len] at this
                        exact this
                      have hB6 := HP2.out.size
                      have hBl : (B.length + 1) * 8 ≤ 140737488355328 := by omega
                      go_wp2_with (at_builtin; refine wp_push rfl _ _ 30 3 rfl i0 (.int .i64 0) 8 Tryd.underlying30 hi hz0 hz1 hz2 rfl w.heap.size _ _ _ rfl HO6.out _ rfl rfl hBl (by decide) hB6 ?_)
                      intro u' w7 hown7 hbut7 hat7 hne7
                      rcases own_cases hown7 with ⟨e, _⟩ | ⟨g7, c7, rfl, hg71, hg72⟩
                      · exact absurd e hne7
                      have hgb7 : w7.heap[gb]? = some (.cells bs 30) := by
                        rw [hbut7.block gb (Array.getElem?_eq_some_iff.1 HP6.out).1 (fun e => by
                          obtain ⟨_, cur, h2⟩ := own_blk HO6.out e
                          rw [HP6.out] at h2
                          simp only [Option.some.injEq, Obj.cells.injEq] at h2
                          exact absurd h2.2.1 (by decide))]
                        exact HP6.out
                      have HC8 : Hid (∃ R', Cl3 w (w7.setCell ⟨gb, h, none⟩ (.slice (some ⟨g7, 0, none⟩) (B.length + 1) c7)) rb gb gk cc gn fins.length vl (.slice (some ⟨gf, of, none⟩) fins.length cf) (.slice (some ⟨gN, oN, none⟩) nxt.length cn) κl (nextL (autR fins nxt) k fins.length (atN κl) i) (L ++ [sg]) (.slice (some ⟨g6, 0, none⟩) (L.length + 1) c6) (us ++ [.slice (some ⟨gg, 0, none⟩) (k + 1) cg]) R') :=
                        HC5.out.bucketed HP1.out HP2.out HP3.out HP4.out HP5.out HP7.out HP8.out HP6.out HB2.out HB3.out hh1024 HHh.out (by rw [HBe'.out]; exact HR6.out) hbut7 (by rw [HBe'.out]; exact hown7) hat7
                      have k7 := (blkc hgb7 h).trans HUb.out
                      have f7 := blkf hgb7 h
                      clear hown7 hbut7 hat7 hne7 hgb7 HO6 k5
                      go_upto_region 32 with fail
                      generalize hW8 : w7.setCell ⟨gb, h, none⟩ _ = W8 at *
                      clear hW8 k7 f7 HP1 HP2 HP3 HP4 HP5 HP6 HP7 HP8 HC5
                      obtain ⟨R8, hC8⟩ := HC8.out
                      obtain ⟨_, cur8, hcur8⟩ := own_blk (hC8.rows.own 1 _ _ hC8.nx) (b := gn) rfl
                      have hn8 := hC8.rows.own 1 _ _ hC8.nx
                      rw [nat2_len, nextL_len] at hn8
                      have n8 : W8.cell? ⟨gn, i, none⟩ = some (.int .i64 ((nat2 (nextL (autR fins nxt) k fins.length (atN κl) i)).getD i 0)) := by
                        rw [hn8.cellAt i (by omega)]; simp [zI, nat2, nextL_len, hlt]
                      have f8 := blkf hcur8 i
                      have HC9 := hidd (hC8.setNext (nextL_len _ _ _ _ _) (x := L.length) hlt)
                      clear hC8 HC8 hcur8 hn8
                      go_wp2
                      go_roundw
                      case rel =>
                        obtain ⟨R9, hC9⟩ := HC9.out
                        exact ⟨i + 1, _, R9, by omega, by go_num, ⟨g6, c6, by rw [HLs.out, List.length_append]; rfl⟩, by rw [HNx.out, HLs.out]; exact hC9⟩
                      case measure => simp [intOf]; omega
                  · have hjz : ¬ (j : Int) < 0 := by omega
                    have hjb : decide ((j : Int) < 0) = false := by simp
                    have hjm : sg ∈ L := List.mem_of_getElem? hj
                    have HLs : Hid (sigsOf (autR fins nxt) k (atN κl) (i + 1) = L) := by
                      show _ = _
                      rw [sigsOf_succ, HLe.out, HSgn.out]
                      unfold meet
                      rw [if_pos hjm]
                    have HNx : Hid (nextL (autR fins nxt) k fins.length (atN κl) (i + 1) = (nextL (autR fins nxt) k fins.length (atN κl) i).set i j) := by
                      show _ = _
                      rw [nextL_succ _ _ _ hlt, HLs.out, HSgn.out, ix_of HLn.out hj]
                    have hjL := (List.getElem?_eq_some_iff.1 hj).1
                    have hC8 := HC.out.keep HBq.out
                    obtain ⟨_, cur8, hcur8⟩ := own_blk (hC8.rows.own 1 _ _ hC8.nx) (b := gn) rfl
                    have hn8 := hC8.rows.own 1 _ _ hC8.nx
                    rw [nat2_len, nextL_len] at hn8
                    have n8 : wr.cell? ⟨gn, i, none⟩ = some (.int .i64 ((nat2 (nextL (autR fins nxt) k fins.length (atN κl) i)).getD i 0)) := by
                      rw [hn8.cellAt i (by omega)]; simp [zI, nat2, nextL_len, hlt]
                    have f8 := blkf hcur8 i
                    have HC9 := hidd (hC8.setNext (nextL_len _ _ _ _ _) (x := j) hlt)
                    clear hC8 hcur8 hn8 hj hjm HC
                    by_cases hkl : k' < B.length
                    · have hklz : (k' : Int) < (B.length : Int) := by omega
                      have hklb : decide ((k' : Int) < (B.length : Int)) = true := by simpa using hkl
                      go_wp2
                      go_roundw
                      case rel =>
                        obtain ⟨R9, hC9⟩ := HC9.out
                        exact ⟨i + 1, _, R9, by omega, by go_num, ⟨gs, cs, by rw [HLs.out]⟩, by rw [HNx.out, HLs.out]; exact hC9⟩
                      case measure => simp [intOf]; omega
                    · have hklz : ¬ (k' : Int) < (B.length : Int) := by omega
                      have hklb : decide ((k' : Int) < (B.length : Int)) = false := by simpa using hkl
                      go_wp2
                      go_roundw
                      case rel =>
                        obtain ⟨R9, hC9⟩ := HC9.out
                        exact ⟨i + 1, _, R9, by omega, by go_num, ⟨gs, cs, by rw [HLs.out]⟩, by rw [HNx.out, HLs.out]; exact hC9⟩
                      case measure => simp [intOf]; omega
          · have hltz : ¬ (i : Int) < (fins.length : Int) := by omega
            obtain rfl : i = fins.length := by omega
            have HOn2 := hidd (round_onto (autR fins nxt) S fins.length (atN κl))
            have hle := sigsOf_le (autR fins nxt) S (atN κl) fins.length
            have HAt : Hid (∀ q, q < fins.length → atN (nextL (autR fins nxt) S fins.length (atN κl) fins.length) q = roundOf (autR fins nxt) S fins.length (atN κl) q) := fun q hq => nextL_all _ _ _ _ hq
            have hown := HC.out.rows.own 1 _ _ HC.out.nx
            rw [nat2_len, nextL_len] at hown
            have HOn3 := hidd hown
            have HBn := hidd HC.out.below
            have HBxn := hidd HC.out.box
            clear hown HC
            have HPc : Hid (Coarse (autR fins nxt) S fins.length (atN (nextL (autR fins nxt) S fins.length (atN κl) fins.length))) := by
              show Coarse _ _ _ _
              intro q r hq hr e
              rw [HAt.out q hq, HAt.out r hr]
              exact round_coarse HSh.out HCo.out q r hq hr e
            have HPf : Hid (FinOf (autR fins nxt) fins.length (atN (nextL (autR fins nxt) S fins.length (atN κl) fins.length))) := by
              show FinOf _ _ _
              intro q r hq hr e
              rw [HAt.out q hq, HAt.out r hr] at e
              exact round_fin HFo.out q r hq hr e
            have HPo : Hid (Onto fins.length (atN (nextL (autR fins nxt) S fins.length (atN κl) fins.length)) (sigsOf (autR fins nxt) S (atN κl) fins.length).length) := by
              refine ⟨fun q hq => by rw [HAt.out q hq]; exact HOn2.out.1 q hq, fun y hy => ?_⟩
              obtain ⟨q, hq, he⟩ := HOn2.out.2 y hy
              exact ⟨q, hq, by rw [HAt.out q hq]; exact he⟩
            have hpos' : 0 < (sigsOf (autR fins nxt) S (atN κl) fins.length).length := List.length_pos_of_mem (sigsOf_mem.2 ⟨0, hpos, rfl⟩)
            by_cases hce : (sigsOf (autR fins nxt) S (atN κl) fins.length).length = c
            · have hcb : (((sigsOf (autR fins nxt) S (atN κl) fins.length).length : Int) == (c : Int)) = true := by simp [hce]
              have HPt : Hid (Parts (autR fins nxt) S fins.length (atN (nextL (autR fins nxt) S fins.length (atN κl) fins.length))) := by
                have hon : Onto fins.length (atN κl) c := HOn.out.resolve_left (by omega)
                have hst := round_stable HSh.out hon HFo.out hce
                refine Stable.parts HSh.out ?_ HPc.out
                intro q r hq hr e
                rw [HAt.out q hq, HAt.out r hr] at e
                obtain ⟨h1, h2⟩ := hst q r hq hr e
                exact ⟨h1, fun a ha => by rw [HAt.out _ (HSh.out q a hq ha), HAt.out _ (HSh.out r a hr ha)]; exact h2 a ha⟩
              clear hce
              generalize (sigsOf (autR fins nxt) S (atN κl) fins.length).length = c' at *
              go_wp2
              go_ret
              exact ⟨_, _, c', rfl, HOn3.out, nextL_len _ _ _ _ _, HPt.out, HPo.out, HBn.out⟩
            · have hcb : (((sigsOf (autR fins nxt) S (atN κl) fins.length).length : Int) == (c : Int)) = false := by simp; omega
              have hmore : c < (sigsOf (autR fins nxt) S (atN κl) fins.length).length := by
                rcases HOn.out with h1 | h1
                · omega
                · have := round_more (A := autR fins nxt) (S := S) h1; omega
              clear hce
              generalize (sigsOf (autR fins nxt) S (atN κl) fins.length).length = c' at *
              go_wp2
              go_roundw
              case rel => exact ⟨_, c', gn, fins.length, rfl, by go_num, by omega, nextL_len _ _ _ _ _, fun q hq => by have := HPo.out.1 q hq; omega, HPc.out, HPf.out, Or.inr HPo.out, HOn3.out, HBn.out, HBxn.out⟩
              case measure => simp [intOf]; omega
end Go.Proofs.YtmnfioghhdgciaaDoor
