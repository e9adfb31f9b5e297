import Derived.Test.YtmnfioghhdgciaaDoorWildJ14
import Derived.Test.YtmnfioghhdgciaaDoorWildJ17
import Derived.Test.YtmnfioghhdgciaaDoorWildJ18
import Derived.Test.YtmnfioghhdgciaaDoorWildJ19
import Derived.Test.YtmnfioghhdgciaaDoorWildJ21
import Derived.Test.YtmnfioghhdgciaaDoorWildJ00
import Derived.Deep.DeepCutAuto
namespace Go.Proofs.YtmnfioghhdgciaaDoor
open Go Go.RowKit
set_option linter.unusedVariables false
set_option linter.unusedSimpArgs false
set_option maxRecDepth 100000

/-! spec.Wildcard at what it takes. -/
def ltW (P : List Int) : List Int := P.filter fun x => decide (0 ≤ x)
theorem ltW_snoc (P : List Int) (x : Int) : ltW (P ++ [x]) = if 0 ≤ x then ltW P ++ [x] else ltW P := by
  unfold ltW
  rw [List.filter_append]
  by_cases h : 0 ≤ x <;> simp [h]
theorem ltW_len (P : List Int) : (ltW P).length ≤ P.length := List.length_filter_le _ _
def WsPost (P : List Int) (w : World) (e : Ending) (w' : World) : Prop :=
  ∃ ls L, RiseZ ls ∧ (∀ y, y ∈ ls ↔ y ∈ ltW P) ∧ ls.length ≤ P.length ∧ sysL.Least ls.length ls ((wsK P (letS ls)).lang (ls.length + 1) (cloN P 1 P.length)) L ∧ Below w.heap.size w w' ∧
    ((256 < L.length ∧ e = .returned (.tuple #[.agg #[.slice none 0 0], .int .i64 11])) ∨ (L.length ≤ 256 ∧ ∃ v l, l.map Prod.snd = L ∧ e = .returned (.tuple #[.agg #[v], .int .i64 0]) ∧ DfaM w' w.heap.size v l))
theorem count_take {P : List Int} {k : Nat} (h : k < P.length) : (P.take (k + 1)).count (-1) = (P.take k).count (-1) + if P.getD k 0 = -1 then 1 else 0 := by
  rw [List.take_succ_eq_append_getElem h, List.count_append, List.count_singleton, List.getD_eq_getElem?_getD, List.getElem?_eq_getElem h]
  congr 1
  simp
theorem take_at {P : List Int} {k : Nat} (h : k < P.length) : P.take (k + 1) = P.take k ++ [P.getD k 0] := by
  rw [List.take_succ_eq_append_getElem h, List.getD_eq_getElem?_getD, List.getElem?_eq_getElem h]
  rfl
theorem bkW_one (x : Nat) (h : Nat) : bkW [x] h = if x % 4093 = h then [0] else [] := by
  have := bkW_snoc [] x h
  simpa [bkW] using this
theorem own_single (w : World) (e : TypeId) (v : Value) : (w.alloc (.cells #[v] e)).ownsRow w.heap.size e 1 (.slice (some ⟨w.heap.size, 0, none⟩) 1 1) 1 [v] :=
  ⟨rfl, Or.inr ⟨w.heap.size, 1, #[v], rfl, Nat.le_refl _, heap_alloc_new _ _, Nat.le_refl _, by unfold maxLen; omega, rfl, rfl⟩⟩
theorem RowsF.nils {W : World} {base : Nat} {R : RowMap} (h : RowsF W base R) : RowsF W base (fun a => if 4 ≤ a ∧ a % 2 = 0 then some (.slice none 0 0, []) else R a) := by
  refine ⟨fun a v zs ha => ?_, fun a b v zs u ys hab ha hb => ?_⟩
  · split at ha
    · cases ha; exact World.ownsRow_nil _ _ _ _
    · exact h.own a v zs ha
  · split at ha
    · cases ha; exact Or.inl rfl
    · split at hb
      · cases hb
        cases hv : v.ownBlock with
        | none => exact Or.inl rfl
        | some k => exact Or.inr (by simp [Value.ownBlock])
      · exact h.apart a b v zs u ys hab ha hb
theorem few31 {n : Nat} {Z : List Nat} (hn : n ≤ 30) (hd : Z.Nodup) (hz : ∀ z ∈ Z, z < 2 ^ (n + 1)) : Z.length ≤ 2147483648 := Nat.le_trans (nat_nodup_le _ Z hd hz) (pow31 (Nat.le_refl _) (by omega))
theorem Wz.setAt {w0 W : World} {tb rb gb g c : Nat} {vl vf vn vp : Value} {P ls : List Int} {Z Zb : List Nat} {nxt : List (List Nat)} {ns : List Value} {fins : List Bool} {R : RowMap} (h : Wz w0 W tb rb gb vl vf vn vp (.slice (some ⟨g, 0, none⟩) Z.length c) P ls Z Zb nxt ns fins R) {i : Nat} (hi : i < Z.length) : W.cell? ⟨g, i, none⟩ = some (.int .i64 ((Z.getD i 0 : Nat) : Int)) := by
  have ho := h.rows.own _ _ _ h.sets
  rw [nat2_len] at ho
  rw [ho.cellAt i (by omega)]
  simp [zI, nat2, hi]
set_option maxHeartbeats 8000000 in
theorem wild_good (hC : LeastC) (s : ByteArray) (w : World) (hs : s.size ≤ 1048576) (hD : decCode s = 0) (hl : (decList s).length ≤ 30) (hany : (partsL (decList s)).count (-1) ≤ 8) :
    Calls Tryd.prog 4 #[.string s] w (WsPost (partsL (decList s)) w) := by
  obtain ⟨i0, hi, hz0, hz1, hz2⟩ := info_parts Tryd.infoIntL
  obtain ⟨i1, hi1, hy0, hy1, hy2⟩ := info_parts Tryd.infoSlI
  obtain ⟨ib, hib, hb0, hb1, hb2⟩ := info_parts Tryd.infoBoolN
  have HDc := hidd hD
  clear hD
  go_enter Tryd.func4, Tryd.ntmps4
  go_wp2_with fail
  refine (specDecode_any s _ hs).mono ?_
  rintro e w2 ⟨vw, rfl, hown, hb2⟩
  rw [HDc.out]
  clear HDc
  generalize decList s = word at *
  have hbw : Below w.heap.size w w2 := ((Below.refl _ _).alloc (Nat.le_refl _) _).trans (hb2.mono (by simp))
  have hres : w2.heap[w.heap.size]? = some (.cells #[.slice none 0 0] 24) := blko (heap_alloc_new _ _) hb2
  have HPr := hidd (l05Parts_any word vw w2 (by omega) (HoldI.own hown))
  obtain ⟨aw, cw, hvw⟩ : ∃ a c, vw = .slice a word.length c := by
    rcases own_cases hown with ⟨h, h0⟩ | ⟨g, c, h, _, _⟩
    · exact ⟨none, 0, by rw [h, h0]⟩
    · exact ⟨_, c, h⟩
  subst hvw
  have hz30 : ¬ (30 : Int) < (word.length : Int) := by omega
  have HBw := hidd hbw
  have HRes := hidd hres
  clear hown hb2 hbw hres
  go_wp2_with fail
  refine HPr.out.mono ?_
  rintro e w3 ⟨vp, rfl, hownp, hb3⟩
  have hpl := partsL_len word
  generalize partsL word = P at *
  have hPl : P.length ≤ 30 := by omega
  have hB3 := HBw.out.trans (hb3.mono HBw.out.size)
  have HR3 := hidd (blko HRes.out hb3)
  have HOp : Hid (w3.ownsRow w.heap.size 3 1 vp P.length (zI P)) := own_mono hownp HBw.out.size
  have HHp := hidd (HoldI.own hownp)
  have HB3 := hidd hB3
  obtain ⟨ap, cp, hvp⟩ : ∃ a c, vp = .slice a P.length c := by
    rcases own_cases hownp with ⟨h, h0⟩ | ⟨g, c, h, _, _⟩
    · exact ⟨none, 0, by rw [h, h0]⟩
    · exact ⟨_, c, h⟩
  subst hvp
  have HPc : Hid (∀ k, k < P.length → ∃ g off, ap = some ⟨g, off, none⟩ ∧ g < w3.heap.size ∧ w3.cell? ⟨g, off + k, none⟩ = some (.int .i64 (P.getD k 0))) := fun k hk => HHp.out.cells hk
  clear hownp hb3 hB3 HPr HBw HRes
  go_wp2_with fail
  go_loop [7, 8] (fun cv iv => ∃ k : Nat, k ≤ P.length ∧ iv = .int .i64 (k : Int) ∧ cv = .int .i64 (((P.take k).count (-1) : Nat) : Int)) (fun _ iv => P.length - (intOf iv).toNat)
  case atStart => exact ⟨0, Nat.zero_le _, rfl, by simp⟩
  case round =>
    obtain ⟨k, hk, rfl, rfl⟩ := hrel
    have hcnt : (P.take k).count (-1) ≤ 30 := Nat.le_trans List.count_le_length (by rw [List.length_take]; omega)
    by_cases hlt : k < P.length
    · have hkz : (k : Int) < (P.length : Int) := by omega
      obtain ⟨g, off, rfl, hg, c1⟩ := HPc.out k hlt
      have HN := hidd (count_take hlt)
      generalize (P.take k).count (-1) = n at *
      generalize P.getD k 0 = z at *
      by_cases hz : z = -1
      · have hzb : (z == -1) = true := by simp [hz]
        have HE : Hid ((P.take (k + 1)).count (-1) = n + 1) := by show _ = _; rw [HN.out, if_pos hz]
        clear hz HN
        go_wp2
        exact ⟨⟨k + 1, by omega, by go_num, by rw [HE.out]; go_num⟩, by simp [intOf]; omega⟩
      · have hzb : (z == -1) = false := by simp [hz]
        have HE : Hid ((P.take (k + 1)).count (-1) = n) := by show _ = _; rw [HN.out, if_neg hz]; rfl
        clear hz HN
        go_wp2
        exact ⟨⟨k + 1, by omega, by go_num, by rw [HE.out]⟩, by simp [intOf]; omega⟩
    · have hkz : ¬ (k : Int) < (P.length : Int) := by omega
      obtain rfl : k = P.length := by omega
      rw [List.take_length]
      have hanz : ¬ (8 : Int) < ((P.count (-1) : Nat) : Int) := by omega
      generalize P.count (-1) = cnt at *
      have hp1 : (1 : Nat) < 2 ^ (P.length + 1) := Nat.lt_of_lt_of_le (by omega) (Nat.pow_le_pow_right (show 0 < 2 by omega) (show 1 ≤ P.length + 1 by omega))
      have HCl := hidd (specClose_any (.slice ap P.length cp) P 1 w3 hPl hp1 HHp.out)
      have hx0 := cloN_lt (P := P) (k := P.length) hp1 (Nat.le_refl _)
      go_wp2_with fail
      refine HCl.out.mono ?_
      rintro e w3' ⟨rfl, rfl⟩
      have hx31 : cloN P 1 P.length < 2147483648 := Nat.lt_of_lt_of_le hx0 (pow31 (Nat.le_refl _) (by omega))
      clear HCl hp1
      obtain ⟨x0, hx0e⟩ : ∃ x0, cloN P 1 P.length = x0 := ⟨_, rfl⟩
      have HX0 := hidd hx0e
      rw [hx0e] at hx0 hx31 ⊢
      clear hx0e
      go_upto_region 16 with fail
      have hsz3 := HB3.out.size
      have HB4 : Hid (Below w3'.heap.size w3' (w3'.alloc (.cells #[.int .i64 (x0 : Int)] 3))) := (Below.refl _ _).alloc (Nat.le_refl _) _
      have HR4 : Hid (RowsF (w3'.alloc (.cells #[.int .i64 (x0 : Int)] 3)) w.heap.size (upd (upd (fun _ => none) 1 (some (.slice ap P.length cp, P))) 3 (some (.slice (some ⟨w3'.heap.size, 0, none⟩) 1 1, nat2 [x0])))) := ((RowsF.empty w w.heap.size).new HB3.out (Nat.le_refl _) HOp.out).new HB4.out hsz3 (own_single _ _ _)
      have hz4 : (w3'.alloc (.cells #[.int .i64 (x0 : Int)] 3)).heap.size = w3'.heap.size + 1 := by simp
      have hx4 := blkc (heap_alloc_new w3' (.cells #[.int .i64 (x0 : Int)] 3)) 0
      obtain ⟨gS, hgS⟩ : ∃ gS, w3'.heap.size = gS := ⟨_, rfl⟩
      generalize w3'.alloc (.cells #[.int .i64 (x0 : Int)] 3) = W4 at *
      rw [hgS] at HR4 hz4 hx4
      simp only [hgS]
      have HZ4 := hidd hz4
      clear hz4
      go_upto_region 17 with (at_make; refine wpList_make_full _ rfl _ _ 35 rfl W4.heap.size 30 i1 (.slice none 0 0) 1 Tryd.underlying35 hi1 hy0 hy1 _ _ _ _ 4093 rfl rfl (by omega) (by omega) ?b4 ?b5 (Nat.le_refl _) ?_)
      case b4 => rw [hy2]; omega
      case b5 => unfold maxLen; omega
      intro w5 hown5 hgrow5
      have hcs : ∃ bs : Array Value, w5.heap[W4.heap.size]? = some (.cells bs 30) ∧ bs.size = 4093 ∧ ∀ h, h < 4093 → bs[h]? = some (.slice none 0 0) := by
        rcases hown5.2 with ⟨h', _⟩ | ⟨g, cap, cur, h', _, hg, hc1, hc2, hc3, hc4⟩
        · simp at h'
        · simp only [Value.slice.injEq, Option.some.injEq, Addr.mk.injEq, and_true, true_and] at h'
          obtain ⟨rfl, rfl⟩ := h'
          refine ⟨cur, hg, by omega, fun h hh => ?_⟩
          have e0 : (madeCells #[Value.slice none 0 0] 4093).toList = List.replicate 4093 (Value.slice none 0 0) := toList_madeCells_one _ _
          rw [e0] at hc4
          have e1 := congrArg (fun l => l[h]?) hc4
          rw [List.take_of_length_le (by simp; omega), List.getElem?_replicate, if_pos hh] at e1
          simpa using e1
      have HB5 : Hid (Below W4.heap.size W4 w5) := (Below.refl _ _).grown hgrow5 (Nat.le_refl _) (fun k h => by cases h)
      obtain ⟨bs, hq1, hq2, hq3⟩ := hcs
      clear hown5 hgrow5
      obtain ⟨gb, hgb⟩ : ∃ gb, W4.heap.size = gb := ⟨_, rfl⟩
      rw [hgb] at hq1
      simp only [hgb]
      have hgSb : gS < gb := by have := HZ4.out; omega
      have x5 : w5.cell? ⟨gS, 0, none⟩ = some (.int .i64 (x0 : Int)) := (HB5.out.cell (p := ⟨gS, 0, none⟩) (by show gS < W4.heap.size; omega)).trans hx4
      obtain ⟨h0, hh0⟩ : ∃ h0, x0 % 4093 = h0 := ⟨_, rfl⟩
      have hmod : (x0 : Int) % 4093 = (h0 : Int) := by omega
      have hh0l : h0 < 4093 := by omega
      have hb6 : Below w5.heap.size w5 (w5.alloc (.cells #[.int .i64 0] 3)) := (Below.refl _ _).alloc (Nat.le_refl _) _
      have hgw5 : gb < w5.heap.size := (Array.getElem?_eq_some_iff.1 hq1).1
      have hg6 := blko hq1 hb6
      have k6 : (w5.alloc (.cells #[.int .i64 0] 3)).cell? ⟨gb, h0, none⟩ = some (.slice none 0 0) := (blkc hg6 h0).trans (hq3 h0 hh0l)
      have fz6 := blkf hg6 h0
      have hB45 : Below w3'.heap.size w3' w5 := HB4.out.trans (HB5.out.mono HB4.out.size)
      have hB5w : Below w.heap.size w w5 := HB3.out.trans (hB45.mono hsz3)
      have HR6 : Hid (RowsF (w5.alloc (.cells #[.int .i64 0] 3)) w.heap.size (upd (fun a => if 4 ≤ a ∧ a % 2 = 0 then some (.slice none 0 0, []) else upd (upd (fun _ => none) 1 (some (.slice ap P.length cp, P))) 3 (some (.slice (some ⟨gS, 0, none⟩) 1 1, nat2 [x0])) a) (4 + 2 * h0) (some (.slice (some ⟨w5.heap.size, 0, none⟩) 1 1, nat2 [0])))) := ((HR4.out.below HB5.out).nils).new hb6 hB5w.size (own_single _ _ _)
      have hcm : (w5.alloc (.cells #[.int .i64 0] 3)).setCell ⟨gb, h0, none⟩ (.slice (some ⟨w5.heap.size, 0, none⟩) 1 1) = (w5.setCell ⟨gb, h0, none⟩ (.slice (some ⟨w5.heap.size, 0, none⟩) 1 1)).alloc (.cells #[.int .i64 0] 3) := World.setCell_alloc_past _ _ _ _ hgw5
      have hB2 : But (fun b => b = gb) (w5.alloc (.cells #[.int .i64 0] 3)) ((w5.alloc (.cells #[.int .i64 0] 3)).setCell ⟨gb, h0, none⟩ (.slice (some ⟨w5.heap.size, 0, none⟩) 1 1)) := (But.refl _ _).set gb h0 _ rfl
      have hR7 := HR6.out.but hB2 (fun b e cur hc => by subst e; exact ne_of_type hg6 hc (by decide) rfl)
      have hB6 := hB5w.trans (hb6.mono hB5w.size)
      have hwgb : w.heap.size ≤ gb := by have := HB4.out.size; omega
      have hB7 := hB6.trans (hB2.below hB6.size (fun i hi e => by omega))
      have hg7 := blk_setk hg6 h0 (.slice (some ⟨w5.heap.size, 0, none⟩) 1 1)
      have hres7 : ((w5.alloc (.cells #[.int .i64 0] 3)).setCell ⟨gb, h0, none⟩ (.slice (some ⟨w5.heap.size, 0, none⟩) 1 1)).heap[w.heap.size]? = some (.cells #[.slice none 0 0] 24) := by
        have h1 := blko (blko HR3.out hB45) hb6
        rw [heap_set_other _ _ _ _ _ (ne_of_type h1 hg6 (by decide))]; exact h1
      have hBk : ∃ bs' : Array Value, ((w5.alloc (.cells #[.int .i64 0] 3)).setCell ⟨gb, h0, none⟩ (.slice (some ⟨w5.heap.size, 0, none⟩) 1 1)).heap[gb]? = some (.cells bs' 30) ∧ bs'.size = 4093 ∧ ∀ h, h < 4093 → ∃ u, bs'[h]? = some u ∧ (upd (fun a => if 4 ≤ a ∧ a % 2 = 0 then some (.slice none 0 0, []) else upd (upd (fun _ => none) 1 (some (.slice ap P.length cp, P))) 3 (some (.slice (some ⟨gS, 0, none⟩) 1 1, nat2 [x0])) a) (4 + 2 * h0) (some (.slice (some ⟨w5.heap.size, 0, none⟩) 1 1, nat2 [0]))) (4 + 2 * h) = some (u, nat2 (bkW [x0] h)) := by
        refine ⟨_, hg7, by simpa using hq2, fun h hh => ?_⟩
        rw [bkW_one]
        by_cases e : h = h0
        · subst e
          refine ⟨.slice (some ⟨w5.heap.size, 0, none⟩) 1 1, by simp [hq2, hh], ?_⟩
          rw [upd_same, if_pos hh0]
        · refine ⟨.slice none 0 0, by rw [Array.getElem?_setIfInBounds_ne (Ne.symm e)]; exact hq3 h hh, ?_⟩
          rw [upd_other _ _ (by omega), if_pos (by omega), if_neg (by rw [hh0]; exact Ne.symm e)]
          rfl
      rw [hcm] at hR7 hB7 hres7 hBk
      have HR7 := hidd hR7
      have HB7 := hidd hB7
      have HRs7 := hidd hres7
      have HBk := hidd hBk
      clear hb6 hg6 hB45 hB5w hh0 HR4 hx4 HB4 HB5 HZ4 HOp HHp HPc hcnt HR6 hcm hB2 hR7 hB6 hB7 hg7 hres7 hBk hq1 hq2 hq3 HR3 HB3
      go_upto_region 18 with fail
      generalize hW7 : (w5.setCell ⟨gb, h0, none⟩ (.slice (some ⟨w5.heap.size, 0, none⟩) 1 1)).alloc (.cells #[.int .i64 0] 3) = W7 at *
      clear hW7 x5 k6 fz6 hmod hh0l
      generalize hRR : (upd (fun a => if 4 ≤ a ∧ a % 2 = 0 then some (.slice none 0 0, []) else upd (upd (fun _ => none) 1 (some (.slice ap P.length cp, P))) 3 (some (.slice (some ⟨gS, 0, none⟩) 1 1, nat2 [x0])) a) (4 + 2 * h0) (some (.slice (some ⟨w5.heap.size, 0, none⟩) 1 1, nat2 [0]))) = R7 at *
      have HP7 : Hid (R7 1 = some (.slice ap P.length cp, P) ∧ R7 3 = some (.slice (some ⟨gS, 0, none⟩) 1 1, nat2 [x0])) := by
        rw [← hRR]
        refine ⟨?_, ?_⟩
        · rw [upd_other _ _ (by omega), if_neg (by omega), upd_other _ _ (by omega), upd_same]
        · rw [upd_other _ _ (by omega), if_neg (by omega), upd_same]
      clear hRR
      have HH7 := hidd (HR7.out.hold HP7.out.1)
      have HPc : Hid (∀ k, k < P.length → ∃ g off, ap = some ⟨g, off, none⟩ ∧ g < W7.heap.size ∧ W7.cell? ⟨g, off + k, none⟩ = some (.int .i64 (P.getD k 0))) := fun k hk => HH7.out.cells hk
      go_upto_region 19 with fail
      have HL0 := hidd (own_empty W7 3)
      have HB8 : Hid (Below W7.heap.size W7 (W7.alloc (.cells #[] 3))) := (Below.refl _ _).alloc (Nat.le_refl _) _
      generalize W7.alloc (.cells #[] 3) = W8 at *
      go_wp2_with fail
      go_loopw [11, 12] (fun lv iv wx => ∃ k : Nat, k ≤ P.length ∧ iv = .int .i64 (k : Int) ∧ wx.ownsRow W7.heap.size 3 1 lv (ltW (P.take k)).length (zI (ltW (P.take k))) ∧ Below W7.heap.size W7 wx) (fun _ iv _ => P.length - (intOf iv).toNat)
      case atStart => exact ⟨0, Nat.zero_le _, rfl, HL0.out, HB8.out⟩
      case round =>
        clear HL0 HB8
        obtain ⟨k, hk2, rfl, hol, hbl⟩ := hrel
        have HOl := hidd hol
        have HBl := hidd hbl
        have hll := Nat.le_trans (ltW_len (P.take k)) (by rw [List.length_take]; omega : (P.take k).length ≤ 30)
        have hszl := hbl.size
        clear hol hbl
        by_cases hlt2 : k < P.length
        · have hkz2 : (k : Int) < (P.length : Int) := by omega
          obtain ⟨g, off, rfl, hg, c1⟩ := HPc.out k hlt2
          have c2 := (HBl.out.cell (p := ⟨g, off + k, none⟩) hg).trans c1
          have HT := hidd (take_at hlt2)
          clear c1
          generalize P.getD k 0 = z at *
          by_cases hz : 0 ≤ z
          · have hzz : z ≥ 0 := hz
            have HE : Hid (ltW (P.take (k + 1)) = ltW (P.take k) ++ [z]) := by show _ = _; rw [HT.out, ltW_snoc, if_pos hz]
            clear HT
            generalize ltW (P.take k) = lt at *
            go_wp2_with (at_builtin; refine wp_push rfl _ _ 30 3 rfl i0 (.int .i64 0) 8 Tryd.underlying30 hi hz0 hz1 hz2 rfl W7.heap.size _ _ _ rfl HOl.out _ rfl rfl (by omega) (by decide) hszl ?_)
            intro v8 w8 ho8 hbt8 hat8 hnn8
            have HN : Hid (w8.ownsRow W7.heap.size 3 1 v8 (lt ++ [z]).length (zI (lt ++ [z])) ∧ Below W7.heap.size W7 w8) := by
              rw [List.length_append, List.length_singleton, zI_snoc]
              exact ⟨ho8, HBl.out.trans (hbt8.below hszl (fun j hj e => by have := (own_blk HOl.out e).1; omega))⟩
            clear ho8 hbt8 hat8 hnn8
            go_wp2_with fail
            go_roundw
            case rel => exact ⟨k + 1, by omega, by go_num, by rw [HE.out]; exact HN.out.1, HN.out.2⟩
            case measure => simp [intOf]; omega
          · have hzz : ¬ z ≥ 0 := hz
            have HE : Hid (ltW (P.take (k + 1)) = ltW (P.take k)) := by show _ = _; rw [HT.out, ltW_snoc, if_neg hz]
            clear HT
            go_wp2_with fail
            go_roundw
            case rel => exact ⟨k + 1, by omega, by go_num, by rw [HE.out]; exact HOl.out, HBl.out⟩
            case measure => simp [intOf]; omega
        · have hkz2 : ¬ (k : Int) < (P.length : Int) := by omega
          obtain rfl : k = P.length := by omega
          rw [List.take_length] at *
          have hl1 := ltW_len P
          have HLt := hidd (letters_any (ltW P) _ _ (by omega) (HoldI.own HOl.out))
          obtain ⟨al', cl', hvl'⟩ : ∃ a c, u11 = .slice a (ltW P).length c := own_slk HOl.out
          subst hvl'
          go_wp2_with fail
          refine HLt.out.mono ?_
          rintro e w9 ⟨vl, ls, rfl, hrise, hmem, hlsl, hownl, hb9⟩
          have HRi := hidd hrise
          have HMe := hidd hmem
          obtain ⟨al, cl, rfl⟩ := own_slk hownl
          have hb10 : Below w9.heap.size w9 (w9.alloc (.cells #[.slice al ls.length cl, .slice none 0 0, .slice none 0 0] 38)) := (Below.refl _ _).alloc (Nat.le_refl _) _
          have HW0 : Hid (Wz w (w9.alloc (.cells #[.slice al ls.length cl, .slice none 0 0, .slice none 0 0] 38)) w.heap.size w9.heap.size gb (.slice al ls.length cl) (.slice none 0 0) (.slice none 0 0) (.slice ap P.length cp) (.slice (some ⟨gS, 0, none⟩) 1 1) P ls [x0] [x0] [] [] [] (upd R7 0 (some (.slice al ls.length cl, ls)))) := by
            have hB8 := HB7.out.trans (HBl.out.mono HB7.out.size)
            have hB9 := hB8.trans (hb9.mono hB8.size)
            have hB10 := hB9.trans (hb10.mono hB9.size)
            have hb8 := HBl.out
            obtain ⟨bs', q1, q2, q3⟩ := HBk.out
            refine ⟨hB10, ⟨Nat.le_refl _, hB9.size, hwgb⟩, blko (blko (blko HRs7.out hb8) hb9) hb10, heap_alloc_new _ _, ((HR7.out.below hb8).new hb9 hB8.size hownl).below hb10, upd_same _ _ _, by rw [upd_other _ _ (by omega)]; exact HP7.out.1, by rw [upd_other _ _ (by omega)]; exact HP7.out.2, ⟨bs', blko (blko (blko q1 hb8) hb9) hb10, q2, fun h hh => ?_⟩, World.ownsRow_nil _ _ _ _, fun j u s h1 _ => by simp at h1, by simp [Value.ownBlock], World.ownsRow_nil _ _ _ _⟩
            obtain ⟨u, h1, h2⟩ := q3 h hh
            exact ⟨u, h1, by rw [upd_other _ _ (by omega)]; exact h2⟩
          go_upto_region 25 with fail
          generalize w9.alloc (.cells #[.slice al ls.length cl, .slice none 0 0, .slice none 0 0] 38) = W10 at *
          generalize upd R7 0 (some (.slice al ls.length cl, ls)) = R10 at *
          generalize w9.heap.size = rb at *
          have hlsb : ls.length ≤ 30 := by omega
          have hlsP : ls.length ≤ P.length := by omega
          clear hrise hmem hownl hb9 hb10 HOl HBl HLt HPc HH7 HR7 HB7 HRs7 HBk HP7 hll hszl hlsl hl1 hwgb hgw5 hsz3
          obtain ⟨K, hK⟩ : ∃ K, wsK P (letS ls) = K := ⟨_, rfl⟩
          have HK := hidd hK
          have HKs : Hid (∀ x a, K.step x a = cloN P (mvN P x (letS ls a) P.length) P.length) := fun x a => by rw [← hK]; rfl
          have HKf : Hid (∀ x, K.fin x = x.testBit P.length) := fun x => by rw [← hK]; rfl
          have HKl : Hid (∀ x a, K.step x a < 2 ^ (P.length + 1)) := fun x a => by rw [HKs.out]; exact cloN_lt (mvN_lt (Nat.le_refl _)) (Nat.le_refl _)
          clear hK
          clear hl hpl hz30 hk hlt hk2 hlt2 hkz hkz2 hanz hx31
          have HG0 : Hid (FgN K (ls.length + 1) x0 0 [x0] [] []) := FgN.zero _ _ _
          have HZ0 : Hid (∀ z ∈ [x0], z < 2 ^ (P.length + 1)) := fun z hz => by rw [List.mem_singleton.1 hz]; exact hx0
          go_wp2_with fail
          go_loopw [9, 14] (fun sv iv wx => ∃ (i : Nat) (Z : List Nat) (nxt : List (List Nat)) (ns : List Value) (fins : List Bool) (R : RowMap) (vf vn : Value) (g c : Nat), iv = .int .i64 (i : Int) ∧ sv = .slice (some ⟨g, 0, none⟩) Z.length c ∧ Wz w wx w.heap.size rb gb (.slice al ls.length cl) vf vn (.slice ap P.length cp) (.slice (some ⟨g, 0, none⟩) Z.length c) P ls Z Z nxt ns fins R ∧ FgN K (ls.length + 1) x0 i Z nxt fins ∧ ∀ z ∈ Z, z < 2 ^ (P.length + 1)) (fun _ iv _ => 2147483649 - (intOf iv).toNat)
          case atStart => exact ⟨0, [x0], [], [], [], _, _, _, gS, 1, rfl, rfl, HW0.out, HG0.out, HZ0.out⟩
          case round =>
            clear HW0 HG0 HZ0
            obtain ⟨i, Z, nxt, ns, fins, R, vf, vn, g, c, rfl, rfl, hW, hG, hZ⟩ := hrel
            have hZl := few31 hPl hG.nodup hZ
            have hiZ := hG.le
            have HW := hidd hW
            have HG := hidd hG
            have HZ := hidd hZ
            by_cases hli : i < Z.length
            · have hliz : (i : Int) < (Z.length : Int) := by omega
              obtain ⟨x, hx⟩ : ∃ x, Z[i]? = some x := ⟨_, List.getElem?_eq_getElem hli⟩
              have HXg : Hid (Z.getD i x0 = x) := by show _ = _; rw [List.getD_eq_getElem?_getD, hx]; rfl
              have HXm := hidd (hZ x (List.mem_of_getElem? hx))
              have HXi := hidd hx
              have HWt := hidd (hW.newTo (zs := []) ((Below.refl _ _).alloc (Nat.le_refl _) _) (own_empty wr 3))
              clear hW hG hZ hx
              go_upto_region 29 with fail
              generalize wr.alloc (.cells #[] 3) = W1 at *
              generalize Value.slice (some ⟨wr.heap.size, 0, none⟩) 0 0 = vt0 at *
              have HS0 : Hid (∃ (R1 : RowMap) (g1 c1 : Nat), Value.slice (some ⟨g, 0, none⟩) Z.length c = .slice (some ⟨g1, 0, none⟩) (metN K Z x 0).length c1 ∧ R1 2 = some (vt0, nat2 (toN K (metN K Z x 0) x 0)) ∧ Wz w W1 w.heap.size rb gb (.slice al ls.length cl) vf vn (.slice ap P.length cp) (.slice (some ⟨g1, 0, none⟩) (metN K Z x 0).length c1) P ls (metN K Z x 0) (metN K Z x 0) nxt ns fins R1 ∧ ∀ z ∈ metN K Z x 0, z < 2 ^ (P.length + 1)) := ⟨_, g, c, rfl, upd_same _ _ _, HWt.out, HZ.out⟩
              clear HWt HW
              go_wp2_with fail
              go_loopw [9, 15, 16] (fun sv tv kv wx => ∃ (k : Nat) (R1 : RowMap) (g1 c1 : Nat), k ≤ ls.length + 1 ∧ kv = .int .i64 (k : Int) ∧ sv = .slice (some ⟨g1, 0, none⟩) (metN K Z x k).length c1 ∧ R1 2 = some (tv, nat2 (toN K (metN K Z x k) x k)) ∧ Wz w wx w.heap.size rb gb (.slice al ls.length cl) vf vn (.slice ap P.length cp) (.slice (some ⟨g1, 0, none⟩) (metN K Z x k).length c1) P ls (metN K Z x k) (metN K Z x k) nxt ns fins R1 ∧ ∀ z ∈ metN K Z x k, z < 2 ^ (P.length + 1)) (fun _ _ kv _ => ls.length + 1 - (intOf kv).toNat)
              case atStart =>
                obtain ⟨R1, g1, c1, h1, h2, h3, h4⟩ := HS0.out
                exact ⟨0, R1, g1, c1, by omega, rfl, h1, h2, h3, h4⟩
              case round =>
                clear HS0
                obtain ⟨k, R1, g1, c1, hkS, rfl, rfl, hR2, hW, hZk⟩ := hrel
                have HW := hidd hW
                have HR2 := hidd hR2
                have HZk := hidd hZk
                have ral := blkc hW.rawb 0
                clear hW
                have HNd : Hid ((metN K Z x k).Nodup) := meets_nodup HG.out.nodup
                have hZkl := few31 hPl HNd.out hZk
                clear hR2 hZk
                by_cases hkl : k ≤ ls.length
                · have hklz : (k : Int) ≤ (ls.length : Int) := by omega
                  go_upto_if 104 with fail
                  go_cut [17] (fun lv wy => lv = .int .i64 (letS ls k) ∧ wy = wr)
                  case first =>
                    -- <<
                    by_cases hjk : k < ls.length
                    · have hjkz : (k : Int) < (ls.length : Int) := by omega
                      obtain ⟨gl, ol, rfl, hgl, hcl⟩ := (HW.out.rows.hold HW.out.letr).cells hjk
                      have hle : letS ls k = ls.getD k 0 := by simp [letS, hjk]
                      rw [← hle] at hcl
                      generalize letS ls k = lt at *
                      clear hle
                      go_wp2
                      go_meet
                      case rel => exact ⟨rfl, rfl⟩
                    · have hjkz : ¬ (k : Int) < (ls.length : Int) := by omega
                      have hle : letS ls k = -9 := by simp [letS, hjk]
                      go_wp2
                      go_meet
                      case rel => exact ⟨by rw [hle], rfl⟩
                    -- >>
                  case rest =>
                    obtain ⟨rfl, hwc⟩ := hcut
                    obtain rfl := hwc.symm
                    clear hwc ral
                    obtain ⟨y, hy⟩ : ∃ y, K.step x k = y := ⟨_, rfl⟩
                    have HMv : Hid (Calls Tryd.prog 13 #[.slice ap P.length cp, .int .i64 (x : Int), .int .i64 (letS ls k)] wr fun e w' => e = .returned (.int .i64 (y : Int)) ∧ w' = wr) := by
                      have := specMove_any (.slice ap P.length cp) P x (letS ls k) wr hPl HXm.out (HW.out.rows.hold HW.out.prt)
                      rw [← HKs.out, hy] at this
                      exact this
                    have hyl : y < 2147483648 := by rw [← hy]; exact Nat.lt_of_lt_of_le (HKl.out x k) (pow31 (Nat.le_refl _) (by omega))
                    have HYl : Hid (y < 2 ^ (P.length + 1)) := by rw [← hy]; exact HKl.out x k
                    have HMs := hidd (metN_succ K Z x k)
                    have HTs := hidd (toN_succ K Z x k)
                    have HTl := hidd (toN_len K (metN K Z x k) x k)
                    rw [hy] at HMs HTs
                    clear hy
                    obtain ⟨r, hr⟩ := metN_pre K Z x k
                    have hiK : i < (metN K Z x k).length := by rw [hr, List.length_append]; omega
                    have hixk : (metN K Z x k).getD i 0 = x := by
                      rw [hr, List.getD_eq_getElem?_getD, List.getElem?_append_left hli, HXi.out]; rfl
                    have c0 := HW.out.setAt hiK
                    rw [hixk] at c0
                    generalize toN K (metN K Z x k) x k = tk at *
                    generalize hZZ : metN K Z x k = Zk at *
                    clear hZZ hr hixk
                    have hiKz : (i : Int) < (Zk.length : Int) := by omega
                    generalize letS ls k = lt at *
                    go_wp2_with fail
                    refine HMv.out.mono ?_
                    rintro e w' ⟨rfl, rfl⟩
                    clear c0 HMv
                    obtain ⟨h, hh⟩ : ∃ h, y % 4093 = h := ⟨_, rfl⟩
                    have hmod : (y : Int) % 4093 = (h : Int) := by omega
                    have hhl : h < 4093 := by omega
                    have HHh := hidd hh
                    clear hh
                    obtain ⟨bs, b1, b2, b3⟩ := HW.out.bk
                    obtain ⟨ub, hub, hRb⟩ := b3 h hhl
                    have k1 : w'.cell? ⟨gb, h, none⟩ = some ub := (blkc b1 h).trans hub
                    obtain ⟨ab, cb, rfl, hIb⟩ := HW.out.rows.hold hRb
                    rw [nat2_len] at k1 hRb
                    have HRb := hidd hRb
                    have hbl := bkW_len Zk h
                    obtain ⟨B, hB⟩ : ∃ B, bkW Zk h = B := ⟨_, rfl⟩
                    rw [hB] at k1 HRb hbl hIb
                    have HBm : Hid (∀ j, j ∈ B ↔ j < Zk.length ∧ Zk.getD j 0 % 4093 = h) := by show ∀ j, _; intro j; rw [← hB]; exact bkW_mem
                    have HBe := hidd hB
                    have HIb := hidd hIb
                    clear b1 b2 b3 hRb hub hB hIb
                    go_wp2_with fail
                    go_loop [20, 21] (fun av kv => ∃ k' : Nat, k' ≤ B.length ∧ kv = .int .i64 (k' : Int) ∧ ((av = .int .i64 (-1) ∧ ∀ j, j < k' → Zk.getD (B.getD j 0) 0 ≠ y) ∨ ∃ j : Nat, av = .int .i64 (j : Int) ∧ Zk[j]? = some y)) (fun _ kv => B.length - (intOf kv).toNat)
                    case atStart => exact ⟨0, Nat.zero_le _, rfl, Or.inl ⟨rfl, fun j hj => by omega⟩⟩
                    case round =>
                      obtain ⟨k', hk', rfl, hor⟩ := hrel
                      rcases hor with ⟨rfl, hno⟩ | ⟨j, rfl, hj⟩
                      · have HNo := hidd hno
                        clear hno
                        by_cases hkb : k' < B.length
                        · have hkbz : (k' : Int) < (B.length : Int) := by omega
                          obtain ⟨gB, oB, rfl, hgB, hcB⟩ := HIb.out.resolve_left (fun e => by
                            have := congrArg List.length e
                            rw [nat2_len, List.length_nil] at this
                            omega)
                          have d0 : w'.cell? ⟨gB, oB + k', none⟩ = some (.int .i64 ((B.getD k' 0 : Nat) : Int)) := by
                            rw [hcB k' (by rw [nat2_len]; exact hkb), nat2_at _ _ hkb]
                          have hjm := (HBm.out (B.getD k' 0)).1 (by rw [List.getD_eq_getElem?_getD, List.getElem?_eq_getElem hkb, Option.getD_some]; exact List.getElem_mem hkb)
                          obtain ⟨j, hj⟩ : ∃ j, B.getD k' 0 = j := ⟨_, rfl⟩
                          rw [hj] at d0 hjm
                          have hjl := hjm.1
                          have hjlz : (j : Int) < (Zk.length : Int) := by omega
                          have d1 := HW.out.setAt hjl
                          obtain ⟨t, ht⟩ : ∃ t, Zk.getD j 0 = t := ⟨_, rfl⟩
                          rw [ht] at d1
                          have Hj := hidd hj
                          have Ht := hidd ht
                          clear hj ht hjm hcB
                          -- <<
                          by_cases hts : t = y
                          · have hd : ((t : Int) == (y : Int)) = true := by simp [hts]
                            have HF1 : Hid (Zk[j]? = some y) := by
                              show _ = _
                              have := Ht.out
                              rw [List.getD_eq_getElem?_getD, List.getElem?_eq_getElem hjl, Option.getD_some] at this
                              rw [List.getElem?_eq_getElem hjl, this, hts]
                            clear hts
                            go_wp2_with fail
                            exact ⟨⟨k' + 1, by omega, by go_num, Or.inr ⟨j, rfl, HF1.out⟩⟩, by simp [intOf]; omega⟩
                          · have hd : ((t : Int) == (y : Int)) = false := by simp; omega
                            have HF1 : Hid (∀ j', j' < k' + 1 → Zk.getD (B.getD j' 0) 0 ≠ y) := by
                              show ∀ j', j' < k' + 1 → _
                              intro j' hj'
                              by_cases e : j' = k'
                              · rw [e, Hj.out, Ht.out]; exact hts
                              · exact HNo.out j' (by omega)
                            clear hts
                            go_wp2_with fail
                            exact ⟨⟨k' + 1, by omega, by go_num, Or.inl ⟨rfl, HF1.out⟩⟩, by simp [intOf]; omega⟩
                          -- >>
                        · have hkbz : ¬ (k' : Int) < (B.length : Int) := by omega
                          obtain rfl : k' = B.length := by omega
                          have HNew : Hid (y ∉ Zk) := by
                            show _ ∉ _
                            intro hm
                            obtain ⟨j, hj⟩ := List.mem_iff_getElem?.1 hm
                            have hjl := (List.getElem?_eq_some_iff.1 hj).1
                            have hjd : Zk.getD j 0 = y := by rw [List.getD_eq_getElem?_getD, hj]; rfl
                            obtain ⟨t, ht⟩ := List.mem_iff_getElem?.1 ((HBm.out j).2 ⟨hjl, by rw [hjd]; exact HHh.out⟩)
                            have htl := (List.getElem?_eq_some_iff.1 ht).1
                            exact HNo.out t htl (by rw [List.getD_eq_getElem?_getD (l := B), ht, Option.getD_some]; exact hjd)
                          have HMt : Hid (meet Zk y = Zk ++ [y]) := by show _ = _; unfold meet; rw [if_neg HNew.out]
                          have HIx : Hid (ix (Zk ++ [y]) y = Zk.length) := ix_new HNew.out
                          have HOs := hidd (HW.out.rows.own 3 _ _ HW.out.sets)
                          have hsz := HW.out.below.size
                          clear HNo HNew HIb
                          go_upto_region 46 with (at_builtin; refine wp_push rfl _ _ 30 3 rfl i0 (.int .i64 0) 8 Tryd.underlying30 hi hz0 hz1 hz2 rfl w.heap.size _ _ _ rfl HOs.out _ rfl rfl ?p1 (by decide) hsz ?_)
                          case p1 => rw [nat2_len]; omega
                          intro v8 w8 ho8 hbt8 hat8 hnn8
                          obtain ⟨R2, hR2o, hW2⟩ := HW.out.pushSet (x := y) hbt8 ho8 hat8
                          obtain ⟨g8, c8, hv8⟩ := own_posk ho8 (by omega)
                          rw [nat2_len] at hv8
                          subst hv8
                          have HW2 := hidd hW2
                          have HRb2 : Hid (R2 (4 + 2 * h) = some (.slice ab B.length cb, nat2 (bkW Zk h))) := by show _ = _; rw [hR2o _ (by omega), HBe.out]; exact HRb.out
                          have HRt2 : Hid (R2 2 = some (u15, nat2 tk)) := by show _ = _; rw [hR2o _ (by omega)]; exact HR2.out
                          obtain ⟨bs, b1, b2, b3⟩ := hW2.bk
                          have k8 : w8.cell? ⟨gb, h, none⟩ = some (.slice ab B.length cb) := by
                            obtain ⟨u, h1, h2⟩ := b3 h hhl
                            rw [HRb2.out] at h2
                            simp only [Option.some.injEq, Prod.mk.injEq, and_true] at h2
                            rw [h2]
                            exact (blkc b1 h).trans h1
                          have HOb := hidd (hW2.rows.own _ _ _ HRb2.out)
                          have hsz2 := hW2.below.size
                          have hbl2 := bkW_len Zk h
                          clear ho8 hbt8 hat8 hnn8 hR2o hW2 b1 b2 b3 HOs k1 HW
                          go_upto_region 47 with (at_builtin; refine wp_push rfl _ _ 30 3 rfl i0 (.int .i64 0) 8 Tryd.underlying30 hi hz0 hz1 hz2 rfl w.heap.size _ _ _ rfl HOb.out _ rfl rfl ?p2 (by decide) hsz2 ?_)
                          case p2 => rw [nat2_len]; omega
                          intro v9 w9 ho9 hbt9 hat9 hnn9
                          obtain ⟨⟨R3, hR3o, hW3⟩, bs3, q1, q2⟩ := HW2.out.bucketed (y := y) hhl HHh.out HRb2.out hbt9 ho9 hat9
                          obtain ⟨g9, c9, hv9⟩ := own_posk ho9 (by omega)
                          rw [nat2_len] at hv9
                          subst hv9
                          have k9 : w9.cell? ⟨gb, h, none⟩ = some (.slice ab B.length cb) := (blkc q1 h).trans q2
                          have f9 := blkf q1 h
                          have HW3 := hidd hW3
                          have HRt3 : Hid (R3 2 = some (u15, nat2 tk)) := by show _ = _; rw [hR3o _ (by omega)]; exact HRt2.out
                          have HOt := hidd (hW3.rows.own _ _ _ HRt3.out)
                          have hsz3 := hW3.below.size
                          clear ho9 hbt9 hat9 hnn9 hR3o hW3 q1 q2 HOb HRb2 HRt2 HW2 k8 hsz hsz2
                          have htl := HTl.out
                          go_upto_region 47 with fail
                          clear k9 f9
                          generalize w9.setCell ⟨gb, h, none⟩ (.slice (some ⟨g9, 0, none⟩) ((bkW Zk h).length + 1) c9) = W9 at *
                          go_upto_region 31 with (at_builtin; refine wp_push rfl _ _ 30 3 rfl i0 (.int .i64 0) 8 Tryd.underlying30 hi hz0 hz1 hz2 rfl w.heap.size _ _ _ rfl HOt.out _ rfl rfl ?p3 (by decide) hsz3 ?_)
                          case p3 => rw [nat2_len]; omega
                          intro v10 w10 ho10 hbt10 hat10 hnn10
                          have hW4 := HW3.out.growTo (ys := nat2 (tk ++ [Zk.length])) HRt3.out hbt10 (by rw [nat2_app, zI_app, List.length_append]; exact ho10) hat10
                          have HMk : Hid (metN K Z x (k + 1) = Zk ++ [y]) := HMs.out.trans HMt.out
                          have HN : Hid (∃ (R4 : RowMap) (g4 c4 : Nat), Value.slice (some ⟨g8, 0, none⟩) (Zk.length + 1) c8 = .slice (some ⟨g4, 0, none⟩) (metN K Z x (k + 1)).length c4 ∧ R4 2 = some (v10, nat2 (toN K (metN K Z x (k + 1)) x (k + 1))) ∧ Wz w w10 w.heap.size rb gb (.slice al ls.length cl) vf vn (.slice ap P.length cp) (.slice (some ⟨g4, 0, none⟩) (metN K Z x (k + 1)).length c4) P ls (metN K Z x (k + 1)) (metN K Z x (k + 1)) nxt ns fins R4 ∧ ∀ z ∈ metN K Z x (k + 1), z < 2 ^ (P.length + 1)) := by
                            have hL : (metN K Z x (k + 1)).length = Zk.length + 1 := by rw [HMk.out, List.length_append, List.length_singleton]
                            refine ⟨upd R3 2 (some (v10, nat2 (tk ++ [Zk.length]))), g8, c8, by rw [hL], by rw [upd_same, HTs.out, HMk.out, HIx.out], by rw [hL, HMk.out]; exact hW4, fun z hz => ?_⟩
                            rw [HMk.out] at hz
                            rcases List.mem_append.1 hz with h1 | h1
                            · exact HZk.out z h1
                            · rw [List.mem_singleton.1 h1]; exact HYl.out
                          clear ho10 hbt10 hat10 hnn10 hW4 HW3 HRt3 HOt
                          go_wp2_with fail
                          go_roundw
                          case rel =>
                            obtain ⟨R4, g4, c4, e1, e2, e3, e4⟩ := HN.out
                            exact ⟨k + 1, R4, g4, c4, by omega, by go_num, e1, e2, e3, e4⟩
                          case measure => simp [intOf]; omega
                      · -- <<
                        have HMt : Hid (meet Zk y = Zk) := by show _ = _; unfold meet; rw [if_pos (List.mem_of_getElem? hj)]
                        have HIx : Hid (ix Zk y = j) := ix_of HNd.out hj
                        have hjl := (List.getElem?_eq_some_iff.1 hj).1
                        have HOt := hidd (HW.out.rows.own _ _ _ HR2.out)
                        have hsz := HW.out.below.size
                        have htl := HTl.out
                        clear hj HIb
                        have hj0 : ¬ (j : Int) < 0 := by omega
                        by_cases hkb : k' < B.length
                        case' pos =>
                          have hkbz : (k' : Int) < (B.length : Int) := by omega
                        case' neg =>
                          have hkbz : ¬ (k' : Int) < (B.length : Int) := by omega
                        all_goals
                          go_wp2_with (at_builtin; refine wp_push rfl _ _ 30 3 rfl i0 (.int .i64 0) 8 Tryd.underlying30 hi hz0 hz1 hz2 rfl w.heap.size _ _ _ rfl HOt.out _ rfl rfl (by rw [nat2_len]; omega) (by decide) hsz ?_)
                          intro v10 w10 ho10 hbt10 hat10 hnn10
                          have hW4 := HW.out.growTo (ys := nat2 (tk ++ [j])) HR2.out hbt10 (by rw [nat2_app, zI_app, List.length_append]; exact ho10) hat10
                          have HMk : Hid (metN K Z x (k + 1) = Zk) := HMs.out.trans HMt.out
                          have HN : Hid (∃ (R4 : RowMap) (g4 c4 : Nat), Value.slice (some ⟨g1, 0, none⟩) Zk.length c1 = .slice (some ⟨g4, 0, none⟩) (metN K Z x (k + 1)).length c4 ∧ R4 2 = some (v10, nat2 (toN K (metN K Z x (k + 1)) x (k + 1))) ∧ Wz w w10 w.heap.size rb gb (.slice al ls.length cl) vf vn (.slice ap P.length cp) (.slice (some ⟨g4, 0, none⟩) (metN K Z x (k + 1)).length c4) P ls (metN K Z x (k + 1)) (metN K Z x (k + 1)) nxt ns fins R4 ∧ ∀ z ∈ metN K Z x (k + 1), z < 2 ^ (P.length + 1)) := by
                            refine ⟨upd R1 2 (some (v10, nat2 (tk ++ [j]))), g1, c1, by rw [HMk.out], by rw [upd_same, HTs.out, HMk.out, HIx.out], by rw [HMk.out]; exact hW4, fun z hz => ?_⟩
                            rw [HMk.out] at hz
                            exact HZk.out z hz
                          clear ho10 hbt10 hat10 hnn10 hW4 HW HOt k1
                          go_wp2_with fail
                          go_roundw
                          case rel =>
                            obtain ⟨R4, g4, c4, e1, e2, e3, e4⟩ := HN.out
                            exact ⟨k + 1, R4, g4, c4, by omega, by go_num, e1, e2, e3, e4⟩
                          case measure => simp [intOf]; omega
                        -- >>
                · have hklz : ¬ (k : Int) ≤ (ls.length : Int) := by omega
                  have HKe : Hid (k = ls.length + 1) := by show _ = _; omega
                  obtain ⟨adn, cpn, rfl⟩ := own_slk HW.out.nx
                  obtain ⟨adf, cpf, rfl⟩ := own_slk HW.out.fin
                  obtain ⟨adt, cpt, rfl⟩ := own_slk (HW.out.rows.own _ _ _ HR2.out)
                  have HNl : Hid (nxt.length = i) := HG.out.nlen
                  have HFl : Hid (fins.length = i) := HG.out.flen
                  have t2 := blkc HW.out.rawb 2
                  have HOn := hidd HW.out.nx
                  have hsz := HW.out.below.size
                  go_upto_region 48 with fail
                  go_upto_region 49 with (at_builtin; refine wp_push rfl _ _ 35 30 rfl i1 (.slice none 0 0) 24 Tryd.underlying35 hi1 hy0 hy1 hy2 rfl w.heap.size _ _ _ rfl HOn.out _ rfl rfl ?p5 (by decide) hsz ?_)
                  case p5 => have := HNl.out; omega
                  intro v8 w8 ho8 hbt8 hat8 hnn8
                  obtain ⟨g8, c8, rfl⟩ := own_posk ho8 (by omega)
                  obtain ⟨⟨R8, hW8⟩, hr8⟩ := HW.out.pushNext HR2.out hbt8 ho8 hat8
                  have t8 := blkc hr8 2
                  have fz8 := frozen_of_row _ _ 2 _ _ hr8
                  have HW8 := hidd hW8
                  clear ho8 hbt8 hat8 hnn8 hr8 t2 HOn HW hW8 ral
                  go_upto_region 49 with fail
                  clear t8 fz8
                  generalize w8.setCell ⟨rb, 2, none⟩ (.slice (some ⟨g8, 0, none⟩) (nxt.length + 1) c8) = W8 at *
                  obtain rfl := HKe.out
                  obtain ⟨r, hr⟩ := metN_pre K Z x (ls.length + 1)
                  have hiK : i < (metN K Z x (ls.length + 1)).length := by rw [hr, List.length_append]; omega
                  have hixk : (metN K Z x (ls.length + 1)).getD i 0 = x := by
                    rw [hr, List.getD_eq_getElem?_getD, List.getElem?_append_left hli, HXi.out]; rfl
                  have HCx : Hid (∀ (W : World) (ff : Value) {fs : List Bool} {RR : RowMap} {nx' : List (List Nat)} {ns' : List Value} {vn' : Value}, Wz w W w.heap.size rb gb (.slice al ls.length cl) ff vn' (.slice ap P.length cp) (.slice (some ⟨g1, 0, none⟩) (metN K Z x (ls.length + 1)).length c1) P ls (metN K Z x (ls.length + 1)) (metN K Z x (ls.length + 1)) nx' ns' fs RR → W.cell? ⟨g1, i, none⟩ = some (.int .i64 (x : Int))) := fun W ff _ _ _ _ _ hh => by have := hh.setAt hiK; rw [hixk] at this; exact this
                  have HCy : Hid (∀ (W W9 : World) {ad : Option Addr} {c n : Nat} {fs : List Bool} {RR : RowMap} {nx' : List (List Nat)} {ns' : List Value} {vn' : Value}, Wz w W w.heap.size rb gb (.slice al ls.length cl) (.slice ad n c) vn' (.slice ap P.length cp) (.slice (some ⟨g1, 0, none⟩) (metN K Z x (ls.length + 1)).length c1) P ls (metN K Z x (ls.length + 1)) (metN K Z x (ls.length + 1)) nx' ns' fs RR → But (fun b => (Value.slice ad n c).ownBlock = some b) W W9 → W9.cell? ⟨g1, i, none⟩ = some (.int .i64 (x : Int))) := fun W W9 ad c n _ _ _ _ _ hh hb => by
                    have h1 := hh.setAt hiK
                    rw [hixk] at h1
                    obtain ⟨_, cur, h2⟩ := own_blk (hh.rows.own _ _ _ hh.sets) (b := g1) rfl
                    have h3 : W9.heap[g1]? = W.heap[g1]? := hb.block g1 (Array.getElem?_eq_some_iff.1 h2).1 (fun e => by
                      obtain ⟨_, c2, k2⟩ := own_blk hh.fin e
                      exact ne_of_type h2 k2 (by decide) rfl)
                    rw [← h1]
                    exact (blkc (h3.trans h2) i).trans (blkc h2 i).symm
                  have hiKz : (i : Int) < ((metN K Z x (ls.length + 1)).length : Int) := by omega
                  have hxl : x < 2147483648 := Nat.lt_of_lt_of_le HXm.out (pow31 (Nat.le_refl _) (by omega))
                  clear hr hixk
                  refine wp_region_held (S := fun u => u.cell? ⟨g1, i, none⟩ = some (.int .i64 (x : Int))) (by kernel_rfl) ?_
                  have hbd : Below W8.heap.size W8 ({ heap := W8.heap, tape := W8.tape, drawn := W8.drawn + 1, os := W8.os, output := W8.output } : World) := (Below.refl _ _).drew
                  generalize ({ heap := W8.heap, tape := W8.tape, drawn := W8.drawn + 1, os := W8.os, output := W8.output } : World) = Wd at *
                  have hWd := HW8.out.keep hbd
                  have hbA : Below Wd.heap.size Wd (Wd.alloc (.cells #[.bool (x.testBit P.length)] 4)) := (Below.refl _ _).alloc (Nat.le_refl _) _
                  have hWA := hWd.keep hbA
                  have hSd : (fun u : World => u.cell? ⟨g1, i, none⟩ = some (.int .i64 (x : Int))) Wd := HCx.out _ _ hWd
                  have hSA : (fun u : World => u.cell? ⟨g1, i, none⟩ = some (.int .i64 (x : Int))) (Wd.alloc (.cells #[.bool (x.testBit P.length)] 4)) := HCx.out _ _ hWA
                  try simp only [Act.put, List.getElem_toArray, List.getElem_cons_succ, List.getElem_cons_zero, List.setIfInBounds_toArray, List.set_cons_zero, List.set_cons_succ]
                  refine tkX 0 (hS := hSd) (h := ?_)
                  try simp only [Act.put, List.getElem_toArray, List.getElem_cons_succ, List.getElem_cons_zero, List.setIfInBounds_toArray, List.set_cons_zero, List.set_cons_succ]
                  refine tkX 2 (hS := hSd) (h := ?_)
                  try simp only [Act.put, List.getElem_toArray, List.getElem_cons_succ, List.getElem_cons_zero, List.setIfInBounds_toArray, List.set_cons_zero, List.set_cons_succ]
                  refine tkX 3 (hS := hSd) (h := ?_)
                  try simp only [Act.put, List.getElem_toArray, List.getElem_cons_succ, List.getElem_cons_zero, List.setIfInBounds_toArray, List.set_cons_zero, List.set_cons_succ]
                  refine tkX 4 (v := .pointer (some ⟨g1, i, none⟩)) (hS := hSd) (h := ?_)
                  try simp only [Act.put, List.getElem_toArray, List.getElem_cons_succ, List.getElem_cons_zero, List.setIfInBounds_toArray, List.set_cons_zero, List.set_cons_succ]
                  refine tkX 5 (v := .int .i64 (x : Int)) (hS := hSd) (h := ?_)
                  try simp only [Act.put, List.getElem_toArray, List.getElem_cons_succ, List.getElem_cons_zero, List.setIfInBounds_toArray, List.set_cons_zero, List.set_cons_succ]
                  refine tkX 6 (hS := hSd) (h := ?_)
                  try simp only [Act.put, List.getElem_toArray, List.getElem_cons_succ, List.getElem_cons_zero, List.setIfInBounds_toArray, List.set_cons_zero, List.set_cons_succ]
                  refine tkX 7 (v := .int .i64 (P.length : Int)) (hS := hSd) (h := ?_)
                  try simp only [Act.put, List.getElem_toArray, List.getElem_cons_succ, List.getElem_cons_zero, List.setIfInBounds_toArray, List.set_cons_zero, List.set_cons_succ]
                  refine wpAnyH_two 1 8 (by kernel_rfl) ?ga ?gb
                  case' ga =>
                    refine wpOp_val _ _ rfl (by kernel_rfl) (exec_loadS _ _ _ _ rfl rb 1 fins.length cpf adf (by kernel_rfl) (blkc (hWd).rawb 1)) ?_
                    refine ⟨hSd, ?_⟩
                    try simp only [Act.put, List.getElem_toArray, List.getElem_cons_succ, List.getElem_cons_zero, List.setIfInBounds_toArray, List.set_cons_zero, List.set_cons_succ]
                    refine wpAnyH_one 8 (by kernel_rfl) ?_
                    refine wpOp_call 14 #[.int .i64 (x : Int), .int .i64 (P.length : Int)] rfl (by kernel_rfl) (rbx_call2 _ _ _ _ _ _ _ _ rfl _ _ (by kernel_rfl) (by kernel_rfl) (Tryd.call14 _ _)) ?_
                    refine (specBit_any x P.length Wd (by omega) (by omega)).mono ?_
                    rintro e' we ⟨rfl, rfl⟩
                    refine ⟨hSd, ?_⟩
                    try simp only [Act.put, List.getElem_toArray, List.getElem_cons_succ, List.getElem_cons_zero, List.setIfInBounds_toArray, List.set_cons_zero, List.set_cons_succ]
                    refine wpAnyH_one 9 (by kernel_rfl) ?_
                    refine wpOp_val _ _ rfl (by kernel_rfl) (exec_build1 _ _ _ _ rfl (x.testBit P.length) (by kernel_rfl)) ?_
                    refine ⟨hSA, ?_⟩
                    try simp only [Act.put, List.getElem_toArray, List.getElem_cons_succ, List.getElem_cons_zero, List.setIfInBounds_toArray, List.set_cons_zero, List.set_cons_succ]
                  case' gb =>
                    refine wpOp_call 14 #[.int .i64 (x : Int), .int .i64 (P.length : Int)] rfl (by kernel_rfl) (rbx_call2 _ _ _ _ _ _ _ _ rfl _ _ (by kernel_rfl) (by kernel_rfl) (Tryd.call14 _ _)) ?_
                    refine (specBit_any x P.length Wd (by omega) (by omega)).mono ?_
                    rintro e' we ⟨rfl, rfl⟩
                    refine ⟨hSd, ?_⟩
                    try simp only [Act.put, List.getElem_toArray, List.getElem_cons_succ, List.getElem_cons_zero, List.setIfInBounds_toArray, List.set_cons_zero, List.set_cons_succ]
                    refine wpAnyH_two 1 9 (by kernel_rfl) ?gc ?gd
                  case' gc =>
                    refine wpOp_val _ _ rfl (by kernel_rfl) (exec_loadS _ _ _ _ rfl rb 1 fins.length cpf adf (by kernel_rfl) (blkc (hWd).rawb 1)) ?_
                    refine ⟨hSd, ?_⟩
                    try simp only [Act.put, List.getElem_toArray, List.getElem_cons_succ, List.getElem_cons_zero, List.setIfInBounds_toArray, List.set_cons_zero, List.set_cons_succ]
                    refine wpAnyH_one 9 (by kernel_rfl) ?_
                    refine wpOp_val _ _ rfl (by kernel_rfl) (exec_build1 _ _ _ _ rfl (x.testBit P.length) (by kernel_rfl)) ?_
                    refine ⟨hSA, ?_⟩
                    try simp only [Act.put, List.getElem_toArray, List.getElem_cons_succ, List.getElem_cons_zero, List.setIfInBounds_toArray, List.set_cons_zero, List.set_cons_succ]
                  case' gd =>
                    refine wpOp_val _ _ rfl (by kernel_rfl) (exec_build1 _ _ _ _ rfl (x.testBit P.length) (by kernel_rfl)) ?_
                    refine ⟨hSA, ?_⟩
                    try simp only [Act.put, List.getElem_toArray, List.getElem_cons_succ, List.getElem_cons_zero, List.setIfInBounds_toArray, List.set_cons_zero, List.set_cons_succ]
                    refine wpAnyH_one 1 (by kernel_rfl) ?_
                    refine wpOp_val _ _ rfl (by kernel_rfl) (exec_loadS _ _ _ _ rfl rb 1 fins.length cpf adf (by kernel_rfl) (blkc (hWA).rawb 1)) ?_
                    refine ⟨hSA, ?_⟩
                    try simp only [Act.put, List.getElem_toArray, List.getElem_cons_succ, List.getElem_cons_zero, List.setIfInBounds_toArray, List.set_cons_zero, List.set_cons_succ]
                  all_goals
                    refine wpAnyH_one 10 (by kernel_rfl) ?_
                    refine wpOp_pushB rfl (by kernel_rfl) rfl _ _ rfl ib hib hb0 hb1 hb2 w.heap.size _ fins.length (fins.map Value.bool) (by kernel_rfl) hWd.fin (x.testBit P.length) we.heap.size rfl (by kernel_rfl) (by have := HFl.out; omega) hWd.below.size ?_
                    intro g9 c9 W9 ho9 hbt9 hat9
                    have hPF := hWd.pushFin hbt9 ho9
                    have hS9 : (fun u : World => u.cell? ⟨g1, i, none⟩ = some (.int .i64 (x : Int))) W9 := HCy.out _ _ hWd hbt9
                    refine ⟨hS9, ?_⟩
                    try simp only [Act.put, List.getElem_toArray, List.getElem_cons_succ, List.getElem_cons_zero, List.setIfInBounds_toArray, List.set_cons_zero, List.set_cons_succ]
                    refine tkX 11 (hS := hS9) (h := ?_)
                    try simp only [Act.put, List.getElem_toArray, List.getElem_cons_succ, List.getElem_cons_zero, List.setIfInBounds_toArray, List.set_cons_zero, List.set_cons_succ]
                    refine wpAnyH_one 12 (by kernel_rfl) ?_
                    refine wpOp_skip _ rfl (by kernel_rfl) (exec_storeS _ _ _ _ _ rfl rb 1 g9 (fins.length + 1) c9 _ (by kernel_rfl) (by kernel_rfl) (blkc hPF.2 1) (frozen_of_row _ _ 1 _ _ hPF.2)) ?_
                    refine ⟨HCx.out _ _ hPF.1, ?_⟩
                    try simp only [Act.put, List.getElem_toArray, List.getElem_cons_succ, List.getElem_cons_zero, List.setIfInBounds_toArray, List.set_cons_zero, List.set_cons_succ]
                    refine wpAnyH_done (by kernel_rfl) ?_ _
                    have HWn := hidd hPF.1
                    have HGn : Hid (FgN K (ls.length + 1) x0 (i + 1) (metN K Z x (ls.length + 1)) (nxt ++ [toN K (metN K Z x (ls.length + 1)) x (ls.length + 1)]) (fins ++ [x.testBit P.length])) := by
                      have := HG.out.step hli
                      rw [HXg.out, HKf.out] at this
                      exact this
                    clear ho9 hbt9 hat9 hPF hWd hWA hbd hbA hSd hSA hS9 HCx HCy HW8
                    go_wp2_with fail
                    go_roundw
                    case rel => exact ⟨i + 1, _, _, _, _, _, _, _, g1, c1, by go_num, rfl, HWn.out, HGn.out, HZk.out⟩
                    case measure => simp [intOf]; omega
            · -- <<
              have hliz : ¬ (i : Int) < (Z.length : Int) := by omega
              obtain rfl : i = Z.length := by omega
              have hZp : 0 < Z.length := by
                have h1 : Z ≠ [] := by
                  rw [← HG.out.bf]
                  obtain ⟨r, hr⟩ := bfs_pre (K.nexts (ls.length + 1)) Z.length 0 [x0]
                  rw [hr]; simp
                exact List.length_pos_iff.2 h1
              obtain ⟨hbf, hlang, hrows⟩ := HG.out.done hZp
              have hfl : fins.length = Z.length := HG.out.flen
              have hnl : nxt.length = fins.length := HG.out.nlen.trans HG.out.flen.symm
              obtain ⟨hhl, hraw⟩ := HW.out.raw hnl (by omega) (by omega) (by omega) hrows
              have HLg := hidd hlang
              have HHl := hidd hhl
              have HRw := hidd hraw
              obtain ⟨af, cf, hvf⟩ : ∃ a c, vf = .slice a fins.length c := by obtain ⟨a, c, h, _⟩ := hraw.fin; exact ⟨a, c, h⟩
              obtain ⟨an, cn, hvn⟩ : ∃ a c, vn = .slice a nxt.length c := by obtain ⟨a, c, h, _⟩ := hraw.nx; exact ⟨a, c, h⟩
              subst hvf hvn
              have r0 : wr.cell? ⟨rb, 0, none⟩ = some (.slice al ls.length cl) := blkc HW.out.rawb 0
              have r1 : wr.cell? ⟨rb, 1, none⟩ = some (.slice af fins.length cf) := blkc HW.out.rawb 1
              have r2 : wr.cell? ⟨rb, 2, none⟩ = some (.slice an nxt.length cn) := blkc HW.out.rawb 2
              clear hbf hlang hrows hfl hnl hhl hraw hZp hW hG hZ
              go_wp2_with fail
              refine (told_any hC _ _ _ ls fins nxt _ HHl.out HRw.out).mono ?_
              rintro e w20 ⟨L, hL, hb20, hcase⟩
              have HL : Hid (sysL.Least ls.length ls ((wsK P (letS ls)).lang (ls.length + 1) (cloN P 1 P.length)) L) := by
                show Sys.Least _ _ _ _ _
                rw [HK.out, HX0.out, ← HLg.out]; exact hL
              have hres := blko HW.out.res hb20
              have HRs := hidd hres
              have HB20 := hidd (HW.out.below.trans (hb20.mono HW.out.below.size))
              have t0 : w20.cell? ⟨w.heap.size, 0, none⟩ = some (.slice none 0 0) := blkc hres 0
              have f0 := blkf hres 0
              have hset : ∀ v : Value, (w20.setCell ⟨w.heap.size, 0, none⟩ v).cell? ⟨w.heap.size, 0, none⟩ = some v := by
                intro v
                have := blk_setk HRs.out 0 v
                rw [blkc this 0]
                simp
              have HSet := hidd hset
              have hbs : ∀ v : Value, Below w.heap.size w (w20.setCell ⟨w.heap.size, 0, none⟩ v) := fun v => HB20.out.trans (((But.refl (fun b => b = w.heap.size) w20).set (w.heap.size) 0 _ rfl).below HB20.out.size (fun j hj e => by omega))
              have HBs := hidd hbs
              have hwz : w.heap.size ≤ wr.heap.size := HW.out.below.size
              clear hL hb20 hres hset hbs
              rcases hcase with ⟨hgt, rfl⟩ | ⟨hle, v, l, hvl, rfl, hdm⟩
              · go_wp2
                refine bodyPost_ret (v := .tuple #[.agg #[.slice none 0 0], .int .i64 11]) (by simp [results, Tryd.results4, go_sem, HSet.out]) rfl ?_
                exact ⟨ls, L, HRi.out, HMe.out, hlsP, HL.out, HBs.out _, Or.inl ⟨hgt, rfl⟩⟩
              · have HDm : Hid (∀ u : Value, DfaM (w20.setCell ⟨w.heap.size, 0, none⟩ u) w.heap.size v l) := by
                  show ∀ _, _
                  intro u
                  refine (hdm.mono hwz).congr fun b cs t ht _ hh => ?_
                  rw [heap_set_other w20 w.heap.size 0 _ b (by
                    rintro rfl
                    rw [HRs.out] at hh
                    simp only [Option.some.injEq, Obj.cells.injEq] at hh
                    rcases ht with rfl | rfl
                    · exact absurd hh.2.1 (by decide)
                    · exact absurd hh.2.1 (by decide))]
                  exact hh
                obtain ⟨av, cv, hvv⟩ : ∃ a c, v = .slice a l.length c := by
                  rcases hdm.row.2 with ⟨h, h0⟩ | ⟨g7, c7, cur7, h, _⟩
                  · exact ⟨none, 0, by rw [h, h0]⟩
                  · exact ⟨_, c7, h⟩
                subst hvv
                clear hdm
                go_wp2
                refine bodyPost_ret (v := .tuple #[.agg #[.slice av l.length cv], .int .i64 0]) (by simp [results, Tryd.results4, go_sem, HSet.out]) rfl ?_
                exact ⟨ls, L, HRi.out, HMe.out, hlsP, HL.out, HBs.out _, Or.inr ⟨hle, _, l, hvl, rfl, HDm.out _⟩⟩
              -- >>
end Go.Proofs.YtmnfioghhdgciaaDoor
