import Derived.Test.YtionicjnoogpjaaGreatDoorAnalyzJ22
import Derived.Test.YtionicjnoogpjaaGreatDoorAnalyzJ03
import Derived.Maps.AppendAt
namespace Go.Proofs.YtionicjnoogpjaaGreatDoor
open Go Go.RowKit
set_option linter.unusedVariables false

theorem foldL_len (t : List UInt8) (ht : (bs t).size ≤ 65536) : (bs (foldL t)).size ≤ 262144 := by
  rw [bs_size, foldL]
  have h1 := encs_le (foldR (bs t))
  have h2 := runes_le (bs t)
  rw [foldR, List.length_map] at h1
  rw [foldR]
  omega
theorem stemW_le (l : List UInt8) : (stemW l).length ≤ l.length := by
  unfold stemW
  repeat' split
  · simp
  · exact Nat.le_refl _
  · have h1 := stem1_le l
    have h2 := stem2_le (stem1 l)
    have h3 := stem3_le (stem2 (stem1 l))
    have h4 := stem4_le (stem3 (stem2 (stem1 l)))
    omega
  · exact Nat.le_refl _
theorem phoneT_le (x : List UInt8) : (phoneT x).length ≤ 4 := by
  unfold phoneT phoneL
  split
  · simp
  · rw [List.length_take]; omega
theorem stemIf_le (b : Bool) (x : List UInt8) (n : Nat) (h : x.length ≤ n) : (stemIf b x).length ≤ n := by
  unfold stemIf
  split
  · exact Nat.le_trans (stemW_le x) h
  · exact h
theorem phoneIf_le (b : Bool) (x : List UInt8) (n : Nat) (h4 : 4 ≤ n) (h : x.length ≤ n) : (phoneIf b x).length ≤ n := by
  unfold phoneIf
  split
  · exact Nat.le_trans (phoneT_le x) h4
  · exact h
theorem rawOf_sz (syns : List (List UInt8 × List UInt8)) (T : List UInt8) (hT : T.length ≤ 262144) (hz : ∀ k, k < syns.length → (syns.getD k ([], [])).2.length ≤ 64) : ∀ k, k < (rawOf syns T).length → ((rawOf syns T).getD k []).length ≤ 262144 := by
  have key : ∀ x ∈ rawOf syns T, x.length ≤ 262144 := by
    intro x hx
    rw [rawOf] at hx
    rcases List.mem_cons.1 hx with rfl | hx
    · exact hT
    · simp only [synsOf, List.mem_map, List.mem_filter] at hx
      obtain ⟨y, ⟨hy, _⟩, rfl⟩ := hx
      obtain ⟨k, hk, rfl⟩ := List.getElem_of_mem hy
      have := hz k hk
      rw [List.getD_eq_getElem?_getD, List.getElem?_eq_getElem hk, Option.getD_some] at this
      omega
  intro k hk
  apply key
  rw [List.getD_eq_getElem?_getD, List.getElem?_eq_getElem hk, Option.getD_some]
  exact List.getElem_mem _
theorem holdS_row {w : World} {base : Nat} {v : Value} {l : List (List UInt8)} (h : w.ownsRow base 9 1 v l.length (sCells l)) : ∃ a cap, v = .slice a l.length cap ∧ HoldS w a l ∧ (∀ b off, a = some ⟨b, off, none⟩ → base ≤ b ∧ v.ownBlock = some b) := by
  rcases own_cases h with ⟨rfl, hz⟩ | ⟨g, cap, rfl, hb, hl⟩
  · exact ⟨none, 0, by rw [hz], Or.inl (List.length_eq_zero_iff.1 hz), fun b off e => by cases e⟩
  · exact ⟨some ⟨g, 0, none⟩, cap, rfl, Or.inr ⟨g, 0, rfl, hl, fun t ht => by rw [Nat.zero_add]; exact ownS_cells h t ht⟩, fun b off e => by cases e; exact ⟨hb, rfl⟩⟩
theorem HoldS.grown {w w' : World} {a : Option Addr} {l : List (List UInt8)} {row : Option Nat} (h : HoldS w a l) (hg : w.grownBy w' row) (hne : ∀ b off, a = some ⟨b, off, none⟩ → some b ≠ row) : HoldS w' a l := by
  rcases h with h | ⟨b, off, h1, h2, h3⟩
  · exact Or.inl h
  · refine Or.inr ⟨b, off, h1, Nat.lt_of_lt_of_le h2 hg.size, fun t ht => ?_⟩
    have hb := hg.block b h2 (hne b off h1)
    have hc := h3 t ht
    simp only [World.cell?] at hc ⊢
    rw [hb]
    exact hc
theorem own_blk_lt {w : World} {base e n : Nat} {v : Value} {xs : List Value} (h : w.ownsRow base e 1 v n xs) : ∀ k, v.ownBlock = some k → k < w.heap.size := by
  intro k hk
  rcases own_cases h with ⟨rfl, _⟩ | ⟨g, cap, rfl, _, hl⟩
  · cases hk
  · cases hk; exact hl
theorem own_ne {w : World} {base e n : Nat} {v : Value} {xs : List Value} {a : Option Addr} (h : w.ownsRow base e 1 v n xs) (hb : ∀ b off, a = some ⟨b, off, none⟩ → w.heap.size ≤ b) : ∀ b off, a = some ⟨b, off, none⟩ → some b ≠ v.ownBlock :=
  fun b off e1 e2 => Nat.lt_irrefl _ (Nat.lt_of_lt_of_le (own_blk_lt h b e2.symm) (hb b off e1))
theorem emp_txt (p : List UInt8) : (bs p).toList.isEmpty = (p == []) := by
  rw [Lib.toList_data, show (bs p).data.toList = p from lst_bs p]
  cases p <;> rfl
theorem gList_len (s : ByteArray) (lo hi : Int) : (gList s lo hi).length ≤ 4096 := by
  unfold gList
  split
  · rename_i h
    unfold gCode at h
    repeat' split at h
    all_goals first | omega | (cases h; done) | skip
  · simp
theorem listOf_len (lo hi : Int) (z : List UInt8) : (listOf lo hi z).length ≤ 4096 := by
  unfold listOf
  split
  · exact gList_len _ _ _
  · simp
set_option maxHeartbeats 8000000 in
set_option maxRecDepth 100000 in
theorem forms_any (fo st ph : Bool) (aS aY : Option Addr) (cS cY : Nat) (stops : List (List UInt8)) (syns : List (List UInt8 × List UInt8)) (lo hi : Int) (t : List UInt8) (w : World) (hS : HoldS w aS stops) (hY : HoldY w aY syns) (hnS : stops.length ≤ 64) (hnY : syns.length ≤ 64)
    (zY : ∀ k, k < syns.length → (syns.getD k ([], [])).2.length ≤ 64) (ht : (bs t).size ≤ 65536) (hv : validB (bs t) = true) (L : List (List UInt8)) (C : Int) (HF : Hid (formsOf fo st ph stops syns lo hi t = (L, C))) :
    Calls Tryz.prog 32 #[.agg #[.bool fo, .bool st, .bool ph, .slice aS stops.length cS, .slice aY syns.length cY, .int .i64 lo, .int .i64 hi], .string (bs t)] w fun e w' => ∃ v, e = .returned (.tuple #[v, .int .i64 C]) ∧ w'.ownsRow w.heap.size 9 1 v L.length (sCells L) ∧ Below w.heap.size w w' := by
  obtain ⟨i0, hi0, hz0, hz1, hz2⟩ := info_parts Tryz.infoStr
  have HBa : Hid (Below w.heap.size w (w.alloc (.cells #[.bool fo, .bool st, .bool ph, .slice aS stops.length cS, .slice aY syns.length cY, .int .i64 lo, .int .i64 hi] 26))) := (Below.refl _ _).alloc (Nat.le_refl _) _
  have hblk : (w.alloc (.cells #[.bool fo, .bool st, .bool ph, .slice aS stops.length cS, .slice aY syns.length cY, .int .i64 lo, .int .i64 hi] 26)).heap[w.heap.size]? = some (.cells #[.bool fo, .bool st, .bool ph, .slice aS stops.length cS, .slice aY syns.length cY, .int .i64 lo, .int .i64 hi] 26) := heap_alloc_new _ _
  have HSa := hidd (hS.below HBa.out)
  have HYa := hidd (hY.below HBa.out)
  have ZY := hidd zY
  have HV := hidd hv
  clear hS hY zY hv
  go_enter Tryz.func32, Tryz.ntmps32
  go_upto_if 17 with fail
  generalize w.alloc (.cells #[.bool fo, .bool st, .bool ph, .slice aS stops.length cS, .slice aY syns.length cY, .int .i64 lo, .int .i64 hi] 26) = wa at *
  generalize hB : w.heap.size = B at *
  have Hblk := hidd hblk
  clear hblk
  have hza := HBa.out.size
  go_cut [1] (fun c wx => c = .string (bs (foldIf fo t)) ∧ Below wa.heap.size wa wx)
  case first =>
    cases fo
    · go_wp2_with fail
      go_meet
      case rel => exact ⟨rfl, Below.refl _ _⟩
    · go_wp2_with fail
      refine (l01Fold_any (bs t) _ ht HV.out).mono ?_
      rintro e w1 ⟨rfl, hb1⟩
      go_wp2_with fail
      go_meet
      case rel => exact ⟨rfl, hb1⟩
  case rest =>
    obtain ⟨rfl, hb1⟩ := hcut
    have HB1 := hidd hb1
    have hk1 := blko Hblk.out hb1
    have HK1 := hidd hk1
    have hTz : (bs (foldIf fo t)).size ≤ 262144 := by
      cases fo
      · exact Nat.le_trans ht (by decide)
      · exact foldL_len t ht
    have HF2 : Hid ((if hasT stops (foldIf fo t) = true then ([], 0) else formsGo st ph lo hi [] (rawOf syns (foldIf fo t))) = (L, C)) := HF.out
    generalize foldIf fo t = T at *
    clear hb1 hk1 HF
    have q3 : wc.cell? ⟨B, 3, none⟩ = some (.slice aS stops.length cS) := blkc HK1.out 3
    go_wp2_with fail
    refine (has_any aS cS stops T _ (by omega) (HSa.out.below HB1.out)).mono ?_
    rintro e w' ⟨rfl, hw⟩
    obtain rfl := hw.symm
    clear hw q3
    have hzc := HB1.out.size
    have HBw1 : Hid (Below B w wc) := HBa.out.trans (HB1.out.mono (by omega))
    cases hs : hasT stops T
    · have HF3 : Hid (formsGo st ph lo hi [] (rawOf syns T) = (L, C)) := by have h := HF2.out; rw [hs] at h; exact h
      clear hs HF2
      go_wp2_with fail
      have hown0 := World.ownsRow_lit (base := wc.heap.size) (e := 9) (size := 1) wc #[.string (bs T)] 1 (Nat.le_refl _) (by unfold maxLen; omega) (by simp)
      have HBe : Hid (Below wc.heap.size wc (wc.alloc (.cells #[.string (bs T)] 9))) := (Below.refl _ _).alloc (Nat.le_refl _) _
      have HO0 : Hid ((wc.alloc (.cells #[.string (bs T)] 9)).ownsRow wc.heap.size 9 1 (.slice (some ⟨wc.heap.size, 0, none⟩) 1 1) (rawOf (syns.take 0) T).length (sCells (rawOf (syns.take 0) T))) := hown0
      clear hown0
      go_loopw [6, 7] (fun v i wr => ∃ k : Nat, k ≤ syns.length ∧ i = .int .i64 k ∧ wr.ownsRow wc.heap.size 9 1 v (rawOf (syns.take k) T).length (sCells (rawOf (syns.take k) T)) ∧ v ≠ .slice none 0 0 ∧ Below wc.heap.size wc wr) (fun _ i _ => syns.length - (intOf i).toNat)
      case atStart => exact ⟨0, by omega, rfl, HO0.out, by simp, HBe.out⟩
      case round =>
        obtain ⟨k, hk, rfl, hown, hnn, hbr⟩ := hrel
        have HO := hidd hown
        have HN := hidd hnn
        have HBr := hidd hbr
        have q4 : wr.cell? ⟨B, 4, none⟩ = some (.slice aY syns.length cY) := blkc (blko HK1.out hbr) 4
        have hzr := hbr.size
        clear hown hnn hbr HO0 HBe
        by_cases hlt : k < syns.length
        · obtain ⟨b, off, rfl, hbl, hc⟩ := HYa.out.resolve_left (fun h => by rw [h] at hlt; simp at hlt)
          have g1 := (HBr.out.cell (p := ⟨b, off + k * 2, none⟩) (Nat.lt_of_lt_of_le hbl hzc)).trans ((HB1.out.cell (p := ⟨b, off + k * 2, none⟩) hbl).trans (hc k hlt).1)
          have g2 := (HBr.out.cell (p := ⟨b, off + k * 2 + 1, none⟩) (Nat.lt_of_lt_of_le hbl hzc)).trans ((HB1.out.cell (p := ⟨b, off + k * 2 + 1, none⟩) hbl).trans (hc k hlt).2)
          have HSn := hidd (synsOf_snoc syns k T hlt)
          have HE := hidd (beq_txt (syns.getD k ([], [])).1 T)
          have hl1 := synsOf_len (syns.take k) T
          rw [List.length_take] at hl1
          clear hc
          generalize (syns.getD k ([], [])).1 = f at *
          generalize (syns.getD k ([], [])).2 = u at *
          have hrl : (rawOf (syns.take k) T).length ≤ 65 := by rw [rawOf, List.length_cons]; omega
          cases hf : (f == T)
          · have he : ((bs f).toList == (bs T).toList) = false := by rw [HE.out]; exact hf
            have HR : Hid (rawOf (syns.take (k + 1)) T = rawOf (syns.take k) T) := by show _ = _; rw [rawOf, HSn.out, hf]; rfl
            clear HE hf HSn
            go_wp2_with fail
            go_roundw
            case rel => exact ⟨k + 1, by omega, by go_num, by rw [HR.out]; exact HO.out, HN.out, HBr.out⟩
            case measure => simp [intOf]; omega
          · have he : ((bs f).toList == (bs T).toList) = true := by rw [HE.out]; exact hf
            have HR : Hid (rawOf (syns.take (k + 1)) T = rawOf (syns.take k) T ++ [u]) := by show _ = _; rw [rawOf, HSn.out, hf]; rfl
            clear HE hf HSn
            generalize rawOf (syns.take k) T = rw0 at *
            go_wp2_with (at_builtin; refine wpList_append_own _ rfl _ _ 23 rfl wc.heap.size 9 i0 (.string ⟨#[]⟩) 1 16 Tryz.underlying23 hi0 hz0 hz1 hz2 rfl (by decide) _ _ _ rfl (HO.out.alloc _) ⟨wr.heap.size, 0, none⟩ 1 1 [.string (bs u)] rfl rfl ?c1 ?c2 ?c3 ?c4 ?c5 ?_)
            case c1 =>
              intro j x hj
              match j, hj with
              | 0, hj => simp at hj; subst hj; simp [Addr.add]
            case c2 => intro x hu; simp at hu; subst hu; rfl
            case c3 => unfold maxLen; omega
            case c4 => omega
            case c5 => simp; omega
            intro v' w6 hown' hgrow hne
            have RR : Hid (w6.ownsRow wc.heap.size 9 1 v' (rw0 ++ [u]).length (sCells (rw0 ++ [u])) ∧ v' ≠ .slice none 0 0 ∧ Below wc.heap.size wc w6) := by
              refine ⟨?_, hne, (HBr.out.alloc hzr _).grown hgrow (by simp; omega) (own_block HO.out)⟩
              rw [sCells_snoc, List.length_append]
              exact hown'
            clear hown' hgrow hne HO HBr
            go_wp2_with fail
            go_roundw
            case rel => exact ⟨k + 1, by omega, by go_num, by rw [HR.out]; exact RR.out.1, RR.out.2.1, RR.out.2.2⟩
            case measure => simp [intOf]; omega
        · have HRf := HO.out
          rw [List.take_of_length_le (by omega)] at HRf
          have HO2 := hidd HRf
          have HRl : Hid ((rawOf syns T).length ≤ 65) := by show _ ≤ _; rw [rawOf, List.length_cons]; have := synsOf_len syns T; omega
          have HRz : Hid (∀ k, k < (rawOf syns T).length → ((rawOf syns T).getD k []).length ≤ 262144) := rawOf_sz syns T (by rw [← bs_size]; exact hTz) ZY.out
          clear HRf HO
          generalize rawOf syns T = R at *
          obtain ⟨g, cap, rfl⟩ := own_form HO2.out HN.out
          have Hcell := hidd (ownS_cells HO2.out)
          have hgl := own_lt HO2.out
          have HBr3 : Hid (Below B w wr) := HBw1.out.trans (HBr.out.mono (by omega))
          have HK3 := hidd (blko HK1.out HBr.out)
          clear HO2 HN HBr HK1
          go_wp2_with fail
          clear q4 hlt
          generalize wr = w3 at *
          go_loopw [8, 9] (fun v i wx => ∃ (k : Nat) (o : List (List UInt8)), k ≤ R.length ∧ i = .int .i64 k ∧ wx.ownsRow w3.heap.size 9 1 v o.length (sCells o) ∧ v ≠ .slice none 0 0 ∧ o.length ≤ k * 4096 ∧ formsGo st ph lo hi o (R.drop k) = (L, C) ∧ Below w3.heap.size w3 wx) (fun _ i _ => R.length - (intOf i).toNat)
          case atStart => exact ⟨0, [], by omega, rfl, own_empty w3 9, by simp, by simp, HF3.out, (Below.refl _ _).alloc (Nat.le_refl _) _⟩
          case round =>
            obtain ⟨m, o, hm, rfl, hown, hnn, hol, hgo, hbx⟩ := hrel
            have HO := hidd hown
            have HN := hidd hnn
            have HG := hidd hgo
            have HBx := hidd hbx
            have HKx := hidd (blko HK3.out hbx)
            clear hown hnn hgo hbx
            by_cases hlt : m < R.length
            · have HST := hidd (formsGo_drop st ph lo hi o R m hlt)
              have g1 := (HBx.out.cell (p := ⟨g, m, none⟩) hgl).trans (Hcell.out m hlt)
              have hxz := HRz.out m hlt
              have q1 : wr.cell? ⟨B, 1, none⟩ = some (.bool st) := blkc HKx.out 1
              generalize R.getD m [] = x at *
              go_upto_if 63 with fail
              go_cut [10] (fun c wy => c = .string (bs (stemIf st x)) ∧ Below wr.heap.size wr wy)
              case first =>
                cases st
                · go_wp2_with fail
                  go_meet
                  case rel => exact ⟨rfl, Below.refl _ _⟩
                · go_wp2_with fail
                  refine (specStem_any (bs x) _ (by rw [bs_size]; omega)).mono ?_
                  rintro e w5 ⟨rfl, n5, rfl⟩
                  rw [lst_bs]
                  go_wp2_with fail
                  go_meet
                  case rel => exact ⟨rfl, below_drewN (Below.refl _ _) n5⟩
              case rest =>
                obtain ⟨rfl, hb5⟩ := hcut
                have hyz := stemIf_le st x 262144 hxz
                have HKc := hidd (blko HKx.out hb5)
                have HBc := hidd (HBx.out.trans (hb5.mono HBx.out.size))
                have HOc := hidd (own_below HO.out hb5)
                clear hb5 g1 q1 hxz
                generalize stemIf st x = y at *
                go_wp2_with fail
                refine (specPhone_any (bs y) _ (by rw [bs_size]; omega)).mono ?_
                rintro e w6 ⟨rfl, hb6⟩
                have HKd := hidd (blko HKc.out hb6)
                have HBd := hidd (HBc.out.trans (hb6.mono HBc.out.size))
                have HOd := hidd (own_below HOc.out hb6)
                clear hb6 HKc HOc HBc
                have hpe : phoneL (decList (bs y)) = phoneT y := rfl
                rw [hpe]
                clear hpe
                have HPI : Hid (phoneIf ph y = if (ph && !(phoneT y == [])) = true then phoneT y else y) := rfl
                have hwz := phoneIf_le ph y 262144 (by decide) hyz
                have q2 : w6.cell? ⟨B, 2, none⟩ = some (.bool ph) := blkc HKd.out 2
                generalize phoneT y = p at *
                go_upto_region 19 with fail
                go_cut [73] (fun c wy => c = .bool (ph && !(p == [])) ∧ wy = w6)
                case first =>
                  cases ph
                  · go_wp2_with fail
                    go_meet
                    case rel => exact ⟨rfl, rfl⟩
                  · go_wp2_with fail
                    go_meet
                    case rel => rw [emp_txt]; exact ⟨rfl, rfl⟩
                case rest =>
                  obtain ⟨rfl, hw⟩ := hcut
                  obtain rfl := hw.symm
                  clear hw
                  go_upto_if 73 with fail
                  go_cut [10] (fun c wy => c = .string (bs (phoneIf ph y)) ∧ wy = w6)
                  case first =>
                    cases hpb : (ph && !(p == []))
                    · have HP2 : Hid (phoneIf ph y = y) := by show _ = _; rw [HPI.out, hpb]; rfl
                      go_wp2_with fail
                      go_meet
                      case rel => rw [HP2.out]; exact ⟨rfl, rfl⟩
                    · have HP2 : Hid (phoneIf ph y = p) := by show _ = _; rw [HPI.out, hpb]; rfl
                      go_wp2_with fail
                      go_meet
                      case rel => rw [HP2.out]; exact ⟨rfl, rfl⟩
                  case rest =>
                    obtain ⟨rfl, hw⟩ := hcut
                    obtain rfl := hw.symm
                    clear hw HPI q2
                    generalize phoneIf ph y = z at *
                    have HLz := hidd (show listOf lo hi z = if 0 < lo then gList (bs z) lo hi else [z] from rfl)
                    have HCz := hidd (show codeOf lo hi z = if 0 < lo then gCode (bs z) lo hi else 0 from rfl)
                    have HBn : Hid (Below w6.heap.size w6 (w6.alloc (.cells #[.string (bs z)] 9))) := (Below.refl _ _).alloc (Nat.le_refl _) _
                    have HKe := hidd (blko HKd.out HBn.out)
                    have q5 : (w6.alloc (.cells #[.string (bs z)] 9)).cell? ⟨B, 5, none⟩ = some (.int .i64 lo) := blkc HKe.out 5
                    go_upto_if 79 with fail
                    have hlz := listOf_len lo hi z
                    go_cut [12] (fun c wy => ∃ aL cL, c = .slice aL (listOf lo hi z).length cL ∧ HoldS wy aL (listOf lo hi z) ∧ codeOf lo hi z = 0 ∧ (∀ b off, aL = some ⟨b, off, none⟩ → w6.heap.size ≤ b) ∧ Below w6.heap.size w6 wy)
                    case first =>
                      by_cases hlo : 0 < lo
                      · have HLz2 : Hid (listOf lo hi z = gList (bs z) lo hi) := by show _ = _; rw [HLz.out, if_pos hlo]
                        have HCz2 : Hid (codeOf lo hi z = gCode (bs z) lo hi) := by show _ = _; rw [HCz.out, if_pos hlo]
                        have q6 : (w6.alloc (.cells #[.string (bs z)] 9)).cell? ⟨B, 6, none⟩ = some (.int .i64 hi) := blkc HKe.out 6
                        clear HLz HCz
                        go_wp2_with fail
                        refine (specGrams_any (bs z) lo hi _ (by rw [bs_size]; omega)).mono ?_
                        rintro e w7 ⟨v7, rfl, hown7, hb7⟩
                        have HB7 := hidd (HBn.out.trans (hb7.mono HBn.out.size))
                        have HO7 := hidd hown7
                        clear hown7 hb7 q5 q6
                        by_cases hc : gCode (bs z) lo hi = 0
                        · rw [hc]
                          have HE : Hid (codeOf lo hi z = 0) := HCz2.out.trans hc
                          obtain ⟨aL, cL, rfl, hh, hbase⟩ := holdS_row HO7.out
                          have RR : Hid (∃ a' c', Value.slice aL (gList (bs z) lo hi).length cL = .slice a' (listOf lo hi z).length c' ∧ HoldS w7 a' (listOf lo hi z) ∧ codeOf lo hi z = 0 ∧ (∀ b off, a' = some ⟨b, off, none⟩ → w6.heap.size ≤ b) ∧ Below w6.heap.size w6 w7) := by
                            show ∃ a' c', _
                            rw [HLz2.out]
                            exact ⟨aL, cL, rfl, hh, HE.out, fun b off e => Nat.le_trans HBn.out.size (hbase b off e).1, HB7.out⟩
                          clear HE hh hbase HO7 HB7 HCz2 HLz2 hc
                          go_wp2_with fail
                          go_meet
                          case rel => exact RR.out
                        · have HE : Hid (L = [] ∧ C = gCode (bs z) lo hi) := by
                            have h := HG.out
                            rw [HST.out, HCz2.out, if_neg hc] at h
                            exact ⟨(Prod.mk.inj h).1.symm, (Prod.mk.inj h).2.symm⟩
                          have hcn : (gCode (bs z) lo hi != 0) = true := by rw [bne_iff_ne]; exact hc
                          have HBf : Hid (Below B w w7) := HBr3.out.trans ((HBd.out.trans (HB7.out.mono HBd.out.size)).mono (by have := HBr3.out.size; omega))
                          clear HCz2 HLz2 hc HO7 HB7
                          generalize gCode (bs z) lo hi = c7 at *
                          go_wp2_with fail
                          go_ret2
                          rw [HE.out.1, HE.out.2]
                          try rw [hB]
                          have hf := HBf.out.size
                          exact ⟨_, rfl, own_mono (own_empty w7 9) (by omega), HBf.out.alloc (by omega) _⟩
                      · have HLz2 : Hid (listOf lo hi z = [z]) := by show _ = _; rw [HLz.out, if_neg hlo]
                        have HCz2 : Hid (codeOf lo hi z = 0) := by show _ = _; rw [HCz.out, if_neg hlo]
                        go_wp2_with fail
                        go_meet
                        case rel =>
                          rw [HLz2.out]
                          obtain ⟨aL, cL, e1, hh, hbase⟩ := holdS_row (l := [z]) (World.ownsRow_lit (base := w6.heap.size) (e := 9) (size := 1) w6 #[.string (bs z)] 1 (Nat.le_refl _) (by unfold maxLen; omega) (by simp))
                          exact ⟨aL, cL, e1, hh, HCz2.out, fun b off e => (hbase b off e).1, HBn.out⟩
                    case rest =>
                      obtain ⟨aL, cL, rfl, hhL, hc0, hbL, hb7⟩ := hcut
                      have HSt : Hid (formsGo st ph lo hi (addT o (listOf lo hi z)) (List.drop (m + 1) R) = (L, C)) := by
                        show _ = _
                        have h := HG.out
                        rw [HST.out, if_pos hc0] at h
                        exact h
                      have HB7 := hidd (HBd.out.trans (hb7.mono HBd.out.size))
                      have HO7 := hidd (own_below HOd.out hb7)
                      have HNe := hidd (own_ne HOd.out hbL)
                      have HL7 := hidd hhL
                      clear hhL hc0 hbL hb7 HST HG HLz HCz q5 HKe HBn HOd HBd HKd
                      generalize listOf lo hi z = l at *
                      go_wp2_with fail
                      generalize wc = w7 at *
                      go_loopw [8, 15] (fun v i wx => ∃ k : Nat, k ≤ l.length ∧ i = .int .i64 k ∧ wx.ownsRow w3.heap.size 9 1 v (addT o (l.take k)).length (sCells (addT o (l.take k))) ∧ v ≠ .slice none 0 0 ∧ HoldS wx aL l ∧ (∀ b off, aL = some ⟨b, off, none⟩ → some b ≠ v.ownBlock) ∧ Below w3.heap.size w3 wx) (fun _ i _ => l.length - (intOf i).toNat)
                      case atStart => exact ⟨0, by omega, rfl, HO7.out, HN.out, HL7.out, HNe.out, HB7.out⟩
                      case round =>
                        obtain ⟨j, hj, rfl, hown, hnn, hh, hne, hby⟩ := hrel
                        have HAo := hidd hown
                        have HAn := hidd hnn
                        have HAh := hidd hh
                        have HAe := hidd hne
                        have HAb := hidd hby
                        clear hown hnn hh hne hby HO7 HN HL7 HNe HB7 HBx HKx HO
                        have hrl := HRl.out
                        by_cases hjl : j < l.length
                        · obtain ⟨b, off, rfl, hbl, hc⟩ := HAh.out.resolve_left (fun h => by rw [h] at hjl; simp at hjl)
                          have g1 := hc j hjl
                          have hal := addT_len (l.take j) o
                          rw [List.length_take] at hal
                          have HAD := hidd (addT_snoc o l j hjl)
                          have h3r := HAb.out.size
                          clear hc
                          generalize l.getD j [] = x at *
                          generalize addT o (l.take j) = A at *
                          obtain ⟨gO, cO, rfl⟩ := own_form HAo.out HAn.out
                          by_cases h64 : x.length ≤ 64
                          · have hx1 : (bs x).size ≤ 64 := by rw [bs_size]; exact h64
                            have hx2 : ((bs x).size : Int) ≤ 64 := by omega
                            go_wp2_with fail
                            refine (has_any (some ⟨gO, 0, none⟩) cO A x _ (by omega) (Or.inr ⟨gO, 0, rfl, own_lt HAo.out, fun t ht => by rw [Nat.zero_add]; exact ownS_cells HAo.out t ht⟩)).mono ?_
                            rintro e w9 ⟨rfl, hw⟩
                            obtain rfl := hw.symm
                            clear hw
                            cases hs : hasT A x
                            · have HA2 : Hid (addT o (l.take (j + 1)) = A ++ [x]) := by show _ = _; rw [HAD.out, addOne, hs, decide_eq_true h64]; rfl
                              clear HAD hs
                              go_wp2_with (at_builtin; refine wpList_append_own_at _ rfl _ _ 23 rfl w3.heap.size 9 i0 (.string ⟨#[]⟩) 1 16 Tryz.underlying23 hi0 hz0 hz1 hz2 rfl (by decide) _ _ _ rfl (HAo.out.alloc _) ⟨wr.heap.size, 0, none⟩ 1 1 [.string (bs x)] rfl rfl ?c1 ?c2 ?c3 ?c4 ?c5 ?_)
                              case c1 =>
                                intro j x hj
                                match j, hj with
                                | 0, hj => simp at hj; subst hj; simp [Addr.add]
                              case c2 => intro x hu; simp at hu; subst hu; rfl
                              case c3 => unfold maxLen; omega
                              case c4 => omega
                              case c5 => simp; omega
                              intro v' w10 hown' hgrow hne hat
                              have RR : Hid (w10.ownsRow w3.heap.size 9 1 v' (A ++ [x]).length (sCells (A ++ [x])) ∧ v' ≠ .slice none 0 0 ∧ HoldS w10 (some ⟨b, off, none⟩) l ∧ (∀ b' off', some (⟨b, off, none⟩ : Addr) = some ⟨b', off', none⟩ → some b' ≠ v'.ownBlock) ∧ Below w3.heap.size w3 w10) := by
                                refine ⟨?_, hne, (HAh.out.below ((Below.refl _ _).alloc (Nat.le_refl _) _)).grown hgrow HAe.out, ?_, (HAb.out.alloc h3r _).grown hgrow (by simp; omega) (own_block HAo.out)⟩
                                · rw [sCells_snoc, List.length_append]
                                  exact hown'
                                · intro b' off' e1
                                  rcases hat with h | h
                                  · rw [h]; exact HAe.out b' off' e1
                                  · rw [h]
                                    cases e1
                                    intro e2
                                    have e3 := Option.some.inj e2
                                    try simp at e3
                                    omega
                              clear hown' hgrow hne hat HAo HAn HAh HAe HAb
                              go_wp2_with fail
                              go_roundw
                              case rel => exact ⟨j + 1, by omega, by go_num, by rw [HA2.out]; exact RR.out.1, RR.out.2.1, RR.out.2.2.1, RR.out.2.2.2.1, RR.out.2.2.2.2⟩
                              case measure => simp [intOf]; omega
                            · have HA2 : Hid (addT o (l.take (j + 1)) = A) := by show _ = _; rw [HAD.out, addOne, hs]; simp
                              clear HAD hs
                              go_wp2_with fail
                              go_roundw
                              case rel => exact ⟨j + 1, by omega, by go_num, by rw [HA2.out]; exact HAo.out, HAn.out, HAh.out, HAe.out, HAb.out⟩
                              case measure => simp [intOf]; omega
                          · have hx1 : ¬ (bs x).size ≤ 64 := by rw [bs_size]; exact h64
                            have hx2 : ¬ ((bs x).size : Int) ≤ 64 := by omega
                            have HA2 : Hid (addT o (l.take (j + 1)) = A) := by show _ = _; rw [HAD.out, addOne, decide_eq_false h64]; simp
                            clear HAD
                            go_wp2_with fail
                            go_roundw
                            case rel => exact ⟨j + 1, by omega, by go_num, by rw [HA2.out]; exact HAo.out, HAn.out, HAh.out, HAe.out, HAb.out⟩
                            case measure => simp [intOf]; omega
                        · have hal := addT_len l o
                          have HAf := HAo.out
                          rw [List.take_of_length_le (by omega)] at HAf
                          have HO2 := hidd HAf
                          clear HAf HAo HAh HAe
                          go_wp2_with fail
                          go_roundw
                          case rel => exact ⟨m + 1, addT o l, by omega, by go_num, HO2.out, HAn.out, by omega, HSt.out, HAb.out⟩
                          case measure => simp [intOf]; omega
            · have HE : Hid (L = o ∧ C = 0) := by
                have h := HG.out
                rw [List.drop_of_length_le (by omega), formsGo] at h
                exact ⟨(Prod.mk.inj h).1.symm, (Prod.mk.inj h).2.symm⟩
              go_wp2_with fail
              go_ret2
              rw [HE.out.1, HE.out.2]
              try rw [hB]
              exact ⟨_, rfl, own_mono HO.out (by omega), HBr3.out.trans (HBx.out.mono (by omega))⟩
    · have HF3 : Hid (L = [] ∧ C = 0) := by
        have h := HF2.out
        rw [hs, if_pos rfl] at h
        exact ⟨(Prod.mk.inj h).1.symm, (Prod.mk.inj h).2.symm⟩
      clear hs HF2
      go_wp2_with fail
      go_ret2
      rw [HF3.out.1, HF3.out.2, hB]
      exact ⟨_, rfl, own_mono (own_empty wc 9) (by omega), HBw1.out.alloc (by omega) _⟩
end Go.Proofs.YtionicjnoogpjaaGreatDoor
