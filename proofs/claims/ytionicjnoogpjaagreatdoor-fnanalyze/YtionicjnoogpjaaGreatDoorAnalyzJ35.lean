import Derived.Test.YtionicjnoogpjaaGreatDoorAnalyzJ33
import Derived.Test.YtionicjnoogpjaaGreatDoorAnalyzJ34
import Derived.Test.YtionicjnoogpjaaGreatDoorAnalyzJ25
import Derived.Test.YtionicjnoogpjaaGreatDoorAnalyzJ22
namespace Go.Proofs.YtionicjnoogpjaaGreatDoor
open Go Go.RowKit
set_option linter.unusedVariables false
set_option linter.unusedSimpArgs false
set_option maxRecDepth 100000

/-- What Analyze has in memory behind the words' steps. -/
structure AI (w5 : World) (T : List UInt8 → List (List UInt8) × Int) (mb : Nat) (kv : Array Value) (wx : World) (v : Value) (o : List Tk) : Prop where
  own : wx.ownsRow (mb + 2) 35 4 v o.length (toksCells o)
  bel : Below mb w5 wx
  kb : wx.heap[mb + 1]? = some (.cells kv 75)
  kn : ∃ L, KnownAt T wx mb (fun b => b ≠ mb ∧ some b ≠ v.ownBlock) L
theorem AI.size {w5 : World} {T : List UInt8 → List (List UInt8) × Int} {mb : Nat} {kv : Array Value} {wx : World} {v : Value} {o : List Tk} (h : AI w5 T mb kv wx v o) : mb + 1 < wx.heap.size := (Array.getElem?_eq_some_iff.1 h.kb).1
theorem AI.below {w5 : World} {T : List UInt8 → List (List UInt8) × Int} {mb : Nat} {kv : Array Value} {wx W : World} {v : Value} {o : List Tk} (h : AI w5 T mb kv wx v o) (hb : Below wx.heap.size wx W) : AI w5 T mb kv W v o := by
  have hz := h.size
  obtain ⟨L, hL⟩ := h.kn
  exact ⟨own4_below h.own hb, h.bel.trans (hb.mono (by omega)), blko h.kb hb, L, hL.but (X := fun _ => False) (But.of_below hb) (fun h => h) (fun b _ hy => ⟨fun h => h, hy⟩)⟩
theorem AI.alloc {w5 : World} {T : List UInt8 → List (List UInt8) × Int} {mb : Nat} {kv : Array Value} {wx : World} {v : Value} {o : List Tk} (h : AI w5 T mb kv wx v o) (ob : Obj) : AI w5 T mb kv (wx.alloc ob) v o := h.below ((Below.refl _ _).alloc (Nat.le_refl _) _)
theorem AI.put {w5 : World} {T : List UInt8 → List (List UInt8) × Int} {mb : Nat} {kv : Array Value} {wx W : World} {v : Value} {o : List Tk} {L : List (List UInt8 × Value)} (h : AI w5 T mb kv wx v o) (hb : But (fun b => b = mb) wx W) (hL : KnownAt T W mb (fun b => b ≠ mb ∧ some b ≠ v.ownBlock) L) : AI w5 T mb kv W v o := by
  have hz := h.size
  refine ⟨own4_but h.own hb (fun b e hm => by have := own4_block h.own b e; omega), h.bel.trans (hb.below (by omega) (fun i hi hm => by omega)), (hb.block _ hz (by omega)).trans h.kb, L, hL⟩
theorem own4_lt {w : World} {base e n : Nat} {v : Value} {xs : List Value} (h : w.ownsRow base e 4 v n xs) : ∀ b, v.ownBlock = some b → b < w.heap.size := fun b e => by
  rcases own4_cases h with ⟨rfl, _⟩ | ⟨g, c, rfl, _, hl⟩
  · cases e
  · cases e; exact hl
theorem far_own {w : World} {v v' : Value} {b : Nat} (hat : v'.ownBlock = v.ownBlock ∨ v'.ownBlock = some w.heap.size) (hb : b < w.heap.size) (hn : some b ≠ v.ownBlock) : some b ≠ v'.ownBlock := by
  rcases hat with h | h
  · rw [h]; exact hn
  · rw [h]; intro e; have := Option.some.inj e; omega
theorem AI.grow {w5 : World} {T : List UInt8 → List (List UInt8) × Int} {mb : Nat} {kv : Array Value} {wx W : World} {v v' : Value} {o o' : List Tk} (h : AI w5 T mb kv wx v o) (ho : W.ownsRow (mb + 2) 35 4 v' o'.length (toksCells o')) (hg : wx.grownBy W v.ownBlock) (hat : v'.ownBlock = v.ownBlock ∨ v'.ownBlock = some wx.heap.size) : AI w5 T mb kv W v' o' := by
  have hz := h.size
  obtain ⟨L, hL⟩ := h.kn
  have hb : But (fun b => v.ownBlock = some b) wx W := ⟨hg.os, hg.tape, hg.output, hg.size, fun b hb hn => hg.block b hb (fun e => hn e.symm)⟩
  refine ⟨ho, h.bel.grown hg (by omega) (fun k e => by have := own4_block h.own k e; omega), (hg.block _ hz (own4_low h.own (by omega))).trans h.kb, L, hL.but hb (fun e => by have := own4_block h.own _ e; omega) (fun b hbl hy => ⟨fun e => hy.2 e.symm, hy.1, far_own hat hbl hy.2⟩)⟩
theorem HoldTY.grow {mb : Nat} {wx W : World} {v v' : Value} {a : Option Addr} {l : List Tk} (h : HoldTY (fun b => b ≠ mb ∧ some b ≠ v.ownBlock) wx a l) (hg : wx.grownBy W v.ownBlock) (hat : v'.ownBlock = v.ownBlock ∨ v'.ownBlock = some wx.heap.size) : HoldTY (fun b => b ≠ mb ∧ some b ≠ v'.ownBlock) W a l :=
  h.but (X := fun b => v.ownBlock = some b) ⟨hg.os, hg.tape, hg.output, hg.size, fun b hb hn => hg.block b hb (fun e => hn e.symm)⟩ (fun b hbl hy => ⟨fun e => hy.2 e.symm, hy.1, far_own hat hbl hy.2⟩)
theorem HoldTY.below {Y : Nat → Prop} {W W' : World} {a : Option Addr} {l : List Tk} (h : HoldTY Y W a l) (hb : Below W.heap.size W W') : HoldTY Y W' a l :=
  h.but (X := fun _ => False) (But.of_below hb) (fun b _ hy => ⟨fun h => h, hy⟩)
/-- What Analyze answers. -/
def AnPost (r : List Tk × Int) (w : World) (e : Ending) (w' : World) : Prop := ∃ v, e = .returned (.tuple #[v, .int .i64 r.2]) ∧ w'.ownsRow w.heap.size 35 4 v r.1.length (toksCells r.1) ∧ Below w.heap.size w w'
theorem anPost_nil {r : List Tk × Int} {w w' : World} {c : Int} (hr : r = ([], c)) (hb : Below w.heap.size w w') : AnPost r w (.returned (.tuple #[.slice none 0 0, .int .i64 c])) w' := by
  subst hr
  exact ⟨_, rfl, World.ownsRow_nil _ _ _ _, hb⟩
theorem azGo_end (T : List UInt8 → List (List UInt8) × Int) (o l : List Tk) (k : Nat) (h : ¬ k < l.length) : azGo T o (l.drop k) = (o, 0) := by rw [List.drop_of_length_le (by omega), azGo]
theorem termSteps_ch (fo st ph : Bool) (aS aY : Option Addr) (cS cY nS nY : Nat) (lo hi : Int) (w : World) :
    Calls Tryz.prog 36 #[.agg #[.bool fo, .bool st, .bool ph, .slice aS nS cS, .slice aY nY cY, .int .i64 lo, .int .i64 hi]] w fun e w' => ∃ aF cF B1 B2, e = .returned (.slice aF (termF fo st ph aS aY cS cY nS nY lo hi B1 B2).length cF) ∧ HoldFn w' (fun _ => False) aF (termF fo st ph aS aY cS cY nS nY lo hi B1 B2) ∧ (st = true → w'.heap[B1]? = some (.cells #[.func (.func 83) #[] #[]] 66)) ∧ (ph = true → w'.heap[B2]? = some (.cells #[.func (.func 84) #[] #[]] 66)) ∧ Below w.heap.size w w' := by
  refine (termSteps_any fo st ph aS aY cS cY nS nY lo hi w).mono ?_
  rintro e w' ⟨v, B1, B2, rfl, h1, h2, h3, h4⟩
  rcases own_cases h1 with ⟨rfl, hn⟩ | ⟨g, c, rfl, _, hl⟩
  · exact ⟨none, 0, B1, B2, by rw [hn], Or.inl (List.length_eq_zero_iff.1 hn), h2, h3, h4⟩
  · refine ⟨some ⟨g, 0, none⟩, c, B1, B2, rfl, Or.inr ⟨g, rfl, hl, fun h => h, fun k hk => ?_⟩, h2, h3, h4⟩
    rw [h1.cellAt k (by omega), List.getElem?_eq_getElem hk]
    simp [hk]
set_option maxHeartbeats 16000000 in
theorem implAnalyze_any (fo st ph : Bool) (aS aY : Option Addr) (cS cY : Nat) (stops : List (List UInt8)) (syns : List (List UInt8 × List UInt8)) (lo hi : Int) (s : ByteArray) (w : World) (hT : Tabs w) (hS : HoldS w aS stops) (hY : HoldY w aY syns) (zS : szS stops) (zY : szY syns) (hnS : stops.length ≤ 1048576) (hnY : syns.length ≤ 1048576) (hs : s.size ≤ 1048576) :
    Calls Tryz.prog 7 #[.agg #[.bool fo, .bool st, .bool ph, .slice aS stops.length cS, .slice aY syns.length cY, .int .i64 lo, .int .i64 hi], .string s] w (AnPost (anOf fo st ph stops syns lo hi s) w) := by
  obtain ⟨i0, hi0, hz0, hz1, hz2⟩ := info_parts Tryz.infoTok
  have HBa : Hid (Below w.heap.size w (w.alloc (.cells #[.bool fo, .bool st, .bool ph, .slice aS stops.length cS, .slice aY syns.length cY, .int .i64 lo, .int .i64 hi] 26))) := (Below.refl _ _).alloc (Nat.le_refl _) _
  have hblk : (w.alloc (.cells #[.bool fo, .bool st, .bool ph, .slice aS stops.length cS, .slice aY syns.length cY, .int .i64 lo, .int .i64 hi] 26)).heap[w.heap.size]? = some (.cells #[.bool fo, .bool st, .bool ph, .slice aS stops.length cS, .slice aY syns.length cY, .int .i64 lo, .int .i64 hi] 26) := heap_alloc_new _ _
  have Hblk := hidd hblk
  have hs1 : (w.alloc (.cells #[.bool fo, .bool st, .bool ph, .slice aS stops.length cS, .slice aY syns.length cY, .int .i64 lo, .int .i64 hi] 26)).heap.size = w.heap.size + 1 := by simp
  have HTa := hidd (hT.below HBa.out)
  have HSa := hidd (hS.below HBa.out)
  have HYa := hidd (hY.below HBa.out)
  have HzS := hidd zS
  have HzY := hidd zY
  clear hT hS hY zS zY hblk
  by_cases hlong : 65536 < s.size
  · have hR : anOf fo st ph stops syns lo hi s = ([], 2) := by rw [anOf, if_pos hlong]
    have HP := hidd (anPost_nil hR HBa.out)
    have hlz : (65536 : Int) < (s.size : Int) := by omega
    clear hR hlong
    go_enter Tryz.func7, Tryz.ntmps7
    go_wp2_with fail
    go_ret2
    exact HP.out
  have hlz : ¬ (65536 : Int) < (s.size : Int) := by omega
  have HA0 : Hid (anOf fo st ph stops syns lo hi s = if azOK stops syns lo hi = true then (if brkCode s = 0 then azGo (formsOf fo st ph stops syns lo hi) [] (brkList s) else ([], brkCode s)) else ([], 1)) := by show _ = _; rw [anOf, if_neg hlong]
  generalize anOf fo st ph stops syns lo hi s = R at *
  go_enter Tryz.func7, Tryz.ntmps7
  go_upto_region 3 with fail
  have HZ : Hid (azOK stops syns lo hi = true → AzAt (w.alloc (.cells #[.bool fo, .bool st, .bool ph, .slice aS stops.length cS, .slice aY syns.length cY, .int .i64 lo, .int .i64 hi] 26)) aS aY stops syns lo hi) := fun h => ⟨HTa.out, HSa.out, HYa.out, (azOK_parts h).1, (azOK_parts h).2.1, (azOK_parts h).2.2⟩
  generalize w.alloc (.cells #[.bool fo, .bool st, .bool ph, .slice aS stops.length cS, .slice aY syns.length cY, .int .i64 lo, .int .i64 hi] 26) = wa at *
  have HQ : Hid (∀ W, Below wa.heap.size wa W → W.cell? ⟨w.heap.size, 0, none⟩ = some (.bool fo) ∧ W.cell? ⟨w.heap.size, 1, none⟩ = some (.bool st) ∧ W.cell? ⟨w.heap.size, 2, none⟩ = some (.bool ph) ∧ W.cell? ⟨w.heap.size, 3, none⟩ = some (.slice aS stops.length cS) ∧ W.cell? ⟨w.heap.size, 4, none⟩ = some (.slice aY syns.length cY) ∧ W.cell? ⟨w.heap.size, 5, none⟩ = some (.int .i64 lo) ∧ W.cell? ⟨w.heap.size, 6, none⟩ = some (.int .i64 hi)) := fun W hW =>
    ⟨blkc (blko Hblk.out hW) 0, blkc (blko Hblk.out hW) 1, blkc (blko Hblk.out hW) 2, blkc (blko Hblk.out hW) 3, blkc (blko Hblk.out hW) 4, blkc (blko Hblk.out hW) 5, blkc (blko Hblk.out hW) 6⟩
  obtain ⟨q0, q1, q2, q3, q4, q5, q6⟩ := HQ.out wa (Below.refl _ _)
  generalize hB : w.heap.size = B at *
  by_cases hok : azOK stops syns lo hi = true
  · have HAz := hidd (HZ.out hok)
    have HA1 : Hid (R = if brkCode s = 0 then azGo (formsOf fo st ph stops syns lo hi) [] (brkList s) else ([], brkCode s)) := by show _ = _; rw [HA0.out, if_pos hok]
    have HLo : Hid (lo = 0 ∨ 0 < lo) := by
      show _ ∨ _
      simp only [azOK, rOK, gOK, Bool.and_eq_true, Bool.or_eq_true, decide_eq_true_eq] at hok
      rcases hok.2 with h | h
      · exact Or.inl h.1
      · exact Or.inr (by omega)
    have HOk := hidd (implAzOK_any fo st ph aS aY cS cY stops syns lo hi wa HTa.out HSa.out HYa.out HzS.out HzY.out hnS hnY)
    rw [hok] at HOk
    clear hok HA0 HZ
    go_upto_region 5 with (go_at_call 8; refine HOk.out.mono ?_; rintro e w1 ⟨rfl, hb1⟩)
    have HB1 := hidd hb1
    clear hb1 q0 q1 q2 q3 q4 q5 q6 HOk
    have HBr := hidd (implBreak_any s w1 hs (HTa.out.below HB1.out))
    by_cases hbc : brkCode s = 0
    · have HA2 : Hid (R = azGo (formsOf fo st ph stops syns lo hi) [] (brkList s)) := by show _ = _; rw [HA1.out, if_pos hbc]
      rw [hbc] at HBr
      clear hbc HA1
      go_upto_region 8 with (go_at_call 33; refine HBr.out.mono ?_; rintro e w2 ⟨v2, rfl, ho2, hb2⟩)
      have HBx : Hid (Below wa.heap.size wa w2) := HB1.out.trans (hb2.mono HB1.out.size)
      obtain ⟨q0, q1, q2, q3, q4, q5, q6⟩ := HQ.out w2 HBx.out
      have HO2 := hidd ho2
      have hz12 := hb2.size
      have hza1 := HB1.out.size
      have HWs := hidd (wordSteps_any fo st ph aS aY cS cY stops.length syns.length lo hi w2)
      have hWG := wordG_is fo stops (brkList s)
      have hazw := azGo_words fo st ph stops syns lo hi (brkList s) [] (by simp)
      rw [hWG] at hazw
      have HR3 : Hid (∃ ws, wordG fo stops (brkList s) = (ws, 0) ∧ R = azGo (termsOf st ph syns lo hi) [] ws ∧ ws.length ≤ 8192 ∧ ∀ x ∈ ws, x.1.length ≤ 262144) := by
        refine ⟨_, hWG, HA2.out.trans hazw, ?_, ?_⟩
        · have h1 := brkList_len s
          have h2 := List.length_filter_le (fun x : Tk => !hasT stops x.1) (mapTx (foldIf fo) (brkList s))
          rw [mapTx_len] at h2
          omega
        · intro x hx
          obtain ⟨y, hy, rfl⟩ := List.mem_map.1 (List.mem_filter.1 hx).1
          have h3 := brkList_ok s y hy
          have h4 : decCode (bs y.1) = 0 := by rw [decCode, if_neg (by omega), if_pos h3.1]
          show (foldIf fo y.1).length ≤ 262144
          rw [foldIf]
          split
          · exact foldL_sz _ h4
          · have := h3.2; rw [bs_size] at this; omega
      obtain ⟨ws, hws1, hws2, hws3, hws4⟩ := HR3.out
      have HWsz := hidd hws4
      clear hWG hazw HR3 hb2 ho2 HA2 HBr hws4
      have HRs : Hid (∀ w3 b B', w2.heap.size ≤ b → w3.heap[b]? = some (.cells (wordF fo st ph aS aY cS cY stops.length syns.length lo hi B').toArray 121) → (fo = true → w3.heap[B']? = some (.cells #[.func (.func 80) #[] #[]] 66) ∧ w2.heap.size ≤ B') → Below w2.heap.size w2 w3 → Calls Tryz.prog 34 #[.slice (some ⟨b, 0, none⟩) (wordF fo st ph aS aY cS cY stops.length syns.length lo hi B').length (wordF fo st ph aS aY cS cY stops.length syns.length lo hi B').length, v2] w3 fun e w' => ∃ v', e = .returned (.tuple #[v', .int .i64 0]) ∧ OwnX w3 (fun b => v2.ownBlock = some b) w' v' ws ∧ But (fun b => v2.ownBlock = some b) w3 w') := by
        intro w3 b B' h1 h2 h3 h4
        have hX : ∀ b, v2.ownBlock = some b → b < w2.heap.size := own4_lt HO2.out
        have hlen : (wordF fo st ph aS aY cS cY stops.length syns.length lo hi B').length ≤ 2 := by unfold wordF; cases fo <;> simp
        have h5 := runSteps_any w3 (fun b => v2.ownBlock = some b) (wordF fo st ph aS aY cS cY stops.length syns.length lo hi B') WordP (wordG fo stops) (some ⟨b, 0, none⟩) (wordF fo st ph aS aY cS cY stops.length syns.length lo hi B').length
          (Or.inr ⟨b, rfl, (Array.getElem?_eq_some_iff.1 h2).1, (fun e => by have := hX b e; omega), fun k hk => by rw [blkc h2 k]; simp [hk]⟩) (by omega)
          (wordChain HAz.out (HBx.out.trans (h4.mono HBx.out.size)) (fun b e => by have := own4_block HO2.out b e; omega) fo st ph cS cY B' (fun e => ⟨(h3 e).1, fun e' => by have := hX _ e'; have := (h3 e).2; omega⟩))
          v2 (brkList s) w3 (But.refl _ _) ⟨own4_mono (own4_below HO2.out h4) (Nat.zero_le _), fun b e => Or.inl e⟩
          ⟨brkList_len s, fun k hk => by
            rw [List.getD_eq_getElem?_getD, List.getElem?_eq_getElem hk, Option.getD_some]
            have h6 := brkList_ok s _ (List.getElem_mem hk)
            rw [decCode, if_neg (by omega), if_pos h6.1]⟩
        rw [hws1] at h5
        exact h5
      go_upto_region 9 with (first | (go_at_call 35; refine HWs.out.mono ?_; rintro e w3 ⟨b, B', rfl, hw1, hw2, hw3, hw4⟩) | (go_at_call 34; refine (HRs.out w3 b B' hw1 hw2 hw3 hw4).mono ?_; rintro e w4 ⟨v4, rfl, ho4, hb4⟩))
      have HB4 : Hid (Below wa.heap.size wa w4) := HBx.out.trans ((hw4.mono HBx.out.size).trans (hb4.below (by have := hw4.size; have := HBx.out.size; omega) (fun i hi e => by have := own4_block HO2.out i e; omega)))
      obtain ⟨a4, c4, rfl, hH4, _⟩ := holdT_row ho4.1
      have HH4 := hidd hH4
      clear hw1 hw2 hw3 hw4 ho4 hb4 hH4 HRs HWs q0 q1 q2 q3 q4 q5 q6
      obtain ⟨q0, q1, q2, q3, q4, q5, q6⟩ := HQ.out w4 HB4.out
      have HTs := hidd (termSteps_ch fo st ph aS aY cS cY stops.length syns.length lo hi w4)
      have hza4 := HB4.out.size
      have hmk := fun w => run_makeMap (P := Tryz.prog) 73 w
      go_upto_region 12 with (go_at_call 36; refine HTs.out.mono ?_; rintro e w5 ⟨aF, cF, B1, B2, rfl, hw1, hw2, hw3, hw4⟩)
      clear hmk q0 q1 q2 q3 q4 q5 q6 HTs
      have HCh : Hid (ChAt wa w5 fo st ph aS aY cS cY stops syns lo hi B1 B2 aF) := ⟨HAz.out, HB4.out.trans (hw4.mono hza4), hw1, hw2, hw3⟩
      have HH5 := hidd (HH4.out.below hw4)
      have HB5 : Hid (Below wa.heap.size wa w5) := HB4.out.trans (hw4.mono hza4)
      clear hw1 hw2 hw3 hw4 HH4 HB4 HO2 HBx HB1
      obtain ⟨T, hTe⟩ : ∃ T, termsOf st ph syns lo hi = T := ⟨_, rfl⟩
      have HTe := hidd hTe
      rw [hTe] at hws2
      have HR5 := hidd hws2
      clear hTe hws2 hws1
      obtain ⟨nF, hnF⟩ : ∃ n, (termF fo st ph aS aY cS cY stops.length syns.length lo hi B1 B2).length = n := ⟨_, rfl⟩
      have HnF := hidd hnF
      rw [hnF]
      clear hnF
      have HI0 : Hid (AI w5 T w5.heap.size #[.slice aF nF cF, .map (some w5.heap.size)] ((w5.alloc (.map #[] 0)).alloc (.cells #[.slice aF nF cF, .map (some w5.heap.size)] 75)) (.slice none 0 0) []) := by
        obtain ⟨h1, h2⟩ := box_two w5 (.map #[] 0) (.cells #[.slice aF nF cF, .map (some w5.heap.size)] 75)
        exact ⟨World.ownsRow_nil _ _ _ _, ((Below.refl _ _).alloc (Nat.le_refl _) _).alloc (by simp) _, h2, [], ⟨#[], 0, h1, rfl, fun x hx => by simp at hx⟩, fun x hx => by simp at hx⟩
      generalize (w5.alloc (.map #[] 0)).alloc (.cells #[.slice aF nF cF, .map (some w5.heap.size)] 75) = w7 at *
      have hz5 := HB5.out.size
      generalize hmb : w5.heap.size = mb at *
      go_wp2_with fail
      go_loopw [9, 46] (fun v i wx => ∃ (k : Nat) (o : List Tk), k ≤ ws.length ∧ i = .int .i64 k ∧ AI w5 T mb #[.slice aF nF cF, .map (some mb)] wx v o ∧ o.length ≤ 8192 ∧ azGo T o (ws.drop k) = R) (fun _ i _ => ws.length - (intOf i).toNat)
      case atStart => exact ⟨0, [], by omega, rfl, HI0.out, by simp, HR5.out.symm⟩
      case round =>
        obtain ⟨k, o, hk, rfl, hI, hol, hgo⟩ := hrel
        have HI := hidd hI
        have HGo := hidd hgo
        clear hI hgo HI0 HR5
        by_cases hlt : k < ws.length
        · have hbl5 : Below w5.heap.size w5 wr := by rw [hmb]; exact HI.out.bel
          have HSn := hidd (azGo_drop T o ws k hlt)
          obtain ⟨b, off, rfl, hbl, hc⟩ := (HH5.out.below hbl5).resolve_left (fun h => by rw [h] at hlt; simp at hlt)
          obtain ⟨t0, t1, t2, t3⟩ := hc k hlt
          have hzt : (ws.getD k tk0).1.length ≤ 262144 := by
            rw [List.getD_eq_getElem?_getD, List.getElem?_eq_getElem hlt, Option.getD_some]
            exact HWsz.out _ (List.getElem_mem hlt)
          clear hc
          obtain ⟨tk, htk⟩ : ∃ tk, ws.getD k tk0 = tk := ⟨_, rfl⟩
          rw [htk] at t0 t1 t2 t3 HSn hzt
          clear htk
          obtain ⟨tx, p0, p1, p2⟩ := tk
          dsimp only at t0 t1 t2 t3 HSn hzt
          obtain ⟨ao, co, rfl⟩ := own4_len HI.out.own
          have HI8 := hidd (HI.out.alloc (.cells #[.string (bs tx), .int .i64 p0, .int .i64 p1, .int .i64 p2] 35))
          have hz8 := HI.out.size
          have HTB : Hid ((wr.alloc (.cells #[.string (bs tx), .int .i64 p0, .int .i64 p1, .int .i64 p2] 35)).heap[wr.heap.size]? = some (.cells #[.string (bs tx), .int .i64 p0, .int .i64 p1, .int .i64 p2] 35)) := heap_alloc_new _ _
          have HTn : Hid (some wr.heap.size ≠ (Value.slice ao o.length co).ownBlock) := own4_ne HI.out.own (a := some ⟨wr.heap.size, 0, none⟩) (fun b off e => by cases e; exact Nat.le_refl _) _ _ rfl
          have HTO : Hid (Calls Tryz.prog 37 #[.agg #[.slice aF nF cF, .map (some mb)], .agg #[.string (bs tx), .int .i64 p0, .int .i64 p1, .int .i64 p2]] (wr.alloc (.cells #[.string (bs tx), .int .i64 p0, .int .i64 p1, .int .i64 p2] 35)) (TermsPost T tx (wr.alloc (.cells #[.string (bs tx), .int .i64 p0, .int .i64 p1, .int .i64 p2] 35)) mb (fun b => b ≠ mb ∧ some b ≠ (Value.slice ao o.length co).ownBlock))) := by
            obtain ⟨L, hL⟩ := HI8.out.kn
            have hbl8 : Below w5.heap.size w5 (wr.alloc (.cells #[.string (bs tx), .int .i64 p0, .int .i64 p1, .int .i64 p2] 35)) := by rw [hmb]; exact HI8.out.bel
            have h := termsOf_any (Y := fun b => b ≠ mb ∧ some b ≠ (Value.slice ao o.length co).ownBlock) cF HLo.out mb L (tx, p0, p1, p2) (wr.alloc (.cells #[.string (bs tx), .int .i64 p0, .int .i64 p1, .int .i64 p2] 35)) (HCh.out.below hbl8) (fun b h => h.1) (fun b hb => by
              refine ⟨by have := HI8.out.size; omega, fun e => ?_⟩
              have := own4_lt HI8.out.own b e.symm
              omega) (by rw [HTe.out]; exact hL) hzt
            rw [HTe.out, HnF.out] at h
            exact h
          have k0 : (wr.alloc (.cells #[.string (bs tx), .int .i64 p0, .int .i64 p1, .int .i64 p2] 35)).cell? ⟨mb + 1, 0, none⟩ = some (.slice aF nF cF) := blkc HI8.out.kb 0
          have k1 : (wr.alloc (.cells #[.string (bs tx), .int .i64 p0, .int .i64 p1, .int .i64 p2] 35)).cell? ⟨mb + 1, 1, none⟩ = some (.map (some mb)) := blkc HI8.out.kb 1
          have htl : (T tx).1.length ≤ 266240 := by
            rw [← HTe.out, termsOf]
            have h1 := formsGo_len st ph lo hi (rawOf syns tx) []
            have h2 := synsOf_len syns tx
            have h3 := HAz.out.nY
            rw [rawOf, List.length_cons] at h1
            rw [rawOf]
            simp only [List.length_nil] at h1
            omega
          by_cases hcd : (T tx).2 = 0
          · have HT0 : Hid (Calls Tryz.prog 37 #[.agg #[.slice aF nF cF, .map (some mb)], .agg #[.string (bs tx), .int .i64 p0, .int .i64 p1, .int .i64 p2]] (wr.alloc (.cells #[.string (bs tx), .int .i64 p0, .int .i64 p1, .int .i64 p2] 35)) fun e w' => ∃ a c kk L', e = .returned (.tuple #[.slice a (T tx).1.length c, .int .i64 0]) ∧ HoldTY (fun b => b ≠ mb ∧ some b ≠ (Value.slice ao o.length co).ownBlock) w' a (withT kk (T tx).1) ∧ KnownAt T w' mb (fun b => b ≠ mb ∧ some b ≠ (Value.slice ao o.length co).ownBlock) L' ∧ But (fun b => b = mb) (wr.alloc (.cells #[.string (bs tx), .int .i64 p0, .int .i64 p1, .int .i64 p2] 35)) w') := HTO.out.mono fun e w' h => by
              obtain ⟨h1, ⟨a, c, kk, L', _, h2, h3, h4⟩ | ⟨v, h2, _⟩⟩ := h
              · exact ⟨a, c, kk, L', h2, h3, h4, h1⟩
              · exact absurd hcd h2
            rw [if_pos hcd] at HSn
            clear hcd HTO
            go_upto_region 17 with (go_at_call 37; refine HT0.out.mono ?_; rintro e w9 ⟨a, c, kk, L', rfl, hrow, hkn, hb9⟩)
            have HI9 := hidd (HI8.out.put hb9 hkn)
            have HTB9 : Hid (w9.heap[wr.heap.size]? = some (.cells #[.string (bs tx), .int .i64 p0, .int .i64 p1, .int .i64 p2] 35)) := (hb9.block _ (by simp) (by omega)).trans HTB.out
            have HRow := hidd hrow
            clear hb9 hkn hrow HT0 HI8 HTB k0 k1 t0 t1 t2 t3 hbl5
            generalize hts : (T tx).1 = ts at *
            clear hts
            have hlw : (o ++ withT (tx, p0, p1, p2) ts).length = o.length + ts.length := by rw [List.length_append, withT_len]
            rw [hlw] at HSn
            by_cases hfit : o.length + ts.length ≤ 8192
            · rw [if_pos hfit] at HSn
              have hfz : ¬ (8192 : Int) < (o.length : Int) + (ts.length : Int) := by omega
              generalize hTBe : wr.heap.size = TB at *
              go_wp2_with fail
              go_loopw [9, 67] (fun v i wx => ∃ j : Nat, j ≤ ts.length ∧ i = .int .i64 j ∧ AI w5 T mb #[.slice aF nF cF, .map (some mb)] wx v (o ++ withT (tx, p0, p1, p2) (ts.take j)) ∧ HoldTY (fun b => b ≠ mb ∧ some b ≠ v.ownBlock) wx a (withT kk ts) ∧ wx.heap[TB]? = some (.cells #[.string (bs tx), .int .i64 p0, .int .i64 p1, .int .i64 p2] 35) ∧ some TB ≠ v.ownBlock) (fun _ i _ => ts.length - (intOf i).toNat)
              case atStart => exact ⟨0, by omega, rfl, by simpa [withT] using HI9.out, HRow.out, HTB9.out, HTn.out⟩
              case round =>
                obtain ⟨j, hj, rfl, hI, hrow, hbox, hnb⟩ := hrel
                have HIj := hidd hI
                have HRj := hidd hrow
                have HXj := hidd hbox
                have HNj := hidd hnb
                clear hI hrow hbox hnb HI9 HRow HTB9 HTn
                by_cases hjl : j < ts.length
                · have HW := hidd (withT_snoc (tx, p0, p1, p2) ts j hjl)
                  have hcell := HRj.out.1.resolve_left (fun h => by have := withT_len kk ts; rw [h] at this; simp at this; omega)
                  obtain ⟨b2, off2, rfl, hbl2, hc2⟩ := hcell
                  obtain ⟨g0, g1, g2, g3⟩ := hc2 j (by rw [withT_len]; exact hjl)
                  have hgd : (withT kk ts).getD j tk0 = (ts.getD j [], kk.2) := by simp [withT, hjl]
                  rw [hgd] at g0 g1 g2 g3
                  dsimp only at g0 g1 g2 g3
                  clear hc2 hgd
                  generalize ts.getD j [] = gr at *
                  obtain ⟨kt, k1, k2, k3⟩ := kk
                  dsimp only at g0 g1 g2 g3
                  have HB10 : Hid (Below wr.heap.size wr (wr.alloc (.cells #[.string (bs gr), .int .i64 k1, .int .i64 k2, .int .i64 k3] 35))) := (Below.refl _ _).alloc (Nat.le_refl _) _
                  have e0 : (wr.alloc (.cells #[.string (bs gr), .int .i64 k1, .int .i64 k2, .int .i64 k3] 35)).cell? ⟨TB, 0, none⟩ = some (.string (bs tx)) := blkc (blko HXj.out HB10.out) 0
                  have e1 : (wr.alloc (.cells #[.string (bs gr), .int .i64 k1, .int .i64 k2, .int .i64 k3] 35)).cell? ⟨TB, 1, none⟩ = some (.int .i64 p0) := blkc (blko HXj.out HB10.out) 1
                  have e2 : (wr.alloc (.cells #[.string (bs gr), .int .i64 k1, .int .i64 k2, .int .i64 k3] 35)).cell? ⟨TB, 2, none⟩ = some (.int .i64 p1) := blkc (blko HXj.out HB10.out) 2
                  have e3 : (wr.alloc (.cells #[.string (bs gr), .int .i64 k1, .int .i64 k2, .int .i64 k3] 35)).cell? ⟨TB, 3, none⟩ = some (.int .i64 p2) := blkc (blko HXj.out HB10.out) 3
                  have HI10 := hidd (HIj.out.alloc (.cells #[.string (bs gr), .int .i64 k1, .int .i64 k2, .int .i64 k3] 35))
                  have har : (o ++ withT (tx, p0, p1, p2) (ts.take j)).length ≤ 20000 := by
                    rw [List.length_append, withT_len, List.length_take]; omega
                  have hzi := HIj.out.size
                  have hTBr : TB < wr.heap.size := (Array.getElem?_eq_some_iff.1 HXj.out).1
                  obtain ⟨A1, hA1⟩ : ∃ A1, o ++ withT (tx, p0, p1, p2) (ts.take j) = A1 := ⟨_, rfl⟩
                  have HA1 := hidd hA1
                  rw [hA1] at HI10 har HIj
                  clear hA1
                  go_upto_region 25 with (first | (go_at_call 38; refine (retold_any (bs tx) (bs gr) p0 p1 p2 _).mono ?_; rintro e' wq ⟨rfl, hbq⟩) | (at_builtin; refine wpList_append_own_at _ rfl _ _ 29 rfl (mb + 2) 35 i0 (.agg #[.string ⟨#[]⟩, .int .i64 0, .int .i64 0, .int .i64 0]) 4 40 Tryz.underlying29 hi0 hz0 hz1 hz2 rfl (by decide) _ _ _ rfl ((HI10.out.below hbq).alloc _).own ⟨wq.heap.size, 0, none⟩ 1 1 [.string (bs gr), .int .i64 p0, .int .i64 p1, .int .i64 p2] rfl rfl ?c1 ?c2 ?c3 ?c4 ?c5 ?_))
                  case c1 =>
                    intro q u hq
                    match q, hq with
                    | 0, hq => simp at hq; subst hq; simp [Addr.add]
                    | 1, hq => simp at hq; subst hq; simp [Addr.add]
                    | 2, hq => simp at hq; subst hq; simp [Addr.add]
                    | 3, hq => simp at hq; subst hq; simp [Addr.add]
                    | q + 4, hq => simp at hq
                  case c2 =>
                    intro u hu
                    simp at hu
                    rcases hu with rfl | rfl | rfl | rfl <;> rfl
                  case c3 => unfold maxLen; omega
                  case c4 => omega
                  case c5 => have := (HI10.out.below hbq).size; simp; omega
                  intro v' w6 hown' hgrow hne hat
                  have hB12 : Below wr.heap.size wr (wq.alloc (.cells #[.string (bs gr), .int .i64 p0, .int .i64 p1, .int .i64 p2] 35)) := (HB10.out.trans (hbq.mono HB10.out.size)).alloc (HB10.out.trans (hbq.mono HB10.out.size)).size _
                  have HI12 := hidd ((HI10.out.below hbq).alloc (.cells #[.string (bs gr), .int .i64 p0, .int .i64 p1, .int .i64 p2] 35))
                  have hat' : v'.ownBlock = u9.ownBlock ∨ v'.ownBlock = some (wq.alloc (.cells #[.string (bs gr), .int .i64 p0, .int .i64 p1, .int .i64 p2] 35)).heap.size := hat.imp id (fun h => h.trans (by simp))
                  have RR : Hid (AI w5 T mb #[.slice aF nF cF, .map (some mb)] w6 v' (o ++ withT (tx, p0, p1, p2) (ts.take (j + 1))) ∧ HoldTY (fun b => b ≠ mb ∧ some b ≠ v'.ownBlock) w6 (some ⟨b2, off2, none⟩) (withT (kt, k1, k2, k3) ts) ∧ w6.heap[TB]? = some (.cells #[.string (bs tx), .int .i64 p0, .int .i64 p1, .int .i64 p2] 35) ∧ some TB ≠ v'.ownBlock) := by
                    refine ⟨HI12.out.grow ?_ hgrow hat', (HRj.out.below hB12).grow hgrow hat', ?_, far_own hat' (Nat.lt_of_lt_of_le hTBr hB12.size) HNj.out⟩
                    · rw [HW.out, ← List.append_assoc, HA1.out, toksCells_snoc, show (A1 ++ [(gr, p0, p1, p2)]).length = A1.length + 1 from List.length_append]
                      exact hown'
                    · rw [hgrow.block TB (Nat.lt_of_lt_of_le hTBr hB12.size) HNj.out]
                      exact blko HXj.out hB12
                  clear hown' hgrow hne hat hat' HI12 hB12 e0 e1 e2 e3 g0 g1 g2 g3 hbq HI10
                  go_wp2_with fail
                  go_roundw
                  case rel => exact ⟨j + 1, by omega, by go_num, RR.out⟩
                  case measure => simp [intOf]; omega
                · have HE : Hid (o ++ withT (tx, p0, p1, p2) (ts.take j) = o ++ withT (tx, p0, p1, p2) ts) := by
                    show _ = _
                    rw [List.take_of_length_le (by omega)]
                  go_wp2_with fail
                  go_roundw
                  case rel => exact ⟨k + 1, _, by omega, by go_num, HIj.out, by rw [HE.out, hlw]; exact hfit, by rw [HE.out, ← HSn.out]; exact HGo.out⟩
                  case measure => simp [intOf]; omega
            · rw [if_neg hfit] at HSn
              have hfz : (8192 : Int) < (o.length : Int) + (ts.length : Int) := by omega
              have HR : Hid (R = ([], 11)) := HGo.out.symm.trans HSn.out
              have HP := hidd (anPost_nil HR.out (w := w) (w' := w9) (by rw [hB]; exact HBa.out.trans ((HB5.out.trans (HI9.out.bel.mono (by omega))).mono (by have := HBa.out.size; omega))))
              clear HR HSn
              go_wp2_with fail
              go_ret2
              exact HP.out
          · have HT0 : Hid (Calls Tryz.prog 37 #[.agg #[.slice aF nF cF, .map (some mb)], .agg #[.string (bs tx), .int .i64 p0, .int .i64 p1, .int .i64 p2]] (wr.alloc (.cells #[.string (bs tx), .int .i64 p0, .int .i64 p1, .int .i64 p2] 35)) fun e w' => ∃ v, e = .returned (.tuple #[v, .int .i64 (T tx).2]) ∧ But (fun b => b = mb) (wr.alloc (.cells #[.string (bs tx), .int .i64 p0, .int .i64 p1, .int .i64 p2] 35)) w') := HTO.out.mono fun e w' h => by
              obtain ⟨h1, ⟨a, c, kk, L', h2, _⟩ | ⟨v, _, h3⟩⟩ := h
              · exact absurd h2 hcd
              · exact ⟨v, h3, h1⟩
            have HR : Hid (R = ([], (T tx).2)) := by show _ = _; rw [← HGo.out, HSn.out, if_neg hcd]
            have hcn : ((T tx).2 != 0) = true := by rw [bne_iff_ne]; exact hcd
            clear hcd HTO HSn
            generalize (T tx).2 = cd at *
            go_wp2_with (go_at_call 37; refine HT0.out.mono ?_; rintro e w9 ⟨v9, rfl, hb9⟩)
            go_ret2
            refine anPost_nil HR.out ?_
            rw [hB]
            have h1 := HI8.out.bel.trans (hb9.below (n := mb) (by have := HI8.out.size; omega) (fun i hi e => by omega))
            exact HBa.out.trans ((HB5.out.trans (h1.mono (by omega))).mono (by have := HBa.out.size; omega))
        · have HE : Hid (R = (o, 0)) := by show _ = _; rw [← HGo.out, azGo_end T o ws k hlt]
          have HP : Hid (AnPost R w (.returned (.tuple #[u9, .int .i64 0])) wr) := by
            show AnPost _ _ _ _
            rw [HE.out]
            refine ⟨u9, rfl, own4_mono HI.out.own (by omega), ?_⟩
            rw [hB]
            exact HBa.out.trans ((HB5.out.trans (HI.out.bel.mono (by omega))).mono (by have := HBa.out.size; omega))
          go_wp2_with fail
          go_ret2
          exact HP.out
    · have hbn : (brkCode s != 0) = true := by rw [bne_iff_ne]; exact hbc
      have HR : Hid (R = ([], brkCode s)) := by show _ = _; rw [HA1.out, if_neg hbc]
      clear hbc HA1
      generalize brkCode s = cd at *
      go_wp2_with (go_at_call 33; refine HBr.out.mono ?_; rintro e w2 ⟨v2, rfl, ho2, hb2⟩)
      go_ret2
      exact anPost_nil HR.out (by rw [hB]; exact HBa.out.trans ((HB1.out.trans (hb2.mono HB1.out.size)).mono (by have := HBa.out.size; omega)))
  · have hok' : azOK stops syns lo hi = false := by simpa using hok
    have HR : Hid (R = ([], 1)) := by show _ = _; rw [HA0.out, if_neg hok]
    have HOk := hidd (implAzOK_any fo st ph aS aY cS cY stops syns lo hi wa HTa.out HSa.out HYa.out HzS.out HzY.out hnS hnY)
    rw [hok'] at HOk
    clear hok hok' HA0 HZ
    go_wp2_with (go_at_call 8; refine HOk.out.mono ?_; rintro e w1 ⟨rfl, hb1⟩)
    go_ret2
    exact anPost_nil HR.out (by rw [hB]; exact HBa.out.trans (hb1.mono (by have := HBa.out.size; omega)))
end Go.Proofs.YtionicjnoogpjaaGreatDoor

namespace Go.Proofs.YtionicjnoogpjaaGreatDoor
open Go Go.RowKit
set_option linter.unusedVariables false

set_option maxHeartbeats 1000000 in
theorem specFoldText_any (s : ByteArray) (w : World) (hs : s.size ≤ 1048576) :
    Calls Tryz.prog 11 #[.string s] w fun e w' => e = .returned (.tuple #[.string ⟨(foldText s).toArray⟩, .int .i64 (decCode s)]) ∧ Below w.heap.size w w' := by
  by_cases hc : decCode s = 0
  · have HD := hidd (dec_ok s hc)
    have HC := hidd hc
    have HT : Hid (foldText s = encs (foldR s)) := by show _ = _; rw [foldText, if_pos hc]
    clear hc
    go_enter Tryz.func11, Tryz.ntmps11
    go_wp2_with fail
    refine (specDecode_any s _ hs).mono ?_
    rintro e w1 ⟨v, rfl, _, hb1⟩
    rw [HC.out]
    go_wp2_with fail
    refine (l01Fold_any s _ HD.out.2 HD.out.1).mono ?_
    rintro e w2 ⟨rfl, hb2⟩
    go_wp2
    go_ret2
    rw [HT.out, HC.out]
    exact ⟨rfl, hb1.trans (hb2.mono hb1.size)⟩
  · have hcn : (decCode s != 0) = true := by rw [bne_iff_ne]; exact hc
    have HT : Hid (foldText s = []) := by show _ = _; rw [foldText, if_neg hc]
    clear hc
    go_enter Tryz.func11, Tryz.ntmps11
    go_wp2_with fail
    refine (specDecode_any s _ hs).mono ?_
    rintro e w1 ⟨v, rfl, _, hb1⟩
    go_wp2
    go_ret2
    rw [HT.out]
    exact ⟨rfl, hb1⟩
end Go.Proofs.YtionicjnoogpjaaGreatDoor
