import Derived.Test.YtionicjnoogpjaaGreatDoorAnalyzJ24
import Derived.Test.YtionicjnoogpjaaGreatDoorAnalyzJ30
import Derived.Maps.Keyed
import Derived.MapKept
import Derived.StringKeys
import Derived.ChangeMaps
import Derived.Test.YtionicjnoogpjaaGreatDoorAnalyzJ28
namespace Go.Proofs.YtionicjnoogpjaaGreatDoor
open Go Go.RowKit
set_option linter.unusedVariables false
set_option linter.unusedSimpArgs false
set_option maxRecDepth 100000

/-- The step of the grams. -/
def gramGo (lo hi : Int) : List Tk → List Tk → List Tk × Int
  | o, [] => (o, 0)
  | o, k :: ks => if gCode (bs k.1) lo hi = 0 then gramGo lo hi (o ++ withT k (gList (bs k.1) lo hi)) ks else ([], gCode (bs k.1) lo hi)
theorem gramGo_drop (lo hi : Int) (o l : List Tk) (k : Nat) (h : k < l.length) : gramGo lo hi o (l.drop k) = if gCode (bs (l.getD k tk0).1) lo hi = 0 then gramGo lo hi (o ++ withT (l.getD k tk0) (gList (bs (l.getD k tk0).1) lo hi)) (l.drop (k + 1)) else ([], gCode (bs (l.getD k tk0).1) lo hi) := by
  have e : l.getD k tk0 = l[k] := by rw [List.getD_eq_getElem?_getD, List.getElem?_eq_getElem h, Option.getD_some]
  rw [List.drop_eq_getElem_cons h, gramGo, e]
set_option maxHeartbeats 8000000 in
theorem withGrams_any (fo st ph : Bool) (vS vY : Value) (aT : Option Addr) (cT : Nat) (lo hi : Int) (l : List Tk) (w : World) (hTb : Tabs w) (hT : HoldT w aT l) (hn : l.length ≤ 65) (hz : ∀ k, k < l.length → (l.getD k tk0).1.length ≤ 1048576) :
    Calls Tryz.prog 85 #[.agg #[.bool fo, .bool st, .bool ph, vS, vY, .int .i64 lo, .int .i64 hi], .slice aT l.length cT] w fun e w' => ∃ v, e = .returned (.tuple #[v, .int .i64 (gramGo lo hi [] l).2]) ∧ w'.ownsRow w.heap.size 35 4 v (gramGo lo hi [] l).1.length (toksCells (gramGo lo hi [] l).1) ∧ Below w.heap.size w w' := by
  obtain ⟨i0, hi0, hz0, hz1, hz2⟩ := info_parts Tryz.infoTok
  have HTb := hidd hTb
  have HT := hidd hT
  have HZ := hidd hz
  clear hTb hT hz
  go_enter Tryz.func85, Tryz.ntmps85
  have HBa : Hid (Below w.heap.size w (w.alloc (.cells #[.bool fo, .bool st, .bool ph, vS, vY, .int .i64 lo, .int .i64 hi] 26))) := (Below.refl _ _).alloc (Nat.le_refl _) _
  have hblk : (w.alloc (.cells #[.bool fo, .bool st, .bool ph, vS, vY, .int .i64 lo, .int .i64 hi] 26)).heap[w.heap.size]? = some (.cells #[.bool fo, .bool st, .bool ph, vS, vY, .int .i64 lo, .int .i64 hi] 26) := heap_alloc_new _ _
  have Hblk := hidd hblk
  clear hblk
  go_wp2_with fail
  have HTa := hidd (HT.out.below HBa.out)
  have HTba := hidd (HTb.out.below HBa.out)
  generalize w.alloc (.cells #[.bool fo, .bool st, .bool ph, vS, vY, .int .i64 lo, .int .i64 hi] 26) = wa at *
  generalize hB : w.heap.size = B at *
  have hza := HBa.out.size
  clear HT HTb
  go_loopw [6, 15] (fun v i wx => ∃ (k : Nat) (o : List Tk), k ≤ l.length ∧ i = .int .i64 k ∧ wx.ownsRow wa.heap.size 35 4 v o.length (toksCells o) ∧ o.length ≤ k * 4096 ∧ gramGo lo hi o (l.drop k) = gramGo lo hi [] l ∧ Below wa.heap.size wa wx) (fun _ i _ => l.length - (intOf i).toNat)
  case atStart => exact ⟨0, [], by omega, rfl, World.ownsRow_nil _ _ _ _, by simp, rfl, Below.refl _ _⟩
  case round =>
    obtain ⟨k, A, hk, rfl, hown, hal, hgo, hbx⟩ := hrel
    have HO := hidd hown
    have HBx := hidd hbx
    have HGo := hidd hgo
    have HKx := hidd (blko Hblk.out hbx)
    have HTx := hidd (HTa.out.below hbx)
    have hwx := hbx.size
    clear hown hbx hgo
    by_cases hlt : k < l.length
    · have HSn := hidd (gramGo_drop lo hi A l k hlt)
      have hzk := HZ.out k hlt
      obtain ⟨b, off, rfl, hbl, hc⟩ := HTx.out.resolve_left (fun h => by rw [h] at hlt; simp at hlt)
      obtain ⟨t0, t1, t2, t3⟩ := hc k hlt
      clear hc
      obtain ⟨tk, htk⟩ : ∃ tk, l.getD k tk0 = tk := ⟨_, rfl⟩
      rw [htk] at t0 t1 t2 t3 HSn hzk
      clear htk
      obtain ⟨tx, p0, p1, p2⟩ := tk
      dsimp only at t0 t1 t2 t3 HSn hzk
      have HBs : Hid (Below wr.heap.size wr (wr.alloc (.cells #[.string (bs tx), .int .i64 p0, .int .i64 p1, .int .i64 p2] 35))) := (Below.refl _ _).alloc (Nat.le_refl _) _
      have q5 : (wr.alloc (.cells #[.string (bs tx), .int .i64 p0, .int .i64 p1, .int .i64 p2] 35)).cell? ⟨B, 5, none⟩ = some (.int .i64 lo) := blkc (blko HKx.out HBs.out) 5
      have q6 : (wr.alloc (.cells #[.string (bs tx), .int .i64 p0, .int .i64 p1, .int .i64 p2] 35)).cell? ⟨B, 6, none⟩ = some (.int .i64 hi) := blkc (blko HKx.out HBs.out) 6
      have HTw := hidd ((HTba.out.below HBx.out).below HBs.out)
      have Hnx : Hid (some wr.heap.size ≠ u6.ownBlock) := own4_ne HO.out (a := some ⟨wr.heap.size, 0, none⟩) (fun b off e => by cases e; exact Nat.le_refl _) _ _ rfl
      have hbox := heap_alloc_new wr (.cells #[.string (bs tx), .int .i64 p0, .int .i64 p1, .int .i64 p2] 35)
      have Hbox := hidd hbox
      clear hbox
      have HOa := hidd (HO.out.alloc (.cells #[.string (bs tx), .int .i64 p0, .int .i64 p1, .int .i64 p2] 35))
      have HBb := hidd (HBx.out.alloc hwx (.cells #[.string (bs tx), .int .i64 p0, .int .i64 p1, .int .i64 p2] 35))
      go_upto_region 5 with fail
      generalize wr.alloc (.cells #[.string (bs tx), .int .i64 p0, .int .i64 p1, .int .i64 p2] 35) = ws at *
      have e0 : ws.cell? ⟨wr.heap.size, 0, none⟩ = some (.string (bs tx)) := blkc Hbox.out 0
      generalize hTB : wr.heap.size = TB at *
      clear t0 t1 t2 t3
      go_upto_region 6 with (go_at_call 129; refine (implGrams_any (bs tx) lo hi _ (by rw [bs_size]; exact hzk) HTw.out).mono ?_; rintro e wg ⟨vg, rfl, hog, hbg⟩)
      have HBg := hidd (HBb.out.trans (hbg.mono HBb.out.size))
      have hgl := gList_le (bs tx) lo hi
      by_cases hc : gCode (bs tx) lo hi = 0
      · have HSm : Hid (gramGo lo hi (A ++ withT (tx, p0, p1, p2) (gList (bs tx) lo hi)) (l.drop (k + 1)) = gramGo lo hi [] l) := by
          show _ = _; rw [← HGo.out, HSn.out, if_pos hc]
        rw [hc]
        clear hc HSn
        obtain ⟨ag, cg, rfl, hHg, hgb⟩ := holdS_row hog
        have HOg := hidd (own4_below HOa.out hbg)
        have HXg := hidd (blko Hbox.out hbg)
        have HGh := hidd hHg
        have HGn : Hid (∀ b off, ag = some ⟨b, off, none⟩ → some b ≠ u6.ownBlock) := fun b off e h => by
          have h1 := (hgb b off e).1
          rcases own4_cases HOa.out with ⟨h2, _⟩ | ⟨g, c, h2, _, h3⟩
          · rw [h2] at h; cases h
          · rw [h2] at h
            have : b = g := Option.some.inj h
            omega
        clear hog hbg hHg hgb HOa HBb Hbox e0 q5 q6 HO HBx HKx HTx HTw HBs
        generalize gList (bs tx) lo hi = gl at *
        go_wp2_with fail
        go_loopw [6, 34] (fun v i wx => ∃ j : Nat, j ≤ gl.length ∧ i = .int .i64 j ∧ wx.ownsRow wa.heap.size 35 4 v (A ++ withT (tx, p0, p1, p2) (gl.take j)).length (toksCells (A ++ withT (tx, p0, p1, p2) (gl.take j))) ∧ wx.heap[TB]? = some (.cells #[.string (bs tx), .int .i64 p0, .int .i64 p1, .int .i64 p2] 35) ∧ some TB ≠ v.ownBlock ∧ HoldS wx ag gl ∧ (∀ b off, ag = some ⟨b, off, none⟩ → some b ≠ v.ownBlock) ∧ Below wa.heap.size wa wx) (fun _ i _ => gl.length - (intOf i).toNat)
        case atStart => exact ⟨0, by omega, rfl, by simpa [withT] using HOg.out, HXg.out, Hnx.out, HGh.out, HGn.out, HBg.out⟩
        case round =>
          obtain ⟨j, hj, rfl, hown, hbox, hnb, hhg, hgn, hby⟩ := hrel
          have HAo := hidd hown
          have HAx := hidd hbox
          have HAn := hidd hnb
          have HAh := hidd hhg
          have HAg := hidd hgn
          have HAb := hidd hby
          have har : (A ++ withT (tx, p0, p1, p2) (gl.take j)).length ≤ k * 4096 + 4096 := by
            rw [List.length_append, withT_len, List.length_take]; omega
          clear hown hbox hnb hhg hgn hby HOg HXg Hnx HGh HGn HBg
          by_cases hjl : j < gl.length
          · have HW := hidd (withT_snoc (tx, p0, p1, p2) gl j hjl)
            obtain ⟨b2, off2, rfl, hbl2, hc2⟩ := HAh.out.resolve_left (fun h => by rw [h] at hjl; simp at hjl)
            have g1 := hc2 j hjl
            clear hc2
            generalize gl.getD j [] = gr at *
            have e0 : wr.cell? ⟨TB, 0, none⟩ = some (.string (bs tx)) := blkc HAx.out 0
            have e1 : wr.cell? ⟨TB, 1, none⟩ = some (.int .i64 p0) := blkc HAx.out 1
            have e2 : wr.cell? ⟨TB, 2, none⟩ = some (.int .i64 p1) := blkc HAx.out 2
            have e3 : wr.cell? ⟨TB, 3, none⟩ = some (.int .i64 p2) := blkc HAx.out 3
            have hwr := HAb.out.size
            obtain ⟨A1, hA1⟩ : ∃ A1, A ++ withT (tx, p0, p1, p2) (gl.take j) = A1 := ⟨_, rfl⟩
            have HA1 := hidd hA1
            rw [hA1] at HAo har
            clear hA1
            go_upto_region 12 with (first | (go_at_call 38; refine (retold_any (bs tx) (bs gr) p0 p1 p2 _).mono ?_; rintro e' wq ⟨rfl, hbq⟩) | (at_builtin; refine wpList_append_own_at _ rfl _ _ 29 rfl wa.heap.size 35 i0 (.agg #[.string ⟨#[]⟩, .int .i64 0, .int .i64 0, .int .i64 0]) 4 40 Tryz.underlying29 hi0 hz0 hz1 hz2 rfl (by decide) _ _ _ rfl ((own4_below HAo.out hbq).alloc _) ⟨wq.heap.size, 0, none⟩ 1 1 [.string (bs gr), .int .i64 p0, .int .i64 p1, .int .i64 p2] rfl rfl ?c1 ?c2 ?c3 ?c4 ?c5 ?_))
            case c1 =>
              intro q u hq
              match q, hq with
              | 0, hq => simp at hq; subst hq; simp [Addr.add]
              | 1, hq => simp at hq; subst hq; simp [Addr.add]
              | 2, hq => simp at hq; subst hq; simp [Addr.add]
              | 3, hq => simp at hq; subst hq; simp [Addr.add]
              | q + 4, hq => simp at hq
            case c2 =>
              intro u hu
              simp at hu
              rcases hu with rfl | rfl | rfl | rfl <;> rfl
            case c3 => unfold maxLen; omega
            case c4 => omega
            case c5 => simp; have := hbq.size; omega
            intro v' w6 hown' hgrow hne hat
            have hTBr : TB < wr.heap.size := (Array.getElem?_eq_some_iff.1 HAx.out).1
            have hqs := hbq.size
            have hb7 : Below wr.heap.size wr (wq.alloc (.cells #[.string (bs gr), .int .i64 p0, .int .i64 p1, .int .i64 p2] 35)) := hbq.alloc hqs _
            have hO7 : (wq.alloc (.cells #[.string (bs gr), .int .i64 p0, .int .i64 p1, .int .i64 p2] 35)).ownsRow wa.heap.size 35 4 u6 A1.length (toksCells A1) := (own4_below HAo.out hbq).alloc _
            have hbl7 : b2 < wr.heap.size := hbl2
            have hat2 : v'.ownBlock = u6.ownBlock ∨ ∃ g, v'.ownBlock = some g ∧ wr.heap.size ≤ g := by
              rcases hat with h | h
              · exact Or.inl h
              · exact Or.inr ⟨_, h, by first | omega | (simp; omega)⟩
            have hfar : ∀ b, b < wr.heap.size → some b ≠ u6.ownBlock → some b ≠ v'.ownBlock := fun b hb hn => by
              rcases hat2 with h | ⟨g, h, hg⟩
              · rw [h]; exact hn
              · rw [h]; intro e; have := Option.some.inj e; omega
            have RR : Hid (w6.ownsRow wa.heap.size 35 4 v' (A ++ withT (tx, p0, p1, p2) (gl.take (j + 1))).length (toksCells (A ++ withT (tx, p0, p1, p2) (gl.take (j + 1)))) ∧ w6.heap[TB]? = some (.cells #[.string (bs tx), .int .i64 p0, .int .i64 p1, .int .i64 p2] 35) ∧ some TB ≠ v'.ownBlock ∧ HoldS w6 (some ⟨b2, off2, none⟩) gl ∧ (∀ b off, (some ⟨b2, off2, none⟩ : Option Addr) = some ⟨b, off, none⟩ → some b ≠ v'.ownBlock) ∧ Below wa.heap.size wa w6) := by
              refine ⟨?_, ?_, hfar TB hTBr HAn.out, ?_, ?_, ?_⟩
              · rw [HW.out, ← List.append_assoc, HA1.out, toksCells_snoc, show (A1 ++ [(gr, p0, p1, p2)]).length = A1.length + 1 from List.length_append]
                exact hown'
              · rw [hgrow.block TB (Nat.lt_of_lt_of_le hTBr hb7.size) HAn.out]
                exact blko HAx.out hb7
              · exact (HAh.out.below hb7).grown hgrow HAg.out
              · intro b off e
                cases e
                exact hfar b2 hbl7 (HAg.out b2 off2 rfl)
              · have h1 := HAb.out.trans (hb7.mono hwr)
                exact h1.grown hgrow h1.size (own4_block hO7)
            clear hown' hgrow hne hat hat2 hfar hO7 hb7 e0 e1 e2 e3 g1 hbq
            go_wp2_with fail
            go_roundw
            case rel => exact ⟨j + 1, by omega, by go_num, RR.out⟩
            case measure => simp [intOf]; omega
          · have HE : Hid (A ++ withT (tx, p0, p1, p2) (gl.take j) = A ++ withT (tx, p0, p1, p2) gl) := by
              show _ = _
              rw [List.take_of_length_le (by omega)]
            go_wp2_with fail
            go_roundw
            case rel => exact ⟨k + 1, _, by omega, by go_num, HAo.out, by omega, by rw [HE.out]; exact HSm.out, HAb.out⟩
            case measure => simp [intOf]; omega
      · have hcn : (gCode (bs tx) lo hi != 0) = true := by rw [bne_iff_ne]; exact hc
        have HR : Hid (gramGo lo hi [] l = ([], gCode (bs tx) lo hi)) := by show _ = _; rw [← HGo.out, HSn.out, if_neg hc]
        clear hc HSn
        generalize gCode (bs tx) lo hi = cd at *
        go_wp2_with fail
        go_ret2
        rw [HR.out]
        try rw [hB]
        exact ⟨_, rfl, World.ownsRow_nil _ _ _ _, HBa.out.trans (HBg.out.mono (by omega))⟩
    · have HE : Hid (gramGo lo hi [] l = (A, 0)) := by show _ = _; rw [← HGo.out, List.drop_of_length_le (by omega), gramGo]
      go_wp2_with fail
      go_ret2
      rw [HE.out]
      try rw [hB]
      exact ⟨_, rfl, own4_mono HO.out (by omega), HBa.out.trans (HBx.out.mono (by omega))⟩
end Go.Proofs.YtionicjnoogpjaaGreatDoor

namespace Go.Proofs.YtionicjnoogpjaaGreatDoor
open Go Go.RowKit
set_option linter.unusedVariables false
set_option maxRecDepth 100000

theorem strKeyed : Maps.Keyed Tryz.prog 9 := Maps.string_keyed Tryz.underlying9
theorem strKey (t : List UInt8) (h : t.length ≤ 1048576) : ∃ kl, keyOf Tryz.prog 9 (.string (bs t)) = some kl :=
  ⟨_, Go.WideMaps.keyOf_string_mk Tryz.underlying9 (by rw [bs_size]; unfold maxLen; omega)⟩
theorem strV_inj {t u : List UInt8} (h : Value.string (bs t) = Value.string (bs u)) : t = u := by
  simp only [Value.string.injEq] at h
  simpa [bs] using congrArg (fun z => z.data.toList) h
/-- A map of texts to values, in the order in which they came. -/
def SMap (w : World) (mb : Nat) (L : List (List UInt8 × Value)) : Prop := ∃ es clock, w.heap[mb]? = some (.map es clock) ∧ es.toList.map (fun e => (e.key, e.val)) = (L.map fun x => (Value.string (bs x.1), x.2)) ∧ ∀ x ∈ L, x.1.length ≤ 1048576
theorem SMap.keep {w w' : World} {mb : Nat} {L : List (List UInt8 × Value)} (h : SMap w mb L) (hb : w'.heap[mb]? = w.heap[mb]?) : SMap w' mb L := by
  obtain ⟨es, clock, h1, h2, hL⟩ := h
  exact ⟨es, clock, hb.trans h1, h2, hL⟩
theorem sMap_new (w : World) : SMap (w.alloc (.map #[] 0)) w.heap.size [] := ⟨#[], 0, heap_alloc_new w _, rfl, fun x hx => by simp at hx⟩
theorem SMap.lt {w : World} {mb : Nat} {L : List (List UInt8 × Value)} (h : SMap w mb L) : mb < w.heap.size := by
  obtain ⟨es, clock, h1, h2, hL⟩ := h
  exact (Array.getElem?_eq_some_iff.1 h1).1
theorem SMap.find {w : World} {mb : Nat} {L : List (List UInt8 × Value)} (h : SMap w mb L) (t : List UInt8) (ht : t.length ≤ 1048576) :
    ∃ es clock, w.heap[mb]? = some (.map es clock) ∧ es.toList.map (fun e => (e.key, e.val)) = L.map (fun x => (Value.string (bs x.1), x.2)) ∧
      (((∀ x ∈ L, x.1 ≠ t) ∧ (Instr.findKey 9 (.string (bs t)) es.toList).run Tryz.prog w = .ok none w) ∨ ∃ (j : Nat) (v : Value), L[j]? = some (t, v) ∧ (Instr.findKey 9 (.string (bs t)) es.toList).run Tryz.prog w = .ok (some (j, v)) w) := by
  obtain ⟨es, clock, h1, h2, hL⟩ := h
  refine ⟨es, clock, h1, h2, ?_⟩
  obtain ⟨kl, hkl⟩ := strKey t ht
  have at_ : ∀ (j : Nat) (e : MapEntry), es.toList[j]? = some e → ∃ x, L[j]? = some x ∧ e.key = .string (bs x.1) ∧ e.val = x.2 := by
    intro j e he
    have h3 : (es.toList.map (fun e => (e.key, e.val)))[j]? = some (e.key, e.val) := by rw [List.getElem?_map, he]; rfl
    rw [h2, List.getElem?_map] at h3
    cases hx : L[j]? with
    | none => rw [hx] at h3; cases h3
    | some l' =>
      rw [hx] at h3
      simp only [Option.map_some, Option.some.injEq, Prod.mk.injEq] at h3
      exact ⟨l', rfl, h3.1.symm, h3.2.symm⟩
  have hkeys : ∀ e ∈ es.toList, ∃ q, keyOf Tryz.prog 9 e.key = some q := by
    intro e he
    obtain ⟨j, hj⟩ := List.mem_iff_getElem?.1 he
    obtain ⟨x, h4, h5, _⟩ := at_ j e hj
    rw [h5]
    exact strKey x.1 (hL x (List.mem_of_getElem? h4))
  rcases strKeyed.find w hkl es.toList hkeys with ⟨h3, h4⟩ | ⟨j, e, h3, h4, h5⟩
  · refine Or.inl ⟨?_, h3⟩
    intro x hm htt
    obtain ⟨j, hj⟩ := List.mem_iff_getElem?.1 hm
    have h6 : (es.toList.map (fun e => (e.key, e.val)))[j]? = some (.string (bs x.1), x.2) := by rw [h2, List.getElem?_map, hj]; rfl
    rw [List.getElem?_map] at h6
    cases hx : es.toList[j]? with
    | none => rw [hx] at h6; cases h6
    | some e =>
      rw [hx] at h6
      simp only [Option.map_some, Option.some.injEq, Prod.mk.injEq] at h6
      exact h4 e (List.mem_of_getElem? hx) (by rw [h6.1, htt])
  · obtain ⟨x, h6, h7, h8⟩ := at_ j e h4
    have : x.1 = t := strV_inj (h7.symm.trans h5)
    obtain ⟨x1, x2⟩ := x
    dsimp only at this h8
    subst this
    exact Or.inr ⟨j, x2, h6, by rw [h3, h8]⟩
theorem SMap.look {w : World} {mb : Nat} {L : List (List UInt8 × Value)} (h : SMap w mb L) (t : List UInt8) (ht : t.length ≤ 1048576) (mt et : TypeId) (z : Value) (hu : Tryz.prog.underlying mt = some (.map 9 et)) (hz : ∀ w, (zeroValue et).run Tryz.prog w = .ok z w) :
    ((∀ x ∈ L, x.1 ≠ t) ∧ (Instr.lookup mt (.map (some mb)) (.string (bs t)) true).run Tryz.prog w = .ok (.tuple #[z, .bool false]) w) ∨
    ∃ (j : Nat) (v : Value), L[j]? = some (t, v) ∧ (Instr.lookup mt (.map (some mb)) (.string (bs t)) true).run Tryz.prog w = .ok (.tuple #[v, .bool true]) w := by
  obtain ⟨kl, hkl⟩ := strKey t ht
  obtain ⟨es, clock, h1, _, h3⟩ := h.find t ht
  rcases h3 with ⟨h4, h5⟩ | ⟨j, v, h4, h5⟩
  · exact Or.inl ⟨h4, by simp [Instr.lookup, run_underlying hu, MapKept.run_getObj_map h1, strKeyed.check w _ hkl, h5, hz, Result.andThen]⟩
  · exact Or.inr ⟨j, v, h4, by simp [Instr.lookup, run_underlying hu, MapKept.run_getObj_map h1, strKeyed.check w _ hkl, h5, Result.andThen]⟩
theorem SMap.put {w : World} {mb : Nat} {L : List (List UInt8 × Value)} (h : SMap w mb L) (t : List UInt8) (ht : t.length ≤ 1048576) (v : Value) (mt et : TypeId) (hu : Tryz.prog.underlying mt = some (.map 9 et)) (hn : ∀ x ∈ L, x.1 ≠ t) :
    ∃ w', (Instr.mapUpdate mt (.map (some mb)) (.string (bs t)) v).run Tryz.prog w = .ok () w' ∧ SMap w' mb (L ++ [(t, v)]) ∧ w.grownBy w' (some mb) := by
  obtain ⟨kl, hkl⟩ := strKey t ht
  obtain ⟨es, clock, h1, h2, h3⟩ := h.find t ht
  rcases h3 with ⟨h4, h5⟩ | ⟨j, v', h4, h5⟩
  · refine ⟨ChangeMaps.setBlock w mb (.map (es.push ⟨.string (bs t), v, clock⟩) (clock + 1)), ?_, ⟨_, _, ChangeMaps.heap_setBlock_same h1 _, ?_⟩, ⟨rfl, rfl, rfl, by simp [ChangeMaps.setBlock], fun i _ hi => ChangeMaps.heap_setBlock_other h1 _ (fun e => hi (by rw [e]))⟩⟩
    · simp [Instr.mapUpdate, run_underlying hu, MapKept.run_getObj_map h1, strKeyed.check w false hkl, h5, MapKept.run_setObj_map _ h1, Result.andThen, ChangeMaps.setBlock]
    · refine ⟨?_, ?_⟩
      · rw [Array.toList_push, List.map_append, h2, List.map_append]
        simp
      · intro x hx
        rcases List.mem_append.1 hx with hx | hx
        · obtain ⟨_, _, _, _, hL⟩ := h
          exact hL x hx
        · simp at hx
          rw [hx]; exact ht
  · exact absurd rfl (hn _ (List.mem_of_getElem? h4))
end Go.Proofs.YtionicjnoogpjaaGreatDoor

namespace Go.Proofs.YtionicjnoogpjaaGreatDoor
open Go Go.RowKit
set_option linter.unusedVariables false
set_option linter.unusedSimpArgs false
set_option maxRecDepth 100000

/-- The step that strikes what was told already. -/
def dedOne (o : List Tk) (k : Tk) : List Tk := if hasT (o.map fun x => x.1) k.1 = true then o else o ++ [k]
def dedT (l : List Tk) : List Tk := l.foldl dedOne []
theorem dedT_snoc (l : List Tk) (k : Nat) (h : k < l.length) : dedT (l.take (k + 1)) = dedOne (dedT (l.take k)) (l.getD k tk0) := by
  rw [dedT, List.take_succ_eq_append_getElem h, List.foldl_append, List.getD_eq_getElem?_getD, List.getElem?_eq_getElem h]
  rfl
theorem hasT_no {o : List Tk} {t : List UInt8} (h : ∀ x ∈ o.map fun x => (x.1, Value.agg #[]), x.1 ≠ t) : hasT (o.map fun x => x.1) t = false := by
  rw [hasT, List.any_eq_false]
  intro y hy
  obtain ⟨x, hx, rfl⟩ := List.mem_map.1 hy
  have := h (x.1, .agg #[]) (List.mem_map.2 ⟨x, hx, rfl⟩)
  simpa using this
theorem hasT_at {o : List Tk} {t : List UInt8} {j : Nat} {v : Value} (h : (o.map fun x => (x.1, Value.agg #[]))[j]? = some (t, v)) : hasT (o.map fun x => x.1) t = true ∧ v = .agg #[] := by
  rw [List.getElem?_map] at h
  cases hx : o[j]? with
  | none => rw [hx] at h; cases h
  | some x =>
    rw [hx] at h
    simp only [Option.map_some, Option.some.injEq, Prod.mk.injEq] at h
    refine ⟨?_, h.2.symm⟩
    rw [hasT, List.any_eq_true]
    exact ⟨x.1, List.mem_map.2 ⟨x, List.mem_of_getElem? hx, rfl⟩, by rw [beq_iff_eq]; exact h.1⟩
theorem run_makeRoom (n : Nat) (w : World) : (Instr.makeMap 155 (some (.int .i64 (n : Int)))).run Tryz.prog w = .ok (.map (some w.heap.size)) (w.alloc (.map #[] 0)) := by
  simp [Instr.makeMap, run_underlying Tryz.underlying155, asInt, asIntOf]
set_option maxHeartbeats 8000000 in
theorem withoutRep_any (aT : Option Addr) (cT : Nat) (l : List Tk) (w : World) (hT : HoldT w aT l) (hn : l.length ≤ 1048576) (hz : ∀ k, k < l.length → (l.getD k tk0).1.length ≤ 1048576) :
    Calls Tryz.prog 87 #[.slice aT l.length cT] w fun e w' => ∃ v, e = .returned (.tuple #[v, .int .i64 0]) ∧ w'.ownsRow w.heap.size 35 4 v (dedT l).length (toksCells (dedT l)) ∧ Below w.heap.size w w' := by
  obtain ⟨i0, hi0, hz0, hz1, hz2⟩ := info_parts Tryz.infoTok
  have HT := hidd hT
  have HZ := hidd hz
  clear hT hz
  go_enter Tryz.func87, Tryz.ntmps87
  have hmk := run_makeRoom l.length w
  go_wp2_with fail
  clear hmk
  have HBa : Hid (Below w.heap.size w (w.alloc (.map #[] 0))) := (Below.refl _ _).alloc (Nat.le_refl _) _
  have HM0 := hidd (sMap_new w)
  generalize hB : w.heap.size = mb at *
  have hza : (w.alloc (.map #[] 0)).heap.size = mb + 1 := by simp [hB]
  go_loopw [5, 15] (fun v i wx => ∃ k : Nat, k ≤ l.length ∧ i = .int .i64 k ∧ wx.ownsRow (mb + 1) 35 4 v (dedT (l.take k)).length (toksCells (dedT (l.take k))) ∧ (dedT (l.take k)).length ≤ k ∧ SMap wx mb ((dedT (l.take k)).map fun x => (x.1, Value.agg #[])) ∧ Below mb w wx) (fun _ i _ => l.length - (intOf i).toNat)
  case atStart => exact ⟨0, by omega, rfl, World.ownsRow_nil _ _ _ _, by simp [dedT], HM0.out, HBa.out⟩
  case round =>
    obtain ⟨k, hk, rfl, hown, hal, hmap, hbx⟩ := hrel
    have HO := hidd hown
    have HBx := hidd hbx
    have HM := hidd hmap
    have hmbr := hmap.lt
    clear hown hbx hmap HM0
    by_cases hlt : k < l.length
    · have HSn := hidd (dedT_snoc l k hlt)
      have hzk := HZ.out k hlt
      obtain ⟨b, off, rfl, hbl, hc⟩ := HT.out.resolve_left (fun h => by rw [h] at hlt; simp at hlt)
      rw [hB] at hbl
      obtain ⟨t0, t1, t2, t3⟩ := hc k hlt
      have t0 := (HBx.out.cell (p := ⟨b, off + k * 4, none⟩) hbl).trans t0
      have t1 := (HBx.out.cell (p := ⟨b, off + k * 4 + 1, none⟩) hbl).trans t1
      have t2 := (HBx.out.cell (p := ⟨b, off + k * 4 + 2, none⟩) hbl).trans t2
      have t3 := (HBx.out.cell (p := ⟨b, off + k * 4 + 3, none⟩) hbl).trans t3
      clear hc
      obtain ⟨tk, htk⟩ : ∃ tk, l.getD k tk0 = tk := ⟨_, rfl⟩
      rw [htk] at t0 t1 t2 t3 HSn hzk
      clear htk
      obtain ⟨tx, p0, p1, p2⟩ := tk
      dsimp only at t0 t1 t2 t3 HSn hzk
      generalize dedT (l.take k) = A at *
      have HMs : Hid (SMap (wr.alloc (.cells #[.string (bs tx), .int .i64 p0, .int .i64 p1, .int .i64 p2] 35)) mb (A.map fun x => (x.1, Value.agg #[]))) := HM.out.keep (Below.heap_alloc _ _ _ hmbr)
      rcases HMs.out.look tx hzk 155 156 (.agg #[]) Tryz.underlying155 Tryz.zeroValue156 with ⟨hno, hlk⟩ | ⟨j, v, hj, hlk⟩
      · have hnot := hasT_no hno
        have HE : Hid (dedT (l.take (k + 1)) = A ++ [(tx, p0, p1, p2)]) := by show _ = _; rw [HSn.out, dedOne, if_neg (by rw [hnot]; simp)]
        have hbox : (wr.alloc (.cells #[.string (bs tx), .int .i64 p0, .int .i64 p1, .int .i64 p2] 35)).heap[wr.heap.size]? = some (.cells #[.string (bs tx), .int .i64 p0, .int .i64 p1, .int .i64 p2] 35) := heap_alloc_new _ _
        have HMt : Hid (SMap ((wr.alloc (.cells #[.string (bs tx), .int .i64 p0, .int .i64 p1, .int .i64 p2] 35)).alloc (.cells #[] 156)) mb (A.map fun x => (x.1, Value.agg #[]))) := HMs.out.keep (Below.heap_alloc _ _ _ (HMs.out.lt))
        obtain ⟨w8, hput, hm8, hg8⟩ := HMt.out.put tx hzk (.agg #[]) 155 156 Tryz.underlying155 hno
        have HM8 := hidd hm8
        have HG8 := hidd hg8
        have HBox := hidd hbox
        clear hm8 hg8 hno hnot HSn hbox
        go_upto_region 9 with fail
        have HO7 : Hid (((wr.alloc (.cells #[.string (bs tx), .int .i64 p0, .int .i64 p1, .int .i64 p2] 35)).alloc (.cells #[] 156)).ownsRow (mb + 1) 35 4 u5 A.length (toksCells A)) := (HO.out.alloc _).alloc _
        have HB7 : Hid (Below mb w ((wr.alloc (.cells #[.string (bs tx), .int .i64 p0, .int .i64 p1, .int .i64 p2] 35)).alloc (.cells #[] 156))) := (HBx.out.alloc (by omega) _).alloc (by simp; omega) _
        have hbox7 : ((wr.alloc (.cells #[.string (bs tx), .int .i64 p0, .int .i64 p1, .int .i64 p2] 35)).alloc (.cells #[] 156)).heap[wr.heap.size]? = some (.cells #[.string (bs tx), .int .i64 p0, .int .i64 p1, .int .i64 p2] 35) := by
          rw [Below.heap_alloc _ _ _ (by simp)]; exact HBox.out
        have hs7 : ((wr.alloc (.cells #[.string (bs tx), .int .i64 p0, .int .i64 p1, .int .i64 p2] 35)).alloc (.cells #[] 156)).heap.size = wr.heap.size + 2 := by simp
        generalize (wr.alloc (.cells #[.string (bs tx), .int .i64 p0, .int .i64 p1, .int .i64 p2] 35)).alloc (.cells #[] 156) = w7 at *
        have hbox8 : w8.heap[wr.heap.size]? = some (.cells #[.string (bs tx), .int .i64 p0, .int .i64 p1, .int .i64 p2] 35) :=
          (HG8.out.block _ (by omega) (fun e => by have := Option.some.inj e; omega)).trans hbox7
        have e0 : w8.cell? ⟨wr.heap.size, 0, none⟩ = some (.string (bs tx)) := blkc hbox8 0
        have e1 : w8.cell? ⟨wr.heap.size, 1, none⟩ = some (.int .i64 p0) := blkc hbox8 1
        have e2 : w8.cell? ⟨wr.heap.size, 2, none⟩ = some (.int .i64 p1) := blkc hbox8 2
        have e3 : w8.cell? ⟨wr.heap.size, 3, none⟩ = some (.int .i64 p2) := blkc hbox8 3
        have HO8 : Hid (w8.ownsRow (mb + 1) 35 4 u5 A.length (toksCells A)) := own4_but HO7.out (X := fun b => b = mb) ⟨HG8.out.os, HG8.out.tape, HG8.out.output, HG8.out.size, fun b hb hn => HG8.out.block b hb (fun e => hn (Option.some.inj e))⟩ (fun b e h => by have := own4_block HO7.out b e; omega)
        have HB8 : Hid (Below mb w w8) := HB7.out.grown HG8.out (by omega) (fun k e => by cases e; exact Nat.le_refl _)
        have h8s := HG8.out.size
        clear hbox7 hbox8 t0 t1 t2 t3 hput hlk HBox
        go_upto_region 10 with (at_builtin; refine wpList_append_own_at _ rfl _ _ 29 rfl (mb + 1) 35 i0 (.agg #[.string ⟨#[]⟩, .int .i64 0, .int .i64 0, .int .i64 0]) 4 40 Tryz.underlying29 hi0 hz0 hz1 hz2 rfl (by decide) _ _ _ rfl (HO8.out.alloc _) ⟨w8.heap.size, 0, none⟩ 1 1 [.string (bs tx), .int .i64 p0, .int .i64 p1, .int .i64 p2] rfl rfl ?c1 ?c2 ?c3 ?c4 ?c5 ?_)
        case c1 =>
          intro q u hq
          match q, hq with
          | 0, hq => simp at hq; subst hq; simp [Addr.add]
          | 1, hq => simp at hq; subst hq; simp [Addr.add]
          | 2, hq => simp at hq; subst hq; simp [Addr.add]
          | 3, hq => simp at hq; subst hq; simp [Addr.add]
          | q + 4, hq => simp at hq
        case c2 =>
          intro u hu
          simp at hu
          rcases hu with rfl | rfl | rfl | rfl <;> rfl
        case c3 => unfold maxLen; omega
        case c4 => omega
        case c5 => simp; omega
        intro v' w9 hown' hgrow hne hat
        have hO9 : (w8.alloc (.cells #[.string (bs tx), .int .i64 p0, .int .i64 p1, .int .i64 p2] 35)).ownsRow (mb + 1) 35 4 u5 A.length (toksCells A) := HO8.out.alloc _
        have RR : Hid (w9.ownsRow (mb + 1) 35 4 v' (dedT (l.take (k + 1))).length (toksCells (dedT (l.take (k + 1)))) ∧ (dedT (l.take (k + 1))).length ≤ k + 1 ∧ SMap w9 mb ((dedT (l.take (k + 1))).map fun x => (x.1, Value.agg #[])) ∧ Below mb w w9) := by
          rw [HE.out]
          refine ⟨?_, by rw [List.length_append]; simp; omega, ?_, ?_⟩
          · rw [toksCells_snoc, show (A ++ [(tx, p0, p1, p2)]).length = A.length + 1 from List.length_append]
            exact hown'
          · rw [List.map_append]
            refine HM8.out.keep ?_
            rw [hgrow.block mb (by simp; omega) (own4_low hO9 (by omega)), Below.heap_alloc _ _ _ (by omega)]
          · exact (HB8.out.alloc (by omega) _).grown hgrow (by simp; omega) (fun k e => by have := own4_block hO9 k e; omega)
        clear hown' hgrow hne hat hO9 e0 e1 e2 e3
        go_wp2_with fail
        go_roundw
        case rel => exact ⟨k + 1, by omega, by go_num, RR.out⟩
        case measure => simp [intOf]; omega
      · obtain ⟨hyes, rfl⟩ := hasT_at hj
        have HE : Hid (dedT (l.take (k + 1)) = A) := by show _ = _; rw [HSn.out, dedOne, if_pos hyes]
        clear hj hyes HSn
        go_wp2_with fail
        go_roundw
        case rel => 
          refine ⟨k + 1, by omega, by go_num, ?_, ?_, ?_, (HBx.out.alloc (by omega) _).alloc (by simp; omega) _⟩
          · rw [HE.out]; exact (HO.out.alloc _).alloc _
          · rw [HE.out]; omega
          · rw [HE.out]; exact HMs.out.keep (Below.heap_alloc _ _ _ (HMs.out.lt))
        case measure => simp [intOf]; omega
    · have HE : Hid (dedT (l.take k) = dedT l) := by show _ = _; rw [List.take_of_length_le (by omega)]
      go_wp2_with fail
      go_ret2
      rw [← HE.out]
      try rw [hB]
      exact ⟨_, rfl, own4_mono HO.out (by omega), HBx.out⟩
end Go.Proofs.YtionicjnoogpjaaGreatDoor

namespace Go.Proofs.YtionicjnoogpjaaGreatDoor
open Go Go.RowKit
set_option linter.unusedVariables false
set_option maxRecDepth 100000

theorem HoldY.but {X : Nat → Prop} {w w' : World} {a : Option Addr} {l : List (List UInt8 × List UInt8)} (h : HoldY w a l) (hb : But X w w') (hx : ∀ b off, a = some ⟨b, off, none⟩ → ¬ X b) : HoldY w' a l := by
  rcases h with h | ⟨b, off, h1, h2, h3⟩
  · exact Or.inl h
  · exact Or.inr ⟨b, off, h1, Nat.lt_of_lt_of_le h2 hb.size, fun t ht => ⟨(hb.cell (p := ⟨b, off + t * 2, none⟩) h2 (hx b off h1)).trans (h3 t ht).1, (hb.cell (p := ⟨b, off + t * 2 + 1, none⟩) h2 (hx b off h1)).trans (h3 t ht).2⟩⟩
/-- A new row is one of those that the steps may write. -/
theorem ownX_new {wc W w' : World} {X : Nat → Prop} {v' : Value} {l' : List Tk} (hb : But X wc W) (ho : w'.ownsRow W.heap.size 35 4 v' l'.length (toksCells l')) (hw : Below W.heap.size W w') : OwnX wc X w' v' l' ∧ But X wc w' :=
  ⟨⟨own4_mono ho (Nat.zero_le _), fun b e => Or.inr (Nat.le_trans hb.size (own4_block ho b e))⟩, hb.trans (But.of_below (X := X) hw) (fun _ _ h => h) (fun _ _ h => h)⟩
theorem synStepC {wc : World} {X : Nat → Prop} (fo st ph : Bool) (aS aY : Option Addr) (cS cY nS : Nat) (lo hi : Int) (syns : List (List UInt8 × List UInt8)) (hY : HoldY wc aY syns) (hX : syns = [] ∨ ∀ b off, aY = some ⟨b, off, none⟩ → ¬ X b) (hnY : syns.length ≤ 64) (zY : ∀ k, k < syns.length → (syns.getD k ([], [])).2.length ≤ 64) :
    StepC 82 #[.agg #[.bool fo, .bool st, .bool ph, .slice aS nS cS, .slice aY syns.length cY, .int .i64 lo, .int .i64 hi]] #[] wc X (fun l => l.length ≤ 8192) (fun l => (synStep syns l, 0)) := by
  intro W v l hb ho hP
  obtain ⟨aT, cT, rfl, hT, _⟩ := holdT_row ho.1
  refine (withSyn_any fo st ph aS aY aT cS cY cT nS syns lo hi l W (by rcases hX with h0 | hX; exact Or.inl h0; exact hY.but hb hX) hT hP hnY zY).mono ?_
  rintro e w' ⟨v', rfl, h1, h2⟩
  exact ⟨v', rfl, ownX_new hb h1 h2⟩
theorem gramStepC {wc : World} {X : Nat → Prop} (fo st ph : Bool) (vS vY : Value) (lo hi : Int) (hT : ∀ W, But X wc W → Tabs W) :
    StepC 85 #[.agg #[.bool fo, .bool st, .bool ph, vS, vY, .int .i64 lo, .int .i64 hi]] #[] wc X (szT 65) (fun l => gramGo lo hi [] l) := by
  intro W v l hb ho hP
  obtain ⟨aT, cT, rfl, hH, _⟩ := holdT_row ho.1
  refine (withGrams_any fo st ph vS vY aT cT lo hi l W (hT W hb) hH hP.1 hP.2).mono ?_
  rintro e w' ⟨v', rfl, h1, h2⟩
  exact ⟨v', rfl, ownX_new hb h1 h2⟩
theorem repStepC {wc : World} {X : Nat → Prop} : StepC 87 #[] #[] wc X (szT 1048576) (fun l => (dedT l, 0)) := by
  intro W v l hb ho hP
  obtain ⟨aT, cT, rfl, hH, _⟩ := holdT_row ho.1
  refine (withoutRep_any aT cT l W hH hP.1 hP.2).mono ?_
  rintro e w' ⟨v', rfl, h1, h2⟩
  exact ⟨v', rfl, ownX_new hb h1 h2⟩
set_option maxHeartbeats 2000000 in
theorem eachText_any (h : FuncId) (w : World) :
    Calls Tryz.prog 79 #[.func (.func h) #[] #[]] w fun e w' => e = .returned (.func (.func 120) #[] #[.pointer (some ⟨w.heap.size, 0, none⟩)]) ∧ w' = w.alloc (.cells #[.func (.func h) #[] #[]] 66) := by
  go_enter Tryz.func79, Tryz.ntmps79
  go_wp2_with fail
  go_returns
  exact ⟨rfl, rfl⟩
/-! What the chains do. -/
def idG (l : List Tk) : List Tk × Int := (l, 0)
def synG (syns : List (List UInt8 × List UInt8)) (l : List Tk) : List Tk × Int := (synStep syns l, 0)
def mapG (T : List UInt8 → List UInt8) (l : List Tk) : List Tk × Int := (mapTx T l, 0)
def longG (l : List Tk) : List Tk × Int := (l.filter fun x => !decide (64 < x.1.length), 0)
def dedG (l : List Tk) : List Tk × Int := (dedT l, 0)
def stopG (stops : List (List UInt8)) (l : List Tk) : List Tk × Int := (l.filter fun x => !hasT stops x.1, 0)
def optG (b : Bool) (G H : List Tk → List Tk × Int) : List Tk → List Tk × Int := if b = true then thenG G H else H
def wordG (fo : Bool) (stops : List (List UInt8)) : List Tk → List Tk × Int := optG fo (mapG foldL) (thenG (stopG stops) idG)
def termG (st ph : Bool) (syns : List (List UInt8 × List UInt8)) (lo hi : Int) : List Tk → List Tk × Int :=
  thenG (synG syns) (optG st (mapG stemW) (optG ph (mapG (phoneIf true)) (optG (lo != 0) (gramGo lo hi []) (thenG longG (thenG dedG idG)))))
end Go.Proofs.YtionicjnoogpjaaGreatDoor
