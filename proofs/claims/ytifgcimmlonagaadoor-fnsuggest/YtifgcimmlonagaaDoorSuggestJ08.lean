import Derived.Test.YtifgcimmlonagaaDoorSuggestJ07
namespace Go.Proofs.YtifgcimmlonagaaDoor
open Go Go.RowKit Go.Shelf
set_option linter.unusedVariables false
set_option maxRecDepth 100000
set_option linter.unusedSimpArgs false

attribute [local go_sem] Oper.semAt_some
/-- What the first loop has kept. -/
structure KpInv (w : World) (F : List NW) (most k : Nat) (W : World) (v : Value) (H D : List NW) : Prop where
  fr : Below w.heap.size w W
  vh : W.heap[w.heap.size + 1]? = some (.cells #[.pointer (some ⟨w.heap.size, 0, none⟩)] 79)
  hp : HpAt W w.heap.size w.heap.size v H
  heap : Heap gtW nw0 H H.length
  kept : Kept gtW (F.take k) H D
  len : H.length = min k most
  none : k ≤ most → D = []
theorem KpInv.vne {w : World} {F : List NW} {most k : Nat} {W : World} {v : Value} {H D : List NW} (h : KpInv w F most k W v H D) : v.ownBlock ≠ some (w.heap.size + 1) := by
  intro e
  obtain ⟨_, cur, hc⟩ := own_blk h.hp.row e
  exact blk_ne h.vh hc (by decide) rfl
theorem KpInv.move {w : World} {F : List NW} {most k : Nat} {W W' : World} {v v' : Value} {H D H' D' : List NW} (h : KpInv w F most k W v H D) (hm : Mv w.heap.size W v W' v') (hp : HpAt W' w.heap.size w.heap.size v' H') (hh : Heap gtW nw0 H' H'.length) (k' : Nat) (hk : Kept gtW (F.take k') H' D') (hl : H'.length = min k' most) (hn : k' ≤ most → D' = []) : KpInv w F most k' W' v' H' D' := by
  refine ⟨?_, ?_, hp, hh, hk, hl, hn⟩
  · refine h.fr.trans ⟨hm.but.os, hm.but.tape, hm.but.output, hm.but.size, fun i hi => hm.but.block i (by have := h.fr.size; omega) (fun e => ?_)⟩
    rcases e with e | e
    · omega
    · have := (h.hp.row.lt i e).1; omega
  · refine (hm.but.block _ (Array.getElem?_eq_some_iff.1 h.vh).1 (fun e => ?_)).trans h.vh
    rcases e with e | e
    · omega
    · exact h.vne e
theorem made_nw (N : Nat) : (madeCells #[Value.int .i64 0, .string ⟨#[]⟩] (N * 2)).toList = nwCells (List.replicate N nw0) := by
  unfold madeCells
  rw [Array.toList_map, Array.toList_range]
  induction N with
  | zero => rfl
  | succ N ih =>
    rw [List.replicate_succ', nwCells_snoc, ← ih, show (N + 1) * 2 = N * 2 + 1 + 1 by omega, List.range_succ, List.range_succ, List.map_append, List.map_append, List.append_assoc]
    congr 1
    simp only [List.map_cons, List.map_nil, List.cons_append, List.nil_append]
    have e1 : N * 2 % #[Value.int .i64 0, .string ⟨#[]⟩].size = 0 := by simp
    have e2 : (N * 2 + 1) % #[Value.int .i64 0, .string ⟨#[]⟩].size = 1 := by simp
    rw [e1, e2]
    rfl
set_option maxHeartbeats 8000000 in
theorem firstOf_any (F : List NW) (s : Option Addr) (cap most : Nat) (w : World) (hF : HoldN w s F) (hl : F.length ≤ 4096) (hms : most ≤ 20) (R : List NW) (hR : R.Perm F) (hRs : Srt gtW R) :
    Calls Tryd.prog 30 #[.slice s F.length cap, .int .i64 (most : Int), cmpV] w fun e w' => ∃ v, e = .returned v ∧ w'.ownsRow w.heap.size 59 2 v (R.take most).length (nwCells (R.take most)) ∧ Below w.heap.size w w' := by
  have HF := hidd hF
  have HRp := hidd hR
  have HRs := hidd hRs
  clear hF hR hRs
  have HI0 : Hid (KpInv w F most 0 ((w.alloc (.cells #[.slice none 0 0, cmpV] 81)).alloc (.cells #[.pointer (some ⟨w.heap.size, 0, none⟩)] 79)) (.slice none 0 0) [] []) := by
    have hb := box_two w (.cells #[.slice none 0 0, cmpV] 81) (.cells #[.pointer (some ⟨w.heap.size, 0, none⟩)] 79)
    exact ⟨((Below.refl _ w).alloc (Nat.le_refl _) _).alloc (by simp) _, hb.2, ⟨hb.1, World.ownsRow_nil _ _ _ _⟩, heap_nil _ _, ⟨by simp, fun x hx => by cases hx⟩, by simp, fun _ => rfl⟩
  unfold cmpV at *
  refine (callsIn_wide (n := 4)).1 ?_
  refine callsIn_of_wp_marks Tryd.func30 rfl trivial ?_ rfl
  simp only [Tryd.ntmps30, List.size_toArray, List.length_cons, List.length_nil, Nat.reduceAdd, Nat.reduceSub, Array.replicate_succ, Array.replicate_zero, List.push_toArray, List.append_toArray, List.nil_append, List.cons_append]
  refine wpIn_wide.2 ?_
  go_wp2_with fail
  go_loopw [17] (fun kv wr => ∃ (k : Nat) (v : Value) (H D : List NW), k ≤ F.length ∧ kv = .int .i64 (k : Int) ∧ KpInv w F most k wr v H D) (fun kv _ => F.length - (intOf kv).toNat)
  case atStart => exact ⟨0, _, _, _, Nat.zero_le _, rfl, HI0.out⟩
  case round =>
    obtain ⟨k, v, H, D, hk, rfl, hinv⟩ := hrel
    clear HI0
    have HI := hidd hinv
    have hlen := hinv.len
    have hfs := hinv.fr.size
    have c7 := blkc hinv.vh 0
    simp only [List.getElem?_toArray, List.getElem?_cons_zero] at c7
    have h1l : w.heap.size + 1 < wr.heap.size := (Array.getElem?_eq_some_iff.1 hinv.vh).1
    by_cases hlt : k < F.length
    · have hltz : (k : Int) < (F.length : Int) := by omega
      obtain ⟨b, off, rfl, hbl, hc⟩ := HF.out.resolve_left (fun h => by rw [h] at hlt; simp at hlt)
      obtain ⟨x0, x1⟩ := hc k hlt
      have y0 := (hinv.fr.cell (p := ⟨b, off + k * 2, none⟩) hbl).trans x0
      have y1 := (hinv.fr.cell (p := ⟨b, off + k * 2 + 1, none⟩) hbl).trans x1
      obtain ⟨x, hx⟩ : ∃ x, F.getD k nw0 = x := ⟨_, rfl⟩
      rw [hx] at y0 y1
      have Htk : Hid (F.take (k + 1) = F.take k ++ [x]) := by
        show _ = _
        rw [List.take_succ_eq_append_getElem hlt, ← hx, List.getD_eq_getElem?_getD, List.getElem?_eq_getElem hlt]
        rfl
      have HPu : Hid (∀ W, Below wr.heap.size wr W → Calls Tryd.prog 49 #[hpI w.heap.size, .iface 59 (.agg #[.int .i64 (x.1 : Int), .string (bs x.2)])] W fun e w' => e = .returned (.tuple #[]) ∧ ∃ v' H', H'.Perm (H ++ [x]) ∧ Heap gtW nw0 H' H'.length ∧ HpAt w' w.heap.size w.heap.size v' H' ∧ Mv w.heap.size wr v w' v') := by
        intro W hW
        refine (heapPush_any W w.heap.size w.heap.size v H x (by omega) (by have := hW.size; omega) HI.out.heap (HI.out.hp.below hW)).mono ?_
        rintro e w' ⟨rfl, v', H', q1, q2, q3, q4⟩
        exact ⟨rfl, v', H', q1, q2, q3, (Mv.of_below hW).trans q4⟩
      clear hx x0 x1 hc hinv
      generalize (x.1 : Int) = z at *
      generalize bs x.2 = t at *
      have hB0 : Below wr.heap.size wr (wr.alloc (.cells #[.int .i64 z, .string t] 59)) := (Below.refl _ _).alloc (Nat.le_refl _) _
      have HPu1 := hidd (HPu.out _ hB0)
      clear hB0 HPu
      go_wp2_with fail
      refine HPu1.out.mono ?_
      rintro e w2 ⟨rfl, v2, H2, q1, q2, q3, q4⟩
      have hl2 : H2.length = H.length + 1 := by rw [q1.length_eq]; simp
      have HQ1 := hidd q1
      have HQ2 := hidd q2
      have HQ3 := hidd q3
      have HQ4 := hidd q4
      have hvh2 : w2.heap[w.heap.size + 1]? = some (.cells #[.pointer (some ⟨w.heap.size, 0, none⟩)] 79) := (q4.but.block _ h1l (fun e => by
        rcases e with e | e
        · omega
        · exact HI.out.vne e)).trans HI.out.vh
      have c8 : w2.cell? ⟨w.heap.size + 1, 0, none⟩ = some (.pointer (some ⟨w.heap.size, 0, none⟩)) := blkc hvh2 0
      have HLn := hidd (hlen_any w2 _ _ v2 H2 q3)
      clear q1 q2 q3 q4 hvh2 HPu1 y0 y1 c7
      by_cases hkm : k < most
      · have hn2 : H2.length = k + 1 := by omega
        rw [hn2] at HLn
        have hgt : ¬ (((k + 1 : Nat) : Int) > (most : Int)) := by omega
        have HN : Hid (KpInv w F most (k + 1) w2 v2 H2 D) := by
          have hD := HI.out.none (by omega)
          refine HI.out.move HQ4.out HQ3.out HQ2.out (k + 1) ?_ (by omega) (fun _ => hD)
          rw [Htk.out]
          exact HI.out.kept.add hD HQ1.out
        clear HQ1 HQ2 HQ3 HQ4 hn2
        go_wp2_with fail
        refine HLn.out.mono ?_
        rintro e w3 ⟨rfl, hw3⟩
        obtain rfl := hw3.symm
        go_wp2_with fail
        go_roundw
        case rel => exact ⟨k + 1, v2, H2, D, by omega, by go_num, HN.out⟩
        case measure => simp [intOf]; omega
      · have hn2 : H2.length = most + 1 := by omega
        have HPo := hidd (heapPop_any w2 _ _ v2 H2 most hn2 (by omega) HQ2.out HQ3.out)
        rw [hn2] at HLn
        have hgt : (((most + 1 : Nat) : Int) > (most : Int)) := by omega
        go_wp2_with fail
        refine HLn.out.mono ?_
        rintro e w3 ⟨rfl, hw3⟩
        obtain rfl := hw3.symm
        go_wp2_with fail
        refine HPo.out.mono ?_
        rintro e w4 ⟨m, rfl, r1, v4, H4, r2, r3, r4, r5, r6, r7⟩
        have HN : Hid (KpInv w F most (k + 1) w4 v4 H4 (m :: D)) := by
          refine HI.out.move (HQ4.out.trans r6) r5 r4 (k + 1) ?_ (by omega) (fun h => by omega)
          rw [Htk.out]
          exact HI.out.kept.drop gtW_ord (r2.trans HQ1.out) (fun y hy => r1 y (HQ1.out.mem_iff.2 hy))
        clear r1 r2 r3 r4 r5 r6 r7 HQ1 HQ2 HQ3 HQ4 hn2
        go_wp2_with fail
        go_roundw
        case rel => exact ⟨k + 1, v4, H4, m :: D, by omega, by go_num, HN.out⟩
        case measure => simp [intOf]; omega
    · have hltz : ¬ (k : Int) < (F.length : Int) := by omega
      obtain rfl : k = F.length := by omega
      have HLn := hidd (hlen_any wr _ _ v H hinv.hp)
      have hN20 : H.length ≤ 20 := by omega
      clear hinv
      go_wp2_with fail
      refine HLn.out.mono ?_
      rintro e w3 ⟨rfl, hw3⟩
      obtain rfl := hw3.symm
      obtain ⟨i0, hi, hz0, hz1, hz2⟩ := info_parts Tryd.infoNW
      obtain ⟨N, hN⟩ : ∃ N, H.length = N := ⟨_, rfl⟩
      rw [hN] at hN20 ⊢
      have HN := hidd hN
      clear hN hlen
      go_wp2_with (at_make; refine wpList_make_full _ rfl _ _ 49 rfl w.heap.size 59 i0 (.agg #[.int .i64 0, .string ⟨#[]⟩]) 2 Tryd.underlying49 hi hz0 hz1 _ _ _ _ N rfl rfl (by omega) (by omega) ?b2 ?b3 hfs ?_)
      case b2 => (first | omega | (rw [hz2]; omega))
      case b3 => unfold maxLen; omega
      intro w5 hown5 hgrow5
      obtain ⟨g, hg⟩ : ∃ g, wr.heap.size = g := ⟨_, rfl⟩
      have hgl : g < w5.heap.size := by rw [← hg]; exact (hown5.lt _ rfl).2
      have HB5 : Hid (Below wr.heap.size wr w5) := (Below.refl _ _).grown hgrow5 (Nat.le_refl _) (fun k h => by cases h)
      have HO5 : Hid (w5.ownsRow w.heap.size 59 2 (.slice (some ⟨g, 0, none⟩) N N) N (nwCells (List.replicate N nw0))) := by
        rw [made_nw N, hg] at hown5
        exact hown5
      rw [hg] at h1l hfs ⊢
      have Hg := hidd hg
      clear hown5 hgrow5 hg
      go_wp2_with fail
      refine (backF_any _ _ _ _).mono ?_
      rintro e w7 ⟨rfl, hw7⟩
      have hb7 := box_two w5 (.cells #[.slice (some ⟨g, 0, none⟩) N N] 49) (.cells #[.slice (some ⟨g, 0, none⟩) N N] 49)
      have HB7 : Hid (Below w5.heap.size w5 w7) := by rw [hw7]; exact ((Below.refl _ _).alloc (Nat.le_refl _) _).alloc (by simp) _
      have hz7 : w7.heap.size = w5.heap.size + 2 := by rw [hw7]; simp
      rw [← hw7] at hb7
      have Hb7 := hidd hb7
      clear hb7 hw7
      simp only [World.size_alloc] at *
      have hI7 : FoInv w w.heap.size w7.heap.size w.heap.size (w.heap.size + 1) w5.heap.size (w5.heap.size + 1) g N v.ownBlock H N w7 := by
        have hB57 : Below wr.heap.size wr w7 := HB5.out.trans (HB7.out.mono HB5.out.size)
        refine ⟨HI.out.fr.trans (hB57.mono HI.out.fr.size), Nat.le_refl _, blko HI.out.vh hB57, Hb7.out.1, Hb7.out.2, v, H, [], HI.out.hp.below hB57, rfl, HI.out.heap, HN.out, Nat.le_refl _, by simp, List.Pairwise.nil, fun x _ y hy => (by cases hy), ?_⟩
        rw [List.append_nil]
        exact own_congr HO5.out fun b e => by
          have e2 : g = b := Option.some.inj e
          subst e2
          exact HB7.out.block _ hgl
      have HI7 := hidd hI7
      have hvl : ∀ b, v.ownBlock = some b → w.heap.size ≤ b ∧ b < g := fun b e => by have := HI.out.hp.row.lt b e; rw [Hg.out] at this; exact this
      have Hvl := hidd hvl
      have Hvn := hidd HI.out.vne
      have hgw : w.heap.size + 1 < g := h1l
      have hvp : v.ownBlock ≠ some w.heap.size := HI.out.hp.ne
      have Hvp := hidd hvp
      have hbl7 : w5.heap.size + 2 = w7.heap.size := hz7.symm
      clear hI7 hvl hvp hz7
      go_wp2_with fail
      refine (wpIn_wide (n := 4)).1 ?_
      apply range_inv (gf := 67) (lb := #[.pointer (some ⟨w5.heap.size + 1, 0, none⟩)]) (I := FoInv w w.heap.size w7.heap.size w.heap.size (w.heap.size + 1) w5.heap.size (w5.heap.size + 1) g N v.ownBlock H) (live := fun c => 0 < c ∧ c ≤ N) (args := fun c => #[.int .i64 ((c - 1 : Nat) : Int), .agg #[.int .i64 0, .string ⟨#[]⟩]]) (next := fun c => c - 1) (x0 := N) (xN := 0)
      case hassign =>
        intro l m x Wx K hK
        gi_wp2
        exact hK
      case hg => rfl
      case eg => exact enters_of Tryd.func67 (by kernel_rfl) rfl
      case hps => intro x; rfl
      case hput =>
        intro x Wx o hI
        refine hI.keep ⟨hI.fr.os, hI.fr.tape, hI.fr.output, by simpa using hI.fr.size, fun b hb => (World.putObj_heap_other (by omega)).trans (hI.fr.block b hb)⟩ (by simpa using hI.sz) (fun b hb => World.putObj_heap_other ?_)
        rcases hb with rfl | rfl | rfl | rfl | rfl | hb
        · omega
        · omega
        · omega
        · omega
        · omega
        · have := Hvl.out b hb; omega
      case h0 =>
        intro Wx hbx hszx
        exact HI7.out.keep (HI7.out.fr.trans (hbx.mono HI7.out.fr.size)) (by omega) (fun b hb => hbx.block b (by
          rcases hb with rfl | rfl | rfl | rfl | rfl | hb
          · omega
          · omega
          · omega
          · omega
          · omega
          · have := Hvl.out b hb; omega))
      case hit =>
        intro r Wx hbx hy hI hrec
        refine (backN_any 3 (by omega) (w7.heap.size + 1) (w5.heap.size + 1) g N N (by omega) (fun c Wy => FoInv w w.heap.size w7.heap.size w.heap.size (w.heap.size + 1) w5.heap.size (w5.heap.size + 1) g N v.ownBlock H c Wy ∧ RecAt w7.heap.size r Wy) ?_ ?_ Wx ⟨hI, hrec⟩).mono ?_
        · rintro c Wy ⟨h1, h2⟩
          exact ⟨blkc h1.vk 0, h1.zero⟩
        · rintro c Wy hc ⟨h1, h2⟩
          exact hy 2 (c + 1) Wy ⟨by omega, by omega⟩ h1 h2
        · rintro e Wy ⟨h1, h2, h3⟩
          exact ⟨h1, h2, h3⟩
      case hbody =>
        rintro m c Wx ⟨hc0, hc1⟩ hI hszx hrec hdf
        obtain ⟨x, rfl⟩ : ∃ x, c = x + 1 := ⟨c - 1, by omega⟩
        simp only [Nat.add_sub_cancel]
        have hId : FoInv w w.heap.size w7.heap.size w.heap.size (w.heap.size + 1) w5.heap.size (w5.heap.size + 1) g N v.ownBlock H (x + 1) Wx.drew := hI.keep hI.fr.drew hI.sz (fun _ _ => rfl)
        obtain ⟨v1, G, T, h1, h2, h3, h4, h5, h6, h7, h8, h9⟩ := hId.hp
        have HPo := hidd (heapPop_any Wx.drew _ _ v1 G x h4 (by omega) h3 h1)
        have HNx : Hid (∀ (W2 : World) (m : NW) (v2 : Value) (G2 : List NW), (∀ y ∈ G, gtW y m = false) → (G2 ++ [m]).Perm G → G2.length = x → Heap gtW nw0 G2 G2.length → HpAt W2 w.heap.size w.heap.size v2 G2 → Mv w.heap.size Wx.drew v1 W2 v2 → v2.ownBlock = v1.ownBlock → _) :=
          fun W2 m v2 G2 q1 q2 q3 q4 q5 q6 q7 => FoInv.next hId h4 h6 h7 h8 h9 h2 hc1 q1 q2 q3 q4 q5 q6 q7 (Nat.le_refl _) (by omega) (by omega) (by omega) (by omega) Hvn.out (fun e => by have := Hvl.out _ e; omega) (fun e => by have := Hvl.out _ e; omega) (fun e => by have := Hvl.out _ e; omega) (by omega) (by omega) (by omega) (by omega) (fun b e => (Hvl.out b e).1)
        have k7 : Wx.cell? ⟨w.heap.size + 1, 0, none⟩ = some (.pointer (some ⟨w.heap.size, 0, none⟩)) := blkc hI.vh 0
        have k10 : Wx.cell? ⟨w5.heap.size, 0, none⟩ = some (.slice (some ⟨g, 0, none⟩) N N) := blkc hI.vf 0
        have hxN : (x : Int) < (N : Int) := by omega
        have hmix : Tryd.prog.follows .mixedOrders = true := by kernel_rfl
        have Hh2 := hidd h2
        clear h1 h2 h3 h4 h5 h6 h7 h8 h9 hId
        obtain ⟨z0, z1⟩ := hI.zero x (by omega)
        have hfz : ∀ k, Wx.frozen? ⟨g, k, none⟩ = false := by
          obtain ⟨v', G', T', _, _, _, _, _, _, _, _, k9⟩ := hI.hp
          exact own2_frozen k9
        have hgx : g < Wx.heap.size := by have := hI.sz; omega
        have hsx := hI.sz
        have HC : Hid (Calls Tryd.prog 51 #[hpI w.heap.size] Wx.drew fun e W2 => ∃ m : NW, e = .returned (.iface 59 (.agg #[.int .i64 (m.1 : Int), .string (bs m.2)])) ∧
            W2.cell? ⟨w.heap.size + 1, 0, none⟩ = some (.pointer (some ⟨w.heap.size, 0, none⟩)) ∧ W2.cell? ⟨w5.heap.size, 0, none⟩ = some (.slice (some ⟨g, 0, none⟩) N N) ∧ W2.cell? ⟨g, x * 2, none⟩ = some (.int .i64 0) ∧ W2.cell? ⟨g, x * 2 + 1, none⟩ = some (.string ⟨#[]⟩) ∧ W2.frozen? ⟨g, x * 2, none⟩ = false ∧ W2.frozen? ⟨g, x * 2 + 1, none⟩ = false ∧
            Hid (FoInv w w.heap.size w7.heap.size w.heap.size (w.heap.size + 1) w5.heap.size (w5.heap.size + 1) g N v.ownBlock H x ((W2.setCell ⟨g, x * 2, none⟩ (.int .i64 (m.1 : Int))).setCell ⟨g, x * 2 + 1, none⟩ (.string (bs m.2))) ∧
              ((W2.setCell ⟨g, x * 2, none⟩ (.int .i64 (m.1 : Int))).setCell ⟨g, x * 2 + 1, none⟩ (.string (bs m.2))).heap[w7.heap.size]? = Wx.heap[w7.heap.size]? ∧ ((W2.setCell ⟨g, x * 2, none⟩ (.int .i64 (m.1 : Int))).setCell ⟨g, x * 2 + 1, none⟩ (.string (bs m.2))).heap[w7.heap.size + 1]? = Wx.heap[w7.heap.size + 1]?)) := by
          refine HPo.out.mono ?_
          rintro e W2 ⟨m, rfl, q1, v2, G2, q2, q3, q4, q5, q6, q7⟩
          have hz := HNx.out W2 m v2 G2 q1 q2 q3 q4 q5 q6 q7
          have bk : ∀ b, b < Wx.heap.size → b ≠ w.heap.size → v.ownBlock ≠ some b → W2.heap[b]? = Wx.heap[b]? := fun b hb n1 n2 => q6.but.block b hb (fun e => by
            rcases e with e | e
            · exact n1 e
            · rw [Hh2.out] at e; exact n2 e)
          have b1 := bk (w.heap.size + 1) (by omega) (by omega) Hvn.out
          have b2 := bk w5.heap.size (by omega) (by omega) (fun e => by have := Hvl.out _ e; omega)
          have b3 := bk g hgx (by omega) (fun e => by have := Hvl.out _ e; omega)
          refine ⟨m, rfl, (World.cell?_of_block b1).trans k7, (World.cell?_of_block b2).trans k10, (World.cell?_of_block b3).trans z0, (World.cell?_of_block b3).trans z1, (World.frozen?_of_block b3).trans (hfz _), (World.frozen?_of_block b3).trans (hfz _), hz.1, ?_, ?_⟩
          · exact hz.2 w7.heap.size (by show _ < Wx.heap.size; omega) (by omega) (by omega) (fun e => by have := Hvl.out _ e; omega)
          · exact hz.2 (w7.heap.size + 1) (by show _ < Wx.heap.size; omega) (by omega) (by omega) (fun e => by have := Hvl.out _ e; omega)
        clear HPo HNx hfz z0 z1 hI hrec hdf
        gi_wp2
        refine region_round (S := fun w' => w'.cell? ⟨w.heap.size + 1, 0, none⟩ = some (.pointer (some ⟨w.heap.size, 0, none⟩)) ∧ w'.cell? ⟨w5.heap.size, 0, none⟩ = some (.slice (some ⟨g, 0, none⟩) N N)) hmix (by kernel_rfl) ?lo ⟨k7, k10⟩ (fun hHeld => ?go)
        case lo =>
          rintro ⟨_, _, h, _⟩
          cases h
        case go =>
          refine tkX 0 (h := ?_)
          refine tkX 1 (h := ?_)
          refine tkX 2 (h := ?_)
          refine tkX 3 (h := ?_)
          (simp only [Act.put, List.getElem_toArray, List.getElem_cons_succ, List.getElem_cons_zero, List.setIfInBounds_toArray, List.set_cons_zero, List.set_cons_succ])
          refine wpAnyH_ready (rs := [4]) (by kernel_rfl) (by simp) ?_
          refine AllReadyH.cons rfl (fun K hK => ?_) AllReadyH.nil
          go_simp
          refine HC.out.mono ?_
          rintro e W2 ⟨m, rfl, y1, y2, y3, y4, y5, y6, HZ⟩
          dsimp only
          refine hK.out _ _ ⟨y1, y2⟩ (fun hHeld1 => ?_)
          clear hK K
          (try simp only [Act.put, List.getElem_toArray, List.getElem_cons_succ, List.getElem_cons_zero, List.setIfInBounds_toArray, List.set_cons_zero, List.set_cons_succ])
          refine tkW 5 (v := .agg #[.int .i64 (m.1 : Int), .string (bs m.2)]) (hx := fun W _ => ?_) (h := ?_)
          · kernel_rfl
          (simp only [Act.put, List.getElem_toArray, List.getElem_cons_succ, List.getElem_cons_zero, List.setIfInBounds_toArray, List.set_cons_zero, List.set_cons_succ])
          refine tkX 6 (h := ?_)
          (simp only [Act.put, List.getElem_toArray, List.getElem_cons_succ, List.getElem_cons_zero, List.setIfInBounds_toArray, List.set_cons_zero, List.set_cons_succ])
          refine wpAnyH_one 7 (by kernel_rfl) ?_
          refine wpOp_skip ((W2.setCell ⟨g, x * 2, none⟩ (.int .i64 (m.1 : Int))).setCell ⟨g, x * 2 + 1, none⟩ (.string (bs m.2))) rfl (by kernel_rfl) (exec_storeNW _ _ _ _ _ rfl g (x * 2) _ _ _ _ (by kernel_rfl) (by kernel_rfl) y3 y4 y5 y6) ?_
          refine ⟨⟨?_, ?_⟩, ?_⟩
          · exact blkc HZ.out.1.vh 0
          · exact blkc HZ.out.1.vf 0
          (simp only [Act.put, List.getElem_toArray, List.getElem_cons_succ, List.getElem_cons_zero, List.setIfInBounds_toArray, List.set_cons_zero, List.set_cons_succ])
          refine wpAnyH_done (by kernel_rfl) ?_ _
          exact ⟨rfl, HZ.out.1, HZ.out.2.1, HZ.out.2.2⟩
      case hdone =>
        intro Wx hI hdf
        have k10 : Wx.cell? ⟨w5.heap.size, 0, none⟩ = some (.slice (some ⟨g, 0, none⟩) N N) := blkc hI.vf 0
        obtain ⟨v1, G, T, h1, h2, h3, h4, h5, h6, h7, h8, h9⟩ := hI.hp
        have hG : G = [] := List.length_eq_zero_iff.1 h4
        subst hG
        rw [List.nil_append] at h6
        rw [List.replicate_zero, List.nil_append] at h9
        have hTR : T = R.take most := HI.out.kept.first gtW_ord h6 h7 (by rw [List.take_length]; rw [HI.out.len]) (by rw [List.take_length]; exact HRp.out) HRs.out
        have hTN : T.length = N := by have := h9.1; rw [nwCells_len] at this; omega
        have HZ : Hid (∀ w', AllBut Wx w' → Below w.heap.size Wx w' → w'.ownsRow w.heap.size 59 2 (.slice (some ⟨g, 0, none⟩) N N) (R.take most).length (nwCells (R.take most)) ∧ Below w.heap.size w w') := by
          intro w' hab hbw
          rw [← hTR, hTN]
          refine ⟨own_congr h9 fun b e => ?_, hI.fr.trans hbw⟩
          obtain ⟨_, cur, hc⟩ := own_blk h9 e
          exact hab.block b (by rw [hc]; intro e; cases e)
        have Hdf := hidd hdf
        clear h1 h2 h3 h4 h5 h6 h7 h8 h9 hI hdf hTR hTN
        go_wp2_with fail
        refine leaves_marks (B := w.heap.size) [w7.heap.size] _ _ ⟨by simp, fun D hD => ?_⟩ (AllBut.refl _) (Below.refl _ _) (fun w' hab hbw => ⟨.slice (some ⟨g, 0, none⟩) N N, (by simp [results, Tryd.results30, go_sem]), ⟨_, rfl, HZ.out w' hab hbw⟩⟩)
        have : D = w7.heap.size := by simpa using hD
        subst this
        exact ⟨by omega, Hdf.out⟩
end Go.Proofs.YtifgcimmlonagaaDoor
