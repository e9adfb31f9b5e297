import Derived.Test.YtmnfioghhdgciaaDoorWildJ24
namespace Go.Proofs.YtmnfioghhdgciaaDoor
open Go Go.RowKit
set_option linter.unusedVariables false
set_option linter.unusedSimpArgs false
set_option maxRecDepth 100000

/-! impl.parted, at what traitOf tells. -/
structure KeysOK (Ks : List Int) (G : List Mng) (kinds : List Mng) : Prop where
  len : Ks.length = kinds.length
  at_ : ∀ (j : Nat) (a : Int), Ks[j]? = some a → NumOK G a ∧ kinds[j]? = some (mean G a)
theorem KeysOK.app {Ks : List Int} {G r : List Mng} {kinds : List Mng} (h : KeysOK Ks G kinds) : KeysOK Ks (G ++ r) kinds :=
  ⟨h.len, fun j a hj => ⟨(h.at_ j a hj).1.app, by rw [mean_app (h.at_ j a hj).1]; exact (h.at_ j a hj).2⟩⟩
theorem KeysOK.step {Ks : List Int} {Tr : List (Int × Nat × Nat)} {G : List Mng} {kinds : List Mng} (h : KeysOK Ks G kinds) (hT : TrOK Tr G) (hnd : kinds.Nodup) (hkn : Ks.Nodup) {a : Int} (ha : NumOK G a) : KeysOK (meet Ks a) G (meet kinds (mean G a)) ∧ ix (meet Ks a) a = ix (meet kinds (mean G a)) (mean G a) ∧ (mean G a ∈ kinds ↔ a ∈ Ks) := by
  have hiff : mean G a ∈ kinds ↔ a ∈ Ks := by
    constructor
    · intro hm
      have h1 := ix_at hm
      have hlt : ix kinds (mean G a) < Ks.length := by rw [h.len]; exact ix_lt hm
      have h2 := List.getElem?_eq_getElem hlt
      obtain ⟨h3, h4⟩ := h.at_ _ _ h2
      rw [h1] at h4
      have := hT.inj ha h3 (Option.some.inj h4)
      rw [this]
      exact List.getElem_mem hlt
    · intro hm
      obtain ⟨j, hj⟩ := List.mem_iff_getElem?.1 hm
      exact List.mem_of_getElem? (h.at_ j a hj).2
  refine ⟨?_, ?_, hiff⟩
  · by_cases hm : a ∈ Ks
    · rw [meet_old hm, meet_old (hiff.2 hm)]; exact h
    · have hm' : mean G a ∉ kinds := fun hh => hm (hiff.1 hh)
      rw [meet_fresh hm, meet_fresh hm']
      refine ⟨by simp [h.len], fun j b hj => ?_⟩
      by_cases e : j < Ks.length
      · rw [List.getElem?_append_left e] at hj
        rw [List.getElem?_append_left (by rw [← h.len]; exact e)]
        exact h.at_ j b hj
      · have : j = Ks.length := by have := (List.getElem?_eq_some_iff.1 hj).1; simp at this; omega
        subst this
        have e2 : b = a := by simpa using hj.symm
        subst e2
        exact ⟨ha, by rw [h.len]; simp⟩
  · by_cases hm : a ∈ Ks
    · rw [meet_old hm, meet_old (hiff.2 hm)]
      obtain ⟨_, h2⟩ := h.at_ _ _ (ix_at hm)
      exact (ix_of hnd h2).symm
    · have hm' : mean G a ∉ kinds := fun hh => hm (hiff.1 hh)
      rw [meet_fresh hm, meet_fresh hm', ix_new hm, ix_new hm', h.len]
/-- What parted is asked: how a member's number is told. -/
def PdPost (W : World) (g3 sb : Nat) (vm vmem : Value) (gs : List (List Nat)) (e : Ending) (W' : World) : Prop :=
  ∃ (gp cp : Nat) (us : List Value), e = .returned (.slice (some ⟨gp, 0, none⟩) us.length cp) ∧ W'.ownsRow W.heap.size 30 1 (.slice (some ⟨gp, 0, none⟩) us.length cp) us.length us ∧ us.length = gs.length ∧ (∀ (j : Nat) (u : Value) (g : List Nat), us[j]? = some u → gs[j]? = some g → HoldO W' g3 u (nat2 g)) ∧ But (SetB sb vm vmem) W W'
theorem Tryd.infoIntS : (Tryd.prog.info? 30).map (fun i => (i.zero, i.size, i.bytes)) = some (some (.slice none 0 0), 1, 24) := by kernel_rfl
theorem kinds_len {X : Type} [DecidableEq X] (M : Nat → X) (ms : List Nat) : (kindsOf M ms).length ≤ ms.length := by
  have := sub_len (kindsOf M ms) (ms.map M) (kindsOf_nodup M ms) (fun x hx => by
    obtain ⟨q, hq, e⟩ := kindsOf_mem.1 hx
    exact List.mem_map.2 ⟨q, hq, e⟩)
  simpa using this
set_option maxHeartbeats 4000000 in
theorem part1_any (base tb sb bx : Nat) (a0 a1 a2 a3 vrows vfin vcls vpts vm vmem : Value) (l : List SRow) (bs : List Bool) (cl : List Int) (q : Nat) (u : Value) (rs : List (Nat × Nat)) (Tr : List (Int × Nat × Nat)) (G : List Mng) (W : World)
    (hbx : W.heap[bx]? = some (.cells #[.pointer (some ⟨tb, 0, none⟩)] 107)) (hq : q < l.length) (hl : l[q]? = some (u, rs)) (hbq : bs.length = l.length) (hcl : cl.length = l.length) (hn : l.length ≤ 1114112) (hrs : ∀ s ∈ rs, s.1 ≤ 1048576 ∧ s.2 < l.length) (hrl : rs.length ≤ 31) (hcb : ∀ z ∈ cl, 0 ≤ z ∧ z ≤ 1114112)
    (hT : TabS W base tb a0 a1 a2 a3 vrows vfin vcls vpts l bs cl) (hS : SetAt keyT W base sb vm vmem Tr) (hTr : TrOK Tr G) (hTl : Tr.length ≤ 1099511627776) (hbase : base ≤ W.heap.size) :
    Calls Tryd.prog 54 #[.int .i64 (q : Int), .pointer (some ⟨bx, 0, none⟩), .pointer (some ⟨sb, 0, none⟩)] W (TrPost W base sb vm vmem Tr G (bs.getD q false, squeeze (kapN cl) none rs) rs.length) := by
  have HC := hidd (traitOf_any base tb sb a0 a1 a2 a3 vrows vfin vcls vpts vm vmem l bs cl q u rs Tr G W hq hl hbq hcl hn hrs hrl hcb hT hS hTr hTl hbase)
  have b0 := blkc hbx 0
  clear hbx hl hbq hcl hrs hcb hT hS hTr
  generalize (bs.getD q false, squeeze (kapN cl) none rs) = μ at *
  go_enter Tryd.func54, Tryd.ntmps54
  go_wp2_with fail
  refine HC.out.mono ?_
  rintro e w1 ⟨a, vm1, vmem1, Tr1, G1, rfl, h1⟩
  have H1 := hidd h1
  clear h1
  go_wp2_with fail
  go_ret
  exact ⟨a, vm1, vmem1, Tr1, G1, rfl, H1.out⟩
set_option maxHeartbeats 8000000 in
theorem parted_any (base tb sb bx g3 c3 : Nat) (a0 a1 a2 a3 vrows vfin vpts vm vmem v : Value) (l : List SRow) (bs : List Bool) (cl : List Int) (ms : List Nat) (M : Nat → Mng) (W : World)
    (hbx : W.heap[bx]? = some (.cells #[.pointer (some ⟨tb, 0, none⟩)] 107)) (hbq : bs.length = l.length) (hcl : cl.length = l.length) (hn : l.length ≤ 1114112) (hrows : ∀ s ∈ l, (∀ p ∈ s.2, p.1 ≤ 1048576 ∧ p.2 < l.length) ∧ s.2.length ≤ 31) (hcb : ∀ z ∈ cl, 0 ≤ z ∧ z ≤ 1114112)
    (hM : ∀ q u rs, l[q]? = some (u, rs) → M q = (bs.getD q false, squeeze (kapN cl) none rs)) (hms : ∀ q ∈ ms, q < l.length) (hml : ms.length ≤ 1114112) (hm0 : ms ≠ []) (hnl : ms.Nodup)
    (hT : TabS W base tb a0 a1 a2 a3 vrows vfin (.slice (some ⟨g3, 0, none⟩) cl.length c3) vpts l bs cl) (hS : SetAt keyT W base sb vm vmem []) (hbase : base ≤ W.heap.size) (hv : HoldO W g3 v (nat2 ms)) :
    Calls Tryd.prog 53 #[v, .func (.func 54) #[] #[.pointer (some ⟨bx, 0, none⟩), .pointer (some ⟨sb, 0, none⟩)]] W (PdPost W g3 sb vm vmem (groups M ms)) := by
  obtain ⟨i0, hi, hz0, hz1, hz2⟩ := info_parts Tryd.infoIntL
  obtain ⟨is, his, hs0, hs1, hs2⟩ := info_parts Tryd.infoIntS
  have HV := hidd hv
  have hg3 : g3 < W.heap.size := (Array.getElem?_eq_some_iff.1 (own_blk hT.cls (b := g3) rfl).2.choose_spec).1
  obtain ⟨gv, ov, cv, curv, rfl, hv1, hv2, hv3⟩ := hv
  rw [nat2_len] at *
  by_cases h1 : ms.length = 1
  · obtain ⟨q, rfl⟩ : ∃ q, ms = [q] := by
      match ms, h1 with
      | [q], _ => exact ⟨q, rfl⟩
    have HG := hidd (groups_one M q)
    have HW := hidd ((Below.refl W.heap.size W).alloc (Nat.le_refl _) (.cells #[.slice (some ⟨gv, ov, none⟩) 1 cv] 30))
    have hl1 : ((1 : Int) == 1) = true := rfl
    clear hv1 hv2 hv3 h1
    go_enter Tryd.func53, Tryd.ntmps53
    go_wp2_with fail
    go_ret
    refine ⟨W.heap.size, 1, [.slice (some ⟨gv, ov, none⟩) 1 cv], rfl, ?_, by rw [HG.out]; rfl, fun j u g hj hg => ?_, But.of_below HW.out⟩
    · have := World.ownsRow_lit (base := W.heap.size) (e := 30) (size := 1) W #[.slice (some ⟨gv, ov, none⟩) 1 cv] 1 (Nat.le_refl _) (by unfold maxLen; omega) (by simp)
      simpa using this
    · rw [HG.out] at hg
      have hj0 : j = 0 := by have := (List.getElem?_eq_some_iff.1 hj).1; simp at this; omega
      subst hj0
      cases hj
      cases hg
      exact HV.out.below HW.out
  · have hlm : ((ms.length : Int) == 1) = false := by rw [beq_eq_false_iff_ne]; omega
    have hm2 : ms.length ≠ 1 := h1
    have HP0 : Hid (Pd W (W.alloc (.cells #[.map none, nilS] 120)) base W.heap.size sb (.map none) nilS nilS [] [] [] vm vmem vm vmem [] []) := by
      have hb : Below W.heap.size W (W.alloc (.cells #[.map none, nilS] 120)) := (Below.refl _ _).alloc (Nat.le_refl _) _
      refine ⟨setAt_new W _, Nat.le_refl _, World.ownsRow_nil _ _ _ _, ⟨fun a => if a = 0 then some (nilS, []) else none, ⟨fun a u zs ha => ?_, fun a b u zs x ys hab ha hb' => ?_⟩, rfl, fun j u g hj => by simp at hj⟩, rfl, hS.below hb, TrOK.nil, fun b hB hB' => ?_, But.of_below hb, fun b hB => Or.inl hB⟩
      · split at ha
        · cases ha; exact World.ownsRow_nil _ _ _ _
        · cases ha
      · split at ha
        · cases ha; exact Or.inl rfl
        · cases ha
      · have h5 := (hS.blk hB').1
        rcases hB with e | e | e
        · omega
        · cases e
        · cases e
    have HK0 : Hid (KeysOK [] [] (kindsOf M (ms.take 0))) := ⟨rfl, fun j a h => by simp at h⟩
    have HT := hidd hT
    have HS := hidd hS
    have HRW := hidd hrows
    have HCB := hidd hcb
    have HM := hidd hM
    have HMS := hidd hms
    have HBX := hidd hbx
    clear hT hS hrows hcb hM hms hbx hv1 hv2 hv3 h1
    go_enter Tryd.func53, Tryd.ntmps53
    go_wp2_with fail
    go_loopw [17, 6] (fun tv pv wx => ∃ (t : Nat) (vmk vk vp : Value) (Ks : List Int) (us : List Value) (vm' vmem' : Value) (Tr' : List (Int × Nat × Nat)) (G' : List Mng), t ≤ ms.length ∧ tv = .int .i64 (t : Int) ∧ pv = vp ∧ Pd W wx base W.heap.size sb vmk vk vp Ks us (groups M (ms.take t)) vm vmem vm' vmem' Tr' G' ∧ KeysOK Ks G' (kindsOf M (ms.take t)) ∧ Tr'.length ≤ 31 * t) (fun tv _ _ => ms.length - (intOf tv).toNat)
    case atStart => exact ⟨0, _, _, _, _, _, _, _, _, _, Nat.zero_le _, rfl, rfl, HP0.out, HK0.out, Nat.le_refl _⟩
    case round =>
      clear HP0 HK0
      obtain ⟨t, vmk, vk, vp, Ks, us, vm', vmem', Tr', G', ht, rfl, rfl, hP, hK, hTl⟩ := hrel
      have HP := hidd hP
      have HK := hidd hK
      obtain ⟨adp, cpp, hvp⟩ := own_sl hP.pr
      subst hvp
      by_cases hlt : t < ms.length
      · have hltz : (t : Int) < (ms.length : Int) := by omega
        obtain ⟨q, hq⟩ : ∃ q, ms[t]? = some q := ⟨_, List.getElem?_eq_getElem hlt⟩
        have hV := HV.out.keep hP.but (fun b hB => Or.inr fun cur e => by
          rcases setT_types HS.out hB e with e | e <;> exact absurd e (by decide))
        obtain ⟨gv', ov', cv', curv', he, _, _, hV3⟩ := hV
        simp only [Value.slice.injEq, Option.some.injEq, Addr.mk.injEq, and_true] at he
        obtain ⟨⟨rfl, rfl⟩, -, rfl⟩ := he
        have y0 := hV3 t (by rw [nat2_len]; exact hlt)
        rw [nat2_at ms t hlt, show ms.getD t 0 = q by rw [List.getD_eq_getElem?_getD, hq]; rfl] at y0
        clear hV3
        have hqm : q ∈ ms := List.mem_of_getElem? hq
        have hql := HMS.out q hqm
        obtain ⟨u, rs, hlq⟩ : ∃ u rs, l[q]? = some (u, rs) := ⟨_, _, List.getElem?_eq_getElem hql⟩
        have hrw := HRW.out _ (List.mem_of_getElem? hlq)
        have hMq := HM.out q u rs hlq
        have HTk : Hid (ms.take (t + 1) = ms.take t ++ [q]) := by
          show _ = _
          rw [List.take_succ_eq_append_getElem hlt, (List.getElem?_eq_some_iff.1 hq).2]
        have hTw := HT.out.setT HS.out hP.but
        have hbxw : wr.heap[bx]? = some (.cells #[.pointer (some ⟨tb, 0, none⟩)] 107) := by
          rw [hP.but.block bx (Array.getElem?_eq_some_iff.1 HBX.out).1 (fun hB => by
            rcases setT_types HS.out hB HBX.out with e | e <;> exact absurd e (by decide))]
          exact HBX.out
        have HPC := hidd (part1_any base tb sb bx a0 a1 a2 a3 vrows vfin _ vpts vm' vmem' l bs cl q u rs Tr' G' wr hbxw hql hlq hbq hcl hn hrw.1 hrw.2 HCB.out hTw hP.ts hP.tr (by omega) (Nat.le_trans hbase hP.but.size))
        have hrl := hrw.2
        dsimp only at hrl
        rw [← hMq] at HPC
        clear hMq hTw hbxw hP hK hrw hlq
        go_wp2_with fail
        refine HPC.out.mono ?_
        rintro e w1 ⟨a, vm1, vmem1, Tr1, G1, rfl, hs1, htr1, ⟨r, hr⟩, hnum, hmean, hlen1, hbut1, hat1⟩
        have hP1 := HP.out.trait hs1 htr1 hbut1 hat1
        have hK1 : KeysOK Ks G1 (kindsOf M (ms.take t)) := by rw [hr]; exact HK.out.app
        have hKl : Ks.length ≤ t := by
          have h5 := kinds_len M (ms.take t)
          rw [List.length_take] at h5
          rw [hK1.len]; omega
        have hst := hK1.step htr1 (kindsOf_nodup _ _) hP1.ks.nodup hnum
        rw [hmean] at hst
        have hab : -2 ≤ a ∧ a ≤ 2199023255552 := by
          have h6 := htr1.len
          rcases hnum with h | h | h <;> omega
        have HP1 := hidd hP1
        have HST := hidd hst
        have hTl1 : Tr1.length ≤ 31 * (t + 1) := by omega
        have hus := hP1.len
        rw [groups_len] at hus
        have HUS := hidd hus
        clear hs1 htr1 hr hnum hmean hlen1 hbut1 hat1 hP1 hK1 hst HP HK HPC y0 hus
        go_wp2_with fail
        refine (placeI_any W.heap.size W.heap.size vmk vk Ks a _ ⟨by omega, by omega⟩ (by omega) HP1.out.but.size HP1.out.ks).mono ?_
        rintro e w2 ⟨rfl, vmk2, vk2, hs2, hbut2, hat2, hat2'⟩
        have hP2 := HP1.out.place hs2 hbut2 hat2 hat2'
        have HP2 := hidd hP2
        rw [HST.out.2.1]
        have HKn : Hid (KeysOK (meet Ks a) G1 (kindsOf M (ms.take (t + 1)))) := by
          show KeysOK _ _ _
          rw [HTk.out, kindsOf_snoc]; exact HST.out.1
        clear hs2 hbut2 hat2 hat2' hP2 HP1
        by_cases hm : M q ∈ kindsOf M (ms.take t)
        · have hj : ix (meet (kindsOf M (ms.take t)) (M q)) (M q) < us.length := by rw [meet_old hm, HUS.out]; exact ix_lt hm
          have HGo : Hid (groups M (ms.take (t + 1)) = (groups M (ms.take t)).set (ix (meet (kindsOf M (ms.take t)) (M q)) (M q)) (((groups M (ms.take t)).getD (ix (meet (kindsOf M (ms.take t)) (M q)) (M q)) []) ++ [q])) := by
            show _ = _
            rw [HTk.out, meet_old hm]
            exact groups_old (ix_at hm)
          generalize ix (meet (kindsOf M (ms.take t)) (M q)) (M q) = j0 at *
          have hne : ((j0 : Int) == (us.length : Int)) = false := by rw [beq_eq_false_iff_ne]; omega
          have hjz : (j0 : Int) < (us.length : Int) := by omega
          obtain ⟨gp, cp, hvp⟩ := own_posk HP2.out.pr (by omega)
          simp only [Value.slice.injEq, true_and] at hvp
          obtain ⟨rfl, rfl⟩ := hvp
          obtain ⟨uj, huj⟩ : ∃ uj, us[j0]? = some uj := ⟨_, List.getElem?_eq_getElem hj⟩
          obtain ⟨gj, hgj⟩ : ∃ gj, (groups M (ms.take t))[j0]? = some gj := ⟨_, List.getElem?_eq_getElem (by rw [← HP2.out.len]; exact hj)⟩
          have HGj : Hid ((groups M (ms.take t)).getD j0 [] = gj) := by show _ = _; rw [List.getD_eq_getElem?_getD, hgj]; rfl
          have z0 := own_cellk HP2.out.pr huj
          obtain ⟨R, hR1, _, hR3⟩ := HP2.out.rows
          have hown := hR1.own _ _ _ (hR3 j0 uj gj huj hgj)
          rw [nat2_len] at hown
          obtain ⟨auj, cuj, hve⟩ := own_sl hown
          subst hve
          have HOw := hidd hown
          have hgl : gj.length ≤ 1114112 := by
            obtain ⟨_, h5, h6⟩ := groups_mem hgj
            have h7 := sub_len gj (ms.take t) (h6 (hnl.sublist (List.take_sublist _ _))) (fun x hx => ((h5 x).1 hx).1)
            rw [List.length_take] at h7
            omega
          have hzz := HP2.out.but.size
          have HUJ := hidd huj
          have HGJ := hidd hgj
          clear hR1 hR3 hown huj hgj
          go_wp2_with (at_builtin; refine wp_push rfl _ _ 30 3 rfl i0 (.int .i64 0) 8 Tryd.underlying30 hi hz0 hz1 hz2 rfl W.heap.size _ _ _ rfl HOw.out _ rfl rfl (by omega) (by decide) hzz ?_)
          intro u4 w4 ho4 hbt4 hat4 hnn4
          obtain ⟨g4, c4, rfl⟩ := own_lit ho4 hnn4
          have hPp := HP2.out.push rfl HUJ.out HGJ.out hbt4 ho4 hat4 rfl
          have z4 := own_cellk hPp.2 HUJ.out
          have fz4 := own_frozenk hPp.2 j0
          have HPn : Hid (Pd W (w4.setCell ⟨gp, j0, none⟩ (.slice (some ⟨g4, 0, none⟩) (gj.length + 1) c4)) base W.heap.size sb vmk2 vk2 (.slice (some ⟨gp, 0, none⟩) us.length cpp) (meet Ks a) (us.set j0 (.slice (some ⟨g4, 0, none⟩) (gj.length + 1) c4)) (groups M (ms.take (t + 1))) vm vmem vm1 vmem1 Tr1 G1) := by
            show Pd _ _ _ _ _ _ _ _ _ _ _ _ _ _ _ _ _
            rw [HGo.out, HGj.out]; exact hPp.1
          clear ho4 hbt4 hat4 hnn4 hPp z0 HOw HP2
          go_wp2_with fail
          go_roundw
          case rel => exact ⟨t + 1, _, _, _, _, _, _, _, _, _, by omega, by go_num, rfl, HPn.out, HKn.out, hTl1⟩
          case measure => simp [intOf]; omega
        · have hj : ix (meet (kindsOf M (ms.take t)) (M q)) (M q) = us.length := by rw [meet_fresh hm, ix_new hm, HUS.out]
          rw [hj]
          have HGn : Hid (groups M (ms.take (t + 1)) = (groups M (ms.take t) ++ [[]]).set us.length ([] ++ [q])) := by
            show _ = _
            rw [HTk.out, groups_new hm, HUS.out, ← groups_len]
            simp
          have heq : ((us.length : Int) == (us.length : Int)) = true := by simp
          have hul : us.length ≤ 1114112 := by
            have h5 := kinds_len M (ms.take t)
            rw [List.length_take] at h5
            have h6 := HUS.out
            omega
          have HO3 := hidd HP2.out.pr
          have hzz := HP2.out.but.size
          clear hj
          go_wp2_with (at_builtin; refine wp_push rfl _ _ 35 30 rfl is (.slice none 0 0) 24 Tryd.underlying35 his hs0 hs1 hs2 rfl W.heap.size _ _ _ rfl HO3.out _ rfl rfl (by omega) (by decide) hzz ?_)
          intro v3 w3 ho3 hbt3 hat3 hnn3
          obtain ⟨gp, cp, rfl⟩ := own_lit ho3 hnn3
          have hP3 := HP2.out.more hbt3 ho3
          have HP3 := hidd hP3
          have huj : (us ++ [nilS])[us.length]? = some nilS := by simp
          have hgj : (groups M (ms.take t) ++ [[]])[us.length]? = some [] := by rw [HP2.out.len]; simp
          have HUJ := hidd huj
          have HGJ := hidd hgj
          have z0 := own_cellk (n := us.length + 1) (by have := hP3.pr; rw [List.length_append, List.length_singleton] at this; exact this) huj
          have HOw : Hid (w3.ownsRow W.heap.size 3 1 nilS 0 []) := World.ownsRow_nil _ _ _ _
          have hzz3 := hP3.but.size
          clear ho3 hbt3 hat3 hnn3 hP3 huj hgj HO3 HP2
          go_upto_region 11 with fail
          have hjz : (us.length : Int) < (us.length : Int) + 1 := by omega
          go_wp2_with (at_builtin; refine wp_push rfl _ _ 30 3 rfl i0 (.int .i64 0) 8 Tryd.underlying30 hi hz0 hz1 hz2 rfl W.heap.size _ _ _ rfl HOw.out _ rfl rfl (by omega) (by decide) hzz3 ?_)
          intro u4 w4 ho4 hbt4 hat4 hnn4
          obtain ⟨g4, c4, rfl⟩ := own_lit ho4 hnn4
          have hPp := HP3.out.push (gp := gp) (cp := cp) (by rw [List.length_append]; rfl) HUJ.out HGJ.out hbt4 ho4 hat4 rfl
          have z4 := own_cellk (n := us.length + 1) (by have := hPp.2; rw [List.length_append, List.length_singleton] at this; exact this) HUJ.out
          have fz4 : w4.frozen? ⟨gp, us.length, none⟩ = false := own_frozenk (n := us.length + 1) (by have := hPp.2; rw [List.length_append, List.length_singleton] at this; exact this) us.length
          have HPn : Hid (Pd W (w4.setCell ⟨gp, us.length, none⟩ (.slice (some ⟨g4, 0, none⟩) (0 + 1) c4)) base W.heap.size sb vmk2 vk2 (.slice (some ⟨gp, 0, none⟩) (us.length + 1) cp) (meet Ks a) ((us ++ [nilS]).set us.length (.slice (some ⟨g4, 0, none⟩) (0 + 1) c4)) (groups M (ms.take (t + 1))) vm vmem vm1 vmem1 Tr1 G1) := by
            show Pd _ _ _ _ _ _ _ _ _ _ _ _ _ _ _ _ _
            rw [HGn.out]; exact hPp.1
          clear ho4 hbt4 hat4 hnn4 hPp z0 HOw HP3
          go_wp2_with fail
          go_roundw
          case rel => exact ⟨t + 1, _, _, _, _, _, _, _, _, _, by omega, by go_num, rfl, HPn.out, HKn.out, hTl1⟩
          case measure => simp [intOf]; omega
      · have hltz : ¬ (t : Int) < (ms.length : Int) := by omega
        obtain rfl : t = ms.length := by omega
        rw [List.take_length] at hP
        have hgp : 0 < us.length := by
          rw [hP.len, groups_len]
          cases hms' : ms with
          | nil => exact absurd hms' hm0
          | cons q ms' =>
            have : M q ∈ kindsOf M (q :: ms') := kindsOf_mem.2 ⟨q, by simp, rfl⟩
            exact List.length_pos_of_mem this
        obtain ⟨gp, cp, hvp⟩ := own_posk hP.pr hgp
        simp only [Value.slice.injEq, true_and] at hvp
        obtain ⟨rfl, rfl⟩ := hvp
        have HFin : Hid (PdPost W g3 sb vm vmem (groups M ms) (.returned (.slice (some ⟨gp, 0, none⟩) us.length cpp)) wr) := by
          refine ⟨gp, cpp, us, rfl, hP.pr, hP.len, fun j u g hj hg => ?_, hP.but⟩
          obtain ⟨R, hR1, _, hR3⟩ := hP.rows
          refine HoldO.own (hR1.own _ _ _ (hR3 j u g hj hg)) ?_ hg3
          have h5 := (groups_mem hg).1
          intro e
          exact h5 (nat2_inj (k := []) e)
        clear hP hK HP HK
        go_wp2_with fail
        go_ret
        exact HFin.out
end Go.Proofs.YtmnfioghhdgciaaDoor
