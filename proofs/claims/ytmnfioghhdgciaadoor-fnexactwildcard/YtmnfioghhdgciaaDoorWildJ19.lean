import Derived.Test.YtmnfioghhdgciaaDoorWildJ00
import Derived.Test.YtmnfioghhdgciaaDoorWildJ02
import Derived.Test.YtmnfioghhdgciaaDoorWildJ04
import Derived.Deep.RegionHeld3
namespace Go.Proofs.YtmnfioghhdgciaaDoor
open Go Go.RowKit
set_option linter.unusedVariables false

/-! spec.l05Letters: numbers, rising, each once. -/
theorem ins_rise {out : List Int} {x : Int} {p : Nat} (h : RiseZ out) (hp : p ≤ out.length) (h1 : ∀ j, j < p → out.getD j 0 < x) (h2 : p < out.length → x < out.getD p 0) : RiseZ (out.take p ++ [x] ++ out.drop p) := by
  unfold RiseZ at *
  have ht : ∀ y ∈ out.take p, y < x := by
    intro y hy
    obtain ⟨j, hj⟩ := List.mem_iff_getElem?.1 hy
    rw [List.getElem?_take] at hj
    split at hj
    · rename_i hjp
      have := h1 j hjp
      rw [List.getD_eq_getElem?_getD, hj] at this
      exact this
    · cases hj
  have hd : ∀ y ∈ out.drop p, x < y := by
    intro y hy
    by_cases hpl : p < out.length
    · have h3 := h2 hpl
      have he : out.drop p = out.getD p 0 :: out.drop (p + 1) := by
        rw [List.drop_eq_getElem_cons hpl, List.getD_eq_getElem?_getD, List.getElem?_eq_getElem hpl]; rfl
      rw [he] at hy
      rcases List.mem_cons.1 hy with rfl | hy'
      · exact h3
      · have hs : (out.drop p).Pairwise (· < ·) := h.sublist (List.drop_sublist p out)
        rw [he] at hs
        exact Int.lt_trans h3 ((List.pairwise_cons.1 hs).1 y hy')
    · rw [List.drop_eq_nil_of_le (by omega)] at hy; simp at hy
  have e : out.take p ++ [x] ++ out.drop p = out.take p ++ (x :: out.drop p) := by simp
  rw [e, List.pairwise_append]
  refine ⟨h.sublist (List.take_sublist p out), List.pairwise_cons.2 ⟨hd, h.sublist (List.drop_sublist p out)⟩, ?_⟩
  intro a ha b hb
  rcases List.mem_cons.1 hb with rfl | hb
  · exact ht a ha
  · exact Int.lt_trans (ht a ha) (hd b hb)
theorem ins_mem {out : List Int} {x : Int} (p : Nat) (y : Int) : y ∈ out.take p ++ [x] ++ out.drop p ↔ y ∈ out ∨ y = x := by
  rw [List.mem_append, List.mem_append, List.mem_singleton]
  have := List.mem_append (a := y) (s := out.take p) (t := out.drop p)
  rw [List.take_append_drop] at this
  rw [this]
  constructor
  · rintro ((h | h) | h)
    · exact Or.inl (Or.inl h)
    · exact Or.inr h
    · exact Or.inl (Or.inr h)
  · rintro ((h | h) | h)
    · exact Or.inl (Or.inl h)
    · exact Or.inr h
    · exact Or.inl (Or.inr h)
theorem take_mem {l : List Int} {i : Nat} (hi : i < l.length) (y : Int) : y ∈ l.take (i + 1) ↔ y ∈ l.take i ∨ y = l.getD i 0 := by
  rw [List.take_succ_eq_append_getElem hi, List.mem_append, List.mem_singleton, List.getD_eq_getElem?_getD, List.getElem?_eq_getElem hi]
  rfl
theorem own_lies {W : World} {base b : Nat} (h : W.heap[b]? = some (.cells #[] 3)) (hb : base ≤ b) : W.ownsRow base 3 1 (.slice (some ⟨b, 0, none⟩) 0 0) 0 [] := by
  refine ⟨rfl, Or.inr ⟨b, 0, #[], rfl, hb, h, ?_⟩⟩
  simp
theorem zI_one (l : List Int) : ∀ u ∈ zI l, u.oneCell' = true := by
  intro u hu
  obtain ⟨x, _, rfl⟩ := List.mem_map.1 hu
  rfl
theorem one_cell {W : World} {b : Nat} {x : Value} (h : W.cell? ⟨b, 0, none⟩ = some x) : ∀ (j : Nat) u, [x][j]? = some u → W.cell? ((⟨b, 0, none⟩ : Addr).add j) = some u := by
  intro j u hu
  match j, hu with
  | 0, hu => simp at hu; subst hu; simpa [Addr.add] using h
  | j + 1, hu => simp at hu
theorem new_cell0 (W : World) (x : Value) : (W.alloc (.cells #[x] 3)).cell? ⟨W.heap.size, 0, none⟩ = some x := blkc (heap_alloc_new W _) 0
theorem new_cell1 (W : World) (x : Value) (o : Obj) : ((W.drew.alloc (.cells #[x] 3)).alloc o).cell? ⟨W.heap.size, 0, none⟩ = some x := blkc ((Below.heap_alloc _ _ _ (by simp)).trans (heap_alloc_new W.drew _)) 0
theorem new_cell2 (W : World) (x : Value) (o : Obj) : ((W.drew.alloc o).alloc (.cells #[x] 3)).cell? ⟨W.heap.size + 1, 0, none⟩ = some x := blkc (cs := #[x]) (t := 3) (by have := heap_alloc_new (W.drew.alloc o) (.cells #[x] 3); rw [World.size_alloc] at this; exact this) 0
theorem row_news {W0 : World} {base g cap : Nat} {out : List Int} (h : W0.ownsRow base 3 1 (.slice (some ⟨g, 0, none⟩) out.length cap) out.length (zI out)) (z p : Nat) (hp : p ≤ out.length) (hz : z = 0) : ∀ W, Below W0.heap.size W0 W → ∀ (j : Nat) u, (zI (out.take p))[j]? = some u → W.cell? ((⟨g, z, none⟩ : Addr).add j) = some u := by
  subst hz
  intro W hb j u hu
  have hj : j < p := by
    have := (List.getElem?_eq_some_iff.1 hu).1
    simp [zI] at this
    omega
  rw [add_head, hb.cell (p := ⟨g, j, none⟩) (own_lt h), h.cellAt j (by omega), ← hu]
  simp [zI, hj]
theorem row_drop {W0 : World} {base g cap : Nat} {out : List Int} (h : W0.ownsRow base 3 1 (.slice (some ⟨g, 0, none⟩) out.length cap) out.length (zI out)) (p : Nat) : ∀ W, Below W0.heap.size W0 W → ∀ (j : Nat) u, (zI (out.drop p))[j]? = some u → W.cell? ((⟨g, p, none⟩ : Addr).add j) = some u := by
  intro W hb j u hu
  have hj : p + j < out.length := by
    have := (List.getElem?_eq_some_iff.1 hu).1
    simp [zI] at this
    omega
  have e : (⟨g, p, none⟩ : Addr).add j = ⟨g, p + j, none⟩ := by
    unfold Addr.add
    by_cases h0 : j = 0
    · subst h0; simp
    · simp [h0]
  rw [e, hb.cell (p := ⟨g, p + j, none⟩) (own_lt h), h.cellAt (p + j) (by omega), ← hu]
  simp [zI]
theorem step_append_val {P : Program} (w : World) {ops : Array Oper} {o : Oper} {a : Act} {K : Act → World → Prop} {Q : Exit → Act → World → Prop} {E : Prop} (hgd : o.guard = none) (s x : Operand) (t : TypeId)
    (ho : o.op = .call { callee := .builtin .append, args := #[s, x], argTypes := #[t, t] })
    (base : Nat) (e : TypeId) (i : TypeInfo) (z : Value) (size bytes : Nat) (ht : P.underlying t = some (.slice e)) (hi : P.info? e = some i) (hz : i.zero = some z)
    (hsize : i.size = size) (hby : i.bytes = bytes) (hzs : z.cells.size = size) (hsz : 0 < size)
    (v : Value) (n : Nat) (xs : List Value) (hs : a.eval s = v) (hown : w.ownsRow base e size v n xs)
    (ad : Addr) (m c : Nat) (news : List Value) (hx : a.eval x = .slice (some ad) m c) (hl : news.length = m * size) (hnews : ∀ j u, news[j]? = some u → w.cell? (ad.add j) = some u) (h1 : ∀ u ∈ news, u.oneCell' = true)
    (h63 : n + m ≤ maxLen) (hbytes : (n + m) * bytes ≤ 140737488355328) (hbase : base ≤ w.heap.size)
    (h : ∀ v' w', w'.ownsRow base e size v' (n + m) (xs ++ news) → w.grownBy w' v.ownBlock → K (a.put o.dst v') w') :
    if Region.wanted o (yielded ops a.tmps) = true then Oper.wp P o a w K Q else E := by
  have hw : Region.wanted o (yielded ops a.tmps) = true := by simp [Region.wanted, hgd]
  rw [if_pos hw]
  exact wp_append_own w s x t ho base e i z size bytes ht hi hz hsize hby hzs hsz v n xs hs hown ad m c news hx hl hnews h1 h63 hbytes hbase fun v' w' h2 h3 h4 => h v' w' h2 h3
set_option maxHeartbeats 4000000 in
set_option maxRecDepth 100000 in
theorem letters_any (zs : List Int) (vz : Value) (w : World) (hl : zs.length ≤ 1048576) (hz : HoldI w vz zs) :
    Calls Tryd.prog 12 #[vz] w fun e w' => ∃ v ls, e = .returned v ∧ RiseZ ls ∧ (∀ y, y ∈ ls ↔ y ∈ zs) ∧ ls.length ≤ zs.length ∧ w'.ownsRow w.heap.size 3 1 v ls.length (zI ls) ∧ Below w.heap.size w w' := by
  obtain ⟨i0, hi, hz0, hz1, hz2⟩ := info_parts Tryd.infoIntL
  obtain ⟨az, cz, rfl, hzz⟩ := hz
  have HZ := hidd hzz
  clear hzz
  go_enter Tryd.func12, Tryd.ntmps12
  go_wp2
  have HO0 := hidd (own_empty w 3)
  have HB0 : Hid (Below w.heap.size w (w.alloc (.cells #[] 3))) := (Below.refl _ _).alloc (Nat.le_refl _) _
  generalize w.alloc (.cells #[] 3) = wn at *
  go_loopw [3, 4] (fun ov iv wx => ∃ (i g cap : Nat) (out : List Int), i ≤ zs.length ∧ iv = .int .i64 (i : Int) ∧ ov = .slice (some ⟨g, 0, none⟩) out.length cap ∧ out.length ≤ i ∧ out.length ≤ cap ∧ RiseZ out ∧ (∀ y, y ∈ out ↔ y ∈ zs.take i) ∧ wx.ownsRow w.heap.size 3 1 ov out.length (zI out) ∧ Below w.heap.size w wx) (fun _ iv _ => zs.length - (intOf iv).toNat)
  case atStart => exact ⟨0, _, 0, [], Nat.zero_le _, rfl, rfl, by simp, by simp, List.Pairwise.nil, by simp, HO0.out, HB0.out⟩
  case round =>
    clear HO0 HB0
    obtain ⟨i, g, cap, out, hi', rfl, rfl, hoi, hcap, hrise, hmem, hown, hbel⟩ := hrel
    have HO := hidd hown
    have HBe := hidd hbel
    have hzx := hbel.size
    have HRi := hidd hrise
    have HMe := hidd hmem
    clear hown hbel hrise hmem
    by_cases hlt : i < zs.length
    · have hltz : (i : Int) < (zs.length : Int) := by omega
      obtain ⟨gz, oz, rfl, hgz, hcz⟩ := HZ.out.resolve_left (fun h => by rw [h] at hlt; simp at hlt)
      have HCz := hidd hcz
      have c0 := (HBe.out.cell (p := ⟨gz, oz + i, none⟩) hgz).trans (hcz i hlt)
      have HTk := hidd (take_mem hlt)
      clear hcz
      generalize zs.getD i 0 = x at *
      have hgl := own_lt HO.out
      have hgb : w.heap.size ≤ g := own_block HO.out g rfl
      generalize wr = W0 at *
      go_wp2
      go_loopw [5] (fun pv wx => ∃ p q : Nat, p ≤ out.length ∧ pv = .int .i64 (p : Int) ∧ (∀ j, j < p → out.getD j 0 < x) ∧ wx = W0.drewN q) (fun pv _ => out.length - (intOf pv).toNat)
      case atStart => exact ⟨0, 0, Nat.zero_le _, rfl, fun j hj => by omega, rfl⟩
      case round =>
        obtain ⟨p, q, hp, rfl, hbelow, hwq⟩ := hrel
        have HWq := hidd hwq
        have HP := hidd hbelow
        have HOq : Hid (wr.ownsRow w.heap.size 3 1 (.slice (some ⟨g, 0, none⟩) out.length cap) out.length (zI out)) := by show World.ownsRow _ _ _ _ _ _ _; rw [hwq]; exact own_drewN HO.out q
        have HBq : Hid (Below w.heap.size w wr) := by show Below _ _ _; rw [hwq]; exact below_drewN HBe.out q
        have d0 : wr.cell? ⟨gz, oz + i, none⟩ = some (.int .i64 x) := by rw [hwq]; simpa using c0
        have hzq : wr.heap.size = W0.heap.size := by rw [hwq]; simp
        have Hzq := hidd hzq
        clear hbelow hwq hzq
        have fin : Hid (∀ (W : World) (v : Value) (out' : List Int), out'.length ≤ i + 1 → RiseZ out' → (∀ y, y ∈ out' ↔ y ∈ zs.take (i + 1)) → W.ownsRow w.heap.size 3 1 v out'.length (zI out') → Below w.heap.size w W → v ≠ .slice none 0 0 → ∃ (i_1 g cap : Nat) (out : List Int), i_1 ≤ zs.length ∧ Value.int .i64 ((i : Int) + 1) = .int .i64 (i_1 : Int) ∧ v = .slice (some ⟨g, 0, none⟩) out.length cap ∧ out.length ≤ i_1 ∧ out.length ≤ cap ∧ RiseZ out ∧ (∀ y, y ∈ out ↔ y ∈ zs.take i_1) ∧ W.ownsRow w.heap.size 3 1 v out.length (zI out) ∧ Below w.heap.size w W) := by
          show ∀ _, _
          intro W v out' h1 h2 h3 h4 h5 h6
          rcases h4.2 with ⟨rfl, _⟩ | ⟨g', c', cur, rfl, hb', hg', hc'⟩
          · exact absurd rfl h6
          · exact ⟨i + 1, g', c', out', by omega, by simp, rfl, h1, hc'.1, h2, h3, h4, h5⟩
        by_cases hpl : p < out.length
        · have hplz : (p : Int) < (out.length : Int) := by omega
          have hpb : decide ((p : Int) < (out.length : Int)) = true := by simpa using hpl
          have hpe : ((p : Int) == (out.length : Int)) = false := by simp; omega
          have d1 : wr.cell? ⟨g, p, none⟩ = some (.int .i64 (out.getD p 0)) := by
            rw [HOq.out.cellAt p (by omega)]; simp [zI, hpl]
          have HX := hidd (show out.getD p 0 ∈ out by rw [List.getD_eq_getElem?_getD, List.getElem?_eq_getElem hpl, Option.getD_some]; exact List.getElem_mem hpl)
          obtain ⟨y, hy⟩ : ∃ y, out.getD p 0 = y := ⟨_, rfl⟩
          rw [hy] at d1 HX
          by_cases hyx : y < x
          · have HP2 : Hid (∀ j, j < p + 1 → out.getD j 0 < x) := by
              show ∀ j, j < p + 1 → _
              intro j hj
              by_cases e : j = p
              · rw [e, hy]; exact hyx
              · exact HP.out j (by omega)
            clear hy
            go_wp2
            go_quiet (fail)
            go_wp2
            go_roundw
            case rel => exact ⟨p + 1, q + nq, by omega, by go_num, HP2.out, by rw [HWq.out, World.drewN_drewN]⟩
            case measure => simp [intOf]; omega
          · have hyb : decide (y < x) = false := by simpa using hyx
            by_cases hxe : y = x
            · have hne : (y != x) = false := by simp [hxe]
              have HM2 : Hid (∀ z, z ∈ out ↔ z ∈ zs.take (i + 1)) := by
                show ∀ z, _
                intro z
                rw [HTk.out z, ← HMe.out z]
                constructor
                · exact Or.inl
                · rintro (h | h)
                  · exact h
                  · rw [h, ← hxe]; exact HX.out
              clear hy hxe hyx
              go_wp2
              go_quiet (fail)
              go_wp2
              go_quiet (fail)
              go_wp2
              go_roundw
              case rel => exact fin.out _ _ out (by omega) HRi.out HM2.out (own_drewN HOq.out _) (below_drewN HBq.out _) (by simp)
              case measure => simp [intOf]; omega
            · have hne : (y != x) = true := by simp [hxe]
              have HI := hidd (ins_rise HRi.out hp HP.out (fun _ => by rw [hy]; omega))
              clear hy hxe hyx
              have HFin : Hid (∀ (W : World) (v : Value), W.ownsRow w.heap.size 3 1 v (p + 1 + (out.length - p)) (zI (out.take p) ++ [.int .i64 x] ++ zI (out.drop p)) → Below w.heap.size w W → v ≠ .slice none 0 0 → _) := fun W v h1 h2 h3 => fin.out W v (out.take p ++ [x] ++ out.drop p) (by simp; omega) HI.out (fun y => by rw [ins_mem, HMe.out y, HTk.out y]) (by rw [zI_app, zI_snoc, show (out.take p ++ [x] ++ out.drop p).length = p + 1 + (out.length - p) by simp; omega]; exact h1) h2 h3
              clear HP HRi
              have hpc : (p : Int) ≤ (cap : Int) := by omega
              have hpo : (p : Int) ≤ (out.length : Int) := by omega
              go_wp2
              go_quiet (fail)
              go_wp2
              go_quiet (fail)
              go_wp2
              generalize hW1 : (wr.drewN _).drewN _ = W1
              have HOq1 : Hid (W1.ownsRow w.heap.size 3 1 (.slice (some ⟨g, 0, none⟩) out.length cap) out.length (zI out)) := by show World.ownsRow _ _ _ _ _ _ _; rw [← hW1]; exact own_drewN (own_drewN HOq.out _) _
              have HBq1 : Hid (Below w.heap.size w W1) := by show Below _ _ _; rw [← hW1]; exact below_drewN (below_drewN HBq.out _) _
              have e0 : W1.cell? ⟨gz, oz + i, none⟩ = some (.int .i64 x) := by rw [← hW1]; simpa using d0
              clear hW1 HOq HBq
              have HgzW : Hid (gz < W1.heap.size) := Nat.lt_of_lt_of_le hgz HBq1.out.size
              have HBd : Hid (Below W1.heap.size W1 W1.drew) := below_drewN (Below.refl _ _) 1
              have HBw : Hid (w.heap.size ≤ W1.heap.size) := HBq1.out.size
              have HtA : Hid ((zI (out.take p)).length = p * 1) := by show _ = _; simp [zI]; omega
              have HtB : Hid ((zI (out.drop p)).length = (out.length - p) * 1) := by show _ = _; simp [zI]
              have HnA : Hid (∀ W, Below W1.heap.size W1 W → ∀ (j : Nat) u, (zI (out.take p))[j]? = some u → W.cell? ((⟨g, 0, none⟩ : Addr).add j) = some u) := row_news HOq1.out 0 p (by omega) rfl
              by_cases hcp : p = cap
              · subst hcp
                have HnB : Hid (∀ W, Below W1.heap.size W1 W → ∀ (j : Nat) u, (zI (out.drop p))[j]? = some u → W.cell? ((⟨g, 0, none⟩ : Addr).add j) = some u) := by
                  show ∀ _, _
                  intro W _ j u hu
                  rw [List.drop_eq_nil_of_le (by omega)] at hu
                  simp [zI] at hu
                go_region_held3 (fun W => W.cell? ⟨gz, oz + i, none⟩ = some (.int .i64 x)) (first | exact e0 | exact (HB59.out.cell (p := ⟨gz, oz + i, none⟩) HgzW.out).trans e0 | exact (HB55.out.cell (p := ⟨gz, oz + i, none⟩) HgzW.out).trans e0 | exact (HB49.out.cell (p := ⟨gz, oz + i, none⟩) HgzW.out).trans e0 | go_keep) (first
                  | (refine step_append_val _ rfl (.tmp 49) (.tmp 54) 30 rfl W1.heap.size 3 i0 (.int .i64 0) 1 8 Tryd.underlying30 hi hz0 hz1 hz2 rfl (by decide) v49 p (zI (out.take p)) (by simp [Act.eval]) (HO49.out.alloc _) ⟨w49.heap.size, 0, none⟩ 1 1 [.int .i64 x] (by simp [Act.eval]) rfl (one_cell (new_cell0 _ _)) (by intro u' hu'; simp at hu'; subst hu'; rfl) (by unfold maxLen; omega) (by omega) (by have := HB49.out.size; first | omega | (simp; done) | (simp; omega)) ?_; intro v55 w55 hown55 hgrow55; have HO55 := hidd hown55; have HB55 : Hid (Below W1.heap.size W1 w55) := (HB49.out.alloc HB49.out.size _).grown hgrow55 (by have := HB49.out.size; first | omega | (simp; done) | (simp; omega)) (fun k hk => by have := own_block HO49.out k hk; omega); clear hown55 hgrow55)
                  | (refine step_append_val _ rfl (.tmp 49) (.tmp 54) 30 rfl W1.heap.size 3 i0 (.int .i64 0) 1 8 Tryd.underlying30 hi hz0 hz1 hz2 rfl (by decide) v49 p (zI (out.take p)) (by simp [Act.eval]) (HO49.out) ⟨W1.heap.size + 1, 0, none⟩ 1 1 [.int .i64 x] (by simp [Act.eval]) rfl (one_cell (HX54.out)) (by intro u' hu'; simp at hu'; subst hu'; rfl) (by unfold maxLen; omega) (by omega) (by have := HB49.out.size; first | omega | (simp; done) | (simp; omega)) ?_; intro v55 w55 hown55 hgrow55; have HO55 := hidd hown55; have HB55 : Hid (Below W1.heap.size W1 w55) := (HB49.out).grown hgrow55 (by have := HB49.out.size; first | omega | (simp; done) | (simp; omega)) (fun k hk => by have := own_block HO49.out k hk; omega); clear hown55 hgrow55)
                  | (refine step_append_val _ rfl (.tmp 49) (.tmp 54) 30 rfl W1.heap.size 3 i0 (.int .i64 0) 1 8 Tryd.underlying30 hi hz0 hz1 hz2 rfl (by decide) v49 p (zI (out.take p)) (by simp [Act.eval]) (HO49.out) ⟨W1.heap.size, 0, none⟩ 1 1 [.int .i64 x] (by simp [Act.eval]) rfl (one_cell (HX54.out)) (by intro u' hu'; simp at hu'; subst hu'; rfl) (by unfold maxLen; omega) (by omega) (by have := HB49.out.size; first | omega | (simp; done) | (simp; omega)) ?_; intro v55 w55 hown55 hgrow55; have HO55 := hidd hown55; have HB55 : Hid (Below W1.heap.size W1 w55) := (HB49.out).grown hgrow55 (by have := HB49.out.size; first | omega | (simp; done) | (simp; omega)) (fun k hk => by have := own_block HO49.out k hk; omega); clear hown55 hgrow55)
                  | (refine step_append_val _ rfl (.tmp 55) (.tmp 58) 30 rfl W1.heap.size 3 i0 (.int .i64 0) 1 8 Tryd.underlying30 hi hz0 hz1 hz2 rfl (by decide) v55 (p + 1) (zI (out.take p) ++ [.int .i64 x]) (by simp [Act.eval]) (HO55.out) ⟨g, 0, none⟩ (out.length - p) (p - p) (zI (out.drop p)) (by first | (simp [Act.eval]; done) | (simp [Act.eval]; omega)) (HtB.out) (HnB.out _ HB55.out) (zI_one _) (by unfold maxLen; omega) (by omega) (by have := HB55.out.size; first | omega | (simp; done) | (simp; omega)) ?_; intro v59 w59 hown59 hgrow59; have HO59 := hidd hown59; have HB59 : Hid (Below W1.heap.size W1 w59) := HB55.out.grown hgrow59 HB55.out.size (fun k hk => by have := own_block HO55.out k hk; omega); clear hown59 hgrow59)
                  | (refine step_append_val _ rfl (.tmp 45) (.tmp 48) 30 rfl W1.heap.size 3 i0 (.int .i64 0) 1 8 Tryd.underlying30 hi hz0 hz1 hz2 rfl (by decide) (.slice (some ⟨W1.heap.size, 0, none⟩) 0 0) 0 [] (by simp [Act.eval]) (own_lies (heap_alloc_new W1.drew _) (by simp)) ⟨g, 0, none⟩ p p (zI (out.take p)) (by simp [Act.eval]) (HtA.out) (HnA.out _ (HBd.out.alloc (by simp) _)) (zI_one _) (by unfold maxLen; omega) (by omega) (by first | omega | (simp; done) | (simp; omega)) ?_; intro v49 w49 hown49 hgrow49; simp only [Nat.zero_add, List.nil_append] at hown49; have HO49 := hidd hown49; have HB49 : Hid (Below W1.heap.size W1 w49) := (HBd.out.alloc (by simp) _).grown hgrow49 (by first | omega | (simp; done) | (simp; omega)) (fun k hk => by first | (simp [Value.ownBlock] at hk; omega) | (cases hk; first | omega | simp)); clear hown49 hgrow49)
                  | (refine step_append_val _ rfl (.tmp 45) (.tmp 48) 30 rfl W1.heap.size 3 i0 (.int .i64 0) 1 8 Tryd.underlying30 hi hz0 hz1 hz2 rfl (by decide) (.slice (some ⟨W1.heap.size, 0, none⟩) 0 0) 0 [] (by simp [Act.eval]) (own_lies ((Below.heap_alloc _ _ _ (by simp)).trans (heap_alloc_new W1.drew _)) (by simp)) ⟨g, 0, none⟩ p p (zI (out.take p)) (by simp [Act.eval]) (HtA.out) (HnA.out _ ((HBd.out.alloc (by simp) _).alloc (by simp) _)) (zI_one _) (by unfold maxLen; omega) (by omega) (by first | omega | (simp; done) | (simp; omega)) ?_; intro v49 w49 hown49 hgrow49; simp only [Nat.zero_add, List.nil_append] at hown49; have HO49 := hidd hown49; have HB49 : Hid (Below W1.heap.size W1 w49) := ((HBd.out.alloc (by simp) _).alloc (by simp) _).grown hgrow49 (by first | omega | (simp; done) | (simp; omega)) (fun k hk => by first | (simp [Value.ownBlock] at hk; omega) | (cases hk; first | omega | simp)); have hx54 : w49.cell? ⟨W1.heap.size + 1, 0, none⟩ = some (.int .i64 x) := (World.cell?_of_block (hgrow49.block (W1.heap.size + 1) (by simp) (by simp [Value.ownBlock]))).trans (new_cell2 _ _ _); have HX54 := hidd hx54; clear hx54; clear hown49 hgrow49)
                  | (refine step_append_val _ rfl (.tmp 45) (.tmp 48) 30 rfl W1.heap.size 3 i0 (.int .i64 0) 1 8 Tryd.underlying30 hi hz0 hz1 hz2 rfl (by decide) (.slice (some ⟨W1.heap.size + 1, 0, none⟩) 0 0) 0 [] (by simp [Act.eval]) (own_lies ((show _ = _ by have hh := heap_alloc_new (W1.drew.alloc (.cells #[.int .i64 x] 3)) (.cells #[] 3); rw [World.size_alloc] at hh; exact hh)) (by simp)) ⟨g, 0, none⟩ p p (zI (out.take p)) (by simp [Act.eval]) (HtA.out) (HnA.out _ ((HBd.out.alloc (by simp) _).alloc (by simp) _)) (zI_one _) (by unfold maxLen; omega) (by omega) (by first | omega | (simp; done) | (simp; omega)) ?_; intro v49 w49 hown49 hgrow49; simp only [Nat.zero_add, List.nil_append] at hown49; have HO49 := hidd hown49; have HB49 : Hid (Below W1.heap.size W1 w49) := ((HBd.out.alloc (by simp) _).alloc (by simp) _).grown hgrow49 (by first | omega | (simp; done) | (simp; omega)) (fun k hk => by first | (simp [Value.ownBlock] at hk; omega) | (cases hk; first | omega | simp)); have hx54 : w49.cell? ⟨W1.heap.size, 0, none⟩ = some (.int .i64 x) := (World.cell?_of_block (hgrow49.block W1.heap.size (by first | (simp; done) | (simp; omega)) (by simp [Value.ownBlock]))).trans (new_cell1 _ _ _); have HX54 := hidd hx54; clear hx54; clear hown49 hgrow49))
                all_goals
                  have RR : Hid (w59.ownsRow w.heap.size 3 1 v59 (p + 1 + (out.length - p)) (zI (out.take p) ++ [.int .i64 x] ++ zI (out.drop p)) ∧ Below w.heap.size w w59) := ⟨own_mono HO59.out HBw.out, HBq1.out.trans (HB59.out.mono HBw.out)⟩
                  have hv59 : v59 ≠ .slice none 0 0 := by
                    intro e
                    have := HO59.out.2
                    rw [e] at this
                    rcases this with ⟨_, h⟩ | ⟨_, _, _, h, _⟩
                    · omega
                    · simp at h
                  have HV := hidd hv59
                  clear hv59 HO59 HB59
                  go_wp2
                  go_roundw
                  · exact HFin.out _ _ RR.out.1 RR.out.2 HV.out
                  · simp [intOf]; omega
              · have HnB : Hid (∀ W, Below W1.heap.size W1 W → ∀ (j : Nat) u, (zI (out.drop p))[j]? = some u → W.cell? ((⟨g, p, none⟩ : Addr).add j) = some u) := row_drop HOq1.out p
                go_region_held3 (fun W => W.cell? ⟨gz, oz + i, none⟩ = some (.int .i64 x)) (first | exact e0 | exact (HB59.out.cell (p := ⟨gz, oz + i, none⟩) HgzW.out).trans e0 | exact (HB55.out.cell (p := ⟨gz, oz + i, none⟩) HgzW.out).trans e0 | exact (HB49.out.cell (p := ⟨gz, oz + i, none⟩) HgzW.out).trans e0 | go_keep) (first
                  | (refine step_append_val _ rfl (.tmp 49) (.tmp 54) 30 rfl W1.heap.size 3 i0 (.int .i64 0) 1 8 Tryd.underlying30 hi hz0 hz1 hz2 rfl (by decide) v49 p (zI (out.take p)) (by simp [Act.eval]) (HO49.out.alloc _) ⟨w49.heap.size, 0, none⟩ 1 1 [.int .i64 x] (by simp [Act.eval]) rfl (one_cell (new_cell0 _ _)) (by intro u' hu'; simp at hu'; subst hu'; rfl) (by unfold maxLen; omega) (by omega) (by have := HB49.out.size; first | omega | (simp; done) | (simp; omega)) ?_; intro v55 w55 hown55 hgrow55; have HO55 := hidd hown55; have HB55 : Hid (Below W1.heap.size W1 w55) := (HB49.out.alloc HB49.out.size _).grown hgrow55 (by have := HB49.out.size; first | omega | (simp; done) | (simp; omega)) (fun k hk => by have := own_block HO49.out k hk; omega); clear hown55 hgrow55)
                  | (refine step_append_val _ rfl (.tmp 49) (.tmp 54) 30 rfl W1.heap.size 3 i0 (.int .i64 0) 1 8 Tryd.underlying30 hi hz0 hz1 hz2 rfl (by decide) v49 p (zI (out.take p)) (by simp [Act.eval]) (HO49.out) ⟨W1.heap.size + 1, 0, none⟩ 1 1 [.int .i64 x] (by simp [Act.eval]) rfl (one_cell (HX54.out)) (by intro u' hu'; simp at hu'; subst hu'; rfl) (by unfold maxLen; omega) (by omega) (by have := HB49.out.size; first | omega | (simp; done) | (simp; omega)) ?_; intro v55 w55 hown55 hgrow55; have HO55 := hidd hown55; have HB55 : Hid (Below W1.heap.size W1 w55) := (HB49.out).grown hgrow55 (by have := HB49.out.size; first | omega | (simp; done) | (simp; omega)) (fun k hk => by have := own_block HO49.out k hk; omega); clear hown55 hgrow55)
                  | (refine step_append_val _ rfl (.tmp 49) (.tmp 54) 30 rfl W1.heap.size 3 i0 (.int .i64 0) 1 8 Tryd.underlying30 hi hz0 hz1 hz2 rfl (by decide) v49 p (zI (out.take p)) (by simp [Act.eval]) (HO49.out) ⟨W1.heap.size, 0, none⟩ 1 1 [.int .i64 x] (by simp [Act.eval]) rfl (one_cell (HX54.out)) (by intro u' hu'; simp at hu'; subst hu'; rfl) (by unfold maxLen; omega) (by omega) (by have := HB49.out.size; first | omega | (simp; done) | (simp; omega)) ?_; intro v55 w55 hown55 hgrow55; have HO55 := hidd hown55; have HB55 : Hid (Below W1.heap.size W1 w55) := (HB49.out).grown hgrow55 (by have := HB49.out.size; first | omega | (simp; done) | (simp; omega)) (fun k hk => by have := own_block HO49.out k hk; omega); clear hown55 hgrow55)
                  | (refine step_append_val _ rfl (.tmp 55) (.tmp 58) 30 rfl W1.heap.size 3 i0 (.int .i64 0) 1 8 Tryd.underlying30 hi hz0 hz1 hz2 rfl (by decide) v55 (p + 1) (zI (out.take p) ++ [.int .i64 x]) (by simp [Act.eval]) (HO55.out) ⟨g, p, none⟩ (out.length - p) (cap - p) (zI (out.drop p)) (by first | (simp [Act.eval]; done) | (simp [Act.eval]; omega)) (HtB.out) (HnB.out _ HB55.out) (zI_one _) (by unfold maxLen; omega) (by omega) (by have := HB55.out.size; first | omega | (simp; done) | (simp; omega)) ?_; intro v59 w59 hown59 hgrow59; have HO59 := hidd hown59; have HB59 : Hid (Below W1.heap.size W1 w59) := HB55.out.grown hgrow59 HB55.out.size (fun k hk => by have := own_block HO55.out k hk; omega); clear hown59 hgrow59)
                  | (refine step_append_val _ rfl (.tmp 45) (.tmp 48) 30 rfl W1.heap.size 3 i0 (.int .i64 0) 1 8 Tryd.underlying30 hi hz0 hz1 hz2 rfl (by decide) (.slice (some ⟨W1.heap.size, 0, none⟩) 0 0) 0 [] (by simp [Act.eval]) (own_lies (heap_alloc_new W1.drew _) (by simp)) ⟨g, 0, none⟩ p cap (zI (out.take p)) (by simp [Act.eval]) (HtA.out) (HnA.out _ (HBd.out.alloc (by simp) _)) (zI_one _) (by unfold maxLen; omega) (by omega) (by first | omega | (simp; done) | (simp; omega)) ?_; intro v49 w49 hown49 hgrow49; simp only [Nat.zero_add, List.nil_append] at hown49; have HO49 := hidd hown49; have HB49 : Hid (Below W1.heap.size W1 w49) := (HBd.out.alloc (by simp) _).grown hgrow49 (by first | omega | (simp; done) | (simp; omega)) (fun k hk => by first | (simp [Value.ownBlock] at hk; omega) | (cases hk; first | omega | simp)); clear hown49 hgrow49)
                  | (refine step_append_val _ rfl (.tmp 45) (.tmp 48) 30 rfl W1.heap.size 3 i0 (.int .i64 0) 1 8 Tryd.underlying30 hi hz0 hz1 hz2 rfl (by decide) (.slice (some ⟨W1.heap.size, 0, none⟩) 0 0) 0 [] (by simp [Act.eval]) (own_lies ((Below.heap_alloc _ _ _ (by simp)).trans (heap_alloc_new W1.drew _)) (by simp)) ⟨g, 0, none⟩ p cap (zI (out.take p)) (by simp [Act.eval]) (HtA.out) (HnA.out _ ((HBd.out.alloc (by simp) _).alloc (by simp) _)) (zI_one _) (by unfold maxLen; omega) (by omega) (by first | omega | (simp; done) | (simp; omega)) ?_; intro v49 w49 hown49 hgrow49; simp only [Nat.zero_add, List.nil_append] at hown49; have HO49 := hidd hown49; have HB49 : Hid (Below W1.heap.size W1 w49) := ((HBd.out.alloc (by simp) _).alloc (by simp) _).grown hgrow49 (by first | omega | (simp; done) | (simp; omega)) (fun k hk => by first | (simp [Value.ownBlock] at hk; omega) | (cases hk; first | omega | simp)); have hx54 : w49.cell? ⟨W1.heap.size + 1, 0, none⟩ = some (.int .i64 x) := (World.cell?_of_block (hgrow49.block (W1.heap.size + 1) (by simp) (by simp [Value.ownBlock]))).trans (new_cell2 _ _ _); have HX54 := hidd hx54; clear hx54; clear hown49 hgrow49)
                  | (refine step_append_val _ rfl (.tmp 45) (.tmp 48) 30 rfl W1.heap.size 3 i0 (.int .i64 0) 1 8 Tryd.underlying30 hi hz0 hz1 hz2 rfl (by decide) (.slice (some ⟨W1.heap.size + 1, 0, none⟩) 0 0) 0 [] (by simp [Act.eval]) (own_lies ((show _ = _ by have hh := heap_alloc_new (W1.drew.alloc (.cells #[.int .i64 x] 3)) (.cells #[] 3); rw [World.size_alloc] at hh; exact hh)) (by simp)) ⟨g, 0, none⟩ p cap (zI (out.take p)) (by simp [Act.eval]) (HtA.out) (HnA.out _ ((HBd.out.alloc (by simp) _).alloc (by simp) _)) (zI_one _) (by unfold maxLen; omega) (by omega) (by first | omega | (simp; done) | (simp; omega)) ?_; intro v49 w49 hown49 hgrow49; simp only [Nat.zero_add, List.nil_append] at hown49; have HO49 := hidd hown49; have HB49 : Hid (Below W1.heap.size W1 w49) := ((HBd.out.alloc (by simp) _).alloc (by simp) _).grown hgrow49 (by first | omega | (simp; done) | (simp; omega)) (fun k hk => by first | (simp [Value.ownBlock] at hk; omega) | (cases hk; first | omega | simp)); have hx54 : w49.cell? ⟨W1.heap.size, 0, none⟩ = some (.int .i64 x) := (World.cell?_of_block (hgrow49.block W1.heap.size (by first | (simp; done) | (simp; omega)) (by simp [Value.ownBlock]))).trans (new_cell1 _ _ _); have HX54 := hidd hx54; clear hx54; clear hown49 hgrow49))
                all_goals
                  have RR : Hid (w59.ownsRow w.heap.size 3 1 v59 (p + 1 + (out.length - p)) (zI (out.take p) ++ [.int .i64 x] ++ zI (out.drop p)) ∧ Below w.heap.size w w59) := ⟨own_mono HO59.out HBw.out, HBq1.out.trans (HB59.out.mono HBw.out)⟩
                  have hv59 : v59 ≠ .slice none 0 0 := by
                    intro e
                    have := HO59.out.2
                    rw [e] at this
                    rcases this with ⟨_, h⟩ | ⟨_, _, _, h, _⟩
                    · omega
                    · simp at h
                  have HV := hidd hv59
                  clear hv59 HO59 HB59
                  go_wp2
                  go_roundw
                  · exact HFin.out _ _ RR.out.1 RR.out.2 HV.out
                  · simp [intOf]; omega
        · have hplz : ¬ (p : Int) < (out.length : Int) := by omega
          have hpb : decide ((p : Int) < (out.length : Int)) = false := by simpa using hpl
          have hpe : ((p : Int) == (out.length : Int)) = true := by simp; omega
          have HI := hidd (ins_rise HRi.out hp HP.out (fun h => absurd h hpl))
          have HFin : Hid (∀ (W : World) (v : Value), W.ownsRow w.heap.size 3 1 v (p + 1 + (out.length - p)) (zI (out.take p) ++ [.int .i64 x] ++ zI (out.drop p)) → Below w.heap.size w W → v ≠ .slice none 0 0 → _) := fun W v h1 h2 h3 => fin.out W v (out.take p ++ [x] ++ out.drop p) (by simp; omega) HI.out (fun y => by rw [ins_mem, HMe.out y, HTk.out y]) (by rw [zI_app, zI_snoc, show (out.take p ++ [x] ++ out.drop p).length = p + 1 + (out.length - p) by simp; omega]; exact h1) h2 h3
          clear HP HRi
          have hpc : (p : Int) ≤ (cap : Int) := by omega
          have hpo : (p : Int) ≤ (out.length : Int) := by omega
          go_wp2
          go_quiet (fail)
          go_wp2
          go_quiet (fail)
          go_wp2
          generalize hW1 : (wr.drewN _).drewN _ = W1
          have HOq1 : Hid (W1.ownsRow w.heap.size 3 1 (.slice (some ⟨g, 0, none⟩) out.length cap) out.length (zI out)) := by show World.ownsRow _ _ _ _ _ _ _; rw [← hW1]; exact own_drewN (own_drewN HOq.out _) _
          have HBq1 : Hid (Below w.heap.size w W1) := by show Below _ _ _; rw [← hW1]; exact below_drewN (below_drewN HBq.out _) _
          have e0 : W1.cell? ⟨gz, oz + i, none⟩ = some (.int .i64 x) := by rw [← hW1]; simpa using d0
          clear hW1 HOq HBq
          have HgzW : Hid (gz < W1.heap.size) := Nat.lt_of_lt_of_le hgz HBq1.out.size
          have HBd : Hid (Below W1.heap.size W1 W1.drew) := below_drewN (Below.refl _ _) 1
          have HBw : Hid (w.heap.size ≤ W1.heap.size) := HBq1.out.size
          have HtA : Hid ((zI (out.take p)).length = p * 1) := by show _ = _; simp [zI]; omega
          have HtB : Hid ((zI (out.drop p)).length = (out.length - p) * 1) := by show _ = _; simp [zI]
          have HnA : Hid (∀ W, Below W1.heap.size W1 W → ∀ (j : Nat) u, (zI (out.take p))[j]? = some u → W.cell? ((⟨g, 0, none⟩ : Addr).add j) = some u) := row_news HOq1.out 0 p (by omega) rfl
          by_cases hcp : p = cap
          · subst hcp
            have HnB : Hid (∀ W, Below W1.heap.size W1 W → ∀ (j : Nat) u, (zI (out.drop p))[j]? = some u → W.cell? ((⟨g, 0, none⟩ : Addr).add j) = some u) := by
              show ∀ _, _
              intro W _ j u hu
              rw [List.drop_eq_nil_of_le (by omega)] at hu
              simp [zI] at hu
            go_region_held3 (fun W => W.cell? ⟨gz, oz + i, none⟩ = some (.int .i64 x)) (first | exact e0 | exact (HB59.out.cell (p := ⟨gz, oz + i, none⟩) HgzW.out).trans e0 | exact (HB55.out.cell (p := ⟨gz, oz + i, none⟩) HgzW.out).trans e0 | exact (HB49.out.cell (p := ⟨gz, oz + i, none⟩) HgzW.out).trans e0 | go_keep) (first
              | (refine step_append_val _ rfl (.tmp 49) (.tmp 54) 30 rfl W1.heap.size 3 i0 (.int .i64 0) 1 8 Tryd.underlying30 hi hz0 hz1 hz2 rfl (by decide) v49 p (zI (out.take p)) (by simp [Act.eval]) (HO49.out.alloc _) ⟨w49.heap.size, 0, none⟩ 1 1 [.int .i64 x] (by simp [Act.eval]) rfl (one_cell (new_cell0 _ _)) (by intro u' hu'; simp at hu'; subst hu'; rfl) (by unfold maxLen; omega) (by omega) (by have := HB49.out.size; first | omega | (simp; done) | (simp; omega)) ?_; intro v55 w55 hown55 hgrow55; have HO55 := hidd hown55; have HB55 : Hid (Below W1.heap.size W1 w55) := (HB49.out.alloc HB49.out.size _).grown hgrow55 (by have := HB49.out.size; first | omega | (simp; done) | (simp; omega)) (fun k hk => by have := own_block HO49.out k hk; omega); clear hown55 hgrow55)
              | (refine step_append_val _ rfl (.tmp 49) (.tmp 54) 30 rfl W1.heap.size 3 i0 (.int .i64 0) 1 8 Tryd.underlying30 hi hz0 hz1 hz2 rfl (by decide) v49 p (zI (out.take p)) (by simp [Act.eval]) (HO49.out) ⟨W1.heap.size + 1, 0, none⟩ 1 1 [.int .i64 x] (by simp [Act.eval]) rfl (one_cell (HX54.out)) (by intro u' hu'; simp at hu'; subst hu'; rfl) (by unfold maxLen; omega) (by omega) (by have := HB49.out.size; first | omega | (simp; done) | (simp; omega)) ?_; intro v55 w55 hown55 hgrow55; have HO55 := hidd hown55; have HB55 : Hid (Below W1.heap.size W1 w55) := (HB49.out).grown hgrow55 (by have := HB49.out.size; first | omega | (simp; done) | (simp; omega)) (fun k hk => by have := own_block HO49.out k hk; omega); clear hown55 hgrow55)
              | (refine step_append_val _ rfl (.tmp 49) (.tmp 54) 30 rfl W1.heap.size 3 i0 (.int .i64 0) 1 8 Tryd.underlying30 hi hz0 hz1 hz2 rfl (by decide) v49 p (zI (out.take p)) (by simp [Act.eval]) (HO49.out) ⟨W1.heap.size, 0, none⟩ 1 1 [.int .i64 x] (by simp [Act.eval]) rfl (one_cell (HX54.out)) (by intro u' hu'; simp at hu'; subst hu'; rfl) (by unfold maxLen; omega) (by omega) (by have := HB49.out.size; first | omega | (simp; done) | (simp; omega)) ?_; intro v55 w55 hown55 hgrow55; have HO55 := hidd hown55; have HB55 : Hid (Below W1.heap.size W1 w55) := (HB49.out).grown hgrow55 (by have := HB49.out.size; first | omega | (simp; done) | (simp; omega)) (fun k hk => by have := own_block HO49.out k hk; omega); clear hown55 hgrow55)
              | (refine step_append_val _ rfl (.tmp 55) (.tmp 58) 30 rfl W1.heap.size 3 i0 (.int .i64 0) 1 8 Tryd.underlying30 hi hz0 hz1 hz2 rfl (by decide) v55 (p + 1) (zI (out.take p) ++ [.int .i64 x]) (by simp [Act.eval]) (HO55.out) ⟨g, 0, none⟩ (out.length - p) (p - p) (zI (out.drop p)) (by first | (simp [Act.eval]; done) | (simp [Act.eval]; omega)) (HtB.out) (HnB.out _ HB55.out) (zI_one _) (by unfold maxLen; omega) (by omega) (by have := HB55.out.size; first | omega | (simp; done) | (simp; omega)) ?_; intro v59 w59 hown59 hgrow59; have HO59 := hidd hown59; have HB59 : Hid (Below W1.heap.size W1 w59) := HB55.out.grown hgrow59 HB55.out.size (fun k hk => by have := own_block HO55.out k hk; omega); clear hown59 hgrow59)
              | (refine step_append_val _ rfl (.tmp 45) (.tmp 48) 30 rfl W1.heap.size 3 i0 (.int .i64 0) 1 8 Tryd.underlying30 hi hz0 hz1 hz2 rfl (by decide) (.slice (some ⟨W1.heap.size, 0, none⟩) 0 0) 0 [] (by simp [Act.eval]) (own_lies (heap_alloc_new W1.drew _) (by simp)) ⟨g, 0, none⟩ p p (zI (out.take p)) (by simp [Act.eval]) (HtA.out) (HnA.out _ (HBd.out.alloc (by simp) _)) (zI_one _) (by unfold maxLen; omega) (by omega) (by first | omega | (simp; done) | (simp; omega)) ?_; intro v49 w49 hown49 hgrow49; simp only [Nat.zero_add, List.nil_append] at hown49; have HO49 := hidd hown49; have HB49 : Hid (Below W1.heap.size W1 w49) := (HBd.out.alloc (by simp) _).grown hgrow49 (by first | omega | (simp; done) | (simp; omega)) (fun k hk => by first | (simp [Value.ownBlock] at hk; omega) | (cases hk; first | omega | simp)); clear hown49 hgrow49)
              | (refine step_append_val _ rfl (.tmp 45) (.tmp 48) 30 rfl W1.heap.size 3 i0 (.int .i64 0) 1 8 Tryd.underlying30 hi hz0 hz1 hz2 rfl (by decide) (.slice (some ⟨W1.heap.size, 0, none⟩) 0 0) 0 [] (by simp [Act.eval]) (own_lies ((Below.heap_alloc _ _ _ (by simp)).trans (heap_alloc_new W1.drew _)) (by simp)) ⟨g, 0, none⟩ p p (zI (out.take p)) (by simp [Act.eval]) (HtA.out) (HnA.out _ ((HBd.out.alloc (by simp) _).alloc (by simp) _)) (zI_one _) (by unfold maxLen; omega) (by omega) (by first | omega | (simp; done) | (simp; omega)) ?_; intro v49 w49 hown49 hgrow49; simp only [Nat.zero_add, List.nil_append] at hown49; have HO49 := hidd hown49; have HB49 : Hid (Below W1.heap.size W1 w49) := ((HBd.out.alloc (by simp) _).alloc (by simp) _).grown hgrow49 (by first | omega | (simp; done) | (simp; omega)) (fun k hk => by first | (simp [Value.ownBlock] at hk; omega) | (cases hk; first | omega | simp)); have hx54 : w49.cell? ⟨W1.heap.size + 1, 0, none⟩ = some (.int .i64 x) := (World.cell?_of_block (hgrow49.block (W1.heap.size + 1) (by simp) (by simp [Value.ownBlock]))).trans (new_cell2 _ _ _); have HX54 := hidd hx54; clear hx54; clear hown49 hgrow49)
              | (refine step_append_val _ rfl (.tmp 45) (.tmp 48) 30 rfl W1.heap.size 3 i0 (.int .i64 0) 1 8 Tryd.underlying30 hi hz0 hz1 hz2 rfl (by decide) (.slice (some ⟨W1.heap.size + 1, 0, none⟩) 0 0) 0 [] (by simp [Act.eval]) (own_lies ((show _ = _ by have hh := heap_alloc_new (W1.drew.alloc (.cells #[.int .i64 x] 3)) (.cells #[] 3); rw [World.size_alloc] at hh; exact hh)) (by simp)) ⟨g, 0, none⟩ p p (zI (out.take p)) (by simp [Act.eval]) (HtA.out) (HnA.out _ ((HBd.out.alloc (by simp) _).alloc (by simp) _)) (zI_one _) (by unfold maxLen; omega) (by omega) (by first | omega | (simp; done) | (simp; omega)) ?_; intro v49 w49 hown49 hgrow49; simp only [Nat.zero_add, List.nil_append] at hown49; have HO49 := hidd hown49; have HB49 : Hid (Below W1.heap.size W1 w49) := ((HBd.out.alloc (by simp) _).alloc (by simp) _).grown hgrow49 (by first | omega | (simp; done) | (simp; omega)) (fun k hk => by first | (simp [Value.ownBlock] at hk; omega) | (cases hk; first | omega | simp)); have hx54 : w49.cell? ⟨W1.heap.size, 0, none⟩ = some (.int .i64 x) := (World.cell?_of_block (hgrow49.block W1.heap.size (by first | (simp; done) | (simp; omega)) (by simp [Value.ownBlock]))).trans (new_cell1 _ _ _); have HX54 := hidd hx54; clear hx54; clear hown49 hgrow49))
            all_goals
              have RR : Hid (w59.ownsRow w.heap.size 3 1 v59 (p + 1 + (out.length - p)) (zI (out.take p) ++ [.int .i64 x] ++ zI (out.drop p)) ∧ Below w.heap.size w w59) := ⟨own_mono HO59.out HBw.out, HBq1.out.trans (HB59.out.mono HBw.out)⟩
              have hv59 : v59 ≠ .slice none 0 0 := by
                intro e
                have := HO59.out.2
                rw [e] at this
                rcases this with ⟨_, h⟩ | ⟨_, _, _, h, _⟩
                · omega
                · simp at h
              have HV := hidd hv59
              clear hv59 HO59 HB59
              go_wp2
              go_roundw
              · exact HFin.out _ _ RR.out.1 RR.out.2 HV.out
              · simp [intOf]; omega
          · have HnB : Hid (∀ W, Below W1.heap.size W1 W → ∀ (j : Nat) u, (zI (out.drop p))[j]? = some u → W.cell? ((⟨g, p, none⟩ : Addr).add j) = some u) := row_drop HOq1.out p
            go_region_held3 (fun W => W.cell? ⟨gz, oz + i, none⟩ = some (.int .i64 x)) (first | exact e0 | exact (HB59.out.cell (p := ⟨gz, oz + i, none⟩) HgzW.out).trans e0 | exact (HB55.out.cell (p := ⟨gz, oz + i, none⟩) HgzW.out).trans e0 | exact (HB49.out.cell (p := ⟨gz, oz + i, none⟩) HgzW.out).trans e0 | go_keep) (first
              | (refine step_append_val _ rfl (.tmp 49) (.tmp 54) 30 rfl W1.heap.size 3 i0 (.int .i64 0) 1 8 Tryd.underlying30 hi hz0 hz1 hz2 rfl (by decide) v49 p (zI (out.take p)) (by simp [Act.eval]) (HO49.out.alloc _) ⟨w49.heap.size, 0, none⟩ 1 1 [.int .i64 x] (by simp [Act.eval]) rfl (one_cell (new_cell0 _ _)) (by intro u' hu'; simp at hu'; subst hu'; rfl) (by unfold maxLen; omega) (by omega) (by have := HB49.out.size; first | omega | (simp; done) | (simp; omega)) ?_; intro v55 w55 hown55 hgrow55; have HO55 := hidd hown55; have HB55 : Hid (Below W1.heap.size W1 w55) := (HB49.out.alloc HB49.out.size _).grown hgrow55 (by have := HB49.out.size; first | omega | (simp; done) | (simp; omega)) (fun k hk => by have := own_block HO49.out k hk; omega); clear hown55 hgrow55)
              | (refine step_append_val _ rfl (.tmp 49) (.tmp 54) 30 rfl W1.heap.size 3 i0 (.int .i64 0) 1 8 Tryd.underlying30 hi hz0 hz1 hz2 rfl (by decide) v49 p (zI (out.take p)) (by simp [Act.eval]) (HO49.out) ⟨W1.heap.size + 1, 0, none⟩ 1 1 [.int .i64 x] (by simp [Act.eval]) rfl (one_cell (HX54.out)) (by intro u' hu'; simp at hu'; subst hu'; rfl) (by unfold maxLen; omega) (by omega) (by have := HB49.out.size; first | omega | (simp; done) | (simp; omega)) ?_; intro v55 w55 hown55 hgrow55; have HO55 := hidd hown55; have HB55 : Hid (Below W1.heap.size W1 w55) := (HB49.out).grown hgrow55 (by have := HB49.out.size; first | omega | (simp; done) | (simp; omega)) (fun k hk => by have := own_block HO49.out k hk; omega); clear hown55 hgrow55)
              | (refine step_append_val _ rfl (.tmp 49) (.tmp 54) 30 rfl W1.heap.size 3 i0 (.int .i64 0) 1 8 Tryd.underlying30 hi hz0 hz1 hz2 rfl (by decide) v49 p (zI (out.take p)) (by simp [Act.eval]) (HO49.out) ⟨W1.heap.size, 0, none⟩ 1 1 [.int .i64 x] (by simp [Act.eval]) rfl (one_cell (HX54.out)) (by intro u' hu'; simp at hu'; subst hu'; rfl) (by unfold maxLen; omega) (by omega) (by have := HB49.out.size; first | omega | (simp; done) | (simp; omega)) ?_; intro v55 w55 hown55 hgrow55; have HO55 := hidd hown55; have HB55 : Hid (Below W1.heap.size W1 w55) := (HB49.out).grown hgrow55 (by have := HB49.out.size; first | omega | (simp; done) | (simp; omega)) (fun k hk => by have := own_block HO49.out k hk; omega); clear hown55 hgrow55)
              | (refine step_append_val _ rfl (.tmp 55) (.tmp 58) 30 rfl W1.heap.size 3 i0 (.int .i64 0) 1 8 Tryd.underlying30 hi hz0 hz1 hz2 rfl (by decide) v55 (p + 1) (zI (out.take p) ++ [.int .i64 x]) (by simp [Act.eval]) (HO55.out) ⟨g, p, none⟩ (out.length - p) (cap - p) (zI (out.drop p)) (by first | (simp [Act.eval]; done) | (simp [Act.eval]; omega)) (HtB.out) (HnB.out _ HB55.out) (zI_one _) (by unfold maxLen; omega) (by omega) (by have := HB55.out.size; first | omega | (simp; done) | (simp; omega)) ?_; intro v59 w59 hown59 hgrow59; have HO59 := hidd hown59; have HB59 : Hid (Below W1.heap.size W1 w59) := HB55.out.grown hgrow59 HB55.out.size (fun k hk => by have := own_block HO55.out k hk; omega); clear hown59 hgrow59)
              | (refine step_append_val _ rfl (.tmp 45) (.tmp 48) 30 rfl W1.heap.size 3 i0 (.int .i64 0) 1 8 Tryd.underlying30 hi hz0 hz1 hz2 rfl (by decide) (.slice (some ⟨W1.heap.size, 0, none⟩) 0 0) 0 [] (by simp [Act.eval]) (own_lies (heap_alloc_new W1.drew _) (by simp)) ⟨g, 0, none⟩ p cap (zI (out.take p)) (by simp [Act.eval]) (HtA.out) (HnA.out _ (HBd.out.alloc (by simp) _)) (zI_one _) (by unfold maxLen; omega) (by omega) (by first | omega | (simp; done) | (simp; omega)) ?_; intro v49 w49 hown49 hgrow49; simp only [Nat.zero_add, List.nil_append] at hown49; have HO49 := hidd hown49; have HB49 : Hid (Below W1.heap.size W1 w49) := (HBd.out.alloc (by simp) _).grown hgrow49 (by first | omega | (simp; done) | (simp; omega)) (fun k hk => by first | (simp [Value.ownBlock] at hk; omega) | (cases hk; first | omega | simp)); clear hown49 hgrow49)
              | (refine step_append_val _ rfl (.tmp 45) (.tmp 48) 30 rfl W1.heap.size 3 i0 (.int .i64 0) 1 8 Tryd.underlying30 hi hz0 hz1 hz2 rfl (by decide) (.slice (some ⟨W1.heap.size, 0, none⟩) 0 0) 0 [] (by simp [Act.eval]) (own_lies ((Below.heap_alloc _ _ _ (by simp)).trans (heap_alloc_new W1.drew _)) (by simp)) ⟨g, 0, none⟩ p cap (zI (out.take p)) (by simp [Act.eval]) (HtA.out) (HnA.out _ ((HBd.out.alloc (by simp) _).alloc (by simp) _)) (zI_one _) (by unfold maxLen; omega) (by omega) (by first | omega | (simp; done) | (simp; omega)) ?_; intro v49 w49 hown49 hgrow49; simp only [Nat.zero_add, List.nil_append] at hown49; have HO49 := hidd hown49; have HB49 : Hid (Below W1.heap.size W1 w49) := ((HBd.out.alloc (by simp) _).alloc (by simp) _).grown hgrow49 (by first | omega | (simp; done) | (simp; omega)) (fun k hk => by first | (simp [Value.ownBlock] at hk; omega) | (cases hk; first | omega | simp)); have hx54 : w49.cell? ⟨W1.heap.size + 1, 0, none⟩ = some (.int .i64 x) := (World.cell?_of_block (hgrow49.block (W1.heap.size + 1) (by simp) (by simp [Value.ownBlock]))).trans (new_cell2 _ _ _); have HX54 := hidd hx54; clear hx54; clear hown49 hgrow49)
              | (refine step_append_val _ rfl (.tmp 45) (.tmp 48) 30 rfl W1.heap.size 3 i0 (.int .i64 0) 1 8 Tryd.underlying30 hi hz0 hz1 hz2 rfl (by decide) (.slice (some ⟨W1.heap.size + 1, 0, none⟩) 0 0) 0 [] (by simp [Act.eval]) (own_lies ((show _ = _ by have hh := heap_alloc_new (W1.drew.alloc (.cells #[.int .i64 x] 3)) (.cells #[] 3); rw [World.size_alloc] at hh; exact hh)) (by simp)) ⟨g, 0, none⟩ p cap (zI (out.take p)) (by simp [Act.eval]) (HtA.out) (HnA.out _ ((HBd.out.alloc (by simp) _).alloc (by simp) _)) (zI_one _) (by unfold maxLen; omega) (by omega) (by first | omega | (simp; done) | (simp; omega)) ?_; intro v49 w49 hown49 hgrow49; simp only [Nat.zero_add, List.nil_append] at hown49; have HO49 := hidd hown49; have HB49 : Hid (Below W1.heap.size W1 w49) := ((HBd.out.alloc (by simp) _).alloc (by simp) _).grown hgrow49 (by first | omega | (simp; done) | (simp; omega)) (fun k hk => by first | (simp [Value.ownBlock] at hk; omega) | (cases hk; first | omega | simp)); have hx54 : w49.cell? ⟨W1.heap.size, 0, none⟩ = some (.int .i64 x) := (World.cell?_of_block (hgrow49.block W1.heap.size (by first | (simp; done) | (simp; omega)) (by simp [Value.ownBlock]))).trans (new_cell1 _ _ _); have HX54 := hidd hx54; clear hx54; clear hown49 hgrow49))
            all_goals
              have RR : Hid (w59.ownsRow w.heap.size 3 1 v59 (p + 1 + (out.length - p)) (zI (out.take p) ++ [.int .i64 x] ++ zI (out.drop p)) ∧ Below w.heap.size w w59) := ⟨own_mono HO59.out HBw.out, HBq1.out.trans (HB59.out.mono HBw.out)⟩
              have hv59 : v59 ≠ .slice none 0 0 := by
                intro e
                have := HO59.out.2
                rw [e] at this
                rcases this with ⟨_, h⟩ | ⟨_, _, _, h, _⟩
                · omega
                · simp at h
              have HV := hidd hv59
              clear hv59 HO59 HB59
              go_wp2
              go_roundw
              · exact HFin.out _ _ RR.out.1 RR.out.2 HV.out
              · simp [intOf]; omega
    · have hltz : ¬ (i : Int) < (zs.length : Int) := by omega
      have HM2 : Hid (∀ y, y ∈ out ↔ y ∈ zs) := by
        show ∀ y, _
        intro y
        rw [HMe.out y, List.take_of_length_le (by omega)]
      go_wp2
      go_ret
      exact ⟨_, rfl, out, HRi.out, HM2.out, by omega, HO.out, HBe.out⟩
end Go.Proofs.YtmnfioghhdgciaaDoor
