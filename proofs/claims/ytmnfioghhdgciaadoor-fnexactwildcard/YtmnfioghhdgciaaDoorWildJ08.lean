import Derived.Test.YtmnfioghhdgciaaDoorWildJ07
import Derived.Test.YtmnfioghhdgciaaDoorWildJ02
import Derived.Laws.BitsAllLaws
import Derived.Laws.ShiftsVar
namespace Go.Proofs.YtmnfioghhdgciaaDoor
open Go Go.RowKit
set_option linter.unusedVariables false
set_option linter.unusedSimpArgs false
set_option maxRecDepth 100000

/-! Which steps take a character: impl.fitting. -/
def fitP (zs : List Int) (r : Int) (i : Nat) : Bool := decide (zs.getD i 0 = r) || decide (zs.getD i 0 = -2)
theorem bset_or (p : Nat → Bool) (k : Nat) : bset p k ||| 2 ^ k = bset p k + 2 ^ k := by
  rw [Nat.or_comm, Nat.add_comm]
  exact (Nat.two_pow_add_eq_or_of_lt (bset_lt p k) 1 |> fun h => by simpa using h.symm)
set_option maxHeartbeats 2000000 in
theorem fitting_any (v : Value) (zs : List Int) (r : Int) (w : World) (hl : zs.length ≤ 63) (h : HoldI w v zs) :
    Calls Tryd.prog 34 #[v, .int .i64 r] w fun e w' => e = .returned (.int .u64 (bset (fitP zs r) zs.length : Nat)) ∧ w' = w := by
  obtain ⟨ad, cap, rfl, hc⟩ := h
  have HC := hidd hc
  clear hc
  go_enter Tryd.func34, Tryd.ntmps34
  go_wp2
  go_loop [5, 10] (fun hv i => ∃ k : Nat, k ≤ zs.length ∧ i = .int .i64 (k : Int) ∧ hv = .int .u64 ((bset (fitP zs r) k : Nat) : Int)) (fun _ i => zs.length - (intOf i).toNat)
  case atStart => exact ⟨0, Nat.zero_le _, rfl, rfl⟩
  case round =>
    obtain ⟨k, hk, rfl, rfl⟩ := hrel
    by_cases hlt : k < zs.length
    · have hkz : (k : Int) < (zs.length : Int) := by omega
      obtain ⟨g, off, rfl, hg, hcells⟩ := HC.out.resolve_left (fun e => by rw [e] at hlt; simp at hlt)
      have c1 := hcells k hlt
      have HS : Hid (bset (fitP zs r) (k + 1) = bset (fitP zs r) k + (if (decide (zs.getD k 0 = r) || decide (zs.getD k 0 = -2)) = true then 2 ^ k else 0)) := rfl
      have hB := bset_lt (fitP zs r) k
      have HO := hidd (bset_or (fitP zs r) k)
      have hp : 2 ^ k ≤ 9223372036854775808 := by
        have := Nat.pow_le_pow_right (show 0 < 2 by omega) (show k ≤ 63 by omega)
        simpa using this
      clear hcells
      generalize zs.getD k 0 = z at *
      generalize bset (fitP zs r) k = B at *
      obtain ⟨P, hP⟩ : ∃ P : Nat, 2 ^ k = P := ⟨_, rfl⟩
      have HP := hidd hP
      rw [hP] at hB hp
      have hPz : (2 : Int) ^ k = (P : Int) := by rw [← hP]; norm_cast
      clear hP
      have hor := u64_or_nat B P (by omega) (by omega)
      by_cases hz : z = r
      · have hzb : (z == r) = true := by simp [hz]
        have HN : Hid (bset (fitP zs r) (k + 1) = B ||| P) := by show _ = _; rw [HS.out, HP.out, show B ||| P = B + P by rw [← HP.out]; exact HO.out]; simp [hz]
        go_wp2
        exact ⟨⟨k + 1, by omega, by go_num, by rw [HN.out]⟩, by simp [intOf]; omega⟩
      · have hzb : (z == r) = false := by simp [hz]
        by_cases hz2 : z = -2
        · have hzb2 : (z == -2) = true := by simp [hz2]
          have HN : Hid (bset (fitP zs r) (k + 1) = B ||| P) := by show _ = _; rw [HS.out, HP.out, show B ||| P = B + P by rw [← HP.out]; exact HO.out]; simp [hz2]
          clear hz hz2
          go_wp2
          exact ⟨⟨k + 1, by omega, by go_num, by rw [HN.out]⟩, by simp [intOf]; omega⟩
        · have hzb2 : (z == -2) = false := by simp [hz2]
          have HN : Hid (bset (fitP zs r) (k + 1) = B) := by show _ = _; rw [HS.out]; simp [hz, hz2]
          clear hz hz2
          go_wp2
          exact ⟨⟨k + 1, by omega, by go_num, by rw [HN.out]⟩, by simp [intOf]; omega⟩
    · have hkz : ¬ (k : Int) < (zs.length : Int) := by omega
      have HK : Hid (k = zs.length) := by show _ = _; omega
      go_wp2
      go_ret
      rw [HK.out]
      exact ⟨rfl, rfl⟩
end Go.Proofs.YtmnfioghhdgciaaDoor

namespace Go.Proofs.YtmnfioghhdgciaaDoor
open Go Go.RowKit
set_option linter.unusedVariables false
set_option linter.unusedSimpArgs false
set_option maxRecDepth 100000
theorem four_set {W : World} {b : Nat} {x0 x1 x2 x3 : Value} {t : TypeId} (h : W.heap[b]? = some (.cells #[x0, x1, x2, x3] t)) (y0 y1 y2 y3 : Value) : ((((W.setCell ⟨b, 0, none⟩ y0).setCell ⟨b, 1, none⟩ y1).setCell ⟨b, 2, none⟩ y2).setCell ⟨b, 3, none⟩ y3).heap[b]? = some (.cells #[y0, y1, y2, y3] t) := by
  have h1 := blk_setk (blk_setk (blk_setk (blk_setk h 0 y0) 1 y1) 2 y2) 3 y3
  simpa using h1
end Go.Proofs.YtmnfioghhdgciaaDoor

namespace Go.Proofs.YtmnfioghhdgciaaDoor
open Go Go.RowKit
set_option linter.unusedVariables false
set_option linter.unusedSimpArgs false
set_option maxRecDepth 100000

/-! impl.newAlphabet over rising characters, each of its own kind. -/
abbrev nilS : Value := .slice none 0 0
structure AlG (w W : World) (ab sb : Nat) (cs : Array Value) (vm vmem : Value) (M : List Int) (R : RowMap) : Prop where
  box : W.heap[ab]? = some (.cells cs 59)
  zer : W.heap[w.heap.size]? = some (.cells #[nilS, nilS, nilS, nilS] 59)
  set : SetAt keyI W w.heap.size sb vm vmem M
  rows : RowsF W w.heap.size R
  mem : R 3 = some (vmem, M)
  bel : Below w.heap.size w W
  ge : w.heap.size < ab ∧ w.heap.size < sb
variable {w W W1 : World} {ab sb : Nat} {cs : Array Value} {vm vmem : Value} {M : List Int} {R : RowMap}
theorem AlG.push (h : AlG w W ab sb cs vm vmem M R) {i : Nat} (h3 : i ≠ 3) {v v' : Value} {zs : List Int} {x : Int} (hi : R i = some (v, zs)) (hb : But (fun b => v.ownBlock = some b) W W1) (ho : W1.ownsRow w.heap.size 3 1 v' (zs.length + 1) (zI zs ++ [.int .i64 x])) (hat : ∀ b, v'.ownBlock = some b → v.ownBlock = some b ∨ W.heap.size ≤ b) (j : Nat) :
    AlG w (W1.setCell ⟨ab, j, none⟩ v') ab sb (cs.setIfInBounds j v') vm vmem M (upd R i (some (v', zs ++ [x]))) ∧ W1.heap[ab]? = some (.cells cs 59) := by
  have hown := h.rows.own i v zs hi
  have hab : W1.heap[ab]? = some (.cells cs 59) := by
    rw [hb.block ab (Array.getElem?_eq_some_iff.1 h.box).1 (fun e => by
      obtain ⟨_, cur, h2⟩ := own_blk hown e
      exact blk_ne h.box h2 (by decide) rfl)]
    exact h.box
  have hset1 : SetAt keyI W1 w.heap.size sb vm vmem M := h.set.but hb (fun b hB e => by
    obtain ⟨_, cur, h2⟩ := own_blk hown e
    rcases setI_X h.set b hB with h1 | h1
    · rcases h.rows.apart 3 i vmem M v zs (Ne.symm h3) h.mem hi with h4 | h4
      · rw [h1] at h4; cases h4
      · exact h4 (h1.trans e.symm)
    · exact h1 cur h2)
  have hr1 : RowsF W1 w.heap.size (upd R i (some (v', zs ++ [x]))) := h.rows.growB hi hb (by rw [List.length_append, List.length_singleton, zI_snoc]; exact ho) hat
  have hz1 : W1.heap[w.heap.size]? = some (.cells #[nilS, nilS, nilS, nilS] 59) := by
    rw [hb.block _ (Array.getElem?_eq_some_iff.1 h.zer).1 (fun e => by
      obtain ⟨_, cur, h2⟩ := own_blk hown e
      exact blk_ne h.zer h2 (by decide) rfl)]
    exact h.zer
  have hB1 : Below w.heap.size w W1 := h.bel.trans (hb.below h.bel.size (fun k hk e => by have := own_block hown k e; omega))
  refine ⟨⟨?_, ?_, ?_, ?_, ?_, ?_, h.ge⟩, hab⟩
  · exact blk_setk hab j v'
  · rw [heap_set_other _ _ _ _ _ (by have := h.ge; omega)]; exact hz1
  · refine hset1.keep (fun b hB => heap_set_other _ _ _ _ _ ?_)
    rintro rfl
    rcases hB with h1 | h1 | h1
    · have h2 := hset1.box
      rw [← h1] at h2
      exact blk_ne hab h2 (by decide) rfl
    · rcases hset1.map with ⟨h5, _⟩ | ⟨mb, h5, _, es, c, h6, _⟩
      · rw [h5] at h1; cases h1
      · rw [h5] at h1; cases h1; rw [hab] at h6; cases h6
    · obtain ⟨_, cur, h2⟩ := own_blk hset1.row h1
      exact blk_ne hab h2 (by decide) rfl
  · refine hr1.but ((But.refl (fun b => b = ab) W1).set ab j v' rfl) (fun b hB cur e => ?_)
    subst hB
    exact blk_ne hab e (by decide) rfl
  · rw [upd_other _ _ (Ne.symm h3)]; exact h.mem
  · exact hB1.setCell (by show w.heap.size ≤ ab; have := h.ge; omega) v'
theorem AlG.placed (h : AlG w W ab sb cs vm vmem M R) {vm' vmem' : Value} {M' : List Int} (hs' : SetAt keyI W1 w.heap.size sb vm' vmem' M') (hb : But (SetB sb vm vmem) W W1) (hat : ∀ b, vmem'.ownBlock = some b → vmem.ownBlock = some b ∨ W.heap.size ≤ b) : AlG w W1 ab sb cs vm' vmem' M' (upd R 3 (some (vmem', M'))) := by
  have far : ∀ b, (∃ cs', W.heap[b]? = some (.cells cs' 59)) → ¬ SetB sb vm vmem b := by
    rintro b ⟨cs', hb'⟩ hB
    rcases hB with rfl | h1 | h1
    · exact blk_ne hb' h.set.box (by decide) rfl
    · rcases h.set.map with ⟨h5, _⟩ | ⟨mb, h5, _, es, c, h6, _⟩
      · rw [h5] at h1; cases h1
      · rw [h5] at h1; cases h1; rw [hb'] at h6; cases h6
    · obtain ⟨_, cur, h2⟩ := own_blk h.set.row h1
      exact blk_ne hb' h2 (by decide) rfl
  refine ⟨?_, ?_, hs', h.rows.place h.mem h.set hs' hb hat, upd_same _ _ _, h.bel.trans (hb.below h.bel.size (fun k hk hB => ?_)), h.ge⟩
  · rw [hb.block ab (Array.getElem?_eq_some_iff.1 h.box).1 (far _ ⟨_, h.box⟩)]; exact h.box
  · rw [hb.block _ (Array.getElem?_eq_some_iff.1 h.zer).1 (far _ ⟨_, h.zer⟩)]; exact h.zer
  · rcases h.set.from_ hB with h1 | h1
    · have := h.ge; omega
    · omega
theorem AlG.put (h : AlG w W ab sb cs vm vmem M R) {i : Nat} (h3 : i ≠ 3) {g cap n : Nat} {zs : List Int} (hnl : zs.length = n) (hi : R i = some (.slice (some ⟨g, 0, none⟩) n cap, zs)) {k : Nat} (hk : k < n) (x : Int) : AlG w (W.setCell ⟨g, k, none⟩ (.int .i64 x)) ab sb cs vm vmem M (upd R i (some (.slice (some ⟨g, 0, none⟩) n cap, zs.set k x))) := by
  subst hnl
  have hown := h.rows.own i _ zs hi
  obtain ⟨hg, cur, hgb⟩ := own_blk hown (b := g) rfl
  refine ⟨?_, ?_, ?_, h.rows.set hi hk x, ?_, h.bel.setCell (by exact hg) _, h.ge⟩
  · rw [heap_set_other _ _ _ _ _ (blk_ne h.box hgb (by decide))]; exact h.box
  · rw [heap_set_other _ _ _ _ _ (blk_ne h.zer hgb (by decide))]; exact h.zer
  · refine h.set.keep (fun b hB => heap_set_other _ _ _ _ _ ?_)
    rintro rfl
    rcases setI_X h.set b hB with h1 | h1
    · rcases h.rows.apart 3 i vmem M _ zs (Ne.symm h3) h.mem hi with h4 | h4
      · rw [h1] at h4; cases h4
      · exact h4 h1
    · exact h1 cur hgb
  · rw [upd_other _ _ (Ne.symm h3)]; exact h.mem
end Go.Proofs.YtmnfioghhdgciaaDoor

namespace Go.Proofs.YtmnfioghhdgciaaDoor
open Go Go.RowKit
set_option linter.unusedVariables false
set_option linter.unusedSimpArgs false
set_option maxRecDepth 100000

theorem own_lit {W : World} {base e n : Nat} {v : Value} {xs : List Value} (h : W.ownsRow base e 1 v (n + 1) xs) (hn : v ≠ .slice none 0 0) : ∃ g cap, v = .slice (some ⟨g, 0, none⟩) (n + 1) cap := by
  rcases h.2 with ⟨h1, _⟩ | ⟨g, cap, cur, h1, _⟩
  · exact absurd h1 hn
  · exact ⟨g, cap, h1⟩
theorem own_sl {W : World} {base e n : Nat} {v : Value} {xs : List Value} (h : W.ownsRow base e 1 v n xs) : ∃ ad cap, v = .slice ad n cap := by
  rcases h.2 with ⟨h1, h2⟩ | ⟨g, cap, cur, h1, _⟩
  · exact ⟨none, 0, by rw [h1, h2]⟩
  · exact ⟨_, cap, h1⟩
def AlPost (w : World) (v : Value) (ls : List Int) (e : Ending) (w' : World) : Prop :=
  ∃ vy vs vc, e = .returned (.agg #[v, vy, vs, vc]) ∧ HoldI w' vy (nat2 (List.range ls.length)) ∧ HoldI w' vs (ls ++ [-1]) ∧ HoldI w' vc (List.replicate ls.length 1 ++ [1112064 - (ls.length : Int)]) ∧ Below w.heap.size w w'
theorem al_start (w : World) (v : Value) : AlG w (((w.alloc (.cells #[nilS, nilS, nilS, nilS] 59)).alloc (.cells #[v, nilS, nilS, nilS] 59)).alloc (.cells #[.map none, nilS] 120)) (w.heap.size + 1) (w.heap.size + 2) #[v, nilS, nilS, nilS] (.map none) nilS [] (fun a => if a < 4 then some (nilS, []) else none) := by
  have hz1 : (w.alloc (.cells #[nilS, nilS, nilS, nilS] 59)).heap.size = w.heap.size + 1 := by simp
  have hz2 : ((w.alloc (.cells #[nilS, nilS, nilS, nilS] 59)).alloc (.cells #[v, nilS, nilS, nilS] 59)).heap.size = w.heap.size + 2 := by rw [World.size_alloc, hz1]
  refine ⟨?_, ?_, ?_, ⟨fun a u zs h => ?_, fun a b u zs x ys hab h h' => ?_⟩, rfl, (((Below.refl _ _).alloc (Nat.le_refl _) _).alloc (by rw [hz1]; omega) _).alloc (by rw [hz2]; omega) _, by omega⟩
  · rw [Below.heap_alloc _ _ _ (by rw [hz2]; omega), ← hz1]; exact heap_alloc_new _ _
  · rw [Below.heap_alloc _ _ _ (by rw [hz2]; omega), Below.heap_alloc _ _ _ (by rw [hz1]; omega)]; exact heap_alloc_new w _
  · have := setAt_new (K := keyI) ((w.alloc (.cells #[nilS, nilS, nilS, nilS] 59)).alloc (.cells #[v, nilS, nilS, nilS] 59)) w.heap.size
    rw [hz2] at this
    exact this
  · split at h
    · cases h; exact World.ownsRow_nil _ _ _ _
    · cases h
  · split at h
    · cases h; exact Or.inl rfl
    · cases h
set_option maxHeartbeats 8000000 in
theorem newAlphabet_any (v : Value) (ls : List Int) (w : World) (hl : ls.length ≤ 1000000) (hn : ls.Nodup) (hb : ∀ x ∈ ls, 0 ≤ x ∧ x ≤ 1114111) (h : HoldI w v ls) :
    Calls Tryd.prog 43 #[v, v] w (AlPost w v ls) := by
  obtain ⟨i0, hi, hz0, hz1, hz2⟩ := info_parts Tryd.infoIntL
  obtain ⟨ad, cap, rfl, hcell⟩ := h
  have HC := hidd hcell
  have H0 := hidd (al_start w (.slice ad ls.length cap))
  have HN := hidd hn
  have HBd := hidd hb
  clear hcell hn hb
  go_enter Tryd.func43, Tryd.ntmps43
  go_wp2_with fail
  go_loopw [15] (fun iv wx => ∃ (k : Nat) (R : RowMap) (vy vs vc vm vmem : Value), k ≤ ls.length ∧ iv = .int .i64 (k : Int) ∧ AlG w wx (w.heap.size + 1) (w.heap.size + 2) #[.slice ad ls.length cap, vy, vs, vc] vm vmem (ls.take k) R ∧ R 0 = some (vy, nat2 (List.range k)) ∧ R 1 = some (vs, ls.take k) ∧ R 2 = some (vc, List.replicate k 1)) (fun iv _ => ls.length - (intOf iv).toNat)
  case atStart => exact ⟨0, _, _, _, _, _, _, Nat.zero_le _, rfl, H0.out, rfl, rfl, rfl⟩
  case round =>
    obtain ⟨k, R, vy, vs, vc, vm, vmem, hk, rfl, hA, hR0, hR1, hR2⟩ := hrel
    have HA := hidd hA
    obtain ⟨HR0, HR1, HR2⟩ : Hid (R 0 = some (vy, nat2 (List.range k))) ∧ Hid (R 1 = some (vs, ls.take k)) ∧ Hid (R 2 = some (vc, List.replicate k 1)) := ⟨hR0, hR1, hR2⟩
    have hsz := hA.bel.size
    clear H0
    by_cases hlt : k < ls.length
    · have hkz : (k : Int) < (ls.length : Int) := by omega
      obtain ⟨g, off, rfl, hg, hcs⟩ := HC.out.resolve_left (fun e => by rw [e] at hlt; simp at hlt)
      have c0 : wr.cell? ⟨g, off + k, none⟩ = some (.int .i64 (ls.getD k 0)) := (hA.bel.cell (p := ⟨g, off + k, none⟩) hg).trans (hcs k hlt)
      have hxk : ls.getD k 0 = ls[k] := by rw [List.getD_eq_getElem?_getD, List.getElem?_eq_getElem hlt]; rfl
      have hxb : 0 ≤ ls.getD k 0 ∧ ls.getD k 0 ≤ 1114111 := by rw [hxk]; exact HBd.out _ (List.getElem_mem hlt)
      have HT : Hid (ls.take k ++ [ls.getD k 0] = ls.take (k + 1)) := by show _ = _; rw [hxk, List.take_succ_eq_append_getElem hlt]
      have hfr : ls.getD k 0 ∉ ls.take k := by
        rw [hxk]
        intro hm
        obtain ⟨j, hj, e⟩ := List.mem_take_iff_getElem.1 hm
        have := (List.getElem_inj (h₀ := by omega) (h₁ := hlt) HN.out).1 e
        omega
      have htl : (ls.take k).length = k := by rw [List.length_take]; omega
      have HI : Hid (ix (meet (ls.take k) (ls.getD k 0)) (ls.getD k 0) = k ∧ meet (ls.take k) (ls.getD k 0) = ls.take (k + 1)) := by
        refine ⟨by rw [meet_fresh hfr, ix_new hfr, htl], by rw [meet_fresh hfr, HT.out]⟩
      obtain ⟨adc, cpc, rfl⟩ : ∃ ad cp, vc = .slice ad k cp := by
        have := own_sl (hA.rows.own 2 _ _ hR2)
        rwa [List.length_replicate] at this
      have HTL := hidd htl
      clear hcs hxk hfr htl hA hR0 hR1 hR2
      generalize ls.getD k 0 = x at *
      go_wp2_with fail
      refine (placeI_any w.heap.size (w.heap.size + 2) vm vmem (ls.take k) x _ ⟨by omega, by omega⟩ (by rw [HTL.out]; omega) hsz HA.out.set).mono ?_
      rintro e w1 ⟨rfl, vm1, vmem1, hs1, hbut1, hat1, _⟩
      rw [HI.out.2] at hs1
      have hA1 := HA.out.placed hs1 hbut1 hat1
      have HA1 := hidd hA1
      rw [HI.out.1]
      have b1 := blkc hA1.box 1
      have b2 := blkc hA1.box 2
      have b3 := blkc hA1.box 3
      have fz1 := fun j => frozen_of_row _ _ j _ _ hA1.box
      have hkk : ((k : Int) == (k : Int)) = true := by simp
      have HO1 : Hid (w1.ownsRow w.heap.size 3 1 vs k (zI (ls.take k))) := by
        have := hA1.rows.own 1 vs (ls.take k) (by rw [upd_other _ _ (by decide)]; exact HR1.out)
        rw [HTL.out] at this; exact this
      have hz1' := hA1.bel.size
      clear hs1 hbut1 hat1 hA1 c0
      go_wp2_with (at_builtin; refine wp_push rfl _ _ 30 3 rfl i0 (.int .i64 0) 8 Tryd.underlying30 hi hz0 hz1 hz2 rfl w.heap.size _ _ _ rfl HO1.out _ rfl rfl (by omega) (by decide) hz1' ?_)
      intro v2 w2 ho2 hbt2 hat2 hnn2
      obtain ⟨g2, c2, rfl⟩ := own_lit ho2 hnn2
      have HP2 := HA1.out.push (i := 1) (by decide) (zs := ls.take k) (x := x) (by rw [upd_other _ _ (by decide)]; exact HR1.out) hbt2 (by rw [HTL.out]; exact ho2) hat2 2
      have d2 := blkc HP2.2 2
      have fz2 := frozen_of_row _ _ 2 _ _ HP2.2
      have hA2 : AlG w (w2.setCell ⟨w.heap.size + 1, 2, none⟩ (.slice (some ⟨g2, 0, none⟩) (k + 1) c2)) (w.heap.size + 1) (w.heap.size + 2) #[.slice (some ⟨g, off, none⟩) ls.length cap, vy, .slice (some ⟨g2, 0, none⟩) (k + 1) c2, .slice adc k cpc] vm1 vmem1 (ls.take (k + 1)) (upd (upd R 3 (some (vmem1, ls.take (k + 1)))) 1 (some (.slice (some ⟨g2, 0, none⟩) (k + 1) c2, ls.take k ++ [x]))) := HP2.1
      have HA2 := hidd hA2
      have e1 := blkc hA2.box 1
      have e3 := blkc hA2.box 3
      have hz2' := hA2.bel.size
      have HO2 : Hid ((w2.setCell ⟨w.heap.size + 1, 2, none⟩ (.slice (some ⟨g2, 0, none⟩) (k + 1) c2)).ownsRow w.heap.size 3 1 (.slice adc k cpc) k (zI (List.replicate k 1))) := by
        have := hA2.rows.own 2 _ (List.replicate k 1) (by rw [upd_other _ _ (by decide), upd_other _ _ (by decide)]; exact HR2.out)
        rw [List.length_replicate] at this; exact this
      clear ho2 hbt2 hat2 hnn2 HP2 hA2 b1 b2 b3 fz1 HO1 HA1 hz1'
      go_upto_region 9 with fail
      clear d2 fz2
      generalize w2.setCell ⟨w.heap.size + 1, 2, none⟩ (.slice (some ⟨g2, 0, none⟩) (k + 1) c2) = W2 at *
      go_wp2_with (at_builtin; refine wp_push rfl _ _ 30 3 rfl i0 (.int .i64 0) 8 Tryd.underlying30 hi hz0 hz1 hz2 rfl w.heap.size _ _ _ rfl HO2.out _ rfl rfl (by omega) (by decide) hz2' ?_)
      intro v3 w3 ho3 hbt3 hat3 hnn3
      obtain ⟨g3, c3, rfl⟩ := own_lit ho3 hnn3
      have HP3 := HA2.out.push (i := 2) (by decide) (zs := List.replicate k 1) (x := 0) (by rw [upd_other _ _ (by decide), upd_other _ _ (by decide)]; exact HR2.out) hbt3 (by rw [List.length_replicate]; exact ho3) hat3 3
      have d3 := blkc HP3.2 3
      have fz3 := frozen_of_row _ _ 3 _ _ HP3.2
      have hA3 : AlG w (w3.setCell ⟨w.heap.size + 1, 3, none⟩ (.slice (some ⟨g3, 0, none⟩) (k + 1) c3)) (w.heap.size + 1) (w.heap.size + 2) #[.slice (some ⟨g, off, none⟩) ls.length cap, vy, .slice (some ⟨g2, 0, none⟩) (k + 1) c2, .slice (some ⟨g3, 0, none⟩) (k + 1) c3] vm1 vmem1 (ls.take (k + 1)) (upd (upd (upd R 3 (some (vmem1, ls.take (k + 1)))) 1 (some (.slice (some ⟨g2, 0, none⟩) (k + 1) c2, ls.take k ++ [x]))) 2 (some (.slice (some ⟨g3, 0, none⟩) (k + 1) c3, List.replicate k 1 ++ [0]))) := HP3.1
      have HA3 := hidd hA3
      have f1 := blkc hA3.box 1
      have hz3' := hA3.bel.size
      have HO3 : Hid ((w3.setCell ⟨w.heap.size + 1, 3, none⟩ (.slice (some ⟨g3, 0, none⟩) (k + 1) c3)).ownsRow w.heap.size 3 1 vy k (zI (nat2 (List.range k)))) := by
        have := hA3.rows.own 0 _ (nat2 (List.range k)) (by rw [upd_other _ _ (by decide), upd_other _ _ (by decide), upd_other _ _ (by decide)]; exact HR0.out)
        rw [nat2_len, List.length_range] at this; exact this
      clear ho3 hbt3 hat3 hnn3 HP3 hA3 e1 e3 HO2 HA2 hz2'
      go_upto_region 10 with fail
      clear d3 fz3
      generalize w3.setCell ⟨w.heap.size + 1, 3, none⟩ (.slice (some ⟨g3, 0, none⟩) (k + 1) c3) = W3 at *
      go_wp2_with (at_builtin; refine wp_push rfl _ _ 30 3 rfl i0 (.int .i64 0) 8 Tryd.underlying30 hi hz0 hz1 hz2 rfl w.heap.size _ _ _ rfl HO3.out _ rfl rfl (by omega) (by decide) hz3' ?_)
      intro v4 w4 ho4 hbt4 hat4 hnn4
      obtain ⟨g4, c4, rfl⟩ := own_lit ho4 hnn4
      have HP4 := HA3.out.push (i := 0) (by decide) (zs := nat2 (List.range k)) (x := (k : Int)) (by rw [upd_other _ _ (by decide), upd_other _ _ (by decide), upd_other _ _ (by decide)]; exact HR0.out) hbt4 (by rw [nat2_len, List.length_range]; exact ho4) hat4 1
      have d4 := blkc HP4.2 1
      have fz4 := frozen_of_row _ _ 1 _ _ HP4.2
      have hA4 : AlG w (w4.setCell ⟨w.heap.size + 1, 1, none⟩ (.slice (some ⟨g4, 0, none⟩) (k + 1) c4)) (w.heap.size + 1) (w.heap.size + 2) #[.slice (some ⟨g, off, none⟩) ls.length cap, .slice (some ⟨g4, 0, none⟩) (k + 1) c4, .slice (some ⟨g2, 0, none⟩) (k + 1) c2, .slice (some ⟨g3, 0, none⟩) (k + 1) c3] vm1 vmem1 (ls.take (k + 1)) (upd (upd (upd (upd R 3 (some (vmem1, ls.take (k + 1)))) 1 (some (.slice (some ⟨g2, 0, none⟩) (k + 1) c2, ls.take k ++ [x]))) 2 (some (.slice (some ⟨g3, 0, none⟩) (k + 1) c3, List.replicate k 1 ++ [0]))) 0 (some (.slice (some ⟨g4, 0, none⟩) (k + 1) c4, nat2 (List.range k) ++ [(k : Int)]))) := HP4.1
      have HA4 := hidd hA4
      have p3 := blkc hA4.box 3
      have hln : (List.replicate k (1 : Int) ++ [0]).length = k + 1 := by simp
      have hR4 : (upd (upd (upd (upd R 3 (some (vmem1, ls.take (k + 1)))) 1 (some (.slice (some ⟨g2, 0, none⟩) (k + 1) c2, ls.take k ++ [x]))) 2 (some (.slice (some ⟨g3, 0, none⟩) (k + 1) c3, List.replicate k 1 ++ [0]))) 0 (some (.slice (some ⟨g4, 0, none⟩) (k + 1) c4, nat2 (List.range k) ++ [(k : Int)]))) 2 = some (.slice (some ⟨g3, 0, none⟩) (k + 1) c3, List.replicate k 1 ++ [0]) := by rw [upd_other _ _ (by decide), upd_same]
      have hown4 := hA4.rows.own 2 _ _ hR4
      have q3 : (w4.setCell ⟨w.heap.size + 1, 1, none⟩ (.slice (some ⟨g4, 0, none⟩) (k + 1) c4)).cell? ⟨g3, k, none⟩ = some (.int .i64 0) := by
        obtain ⟨g', o', e', _, hc'⟩ := (HoldI.own hown4).cells (i := k) (by rw [hln]; omega)
        simp only [Option.some.injEq, Addr.mk.injEq, and_true] at e'
        obtain ⟨rfl, rfl⟩ := e'
        rw [Nat.zero_add] at hc'
        rw [hc']
        simp
      obtain ⟨_, cur3, hg3b⟩ := own_blk hown4 (b := g3) rfl
      have fq3 := frozen_of_row _ _ k _ _ hg3b
      have HA5 := hidd (hA4.put (i := 2) (by decide) hln hR4 (k := k) (by omega) 1)
      have HS5 : Hid ((List.replicate k (1 : Int) ++ [0]).set k 1 = List.replicate (k + 1) 1) := by
        show _ = _
        rw [List.replicate_succ', List.set_append_right _ _ (by simp)]
        simp
      have HS6 : Hid (nat2 (List.range k) ++ [(k : Int)] = nat2 (List.range (k + 1))) := by show _ = _; rw [List.range_succ, nat2_app]; rfl
      clear ho4 hbt4 hat4 hnn4 HP4 hA4 f1 HO3 HA3 hz3' hown4 hg3b hR4
      go_upto_region 11 with fail
      clear d4 fz4 HA4
      generalize w4.setCell ⟨w.heap.size + 1, 1, none⟩ (.slice (some ⟨g4, 0, none⟩) (k + 1) c4) = W4 at *
      go_wp2_with fail
      go_roundw
      case rel => exact ⟨k + 1, _, _, _, _, _, _, by omega, by go_num, HA5.out, by rw [upd_other _ _ (by decide), upd_same, HS6.out], by rw [upd_other _ _ (by decide), upd_other _ _ (by decide), upd_other _ _ (by decide), upd_same, HT.out], by rw [upd_same, HS5.out]⟩
      case measure => simp [intOf]; omega
    · have hkz : ¬ (k : Int) < (ls.length : Int) := by omega
      obtain rfl : k = ls.length := by omega
      have htk : ls.take ls.length = ls := List.take_length
      rw [htk] at hA hR1
      have HA' := hidd hA
      have HR1' := hidd hR1
      clear HA HR1
      obtain ⟨adc, cpc, rfl⟩ : ∃ ad cp, vc = .slice ad ls.length cp := by
        have := own_sl (hA.rows.own 2 _ _ hR2)
        rwa [List.length_replicate] at this
      obtain ⟨ady, cpy, rfl⟩ : ∃ ad cp, vy = .slice ad ls.length cp := by
        have := own_sl (hA.rows.own 0 _ _ hR0)
        rwa [nat2_len, List.length_range] at this
      have b1 := blkc hA.box 1
      have b2 := blkc hA.box 2
      have b3 := blkc hA.box 3
      have fz1 := fun j => frozen_of_row _ _ j _ _ hA.box
      obtain ⟨T, hT, hT0⟩ : ∃ T : Int, 1112064 - (ls.length : Int) = T ∧ T > 0 := ⟨_, rfl, by omega⟩
      have HTT := hidd hT
      have HO1 : Hid (wr.ownsRow w.heap.size 3 1 vs ls.length (zI ls)) := hA.rows.own 1 vs ls hR1
      clear hA hR0 hR1 hR2 htk hkz hlt
      go_wp2_with (at_builtin; refine wp_push rfl _ _ 30 3 rfl i0 (.int .i64 0) 8 Tryd.underlying30 hi hz0 hz1 hz2 rfl w.heap.size _ _ _ rfl HO1.out _ rfl rfl (by omega) (by decide) hsz ?_)
      intro v2 w2 ho2 hbt2 hat2 hnn2
      obtain ⟨g2, c2, rfl⟩ := own_lit ho2 hnn2
      have HP2 := HA'.out.push (i := 1) (by decide) (zs := ls) (x := -1) HR1'.out hbt2 ho2 hat2 2
      have d2 := blkc HP2.2 2
      have fz2 := frozen_of_row _ _ 2 _ _ HP2.2
      have hA2 : AlG w (w2.setCell ⟨w.heap.size + 1, 2, none⟩ (.slice (some ⟨g2, 0, none⟩) (ls.length + 1) c2)) (w.heap.size + 1) (w.heap.size + 2) #[.slice ad ls.length cap, .slice ady ls.length cpy, .slice (some ⟨g2, 0, none⟩) (ls.length + 1) c2, .slice adc ls.length cpc] vm vmem ls (upd R 1 (some (.slice (some ⟨g2, 0, none⟩) (ls.length + 1) c2, ls ++ [-1]))) := HP2.1
      have HA2 := hidd hA2
      have e3 := blkc hA2.box 3
      have hz2' := hA2.bel.size
      have HO2 : Hid ((w2.setCell ⟨w.heap.size + 1, 2, none⟩ (.slice (some ⟨g2, 0, none⟩) (ls.length + 1) c2)).ownsRow w.heap.size 3 1 (.slice adc ls.length cpc) ls.length (zI (List.replicate ls.length 1))) := by
        have := hA2.rows.own 2 _ (List.replicate ls.length 1) (by rw [upd_other _ _ (by decide)]; exact HR2.out)
        rw [List.length_replicate] at this; exact this
      clear ho2 hbt2 hat2 hnn2 HP2 hA2 b1 b2 b3 fz1 HO1 HA'
      go_upto_region 16 with fail
      clear d2 fz2
      generalize w2.setCell ⟨w.heap.size + 1, 2, none⟩ (.slice (some ⟨g2, 0, none⟩) (ls.length + 1) c2) = W2 at *
      go_wp2_with (at_builtin; refine wp_push rfl _ _ 30 3 rfl i0 (.int .i64 0) 8 Tryd.underlying30 hi hz0 hz1 hz2 rfl w.heap.size _ _ _ rfl HO2.out _ rfl rfl (by omega) (by decide) hz2' ?_)
      intro v3 w3 ho3 hbt3 hat3 hnn3
      obtain ⟨g3, c3, rfl⟩ := own_lit ho3 hnn3
      have HP3 := HA2.out.push (i := 2) (by decide) (zs := List.replicate ls.length 1) (x := T) (by rw [upd_other _ _ (by decide)]; exact HR2.out) hbt3 (by rw [List.length_replicate]; exact ho3) hat3 3
      have d3 := blkc HP3.2 3
      have fz3 := frozen_of_row _ _ 3 _ _ HP3.2
      have hA3 : AlG w (w3.setCell ⟨w.heap.size + 1, 3, none⟩ (.slice (some ⟨g3, 0, none⟩) (ls.length + 1) c3)) (w.heap.size + 1) (w.heap.size + 2) #[.slice ad ls.length cap, .slice ady ls.length cpy, .slice (some ⟨g2, 0, none⟩) (ls.length + 1) c2, .slice (some ⟨g3, 0, none⟩) (ls.length + 1) c3] vm vmem ls (upd (upd R 1 (some (.slice (some ⟨g2, 0, none⟩) (ls.length + 1) c2, ls ++ [-1]))) 2 (some (.slice (some ⟨g3, 0, none⟩) (ls.length + 1) c3, List.replicate ls.length 1 ++ [T]))) := HP3.1
      have hrw := hA3.rows
      have hy := (hrw.own 0 _ (nat2 (List.range ls.length)) (by rw [upd_other _ _ (by decide), upd_other _ _ (by decide)]; exact HR0.out))
      have hs := (hrw.own 1 _ (ls ++ [-1]) (by rw [upd_other _ _ (by decide), upd_same]))
      have hc := (hrw.own 2 _ (List.replicate ls.length 1 ++ [T]) (by rw [upd_same]))
      have hzr := hA3.zer
      have hbl := hA3.bel
      have n0 := blkc hA3.box 0
      have n1 := blkc hA3.box 1
      have n2 := blkc hA3.box 2
      have n3 := blkc hA3.box 3
      have r0 := blkc hzr 0
      have r1 := blkc hzr 1
      have r2 := blkc hzr 2
      have r3 := blkc hzr 3
      have fzr := fun j => frozen_of_row _ _ j _ _ hzr
      have HY := hidd hy
      have HS := hidd hs
      have HCc := hidd hc
      have HZr := hidd hzr
      have HBl := hidd hbl
      clear ho3 hbt3 hat3 hnn3 HP3 hA3 e3 HO2 HA2 hz2' hrw hy hs hc hzr hbl
      go_upto_region 17 with fail
      clear d3 fz3
      generalize w3.setCell ⟨w.heap.size + 1, 3, none⟩ (.slice (some ⟨g3, 0, none⟩) (ls.length + 1) c3) = W3 at *
      have Hfs := hidd (four_set HZr.out (.slice ad ls.length cap) (.slice ady ls.length cpy) (.slice (some ⟨g2, 0, none⟩) (ls.length + 1) c2) (.slice (some ⟨g3, 0, none⟩) (ls.length + 1) c3))
      go_wp2_with fail
      have q0 := blkc Hfs.out 0
      have q1 := blkc Hfs.out 1
      have q2 := blkc Hfs.out 2
      have q3 := blkc Hfs.out 3
      have hbf : Below w.heap.size w _ := (((HBl.out.setCell (p := ⟨w.heap.size, 0, none⟩) (Nat.le_refl _) (.slice ad ls.length cap)).setCell (p := ⟨w.heap.size, 1, none⟩) (Nat.le_refl _) (.slice ady ls.length cpy)).setCell (p := ⟨w.heap.size, 2, none⟩) (Nat.le_refl _) (.slice (some ⟨g2, 0, none⟩) (ls.length + 1) c2)).setCell (p := ⟨w.heap.size, 3, none⟩) (Nat.le_refl _) (.slice (some ⟨g3, 0, none⟩) (ls.length + 1) c3)
      have keep : ∀ (u : Value) (zs : List Int), W3.ownsRow w.heap.size 3 1 u zs.length (zI zs) → ((((W3.setCell ⟨w.heap.size, 0, none⟩ (.slice ad ls.length cap)).setCell ⟨w.heap.size, 1, none⟩ (.slice ady ls.length cpy)).setCell ⟨w.heap.size, 2, none⟩ (.slice (some ⟨g2, 0, none⟩) (ls.length + 1) c2)).setCell ⟨w.heap.size, 3, none⟩ (.slice (some ⟨g3, 0, none⟩) (ls.length + 1) c3)).ownsRow w.heap.size 3 1 u zs.length (zI zs) := fun u zs hu => own_congr hu (fun b hk => by
        obtain ⟨_, cur, h2⟩ := own_blk hu hk
        have hne := blk_ne h2 HZr.out (by decide)
        rw [heap_set_other _ _ _ _ _ hne, heap_set_other _ _ _ _ _ hne, heap_set_other _ _ _ _ _ hne, heap_set_other _ _ _ _ _ hne])
      have HFin : Hid (AlPost w (.slice ad ls.length cap) ls (.returned (.agg #[.slice ad ls.length cap, .slice ady ls.length cpy, .slice (some ⟨g2, 0, none⟩) (ls.length + 1) c2, .slice (some ⟨g3, 0, none⟩) (ls.length + 1) c3])) _) := ⟨_, _, _, rfl, HoldI.own (keep _ _ HY.out), HoldI.own (keep _ _ HS.out), by rw [HTT.out]; exact HoldI.own (keep _ _ HCc.out), hbf⟩
      clear hbf keep Hfs HY HS HCc n0 n1 n2 n3 r0 r1 r2 r3 fzr HBl HZr
      generalize (((W3.setCell ⟨w.heap.size, 0, none⟩ (.slice ad ls.length cap)).setCell ⟨w.heap.size, 1, none⟩ (.slice ady ls.length cpy)).setCell ⟨w.heap.size, 2, none⟩ (.slice (some ⟨g2, 0, none⟩) (ls.length + 1) c2)).setCell ⟨w.heap.size, 3, none⟩ (.slice (some ⟨g3, 0, none⟩) (ls.length + 1) c3) = Wf at *
      refine bodyPost_ret (v := .agg #[.slice ad ls.length cap, .slice ady ls.length cpy, .slice (some ⟨g2, 0, none⟩) (ls.length + 1) c2, .slice (some ⟨g3, 0, none⟩) (ls.length + 1) c3]) (by simp [results, Tryd.results43, go_sem, *]) rfl ?_
      exact HFin.out
end Go.Proofs.YtmnfioghhdgciaaDoor
