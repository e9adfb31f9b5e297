import Derived.Test.YtcnjmjcbhelkhaaMergeHitsJ04
namespace Go.Proofs.Ytcnjmjcbhelkhaa
open Go Go.RowKit
set_option linter.unusedVariables false
set_option maxRecDepth 100000
set_option linter.unusedSimpArgs false

/-! What waits to be told, in memory; two of them compared. -/
structure MEnv where
  w0 : World
  ks : List (Tx × Bool)
  sa : Option Addr
  sc : Nat
  sb : Nat → Nat
  hit : Nat → Fd
  dead : Nat
structure MEnv.OK (E : MEnv) : Prop where
  few : E.ks.length ≤ 4
  srt : HoldSK E.w0 E.sa E.ks
def MEnv.gt (E : MEnv) : Nat → Nat → Bool := gtM (dsOf E.ks) E.hit
theorem MEnv.ord (E : MEnv) : Ord E.gt := gtM_ord _ _
def MEnv.pv (E : MEnv) (i : Nat) : Value := .pointer (some ⟨E.sb i, 0, none⟩)
def MEnv.cmpV (E : MEnv) : Value := .func (.func 57) #[.slice E.sa E.ks.length E.sc] #[]
def HitAt (E : MEnv) (w : World) (i : Nat) : Prop := ∃ fa fc nx, w.heap[E.sb i]? = some (.cells #[.string (bs (E.hit i).1), .int .i64 (E.hit i).2.1, .slice fa (E.hit i).2.2.length fc, .int .i64 (i : Int), nx] 82) ∧ HoldZ E.w0 fa (E.hit i).2.2 ∧ (E.hit i).2.2.length = E.ks.length
theorem HitAt.keep {E : MEnv} {w w' : World} {i : Nat} (h : HitAt E w i) (hk : w'.heap[E.sb i]? = w.heap[E.sb i]?) : HitAt E w' i := by
  obtain ⟨fa, fc, nx, h1, h2, h3⟩ := h
  exact ⟨fa, fc, nx, hk.trans h1, h2, h3⟩
theorem HitAt.lt {E : MEnv} {w : World} {i : Nat} (h : HitAt E w i) : E.sb i < w.heap.size := by
  obtain ⟨fa, fc, nx, h1, h2, h3⟩ := h
  exact (Array.getElem?_eq_some_iff.1 h1).1
theorem HitAt.below {E : MEnv} {w w' : World} {i : Nat} (h : HitAt E w i) (hb : Below w.heap.size w w') : HitAt E w' i := h.keep (hb.block _ h.lt)
set_option maxHeartbeats 8000000 in
theorem backw_any (E : MEnv) (w : World) (hE : E.OK) (hb : Below E.w0.heap.size E.w0 w) (i j : Nat) (hi : HitAt E w i) (hj : HitAt E w j) :
    Calls Try.prog 57 #[.slice E.sa E.ks.length E.sc, E.pv i, E.pv j] w fun e w' => ∃ z, e = .returned (.int .i64 z) ∧ decide (z > 0) = E.gt i j ∧ Below w.heap.size w w' := by
  obtain ⟨fa, fc, nx, f1, f2, f3⟩ := hi
  obtain ⟨ga, gc, ny, g1, g2, g3⟩ := hj
  have HC : Hid (∀ W, Below w.heap.size w W → Calls Try.prog 36 #[.slice E.sa E.ks.length E.sc, .agg #[.string (bs (E.hit j).1), .int .i64 (E.hit j).2.1, .slice ga (E.hit j).2.2.length gc], .agg #[.string (bs (E.hit i).1), .int .i64 (E.hit i).2.1, .slice fa (E.hit i).2.2.length fc]] W fun e w' => e = .returned (.int .i64 (fcM (dsOf E.ks) (E.hit j) (E.hit i))) ∧ Below W.heap.size W w') := fun W hW => by
    have hb2 := hb.trans (hW.mono hb.size)
    exact ordCmp_any W E.sa E.sc E.ks (E.hit j) (E.hit i) ga fa gc fc hE.few (hE.srt.below hb2) (g2.below hb2) (f2.below hb2) g3 f3
  have HI : Hid (∀ W, Calls Try.prog 63 #[.int .i64 (j : Int), .int .i64 (i : Int)] W fun e w' => e = .returned (.int .i64 (ciM (j : Int) (i : Int))) ∧ w' = W) := fun W => compare_any _ _ W
  have HG : Hid (decide (lexM (fcM (dsOf E.ks) (E.hit j) (E.hit i)) (ciM (j : Int) (i : Int)) > 0) = E.gt i j) := rfl
  have e1 : E.pv i = .pointer (some ⟨E.sb i, 0, none⟩) := rfl
  have e2 : E.pv j = .pointer (some ⟨E.sb j, 0, none⟩) := rfl
  rw [e1, e2]
  clear e1 e2 hE hb f2 g2
  have hfl := (Array.getElem?_eq_some_iff.1 f1).1
  have hgl := (Array.getElem?_eq_some_iff.1 g1).1
  rw [f3, g3] at HC
  rw [f3] at f1
  rw [g3] at g1
  clear f3 g3
  generalize E.gt i j = r at *
  generalize fcM (dsOf E.ks) (E.hit j) (E.hit i) = c at *
  generalize ciM (j : Int) (i : Int) = q at *
  generalize (i : Int) = iz at *
  generalize (j : Int) = jz at *
  generalize E.ks.length = n at *
  generalize bs (E.hit i).1 = fi at *
  generalize bs (E.hit j).1 = gi at *
  generalize (E.hit i).2.1 = fs at *
  generalize (E.hit j).2.1 = gs at *
  generalize E.sb i = X at *
  generalize E.sb j = Y at *
  generalize E.sa = sa at *
  generalize E.sc = sc at *
  obtain ⟨R, hR⟩ : ∃ R, (if c ≠ 0 then c else q) = R := ⟨_, rfl⟩
  have HR := hidd hR
  have HG2 : Hid (decide (R > 0) = r) := by have := HG.out; rw [lexM, hR] at this; exact this
  clear hR HG
  have x0 : w.cell? ⟨X, 0, none⟩ = some (.string fi) := blkc f1 0
  have x1 : w.cell? ⟨X, 1, none⟩ = some (.int .i64 fs) := blkc f1 1
  have x2 : w.cell? ⟨X, 2, none⟩ = some (.slice fa n fc) := blkc f1 2
  have x3 : w.cell? ⟨X, 3, none⟩ = some (.int .i64 iz) := blkc f1 3
  have y0 : w.cell? ⟨Y, 0, none⟩ = some (.string gi) := blkc g1 0
  have y1 : w.cell? ⟨Y, 1, none⟩ = some (.int .i64 gs) := blkc g1 1
  have y2 : w.cell? ⟨Y, 2, none⟩ = some (.slice ga n gc) := blkc g1 2
  have y3 : w.cell? ⟨Y, 3, none⟩ = some (.int .i64 jz) := blkc g1 3
  clear f1 g1
  go_enter Try.func57, Try.ntmps57
  go_wp2_with fail
  go_region_held3 (fun W => W.cell? ⟨X, 0, none⟩ = some (.string fi) ∧ W.cell? ⟨X, 1, none⟩ = some (.int .i64 fs) ∧ W.cell? ⟨X, 2, none⟩ = some (.slice fa n fc) ∧ W.cell? ⟨X, 3, none⟩ = some (.int .i64 iz) ∧ W.cell? ⟨Y, 0, none⟩ = some (.string gi) ∧ W.cell? ⟨Y, 1, none⟩ = some (.int .i64 gs) ∧ W.cell? ⟨Y, 2, none⟩ = some (.slice ga n gc) ∧ W.cell? ⟨Y, 3, none⟩ = some (.int .i64 jz))
    (first | exact ⟨x0, x1, x2, x3, y0, y1, y2, y3⟩ | exact S1.out | go_keep)
    (first
    | (go_at_call 36; refine (HC.out _ (by first | exact (Below.refl _ _).drew | exact Below.refl _ _)).mono ?_; rintro e w' ⟨rfl, hb⟩; have HB : Hid (Below w.heap.size w w') := (by first | exact hb | exact (Below.refl _ _).drew.trans hb); have S1 := hidd (And.intro ((HB.out.cell (p := ⟨X, 0, none⟩) hfl).trans x0) (And.intro ((HB.out.cell (p := ⟨X, 1, none⟩) hfl).trans x1) (And.intro ((HB.out.cell (p := ⟨X, 2, none⟩) hfl).trans x2) (And.intro ((HB.out.cell (p := ⟨X, 3, none⟩) hfl).trans x3) (And.intro ((HB.out.cell (p := ⟨Y, 0, none⟩) hgl).trans y0) (And.intro ((HB.out.cell (p := ⟨Y, 1, none⟩) hgl).trans y1) (And.intro ((HB.out.cell (p := ⟨Y, 2, none⟩) hgl).trans y2) ((HB.out.cell (p := ⟨Y, 3, none⟩) hgl).trans y3)))))))); clear hb)
    | (go_at_call 63; refine (HI.out _).mono ?_; rintro e w' ⟨rfl, rfl⟩)
    | (go_at_call 64; refine (or_any c q _ _ _ (by go_simp) (by go_simp) R HR).mono ?_; rintro e w' ⟨rfl, rfl⟩))
  all_goals
    go_wp2
    go_ret
    exact ⟨R, rfl, HG2.out, by exact HB.out.alloc HB.out.size _⟩
end Go.Proofs.Ytcnjmjcbhelkhaa

namespace Go.Proofs.Ytcnjmjcbhelkhaa
open Go Go.RowKit
set_option linter.unusedVariables false
set_option maxRecDepth 100000
set_option linter.unusedSimpArgs false

/-! A heap of sources in memory, and its methods. -/
structure HpAt (E : MEnv) (w : World) (p : Nat) (v : Value) (H : List Nat) : Prop where
  ok : E.OK
  bel : Below E.w0.heap.size E.w0 w
  pge : E.w0.heap.size ≤ p
  box : w.heap[p]? = some (.cells #[v, E.cmpV] 79)
  row : w.ownsRow E.w0.heap.size 75 1 v H.length (H.map E.pv)
  src : ∀ i, i ∈ H → i ≠ E.dead → HitAt E w i
theorem Try.infoHS : (Try.prog.info? 75).map (fun i => (i.zero, i.size, i.bytes)) = some (some (.pointer none), 1, 8) := by kernel_rfl
theorem own1_form {w : World} {base e n : Nat} {v : Value} {xs : List Value} (h : w.ownsRow base e 1 v n xs) (hn : 0 < n) : ∃ g cap, v = .slice (some ⟨g, 0, none⟩) n cap ∧ base ≤ g ∧ g < w.heap.size ∧ n ≤ cap := by
  rcases h.2 with ⟨_, h'⟩ | ⟨g, cap, cur, h1, hb, hg, hc, _⟩
  · omega
  · exact ⟨g, cap, h1, hb, (Array.getElem?_eq_some_iff.1 hg).1, hc⟩
theorem own1_set {w : World} {base e n g cap : Nat} {xs : List Value} (h : w.ownsRow base e 1 (.slice (some ⟨g, 0, none⟩) n cap) n xs) (k : Nat) (u : Value) :
    (w.setCell ⟨g, k, none⟩ u).ownsRow base e 1 (.slice (some ⟨g, 0, none⟩) n cap) n (xs.set k u) := by
  refine ⟨by rw [List.length_set]; exact h.1, ?_⟩
  rcases h.2 with ⟨h', _⟩ | ⟨g', cap', cur, h1, h2, h3, h4, h5, h6, h7⟩
  · cases h'
  · simp only [Value.slice.injEq, Option.some.injEq, Addr.mk.injEq, and_true, true_and] at h1
    obtain ⟨rfl, rfl⟩ := h1
    refine Or.inr ⟨g, cap, cur.setIfInBounds k u, rfl, h2, blk_setk h3 k u, h4, h5, by rw [Array.size_setIfInBounds]; exact h6, ?_⟩
    rw [Array.toList_setIfInBounds, List.take_set, h7]
theorem own1_cut {w : World} {base e n g cap i : Nat} {xs : List Value} (h : w.ownsRow base e 1 (.slice (some ⟨g, 0, none⟩) n cap) n xs) (hi : i ≤ n) :
    w.ownsRow base e 1 (.slice (some ⟨g, 0, none⟩) i cap) i (xs.take i) := by
  refine ⟨by rw [List.length_take, h.1]; omega, ?_⟩
  rcases h.2 with ⟨h', _⟩ | ⟨g', cap', cur, h1, h2, h3, h4, h5, h6, h7⟩
  · cases h'
  · simp only [Value.slice.injEq, Option.some.injEq, Addr.mk.injEq, and_true, true_and] at h1
    obtain ⟨rfl, rfl⟩ := h1
    refine Or.inr ⟨g, cap, cur, rfl, h2, h3, by omega, h5, h6, ?_⟩
    rw [← h7, List.take_take, Nat.min_eq_left (by omega), Nat.mul_one]
theorem own1_frozen {w : World} {base e n g cap : Nat} {xs : List Value} (h : w.ownsRow base e 1 (.slice (some ⟨g, 0, none⟩) n cap) n xs) (k : Nat) : w.frozen? ⟨g, k, none⟩ = false := by
  rcases h.2 with ⟨h', _⟩ | ⟨g', cap', cur, h1, h2, h3, h4, h5, h6, h7⟩
  · cases h'
  · simp only [Value.slice.injEq, Option.some.injEq, Addr.mk.injEq, and_true, true_and] at h1
    obtain ⟨rfl, rfl⟩ := h1
    exact frozen_of_row w g k _ _ h3
theorem HpAt.lt {E : MEnv} {w : World} {p : Nat} {v : Value} {H : List Nat} (h : HpAt E w p v H) : p < w.heap.size := (Array.getElem?_eq_some_iff.1 h.box).1
theorem HpAt.ne {E : MEnv} {w : World} {p : Nat} {v : Value} {H : List Nat} (h : HpAt E w p v H) : v.ownBlock ≠ some p := by
  intro e
  obtain ⟨_, cur, hc⟩ := own_blk h.row e
  exact blk_ne h.box hc (by decide) rfl
theorem HitAt.neP {E : MEnv} {w : World} {p i : Nat} {cs : Array Value} {t : TypeId} (h : HitAt E w i) (hp : w.heap[p]? = some (.cells cs t)) (ht : t ≠ 82) : E.sb i ≠ p := by
  obtain ⟨fa, fc, nx, h1, _⟩ := h
  exact fun e => blk_ne h1 hp (fun e2 => ht e2.symm) e
theorem HpAt.apart {E : MEnv} {w : World} {p : Nat} {v : Value} {H : List Nat} (h : HpAt E w p v H) {i : Nat} (hi : i ∈ H) (hd : i ≠ E.dead) : ¬ (E.sb i = p ∨ v.ownBlock = some (E.sb i)) := by
  rintro (e | e)
  · exact (h.src i hi hd).neP h.box (by decide) e
  · obtain ⟨_, cur, hc⟩ := own_blk h.row e
    exact (h.src i hi hd).neP hc (by decide) rfl
theorem HpAt.but {X : Nat → Prop} {E : MEnv} {w w' : World} {p : Nat} {v : Value} {H : List Nat} (h : HpAt E w p v H) (hb : But X w w') (hp : ¬ X p) (hv : ∀ b, v.ownBlock = some b → ¬ X b) (hs : ∀ i, i ∈ H → i ≠ E.dead → ¬ X (E.sb i)) (hx : ∀ b, b < E.w0.heap.size → ¬ X b) : HpAt E w' p v H :=
  ⟨h.ok, h.bel.trans (hb.below h.bel.size hx), h.pge, (hb.block p h.lt hp).trans h.box, own_congr h.row fun b e => hb.block b (h.row.lt b e).2 (hv b e), fun i hi hd => (h.src i hi hd).keep (hb.block _ (h.src i hi hd).lt (hs i hi hd))⟩
theorem HpAt.below {E : MEnv} {w w' : World} {p : Nat} {v : Value} {H : List Nat} (h : HpAt E w p v H) (hb : Below w.heap.size w w') : HpAt E w' p v H :=
  h.but (X := fun _ => False) (But.of_below hb) (fun h => h) (fun _ _ h => h) (fun _ _ _ h => h) (fun _ _ h => h)
/-- What a method may touch: the box, and the row that it had. -/
structure Mv (p : Nat) (w : World) (v : Value) (w' : World) (v' : Value) : Prop where
  but : But (fun b => b = p ∨ v.ownBlock = some b) w w'
  new : v'.ownBlock = v.ownBlock ∨ ∀ b, v'.ownBlock = some b → w.heap.size ≤ b
theorem Mv.refl (p : Nat) (w : World) (v : Value) : Mv p w v w v := ⟨But.refl _ _, .inl rfl⟩
theorem Mv.of_below {p : Nat} {w w' : World} {v : Value} (h : Below w.heap.size w w') : Mv p w v w' v := ⟨But.of_below h, .inl rfl⟩
theorem Mv.trans {p : Nat} {a b c : World} {u v x : Value} (h : Mv p a u b v) (k : Mv p b v c x) : Mv p a u c x := by
  refine ⟨h.but.trans k.but (fun _ _ h => h) (fun i hi hx => ?_), ?_⟩
  · rcases hx with hx | hx
    · exact .inl hx
    · rcases h.new with hn | hn
      · exact .inr (hn ▸ hx)
      · have := hn i hx; omega
  · rcases k.new with kn | kn
    · rcases h.new with hn | hn
      · exact .inl (kn.trans hn)
      · exact .inr fun b hb => hn b (kn ▸ hb)
    · exact .inr fun b hb => Nat.le_trans h.but.size (kn b hb)
theorem hlen_any (E : MEnv) (w : World) (p : Nat) (v : Value) (H : List Nat) (hH : HpAt E w p v H) :
    Calls Try.prog 43 #[.pointer (some ⟨p, 0, none⟩)] w fun e w' => e = .returned (.int .i64 (H.length : Int)) ∧ w' = w := by
  have c0 := blkc hH.box 0
  simp only [List.getElem?_toArray, List.getElem?_cons_zero] at c0
  have hv : ∃ a cap, v = .slice a H.length cap := by
    rcases hH.row.2 with ⟨h1, h2⟩ | ⟨g, cap, cur, h1, _⟩
    · exact ⟨none, 0, by rw [h2]; exact h1⟩
    · exact ⟨_, _, h1⟩
  obtain ⟨a, cap, rfl⟩ := hv
  clear hH
  generalize H.length = n at *
  go_enter Try.func43, Try.ntmps43
  go_wp2
  go_ret
  exact ⟨rfl, rfl⟩
theorem row_at {E : MEnv} {w : World} {base e g cap : Nat} {H : List Nat} (h : w.ownsRow base e 1 (.slice (some ⟨g, 0, none⟩) H.length cap) H.length (H.map E.pv)) (t : Nat) (ht : t < H.length) : w.cell? ⟨g, t, none⟩ = some (.pointer (some ⟨E.sb (H.getD t 0), 0, none⟩)) := by
  rw [h.cellAt t (by omega), List.getElem?_map]
  simp [ht, MEnv.pv]
theorem getD_mem {H : List Nat} {i : Nat} (h : i < H.length) : H.getD i 0 ∈ H := by simp [h]
set_option maxHeartbeats 4000000 in
theorem hless_any (E : MEnv) (w : World) (p : Nat) (v : Value) (H : List Nat) (i j : Nat) (hi : i < H.length) (hj : j < H.length) (hdi : H.getD i 0 ≠ E.dead) (hdj : H.getD j 0 ≠ E.dead) (hl : H.length ≤ 1048576) (hH : HpAt E w p v H) :
    Calls Try.prog 84 #[.pointer (some ⟨p, 0, none⟩), .int .i64 (i : Int), .int .i64 (j : Int)] w fun e w' => e = .returned (.bool (E.gt (H.getD i 0) (H.getD j 0))) ∧ Below w.heap.size w w' := by
  obtain ⟨g, cap, rfl, hg1, hg2, hg3⟩ := own1_form hH.row (by omega)
  have c0 : w.cell? ⟨p, 0, none⟩ = some (.slice (some ⟨g, 0, none⟩) H.length cap) := blkc hH.box 0
  have c1 : w.cell? ⟨p, 1, none⟩ = some E.cmpV := blkc hH.box 1
  rw [MEnv.cmpV] at c1
  have x0 := row_at hH.row i hi
  have y0 := row_at hH.row j hj
  have hiz : (i : Int) < (H.length : Int) := by omega
  have hjz : (j : Int) < (H.length : Int) := by omega
  have HC : Hid (∀ W, Below w.heap.size w W → Calls Try.prog 57 #[.slice E.sa E.ks.length E.sc, .pointer (some ⟨E.sb (H.getD i 0), 0, none⟩), .pointer (some ⟨E.sb (H.getD j 0), 0, none⟩)] W fun e w' => ∃ z, e = .returned (.int .i64 z) ∧ decide (z > 0) = E.gt (H.getD i 0) (H.getD j 0) ∧ Below W.heap.size W w') := fun W hW => backw_any E W hH.ok (hH.bel.trans (hW.mono hH.bel.size)) _ _ ((hH.src _ (getD_mem hi) hdi).below hW) ((hH.src _ (getD_mem hj) hdj).below hW)
  clear hdi hdj
  generalize E.gt (H.getD i 0) (H.getD j 0) = r at *
  generalize E.sb (H.getD i 0) = X at *
  generalize E.sb (H.getD j 0) = Y at *
  generalize E.sa = sa at *
  generalize E.sc = sc at *
  generalize E.ks.length = kn at *
  have hpl := hH.lt
  generalize H.length = n at *
  clear hH
  go_enter Try.func84, Try.ntmps84
  go_wp2_with fail
  go_region_held3 (fun W => W.cell? ⟨p, 0, none⟩ = some (.slice (some ⟨g, 0, none⟩) n cap) ∧ W.cell? ⟨p, 1, none⟩ = some (.func (.func 57) #[.slice sa kn sc] #[]) ∧ W.cell? ⟨g, i, none⟩ = some (.pointer (some ⟨X, 0, none⟩)) ∧ W.cell? ⟨g, j, none⟩ = some (.pointer (some ⟨Y, 0, none⟩)))
    (first | exact ⟨c0, c1, x0, y0⟩ | exact S1.out | go_keep)
    ((go_at_call 57; refine (HC.out _ (by first | exact (Below.refl _ _).drew | exact Below.refl _ _)).mono ?_; rintro e w' ⟨z, rfl, hz, hb⟩; have HZ := hidd hz; have HB : Hid (Below w.heap.size w w') := (by first | exact hb | exact (Below.refl _ _).drew.trans hb); have S1 := hidd (And.intro ((HB.out.cell (p := ⟨p, 0, none⟩) hpl).trans c0) (And.intro ((HB.out.cell (p := ⟨p, 1, none⟩) hpl).trans c1) (And.intro ((HB.out.cell (p := ⟨g, i, none⟩) hg2).trans x0) ((HB.out.cell (p := ⟨g, j, none⟩) hg2).trans y0)))); clear hz hb))
  all_goals
    go_wp2_with fail
    go_ret
    exact ⟨by rw [← HZ.out]; rfl, HB.out⟩
end Go.Proofs.Ytcnjmjcbhelkhaa
