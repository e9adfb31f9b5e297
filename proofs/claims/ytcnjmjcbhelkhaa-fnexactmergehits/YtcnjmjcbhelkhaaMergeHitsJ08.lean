import Derived.Test.YtcnjmjcbhelkhaaMergeHitsJ07
namespace Go.Proofs.Ytcnjmjcbhelkhaa
open Go Go.RowKit
set_option linter.unusedVariables false
set_option maxRecDepth 100000
set_option linter.unusedSimpArgs false

/-! A source, and its step. -/
abbrev nxV (lb : Nat) : Value := .func (.func 58) #[.pointer (some ⟨lb, 0, none⟩)] #[]
set_option maxHeartbeats 4000000 in
theorem step_none (w : World) (sb lb : Nat) (z0 z1 z2 : Value) (pl : Int) (ra : Option Addr) (rc : Nat) (hs : w.heap[sb]? = some (.cells #[z0, z1, z2, .int .i64 pl, nxV lb] 82)) (hb : w.heap[lb]? = some (.cells #[.slice ra 0 rc] 99)) :
    Calls Try.prog 44 #[ptr sb] w fun e w' => e = .returned (.bool false) ∧ But (fun b => b = sb) w w' := by
  have HN := hidd (next_none w lb ra rc hb)
  have HS := hidd hs
  have c4 : w.cell? ⟨sb, 4, none⟩ = some (nxV lb) := blkc hs 4
  have hlt := (Array.getElem?_eq_some_iff.1 hs).1
  clear hb hs
  go_enter Try.func44, Try.ntmps44
  go_wp2_with fail
  refine HN.out.mono ?_
  rintro e w1 ⟨rfl, hb1⟩
  have HB1 := hidd hb1
  have HB2 := hidd (hb1.alloc hb1.size (.cells #[.string ⟨#[]⟩, .int .i64 0, .slice none 0 0] 47))
  have HS2 := hidd (blko (blko HS.out hb1) ((Below.refl _ _).alloc (Nat.le_refl _) (.cells #[.string ⟨#[]⟩, .int .i64 0, .slice none 0 0] 47)))
  have s0 := blkc HS2.out 0
  have s1 := blkc HS2.out 1
  have s2 := blkc HS2.out 2
  simp only [List.getElem?_toArray, List.getElem?_cons_zero, List.getElem?_cons_succ] at s0 s1 s2
  have f0 := blkf HS2.out 0
  have f1 := blkf HS2.out 1
  have f2 := blkf HS2.out 2
  have hne : ¬ sb = w1.heap.size := by have := hb1.size; omega
  clear hb1 c4
  go_wp2_with fail
  go_ret
  exact ⟨rfl, (((But.of_below (X := fun b => b = sb) HB2.out).set sb 0 _ rfl).set sb 1 _ rfl).set sb 2 _ rfl⟩
set_option maxHeartbeats 4000000 in
theorem step_more (w0 w : World) (sb lb : Nat) (z0 z1 z2 : Value) (pl : Int) (ra : Option Addr) (rc : Nat) (f : Fd) (L : List Fd) (hs : w.heap[sb]? = some (.cells #[z0, z1, z2, .int .i64 pl, nxV lb] 82)) (hb : w.heap[lb]? = some (.cells #[.slice ra (L.length + 1) rc] 99)) (hL : HoldFd w0 ra (f :: L)) (hw0 : Below w0.heap.size w0 w) (hc : L.length + 1 ≤ rc) (hl : L.length ≤ 1048576) :
    Calls Try.prog 44 #[ptr sb] w fun e w' => ∃ fa fc ra' rc', e = .returned (.bool true) ∧ HoldZ w0 fa f.2.2 ∧ w'.heap[sb]? = some (.cells #[.string (bs f.1), .int .i64 f.2.1, .slice fa f.2.2.length fc, .int .i64 pl, nxV lb] 82) ∧ w'.heap[lb]? = some (.cells #[.slice ra' L.length rc'] 99) ∧ HoldFd w0 ra' L ∧ L.length ≤ rc' ∧ But (fun b => b = sb ∨ b = lb) w w' := by
  have HN := hidd (next_any w0 w lb ra rc f L hb hL hw0 hc hl)
  have hne : sb ≠ lb := fun e => blk_ne hs hb (by decide) e
  have HS := hidd hs
  have c4 : w.cell? ⟨sb, 4, none⟩ = some (nxV lb) := blkc hs 4
  have hlt := (Array.getElem?_eq_some_iff.1 hs).1
  clear hb hL hs hw0
  generalize f.2.2.length = kn at *
  generalize bs f.1 = fi at *
  generalize f.2.1 = fs at *
  go_enter Try.func44, Try.ntmps44
  go_wp2_with fail
  refine HN.out.mono ?_
  rintro e w1 ⟨fa, fc, ra', rc', rfl, hz, hlb, hfd, hle, hbut⟩
  have hsz := hbut.size
  have hs1 : w1.heap[sb]? = _ := (hbut.block sb hlt hne).trans HS.out
  have hba : Below w1.heap.size w1 (w1.alloc (.cells #[.string (fi), .int .i64 fs, .slice fa kn fc] 47)) := (Below.refl _ _).alloc (Nat.le_refl _) _
  have HS2 := hidd (blko hs1 hba)
  have HL2 := hidd (blko hlb hba)
  have HF := hidd (And.intro hz (And.intro hfd (And.intro hle (hbut.alloc (.cells #[.string (fi), .int .i64 fs, .slice fa kn fc] 47)))))
  have s0 := blkc HS2.out 0
  have s1 := blkc HS2.out 1
  have s2 := blkc HS2.out 2
  simp only [List.getElem?_toArray, List.getElem?_cons_zero, List.getElem?_cons_succ] at s0 s1 s2
  have f0 := blkf HS2.out 0
  have f1 := blkf HS2.out 1
  have f2 := blkf HS2.out 2
  have hne2 : ¬ sb = w1.heap.size := by omega
  clear hz hlb hfd hle hbut hs1 hba c4 HS
  go_wp2_with fail
  go_ret
  refine ⟨fa, fc, ra', rc', rfl, HF.out.1, ?_, ?_, HF.out.2.1, HF.out.2.2.1, (((HF.out.2.2.2.mono (Z := fun b => b = sb ∨ b = lb) fun b _ e => Or.inr e).set sb 0 _ (Or.inl rfl)).set sb 1 _ (Or.inl rfl)).set sb 2 _ (Or.inl rfl)⟩
  · have h := blk_setk (blk_setk (blk_setk HS2.out 0 (.string fi)) 1 (.int .i64 fs)) 2 (.slice fa kn fc)
    simpa using h
  · rw [heap_set_other _ _ _ _ _ (fun e => hne e.symm), heap_set_other _ _ _ _ _ (fun e => hne e.symm), heap_set_other _ _ _ _ _ (fun e => hne e.symm)]
    exact HL2.out
/-- A block may change only if it lies from lo on and is of a type of T. -/
def MvT (lo : Nat) (T : TypeId → Prop) (W W' : World) : Prop := But (fun b => lo ≤ b ∧ ∃ cs t, W.heap[b]? = some (.cells cs t) ∧ T t) W W'
theorem MvT.refl (lo : Nat) (T : TypeId → Prop) (W : World) : MvT lo T W W := But.refl _ _
theorem MvT.trans {lo : Nat} {T : TypeId → Prop} {a b c : World} (h : MvT lo T a b) (k : MvT lo T b c) : MvT lo T a c := by
  refine But.trans (Z := fun b => lo ≤ b ∧ ∃ cs t, a.heap[b]? = some (.cells cs t) ∧ T t) h k (fun _ _ h => h) (fun i hi hx => ?_)
  apply Classical.byContradiction
  intro hn
  have := h.block i hi hn
  obtain ⟨h1, cs, t, h2, h3⟩ := hx
  exact hn ⟨h1, cs, t, this ▸ h2, h3⟩
theorem MvT.of_below {lo : Nat} {T : TypeId → Prop} {W W' : World} (h : Below W.heap.size W W') : MvT lo T W W' := But.of_below h
theorem MvT.of_but {lo : Nat} {T : TypeId → Prop} {X : Nat → Prop} {W W' : World} (h : But X W W') (hx : ∀ b, b < W.heap.size → X b → lo ≤ b ∧ ∃ cs t, W.heap[b]? = some (.cells cs t) ∧ T t) : MvT lo T W W' := But.mono h hx
theorem MvT.below {lo : Nat} {T : TypeId → Prop} {W W' : World} (h : MvT lo T W W') (hlo : lo ≤ W.heap.size) : Below lo W W' := But.below h hlo fun i hi hx => by omega
theorem MvT.keep {lo : Nat} {T : TypeId → Prop} {W W' : World} {b : Nat} {cs : Array Value} {t : TypeId} (h : MvT lo T W W') (hb : W.heap[b]? = some (.cells cs t)) (ht : ¬ T t) : W'.heap[b]? = some (.cells cs t) := by
  refine (h.block b (Array.getElem?_eq_some_iff.1 hb).1 ?_).trans hb
  rintro ⟨_, cs', t', h2, h3⟩
  rw [hb] at h2
  injection h2 with h2
  injection h2 with _ h4
  exact ht (h4 ▸ h3)
end Go.Proofs.Ytcnjmjcbhelkhaa

namespace Go.Proofs.Ytcnjmjcbhelkhaa
open Go Go.RowKit
set_option linter.unusedVariables false
set_option maxRecDepth 100000
set_option linter.unusedSimpArgs false

/-! The sources of lists, in memory. -/
def TI (t : TypeId) : Prop := t = 79 ∨ t = 75 ∨ t = 82 ∨ t = 99
def SrcAt (E : MEnv) (lb : Nat → Nat) (w : World) (i : Nat) (l : List Fd) : Prop := ∃ fa fc ra rc, w.heap[E.sb i]? = some (.cells #[.string (bs (E.hit i).1), .int .i64 (E.hit i).2.1, .slice fa (E.hit i).2.2.length fc, .int .i64 (i : Int), nxV (lb i)] 82) ∧ HoldZ E.w0 fa (E.hit i).2.2 ∧ (E.hit i).2.2.length = E.ks.length ∧
  w.heap[lb i]? = some (.cells #[.slice ra l.length rc] 99) ∧ HoldFd E.w0 ra l ∧ l.length ≤ rc
theorem SrcAt.hit {E : MEnv} {lb : Nat → Nat} {w : World} {i : Nat} {l : List Fd} (h : SrcAt E lb w i l) : HitAt E w i := by
  obtain ⟨fa, fc, ra, rc, h1, h2, h3, _⟩ := h
  exact ⟨fa, fc, _, h1, h2, h3⟩
theorem SrcAt.keep {E : MEnv} {lb : Nat → Nat} {w w' : World} {i : Nat} {l : List Fd} (h : SrcAt E lb w i l) (h1 : w'.heap[E.sb i]? = w.heap[E.sb i]?) (h2 : w'.heap[lb i]? = w.heap[lb i]?) : SrcAt E lb w' i l := by
  obtain ⟨fa, fc, ra, rc, q1, q2, q3, q4, q5⟩ := h
  exact ⟨fa, fc, ra, rc, h1.trans q1, q2, q3, h2.trans q4, q5⟩
theorem SrcAt.lt {E : MEnv} {lb : Nat → Nat} {w : World} {i : Nat} {l : List Fd} (h : SrcAt E lb w i l) : E.sb i < w.heap.size ∧ lb i < w.heap.size := by
  obtain ⟨fa, fc, ra, rc, q1, q2, q3, q4, q5⟩ := h
  exact ⟨(Array.getElem?_eq_some_iff.1 q1).1, (Array.getElem?_eq_some_iff.1 q4).1⟩
/-- All that the merging has in memory. -/
structure MgS (E : MEnv) (lb : Nat → Nat) (L : List (List Fd)) (m : Nat) (w : World) (p : Nat) (v : Value) (H : List Nat) : Prop where
  hp : HpAt E w p v H
  heap : Heap E.gt 0 H H.length
  eq : E.hit = hitM L
  nd : H.Nodup
  mem : ∀ j, j ∈ H ↔ j < m ∧ L.getD j [] ≠ []
  dead : ∀ j, j ∈ H → j ≠ E.dead
  few : m ≤ 16
  len : m ≤ L.length
  src : ∀ j, j ∈ H → SrcAt E lb w j (L.getD j []).tail
  new : ∀ j, j ∈ H → E.w0.heap.size ≤ E.sb j ∧ E.w0.heap.size ≤ lb j
  inj : ∀ i j, i ∈ H → j ∈ H → i ≠ j → E.sb i ≠ E.sb j ∧ lb i ≠ lb j
theorem nodup_len : ∀ (n : Nat) (H : List Nat), H.Nodup → (∀ x ∈ H, x < n) → H.length ≤ n
  | 0, H, _, h => by
    cases H with
    | nil => exact Nat.le_refl _
    | cons x _ => exact absurd (h x (by simp)) (by omega)
  | n + 1, H, hd, h => by
    have h1 := nodup_len n (H.erase n) (hd.erase n) (fun x hx => by
      have h2 := h x (List.mem_of_mem_erase hx)
      have h3 : x ≠ n := fun e => by subst e; exact (List.Nodup.mem_erase_iff hd).1 hx |>.1 rfl
      omega)
    by_cases hm : n ∈ H
    · rw [List.length_erase_of_mem hm] at h1; omega
    · rw [List.erase_of_not_mem hm] at h1; omega
theorem MgS.short {E : MEnv} {lb : Nat → Nat} {L : List (List Fd)} {m : Nat} {w : World} {p : Nat} {v : Value} {H : List Nat} (h : MgS E lb L m w p v H) : H.length ≤ 16 :=
  Nat.le_trans (nodup_len m H h.nd fun x hx => ((h.mem x).1 hx).1) h.few
/-- Nothing of it is touched. -/
theorem MgS.keep {E : MEnv} {lb : Nat → Nat} {L : List (List Fd)} {m : Nat} {w w' : World} {p : Nat} {v : Value} {H : List Nat} (h : MgS E lb L m w p v H) (hz : Below E.w0.heap.size w w')
    (hk : ∀ (b : Nat) (cs : Array Value) (t : TypeId), w.heap[b]? = some (Obj.cells cs t) → TI t → w'.heap[b]? = some (Obj.cells cs t)) : MgS E lb L m w' p v H := by
  have hs : ∀ j, j ∈ H → SrcAt E lb w' j (L.getD j []).tail := fun j hj => by
    obtain ⟨fa, fc, ra, rc, q1, q2, q3, q4, q5⟩ := h.src j hj
    exact ⟨fa, fc, ra, rc, hk _ _ _ q1 (.inr (.inr (.inl rfl))), q2, q3, hk _ _ _ q4 (.inr (.inr (.inr rfl))), q5⟩
  refine ⟨⟨h.hp.ok, h.hp.bel.trans hz, h.hp.pge, hk _ _ _ h.hp.box (.inl rfl), ?_, fun i hi _ => (hs i hi).hit⟩, h.heap, h.eq, h.nd, h.mem, h.dead, h.few, h.len, hs, h.new, h.inj⟩
  refine own_congr h.hp.row fun b hb => ?_
  obtain ⟨_, cur, hc⟩ := own_blk h.hp.row hb
  exact (hk b _ _ hc (.inr (.inl rfl))).trans hc.symm
theorem MgS.below {E : MEnv} {lb : Nat → Nat} {L : List (List Fd)} {m : Nat} {w w' : World} {p : Nat} {v : Value} {H : List Nat} (h : MgS E lb L m w p v H) (hb : Below w.heap.size w w') : MgS E lb L m w' p v H :=
  h.keep (hb.mono h.hp.bel.size) fun b cs t hc _ => (hb.block b (Array.getElem?_eq_some_iff.1 hc).1).trans hc
/-- Moving the heap leaves the sources. -/
theorem SrcAt.mv {E : MEnv} {lb : Nat → Nat} {w w' : World} {p i : Nat} {v v' : Value} {H : List Nat} {l : List Fd} (h : SrcAt E lb w i l) (hH : HpAt E w p v H) (hm : Mv p w v w' v') : SrcAt E lb w' i l := by
  have hl := h.lt
  obtain ⟨fa, fc, ra, rc, q1, q2, q3, q4, q5⟩ := h
  have key : ∀ (b : Nat) (cs : Array Value) (t : TypeId), w.heap[b]? = some (Obj.cells cs t) → t ≠ 79 → t ≠ 75 → w'.heap[b]? = some (Obj.cells cs t) := fun b cs t hb h1 h2 => by
    refine (hm.but.block b (Array.getElem?_eq_some_iff.1 hb).1 ?_).trans hb
    rintro (e | e)
    · exact blk_ne hb hH.box h1 e
    · obtain ⟨_, cur, hc⟩ := own_blk hH.row e
      exact blk_ne hb hc h2 rfl
  exact ⟨fa, fc, ra, rc, key _ _ _ q1 (by decide) (by decide), q2, q3, key _ _ _ q4 (by decide) (by decide), q5⟩
theorem HpAt.mvT {E : MEnv} {w w' : World} {p : Nat} {v v' : Value} {H : List Nat} (hH : HpAt E w p v H) (hm : Mv p w v w' v') : MvT E.w0.heap.size TI w w' := by
  refine MvT.of_but hm.but fun b hb hx => ?_
  rcases hx with rfl | e
  · exact ⟨hH.pge, _, _, hH.box, .inl rfl⟩
  · obtain ⟨h1, cur, hc⟩ := own_blk hH.row e
    exact ⟨h1, _, _, hc, .inr (.inl rfl)⟩
theorem HpAt.sb {E : MEnv} {w : World} {p : Nat} {v : Value} {H : List Nat} (h : HpAt E w p v H) (sb' : Nat → Nat) (hs : ∀ i, i ∈ H → sb' i = E.sb i) : HpAt { E with sb := sb' } w p v H := by
  refine ⟨⟨h.ok.few, h.ok.srt⟩, h.bel, h.pge, h.box, ?_, fun i hi hd => ?_⟩
  · have e : H.map (MEnv.pv { E with sb := sb' }) = H.map E.pv := List.map_congr_left fun i hi => by simp only [MEnv.pv]; rw [hs i hi]
    rw [e]
    exact h.row
  · obtain ⟨fa, fc, nx, h1, h2, h3⟩ := h.src i hi hd
    refine ⟨fa, fc, nx, ?_, h2, h3⟩
    show w.heap[sb' i]? = _
    rw [hs i hi]
    exact h1
/-- Lists of hits. -/
def HoldFF (w : World) (a : Option Addr) (L : List (List Fd)) : Prop := L = [] ∨ ∃ b off, a = some ⟨b, off, none⟩ ∧ b < w.heap.size ∧ ∀ i, i < L.length → ∃ ra rc, w.cell? ⟨b, off + i, none⟩ = some (.slice ra (L.getD i []).length rc) ∧ (L.getD i []).length ≤ rc ∧ HoldFd w ra (L.getD i [])
theorem HoldFF.below {w w' : World} {a : Option Addr} {L : List (List Fd)} (h : HoldFF w a L) (hb : Below w.heap.size w w') : HoldFF w' a L := by
  rcases h with h | ⟨b, off, ha, hbl, h⟩
  · exact Or.inl h
  · refine Or.inr ⟨b, off, ha, Nat.lt_of_lt_of_le hbl hb.size, fun i hi => ?_⟩
    obtain ⟨ra, rc, h1, h2, h3⟩ := h i hi
    exact ⟨ra, rc, (hb.cell (p := ⟨b, off + i, none⟩) hbl).trans h1, h2, h3.below hb⟩
/-- A list without hits is no source. -/
theorem MgS.skip {E : MEnv} {lb : Nat → Nat} {L : List (List Fd)} {m : Nat} {w : World} {p : Nat} {v : Value} {H : List Nat} (h : MgS E lb L m w p v H) (hm : m < L.length) (h16 : m < 16) (he : L.getD m [] = []) : MgS E lb L (m + 1) w p v H :=
  ⟨h.hp, h.heap, h.eq, h.nd, fun j => by
    rw [h.mem j]
    constructor
    · rintro ⟨h1, h2⟩; exact ⟨by omega, h2⟩
    · rintro ⟨h1, h2⟩
      refine ⟨?_, h2⟩
      rcases Nat.lt_or_ge j m with h3 | h3
      · exact h3
      · exact absurd he (by rw [show m = j by omega]; exact h2), h.dead, by omega, by omega, h.src, h.new, h.inj⟩
end Go.Proofs.Ytcnjmjcbhelkhaa

namespace Go.Proofs.Ytcnjmjcbhelkhaa
open Go Go.RowKit
set_option linter.unusedVariables false
set_option maxRecDepth 100000
set_option linter.unusedSimpArgs false

/-! impl.order.sources: the heap of all lists that have a hit. -/
abbrev envM (w0 : World) (ks : List (Tx × Bool)) (sa : Option Addr) (sc : Nat) (sb : Nat → Nat) (L : List (List Fd)) : MEnv := ⟨w0, ks, sa, sc, sb, hitM L, 1000⟩
def upd (f : Nat → Nat) (i x : Nat) : Nat → Nat := fun j => if j = i then x else f j
theorem upd_same (f : Nat → Nat) (i x : Nat) : upd f i x i = x := if_pos rfl
theorem upd_other (f : Nat → Nat) (i x j : Nat) (h : j ≠ i) : upd f i x j = f j := if_neg h
theorem MgS.pushed {w0 wr w3 w4 : World} {ks : List (Tx × Bool)} {sa : Option Addr} {sc : Nat} {sb lb : Nat → Nat} {L : List (List Fd)} {i p sx lx : Nat} {v v' : Value} {H H' : List Nat} {f : Fd} {rest : List Fd}
    (h : MgS (envM w0 ks sa sc sb L) lb L i wr p v H) (hb : Below wr.heap.size wr w3) (hLi : L.getD i [] = f :: rest) (hi : i < L.length) (h16 : L.length ≤ 16)
    (hsx : wr.heap.size ≤ sx) (hlx : wr.heap.size ≤ lx) (hs : SrcAt (envM w0 ks sa sc (upd sb i sx) L) (upd lb i lx) w3 i rest)
    (hp : H'.Perm (H ++ [i])) (hh : Heap (envM w0 ks sa sc (upd sb i sx) L).gt 0 H' H'.length) (hH : HpAt (envM w0 ks sa sc (upd sb i sx) L) w4 p v' H') (hm : Mv p w3 v w4 v') :
    MgS (envM w0 ks sa sc (upd sb i sx) L) (upd lb i lx) L (i + 1) w4 p v' H' := by
  have hni : i ∉ H := fun e => by have := ((h.mem i).1 e).1; omega
  have hmem : ∀ j, j ∈ H' ↔ j ∈ H ∨ j = i := fun j => by rw [hp.mem_iff]; simp
  have hlt : ∀ j, j ∈ H → j < i := fun j hj => ((h.mem j).1 hj).1
  have h3 := h.below hb
  have h3p : HpAt (envM w0 ks sa sc (upd sb i sx) L) w3 p v H := h3.hp.sb _ fun j hj => upd_other _ _ _ _ (by have := hlt j hj; omega)
  have hold : ∀ j, j ∈ H → SrcAt (envM w0 ks sa sc (upd sb i sx) L) (upd lb i lx) w3 j (L.getD j []).tail := fun j hj => by
    obtain ⟨fa, fc, ra, rc, q1, q2, q3, q4, q5⟩ := h3.src j hj
    have hne : j ≠ i := by have := hlt j hj; omega
    refine ⟨fa, fc, ra, rc, ?_, q2, q3, ?_, q5⟩
    · show w3.heap[upd sb i sx j]? = _
      rw [upd_other _ _ _ _ hne, upd_other _ _ _ _ hne]; exact q1
    · rw [upd_other _ _ _ _ hne]; exact q4
  have hb0 := h.hp.bel.size
  refine ⟨hH, hh, rfl, ?_, fun j => ?_, fun j hj => ?_, by omega, by omega, fun j hj => ?_, fun j hj => ?_, fun a b ha hb2 hab => ?_⟩
  · exact hp.nodup_iff.2 (List.nodup_append.2 ⟨h.nd, by simp, fun a ha b hb e => by simp at hb; subst hb; subst e; exact hni ha⟩)
  · rw [hmem, h.mem]
    constructor
    · rintro (⟨h1, h2⟩ | rfl)
      · exact ⟨by omega, h2⟩
      · exact ⟨by omega, by rw [hLi]; simp⟩
    · rintro ⟨h1, h2⟩
      by_cases e : j = i
      · exact .inr e
      · exact .inl ⟨by omega, h2⟩
  · rcases (hmem j).1 hj with h1 | rfl
    · have := hlt j h1; show j ≠ 1000; omega
    · show j ≠ 1000; omega
  · rcases (hmem j).1 hj with h1 | rfl
    · exact (hold j h1).mv h3p hm
    · rw [hLi]; exact hs.mv h3p hm
  · rcases (hmem j).1 hj with h1 | rfl
    · have hne : j ≠ i := by have := hlt j h1; omega
      have := h.new j h1
      show w0.heap.size ≤ upd sb i sx j ∧ _
      rw [upd_other _ _ _ _ hne, upd_other _ _ _ _ hne]; exact this
    · show w0.heap.size ≤ upd sb j sx j ∧ _
      have hb1 : w0.heap.size ≤ wr.heap.size := hb0
      rw [upd_same, upd_same]
      exact ⟨by omega, by show w0.heap.size ≤ lx; omega⟩
  · show upd sb i sx a ≠ upd sb i sx b ∧ upd lb i lx a ≠ upd lb i lx b
    rcases (hmem a).1 ha with h1 | rfl
    · have e1 : a ≠ i := by have := hlt a h1; omega
      rcases (hmem b).1 hb2 with h2 | rfl
      · have e2 : b ≠ i := by have := hlt b h2; omega
        rw [upd_other _ _ _ _ e1, upd_other _ _ _ _ e2, upd_other _ _ _ _ e1, upd_other _ _ _ _ e2]
        exact h.inj a b h1 h2 hab
      · rw [upd_other _ _ _ _ e1, upd_other _ _ _ _ e1, upd_same, upd_same]
        have := (h.src a h1).lt
        exact ⟨by show sb a ≠ sx; have := this.1; show sb a ≠ sx; exact fun e => by have h9 : sb a < wr.heap.size := this; omega, fun e => by have := this.2; omega⟩
    · rcases (hmem b).1 hb2 with h2 | rfl
      · have e2 : b ≠ a := by have := hlt b h2; omega
        rw [upd_other _ _ _ _ e2, upd_other _ _ _ _ e2, upd_same, upd_same]
        have := (h.src b h2).lt
        exact ⟨fun e => by have h9 : sb b < wr.heap.size := this.1; omega, fun e => by have := this.2; omega⟩
      · exact absurd rfl hab
def SrcOut (w0 : World) (ks : List (Tx × Bool)) (sa : Option Addr) (sc : Nat) (L : List (List Fd)) (w : World) (e : Ending) (w' : World) : Prop := ∃ sb lb p v H, e = .returned (ptr p) ∧ MgS (envM w0 ks sa sc sb L) lb L L.length w' p v H ∧ Below w.heap.size w w'
set_option maxHeartbeats 8000000 in
theorem sources_any {w0 w : World} {ks : List (Tx × Bool)} {sa : Option Addr} {sc : Nat} {la : Option Addr} {lc : Nat} {L : List (List Fd)} (hk : ks.length ≤ 4) (hS : HoldSK w0 sa ks) (hL : HoldFF w0 la L) (h16 : L.length ≤ 16)
    (hln : ∀ i, i < L.length → (L.getD i []).length ≤ 4096) (hkl : ∀ i f, f ∈ L.getD i [] → f.2.2.length = ks.length) (hb0 : Below w0.heap.size w0 w) :
    Calls Try.prog 42 #[.slice sa ks.length sc, .slice la L.length lc] w (SrcOut w0 ks sa sc L w) := by
  obtain ⟨N, hN⟩ : ∃ N, L.length = N := ⟨_, rfl⟩
  obtain ⟨kn, hkn⟩ : ∃ n, ks.length = n := ⟨_, rfl⟩
  have HN := hidd hN
  have HKn := hidd hkn
  have HK := hidd hk
  have HS := hidd hS
  have HL := hidd hL
  have HLn := hidd hln
  have HKl := hidd hkl
  have HB0 := hidd hb0
  have HM0 : Hid (∀ sb lb, MgS (envM w0 ks sa sc sb L) lb L 0 (w.alloc (.cells #[.slice none 0 0, .func (.func 57) #[.slice sa kn sc] #[]] 79)) w.heap.size (.slice none 0 0) []) := fun sb lb => by
    have hbx := heap_alloc_new w (.cells #[.slice none 0 0, .func (.func 57) #[.slice sa kn sc] #[]] 79)
    refine ⟨⟨⟨hk, hS⟩, hb0.alloc hb0.size _, hb0.size, ?_, World.ownsRow_nil _ _ _ _, fun i hi => absurd hi (by simp)⟩, fun k _ h2 => absurd h2 (by simp), rfl, by simp, fun j => by simp, fun j hj => absurd hj (by simp), by omega, by omega, fun j hj => absurd hj (by simp), fun j hj => absurd hj (by simp), fun i j hi => absurd hi (by simp)⟩
    rw [← hkn] at hbx ⊢
    exact hbx
  clear hk hS hL hln hkl hb0
  rw [hN] at h16 ⊢
  rw [hkn]
  clear hN hkn
  go_enter Try.func42, Try.ntmps42
  go_wp2_with fail
  obtain ⟨P0, hP0⟩ : ∃ P0, w.heap.size = P0 := ⟨_, rfl⟩
  rw [hP0] at HM0
  have HP0 := hidd hP0
  try rw [hP0]
  have HBw : Hid (Below w.heap.size w (w.alloc (.cells #[.slice none 0 0, .func (.func 57) #[.slice sa kn sc] #[]] 79))) := (Below.refl _ _).alloc (Nat.le_refl _) _
  clear hP0
  go_loopw [16] (fun iv wx => ∃ (i : Nat) (sb lb : Nat → Nat) (v : Value) (H : List Nat), iv = .int .i64 (i : Int) ∧ i ≤ N ∧ MgS (envM w0 ks sa sc sb L) lb L i wx P0 v H ∧ (∀ b, v.ownBlock = some b → w.heap.size ≤ b) ∧ Below w.heap.size w wx) (fun iv _ => N - (intOf iv).toNat)
  case atStart => exact ⟨0, fun _ => 0, fun _ => 0, _, [], rfl, by omega, HM0.out _ _, (fun b hb => by cases hb), HBw.out⟩
  case round =>
    obtain ⟨i, sb, lb, v, H, rfl, hi, hM, hpg, hbx⟩ := hrel
    have HM := hidd hM
    have HPg := hidd hpg
    have HBx := hidd hbx
    clear hM hbx hpg HM0 HBw
    by_cases hin : i < N
    · have hiz : (i : Int) < (N : Int) := by omega
      obtain ⟨lbk, lo, rfl, hlb, ra, rc, hcell, hrc, hfd⟩ : ∃ b off, la = some ⟨b, off, none⟩ ∧ b < wr.heap.size ∧ ∃ ra rc, wr.cell? ⟨b, off + i, none⟩ = some (.slice ra (L.getD i []).length rc) ∧ (L.getD i []).length ≤ rc ∧ HoldFd w0 ra (L.getD i []) := by
        rcases HL.out with h | ⟨b, off, ha, hbl, h⟩
        · have := HN.out; rw [h] at this; simp at this; omega
        · obtain ⟨ra, rc, h1, h2, h3⟩ := h i (by rw [HN.out]; exact hin)
          have hbel := HM.out.hp.bel
          exact ⟨b, off, ha, Nat.lt_of_lt_of_le hbl hbel.size, ra, rc, (hbel.cell (p := ⟨b, off + i, none⟩) hbl).trans h1, h2, h3⟩
      have HFd := hidd hfd
      have HRc := hidd hrc
      obtain ⟨X, hX⟩ : ∃ X, wr.heap.size = X := ⟨_, rfl⟩
      have hla : (wr.alloc (.cells #[.slice ra (L.getD i []).length rc] 99)).heap[X]? = some (.cells #[.slice ra (L.getD i []).length rc] 99) := by rw [← hX]; exact heap_alloc_new wr _
      have hba : Below X wr (wr.alloc (.cells #[.slice ra (L.getD i []).length rc] 99)) := by rw [← hX]; exact (Below.refl _ _).alloc (Nat.le_refl _) _
      have hsz : (wr.alloc (.cells #[.slice ra (L.getD i []).length rc] 99)).heap.size = X + 1 := by rw [← hX]; simp
      have hb2 := box_two wr (.cells #[.slice ra (L.getD i []).length rc] 99) (.cells #[.string ⟨#[]⟩, .int .i64 0, .slice none 0 0, .int .i64 (i : Int), nxV X] 82)
      have HB2 : Hid (Below wr.heap.size wr ((wr.alloc (.cells #[.slice ra (L.getD i []).length rc] 99)).alloc (.cells #[.string ⟨#[]⟩, .int .i64 0, .slice none 0 0, .int .i64 (i : Int), nxV X] 82))) := ((Below.refl _ _).alloc (Nat.le_refl _) _).alloc (by simp) _
      rw [hX] at hb2
      have HX := hidd hX
      have HX2 := hidd hb2
      clear hfd hrc hla hba hsz hb2
      cases hLi : L.getD i [] with
      | nil =>
        rw [hLi] at hcell HX2 HB2
        have HLi := hidd hLi
        clear hLi
        simp only [List.length_nil] at hcell HX2 HB2
        rw [← hX] at HX2 HB2
        clear hX
        go_wp2_with fail
        refine (step_none _ _ _ _ _ _ _ _ _ HX2.out.2 HX2.out.1).mono ?_
        rintro e w3 ⟨rfl, hbut⟩
        have HB3 : Hid (Below wr.heap.size wr w3) := HB2.out.trans (hbut.below (by simp; omega) (fun k hk e => by omega))
        have HM3 : Hid (MgS (envM w0 ks sa sc sb L) lb L (i + 1) w3 P0 v H) := (HM.out.below HB3.out).skip (by rw [HN.out]; exact hin) (by omega) HLi.out
        have HBy : Hid (Below w.heap.size w w3) := HBx.out.trans (HB3.out.mono HBx.out.size)
        clear hbut HX2 HB2
        go_wp2_with fail
        go_roundw
        case rel => exact ⟨i + 1, sb, lb, v, H, by go_num, by omega, HM3.out, HPg.out, HBy.out⟩
        case measure => simp [intOf]; omega
      | cons f rest =>
        rw [hLi] at hcell HX2 HB2
        have HLi := hidd hLi
        clear hLi
        simp only [List.length_cons] at hcell HX2 HB2
        rw [← hX] at HX2 HB2
        clear hX
        have HFd2 : Hid (HoldFd w0 ra (f :: rest)) := by have := HFd.out; rw [HLi.out] at this; exact this
        have HRc2 : Hid (rest.length + 1 ≤ rc) := by have := HRc.out; rw [HLi.out] at this; exact this
        have HRl : Hid (rest.length ≤ 1048576) := by have := HLn.out i (by rw [HN.out]; exact hin); rw [HLi.out] at this; simp at this; show _ ≤ _; omega
        have HW2 : Hid (Below w0.heap.size w0 ((wr.alloc (.cells #[.slice ra (rest.length + 1) rc] 99)).alloc (.cells #[.string ⟨#[]⟩, .int .i64 0, .slice none 0 0, .int .i64 (i : Int), nxV wr.heap.size] 82))) := HM.out.hp.bel.trans (HB2.out.mono HM.out.hp.bel.size)
        go_wp2_with fail
        refine (step_more w0 _ _ _ _ _ _ _ ra rc f rest HX2.out.2 HX2.out.1 HFd2.out HW2.out HRc2.out HRl.out).mono ?_
        rintro e w3 ⟨fa, fc, ra', rc', rfl, hz, hs3, hl3, hfd3, hle3, hbut⟩
        have HB3 : Hid (Below wr.heap.size wr w3) := HB2.out.trans (hbut.below (by simp; omega) (fun k hk e => by omega))
        have HS3 : Hid (SrcAt (envM w0 ks sa sc (upd sb i (wr.heap.size + 1)) L) (upd lb i wr.heap.size) w3 i rest) := by
          have hh : hitM L i = f := by unfold hitM; rw [HLi.out]; rfl
          refine ⟨fa, fc, ra', rc', ?_, ?_, ?_, ?_, hfd3, hle3⟩
          · show w3.heap[upd sb i (wr.heap.size + 1) i]? = some (.cells #[.string (bs (hitM L i).1), .int .i64 (hitM L i).2.1, .slice fa (hitM L i).2.2.length fc, .int .i64 (i : Int), nxV (upd lb i wr.heap.size i)] _)
            rw [upd_same, upd_same, hh]; exact hs3
          · show HoldZ w0 fa (hitM L i).2.2
            rw [hh]; exact hz
          · show (hitM L i).2.2.length = ks.length
            rw [hh]; exact HKl.out i f (by rw [HLi.out]; simp)
          · rw [upd_same]; exact hl3
        have HM3 := hidd (HM.out.below HB3.out)
        have HPu : Hid (HpAt (envM w0 ks sa sc (upd sb i (wr.heap.size + 1)) L) w3 P0 v H) := HM3.out.hp.sb _ fun j hj => upd_other _ _ _ _ (fun e => by have := ((HM3.out.mem j).1 hj).1; omega)
        have HPs := hidd (heapPush_any (envM w0 ks sa sc (upd sb i (wr.heap.size + 1)) L) w3 P0 v H i (by have := HM3.out.short; omega) HS3.out.hit (fun j hj => by
          rcases List.mem_append.1 hj with h | h
          · exact HM3.out.dead j h
          · simp at h; subst h; show _ ≠ 1000; omega) HM3.out.heap HPu.out)
        have e9 : MEnv.pv (envM w0 ks sa sc (upd sb i (wr.heap.size + 1)) L) i = .pointer (some ⟨wr.heap.size + 1, 0, none⟩) := by
          show Value.pointer (some ⟨upd sb i (wr.heap.size + 1) i, 0, none⟩) = _
          rw [upd_same]
        rw [e9] at HPs
        clear hz hs3 hl3 hfd3 hle3 hbut HX2 HB2 HW2 e9
        go_wp2_with fail
        refine HPs.out.mono ?_
        rintro e w4 ⟨rfl, v', H', hp1, hp2, hp3, hp4⟩
        have HM4 := hidd (HM.out.pushed HB3.out HLi.out (by rw [HN.out]; exact hin) (by rw [HN.out]; exact h16) (by omega) (Nat.le_refl _) HS3.out hp1 hp2 hp3 hp4)
        have HBy : Hid (Below w.heap.size w w4) := by
          have h1 := HBx.out.trans (HB3.out.mono HBx.out.size)
          refine h1.trans (hp4.but.below h1.size ?_)
          rintro b hb (e | e)
          · have := HP0.out; omega
          · have h5 := HPg.out b e
            omega
        have HPg4 : Hid (∀ b, v'.ownBlock = some b → w.heap.size ≤ b) := fun b hb => by
          rcases hp4.new with h5 | h5
          · exact HPg.out b (h5 ▸ hb)
          · exact Nat.le_trans (HBx.out.trans (HB3.out.mono HBx.out.size)).size (h5 b hb)
        clear hp1 hp2 hp3 hp4
        go_wp2_with fail
        go_roundw
        case rel => exact ⟨i + 1, _, _, v', H', by go_num, by omega, HM4.out, HPg4.out, HBy.out⟩
        case measure => simp [intOf]; omega
    · have hiz : ¬ (i : Int) < (N : Int) := by omega
      obtain rfl : i = N := by omega
      go_wp2_with fail
      go_ret
      exact ⟨sb, lb, P0, v, H, rfl, by rw [HN.out]; exact HM.out, HBx.out⟩
end Go.Proofs.Ytcnjmjcbhelkhaa
