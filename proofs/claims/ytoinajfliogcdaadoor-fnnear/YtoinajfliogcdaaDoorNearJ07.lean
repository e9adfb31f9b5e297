import Derived.Test.YtoinajfliogcdaaDoorNearJ02
import Derived.Test.YtoinajfliogcdaaDoorNearJ06
import Derived.Test.YtoinajfliogcdaaDoorNearJ05
namespace Go.Proofs.YtoinajfliogcdaaDoor
open Go Go.RowKit
set_option linter.unusedVariables false

def hitZ (word : List Int) (r : Int) (i : Nat) : Bool := decide (word.getD i 0 = r)
def upN (n : Nat) (f : Nat → Int) : List Int := (List.range n).map f
theorem upN_succ (n : Nat) (f : Nat → Int) : upN (n + 1) f = upN n f ++ [f n] := by simp [upN, List.range_succ]
theorem upN_at (f : Nat → Int) {n i : Nat} (h : i < n) : (zI (upN n f))[i]? = some (.int .i64 (f i)) := by simp [zI, upN, h]
theorem min4_eq (c y z t d : Int) (h : d = min c (min y (min z t))) :
  ∃ m2 m3, (if y < c then y else c) = m2 ∧ (if z < m2 then z else m2) = m3 ∧ (if t < m3 then t else m3) = d := by
 subst h
 refine ⟨_, _, rfl, rfl, ?_⟩
 split <;> split at * <;> split at * <;> omega
theorem run_min4 (c y z t d : Int) (h : d = min c (min y (min z t))) (W : World) :
  (Builtin.min_ #[3, 3, 3, 3] 3 #[.int .i64 c, .int .i64 y, .int .i64 z, .int .i64 t]).run Tryd.prog W = .ok (.int .i64 d) W := by
 obtain ⟨m2, m3, h2, h3, h4⟩ := min4_eq c y z t d h
 simp [Builtin.min_, Builtin.min2, h2, h3, h4]
theorem min2_eq (c y d : Int) (h : d = min c y) : (if y < c then y else c) = d := by
 subst h
 split <;> omega
theorem nextF_bd {hit : Nat → Bool} {k : Int} (hk : 0 ≤ k) {f : Nat → Int} (n : Nat) (h : ∀ j, j ≤ n → 0 ≤ f j) : ∀ i, i ≤ n → 0 ≤ nextF hit k f i ∧ nextF hit k f i ≤ k + 1 := fun i hi => nextF_nn hk i (fun j hj => h j (by omega))
set_option maxHeartbeats 4000000 in
set_option maxRecDepth 100000 in
theorem row_any (word row : List Int) (vw vr : Value) (r k : Int) (w : World) (hl : word.length ≤ 1000) (hrl : row.length = word.length + 1) (hk : 0 ≤ k ∧ k ≤ 1000) (hbd : ∀ i, i ≤ word.length → 0 ≤ fOf row i ∧ fOf row i ≤ 2000) (hw : HoldI w vw word) (hr : HoldI w vr row) :
  Calls Tryd.prog 35 #[vw, vr, .int .i64 r, .int .i64 k] w fun e w' => ∃ v, e = .returned v ∧ w'.ownsRow w.heap.size 3 1 v (word.length + 1) (zI (upN (word.length + 1) (nextF (hitZ word r) k (fOf row)))) ∧ Below w.heap.size w w' := by
 obtain ⟨i0, hi, hz0, hz1, hz2⟩ := info_parts Tryd.infoIntL
 obtain ⟨aw, cw, rfl, hww⟩ := hw
 obtain ⟨ar, cr, rfl, hrr⟩ := hr
 have HW := hidd hww
 have HBd := hidd hbd
 have HN := hidd (nextF_bd (hit := hitZ word r) hk.1 (f := fOf row) word.length (fun j hj => (hbd j hj).1))
 obtain ⟨gr, or, rfl, hgr, hcr⟩ := hrr.resolve_left (fun h => by rw [h] at hrl; simp at hrl)
 have HR := hidd hcr
 have hrl0 : 0 < row.length := by omega
 have hrz0 : (0 : Int) < (row.length : Int) := by omega
 have c0 : w.cell? ⟨gr, or, none⟩ = some (.int .i64 (fOf row 0)) := by have := hcr 0 hrl0; simpa [fOf] using this
 have Hrl := hidd hrl
 have b0 := hbd 0 (by omega)
 obtain ⟨nw, hnw⟩ : ∃ nw, nextF (hitZ word r) k (fOf row) = nw := ⟨_, rfl⟩
 have HS := hidd (fun i (hi : i < word.length) => (show nextF (hitZ word r) k (fOf row) (i + 1) = min (fOf row i + dst (hitZ word r) i) (min (fOf row (i + 1) + 1) (min (nextF (hitZ word r) k (fOf row) i + 1) (k + 1))) from rfl))
 have h0 : nw 0 = min (fOf row 0 + 1) (k + 1) := by rw [← hnw]; rfl
 rw [hnw] at HN HS
 rw [hnw]
 clear hww hrr hbd hcr hrl hnw
 have hmn0 := min2_eq (fOf row 0 + 1) (k + 1) (nw 0) h0
 have hb0 : 0 ≤ nw 0 ∧ nw 0 ≤ 2000 := by have := HN.out 0 (by omega); omega
 clear h0
 generalize fOf row 0 = f0 at *
 obtain ⟨n0, hn0⟩ : ∃ n0, nw 0 = n0 := ⟨_, rfl⟩
 rw [hn0] at hmn0 hb0
 obtain ⟨k1, hk1⟩ : ∃ k1, k + 1 = k1 := ⟨_, rfl⟩
 rw [hk1] at hmn0
 obtain ⟨f1, hf1⟩ : ∃ f1, f0 + 1 = f1 := ⟨_, rfl⟩
 rw [hf1] at hmn0
 have hk1b : 1 ≤ k1 ∧ k1 ≤ 1001 := by omega
 have Hk1 := hidd hk1
 have Hn0 := hidd hn0
 clear hn0
 go_enter Tryd.func35, Tryd.ntmps35
 go_wp2
 have HB0 : Hid (Below w.heap.size w (w.alloc (.cells #[.int .i64 n0] 3))) := (Below.refl _ _).alloc (Nat.le_refl _) _
 have HO0 : Hid ((w.alloc (.cells #[.int .i64 n0] 3)).ownsRow w.heap.size 3 1 (.slice (some ⟨w.heap.size, 0, none⟩) 1 1) 1 (zI (upN 1 nw))) := by
  show World.ownsRow _ _ _ _ _ _ _
  have := World.ownsRow_lit (base := w.heap.size) (e := 3) (size := 1) w #[.int .i64 n0] 1 (Nat.le_refl _) (by unfold maxLen; omega) (by simp)
  rw [upN_succ, Hn0.out]
  simpa [zI, upN] using this
 generalize w.alloc (.cells #[.int .i64 n0] 3) = wn at *
 go_loopw [9, 10] (fun nv iv wx => ∃ j : Nat, 1 ≤ j ∧ j ≤ word.length + 1 ∧ iv = .int .i64 (j : Int) ∧ wx.ownsRow w.heap.size 3 1 nv j (zI (upN j nw)) ∧ Below w.heap.size w wx) (fun _ iv _ => word.length + 1 - (intOf iv).toNat)
 case atStart => exact ⟨1, by omega, by omega, rfl, HO0.out, HB0.out⟩
 case round =>
  clear HO0 HB0 hmn0 c0
  obtain ⟨j, hj1, hj, rfl, hown, hbel⟩ := hrel
  have HO := hidd hown
  have HBe := hidd hbel
  have hzx := hbel.size
  clear hown hbel
  rcases own_cases HO.out with ⟨_, hx⟩ | ⟨gn, cn, rfl, hgn1, hgn2⟩
  ·omega
  by_cases hjl : j ≤ word.length
  ·have hjz : (j : Int) ≤ (word.length : Int) := by omega
   obtain ⟨q, hjq⟩ : ∃ q, j = q + 1 := ⟨j - 1, by omega⟩
   have hql : q < word.length := by omega
   have hqlz : (q : Int) < (word.length : Int) := by omega
   have hqz : (j : Int) - 1 = (q : Int) := by omega
   have hrlen : row.length = word.length + 1 := Hrl.out
   have hjr : (j : Int) < (row.length : Int) := by omega
   have hqr : (q : Int) < (row.length : Int) := by omega
   have hqj : (q : Int) < (j : Int) := by omega
   obtain ⟨gw, ow, rfl, hgw, hcw⟩ := HW.out.resolve_left (fun h => by rw [h] at hql; simp at hql)
   have g1 := (HBe.out.cell (p := ⟨gw, ow + q, none⟩) hgw).trans (hcw q hql)
   have g2 : wr.cell? ⟨gr, or + q, none⟩ = some (.int .i64 (fOf row q)) := (HBe.out.cell (p := ⟨gr, or + q, none⟩) hgr).trans (HR.out q (by omega))
   have g3 : wr.cell? ⟨gr, or + j, none⟩ = some (.int .i64 (fOf row j)) := (HBe.out.cell (p := ⟨gr, or + j, none⟩) hgr).trans (HR.out j (by omega))
   have n1 := (HO.out.cellAt q (by omega)).trans (upN_at nw (show q < j by omega))
   have Hrow := hidd (upN_succ j nw)
   have hv : nw j = min (fOf row q + dst (hitZ word r) q) (min (fOf row j + 1) (min (nw q + 1) (k + 1))) := by rw [hjq]; exact HS.out q hql
   have b1 := HBd.out q (by omega)
   have b2 := HBd.out j (by omega)
   have b3 := HN.out q (by omega)
   have b4 := HN.out j (by omega)
   have hd : dst (hitZ word r) q = if word.getD q 0 = r then 0 else 1 := by simp [dst, hitZ]
   rw [hd, Hk1.out] at hv
   clear hd hrlen hjq hcw
   generalize word.getD q 0 = x at *
   generalize fOf row q = d0 at *
   generalize fOf row j = d1 at *
   generalize nw q = d2 at *
   obtain ⟨d3, hd3⟩ : ∃ d3, nw j = d3 := ⟨_, rfl⟩
   rw [hd3] at hv b4 Hrow
   clear hd3
   obtain ⟨y1, hy1⟩ : ∃ y1, d1 + 1 = y1 := ⟨_, rfl⟩
   obtain ⟨z1, hz1'⟩ : ∃ z1, d2 + 1 = z1 := ⟨_, rfl⟩
   rw [hy1, hz1'] at hv
   have hd3b : 0 ≤ d3 ∧ d3 ≤ 2000 := by omega
   have hwy : IntKind.i64.wrap y1 = y1 := by exact IntWalk.i64_in _ ⟨by omega, by omega⟩
   have hwz : IntKind.i64.wrap z1 = z1 := by exact IntWalk.i64_in _ ⟨by omega, by omega⟩
   have hwk : IntKind.i64.wrap k1 = k1 := by exact IntWalk.i64_in _ ⟨by omega, by omega⟩
   have hwq : IntKind.i64.wrap (q : Int) = (q : Int) := by exact IntWalk.i64_in _ ⟨by omega, by omega⟩
   have fin : ∀ (w6 : World) (g6 cp6 : Nat) , Hid (w6.ownsRow w.heap.size 3 1 (.slice (some ⟨g6, 0, none⟩) (j + 1) cp6) (j + 1) (zI (upN j nw) ++ [.int .i64 d3])) → Hid (Below w.heap.size w w6) → w6.ownsRow w.heap.size 3 1 (.slice (some ⟨g6, 0, none⟩) (j + 1) cp6) (j + 1) (zI (upN (j + 1) nw)) ∧ Below w.heap.size w w6 := by
    intro w6 g6 cp6 h1 h2
    rw [Hrow.out, zI_snoc]
    exact ⟨h1.out, h2.out⟩
   have HF := hidd fin
   clear fin
   by_cases hxr : x = r
   ·have hxb : (x != r) = false := by simp [hxr]
    obtain ⟨c1, hc1⟩ : ∃ c1, d0 = c1 := ⟨_, rfl⟩
    have hmn := run_min4 c1 y1 z1 k1 d3 (by rw [hv, if_pos hxr]; omega)
    clear hv hxr
    go_wp2
    go_region_law (refine step_append_lies _ rfl (.tmp 40) (.tmp 56) 30 rfl w.heap.size 3 i0 (.int .i64 0) 1 8 Tryd.underlying30 hi hz0 hz1 hz2 rfl (by decide) (.slice (some ⟨gn, 0, none⟩) j cn) j (zI (upN j nw)) (by simp [Act.eval]) (HO.out.drew.alloc _) ⟨wr.heap.size, 0, none⟩ 1 1 [.int .i64 d3] (by simp [Act.eval]) rfl (by intro j' u' hj'; match j', hj' with | 0, hj' => simp at hj'; subst hj'; simp [Addr.add]) (by intro u' hu'; simp at hu'; subst hu'; rfl) (by omega) (by unfold maxLen; omega) (by omega) (by simp; omega) _ rfl ?_; intro g6 cp6 w6 hown6 hgrow6 hat6 hlt6)
    all_goals
     have R6 := hidd (HF.out w6 g6 cp6 (hidd hown6) (hidd (((below_drewN HBe.out 1).alloc (by simpa using hzx) _).grown hgrow6 (by simp; omega) (fun m hm => by cases hm; omega))))
     clear hown6 hgrow6 hat6 hlt6
     go_wp2
     go_roundw
     ·exact ⟨j + 1, by omega, by omega, by go_num, R6.out.1, R6.out.2⟩
     ·simp [intOf]; omega
   ·have hxb : (x != r) = true := by simp [hxr]
    obtain ⟨c1, hc1⟩ : ∃ c1, d0 + 1 = c1 := ⟨_, rfl⟩
    have hwc : IntKind.i64.wrap c1 = c1 := by exact IntWalk.i64_in _ ⟨by omega, by omega⟩
    have hmn := run_min4 c1 y1 z1 k1 d3 (by rw [hv, if_neg hxr]; omega)
    clear hv hxr
    go_wp2
    go_region_law (refine step_append_lies _ rfl (.tmp 40) (.tmp 56) 30 rfl w.heap.size 3 i0 (.int .i64 0) 1 8 Tryd.underlying30 hi hz0 hz1 hz2 rfl (by decide) (.slice (some ⟨gn, 0, none⟩) j cn) j (zI (upN j nw)) (by simp [Act.eval]) (HO.out.drew.alloc _) ⟨wr.heap.size, 0, none⟩ 1 1 [.int .i64 d3] (by simp [Act.eval]) rfl (by intro j' u' hj'; match j', hj' with | 0, hj' => simp at hj'; subst hj'; simp [Addr.add]) (by intro u' hu'; simp at hu'; subst hu'; rfl) (by omega) (by unfold maxLen; omega) (by omega) (by simp; omega) _ rfl ?_; intro g6 cp6 w6 hown6 hgrow6 hat6 hlt6)
    all_goals
     have R6 := hidd (HF.out w6 g6 cp6 (hidd hown6) (hidd (((below_drewN HBe.out 1).alloc (by simpa using hzx) _).grown hgrow6 (by simp; omega) (fun m hm => by cases hm; omega))))
     clear hown6 hgrow6 hat6 hlt6
     go_wp2
     go_roundw
     ·exact ⟨j + 1, by omega, by omega, by go_num, R6.out.1, R6.out.2⟩
     ·simp [intOf]; omega
  ·have hjz : ¬ (j : Int) ≤ (word.length : Int) := by omega
   obtain rfl : j = word.length + 1 := by omega
   go_wp2
   go_ret
   exact ⟨_, rfl, HO.out, HBe.out⟩
end Go.Proofs.YtoinajfliogcdaaDoor

namespace Go.Proofs.YtoinajfliogcdaaDoor
open Go Go.RowKit
set_option linter.unusedVariables false
set_option maxRecDepth 100000

def letS (ls : List Int) (a : Nat) : Int := if a < ls.length then ls.getD a 0 else -9
def fzK (word ls : List Int) (k head : Int) : Kaut (List Int) := ⟨fun z a => stepS word.length k head (hitZ word (letS ls a)) z, finS word.length k head⟩
theorem Aut.lang_congr {A B : Aut} {S n : Nat} (hs : Shut A S n) (hf : ∀ q, q < n → A.fin q = B.fin q) (hx : ∀ q a, q < n → a < S → A.nx q a = B.nx q a) {q : Nat} (hq : q < n) : A.lang S q = B.lang S q := by
 have h : ∀ (w : List Nat) (q : Nat), q < n → (∀ a ∈ w, a < S) → A.acc q w = B.acc q w := by
  intro w
  induction w with
  | nil => intro q hq _; exact hf q hq
  | cons a w ih =>
   intro q hq hw
   have ha := hw a (by simp)
   show A.acc (A.nx q a) w = B.acc (B.nx q a) w
   rw [← hx q a hq ha]
   exact ih _ (hs q a hq ha) (fun b hb => hw b (by simp [hb]))
 funext w
 unfold Aut.lang
 by_cases hw : ∀ a ∈ w, a < S
 ·rw [h w q hq hw]
 ·have : w.all (fun a => decide (a < S)) = false := by
   rw [Bool.eq_false_iff]
   intro hc
   exact hw fun a ha => by simpa using List.all_eq_true.1 hc a ha
  rw [this]; rfl
def toS (K : Kaut (List Int)) (Z : List (List Int)) (x : List Int) (j : Nat) : List Nat := (List.range j).map fun a => ix Z (K.step x a)
def metS (K : Kaut (List Int)) (Z : List (List Int)) (x : List Int) (j : Nat) : List (List Int) := meets Z ((List.range j).map (K.step x))
theorem metS_succ (K : Kaut (List Int)) (Z : List (List Int)) (x : List Int) (j : Nat) : metS K Z x (j + 1) = meet (metS K Z x j) (K.step x j) := by
 unfold metS
 rw [List.range_succ, List.map_append, List.map_singleton, meets_snoc]
theorem metS_pre (K : Kaut (List Int)) (Z : List (List Int)) (x : List Int) (j : Nat) : ∃ r, metS K Z x j = Z ++ r := meets_pre _ _
theorem metS_mem {K : Kaut (List Int)} {Z : List (List Int)} {x : List Int} {j a : Nat} (h : a < j) : K.step x a ∈ metS K Z x j := meets_mem.2 (Or.inr (List.mem_map.2 ⟨a, List.mem_range.2 h, rfl⟩))
theorem toS_succ (K : Kaut (List Int)) (Z : List (List Int)) (x : List Int) (j : Nat) : toS K (metS K Z x (j + 1)) x (j + 1) = toS K (metS K Z x j) x j ++ [ix (metS K Z x (j + 1)) (K.step x j)] := by
 unfold toS
 rw [List.range_succ, List.map_append, List.map_singleton]
 congr 1
 refine List.map_congr_left fun a ha => ?_
 obtain ⟨r, hr⟩ := meet_pre (metS K Z x j) (K.step x j)
 rw [metS_succ, hr]
 exact ix_pre (metS_mem (List.mem_range.1 ha))
theorem toS_len (K : Kaut (List Int)) (Z : List (List Int)) (x : List Int) (j : Nat) : (toS K Z x j).length = j := by simp [toS]
theorem ix_le {X : Type} [DecidableEq X] {y : X} : ∀ {l : List X} {n : Nat}, l[n]? = some y → ix l y ≤ n := by
 unfold ix
 intro l
 induction l with
 | nil => intro n h; simp at h
 | cons a l ih =>
  intro n h
  rw [List.idxOf_cons]
  by_cases ea : a == y
  ·simp [ea]
  ·match n, h with
   | 0, h => simp at h; simp [h] at ea
   | n + 1, h =>
    have := ih (n := n) (by simpa using h)
    simp [ea]; omega
theorem meet_found {Z : List (List Int)} {y : List Int} {t : Nat} (ht : t < Z.length) (hb : ∀ q, q < t → Z.getD q [] ≠ y) (he : Z.getD t [] = y) : meet Z y = Z ∧ ix (meet Z y) y = t := by
 have hz : Z[t]? = some y := by rw [List.getElem?_eq_getElem ht]; rw [List.getD_eq_getElem?_getD, List.getElem?_eq_getElem ht] at he; simpa using he
 have hm : y ∈ Z := List.mem_of_getElem? hz
 have e : meet Z y = Z := by simp [meet, hm]
 refine ⟨e, ?_⟩
 rw [e]
 have h1 := ix_at hm
 rcases Nat.lt_trichotomy (ix Z y) t with h | h | h
 ·exact absurd (by rw [List.getD_eq_getElem?_getD, h1]; rfl) (hb _ h)
 ·exact h
 ·have := ix_le hz
  omega
theorem meet_new {Z : List (List Int)} {y : List Int} (hb : ∀ q, q < Z.length → Z.getD q [] ≠ y) : meet Z y = Z ++ [y] ∧ ix (meet Z y) y = Z.length := by
 have hm : y ∉ Z := by
  intro h
  obtain ⟨i, h1, h2⟩ := List.getElem_of_mem h
  exact hb i h1 (by rw [List.getD_eq_getElem?_getD, List.getElem?_eq_getElem h1]; simpa using h2)
 have e : meet Z y = Z ++ [y] := by simp [meet, hm]
 exact ⟨e, by rw [e]; exact ix_new hm⟩
theorem rows_few {len : Nat} {k head : Int} {Z : List (List Int)} (hl : len ≤ 30) (hk : 0 ≤ k) (hk2 : k ≤ 2) (hh : head ≤ 30) (hn : Z.Nodup) (hz : ∀ z ∈ Z, RowOK len k head z) : Z.length ≤ 1114112 :=
 card_le Z hn 1114112 (decZ len k) fun z hz' => (hz z hz').code hl hk hk2 hh
theorem metS_ok {word ls : List Int} {k head : Int} {Z : List (List Int)} {x : List Int} (hk : 0 ≤ k) (hh : 0 ≤ head) (hn : Z.Nodup) (hz : ∀ z ∈ Z, RowOK word.length k head z) (hx : RowOK word.length k head x) (j : Nat) : (metS (fzK word ls k head) Z x j).Nodup ∧ ∀ z ∈ metS (fzK word ls k head) Z x j, RowOK word.length k head z := by
 refine ⟨meets_nodup hn, fun z hz' => ?_⟩
 rcases meets_mem.1 hz' with h | h
 ·exact hz z h
 ·obtain ⟨a, _, rfl⟩ := List.mem_map.1 h
  exact hx.step hk hh _
structure FzG (K : Kaut (List Int)) (S : Nat) (x0 : List Int) (i : Nat) (Z : List (List Int)) (nxt : List (List Nat)) (fins : List Bool) : Prop where
 bf : bfs (K.nexts S) i 0 [x0] = Z
 le : i ≤ Z.length
 nlen : nxt.length = i
 flen : fins.length = i
 nx : ∀ q, q < i → nxt.getD q [] = toS K Z (Z.getD q x0) S
 mem : ∀ q, q < i → ∀ a, a < S → K.step (Z.getD q x0) a ∈ Z
 fin : ∀ q, q < i → fins.getD q false = K.fin (Z.getD q x0)
theorem FzG.zero (K : Kaut (List Int)) (S : Nat) (x0 : List Int) : FzG K S x0 0 [x0] [] [] :=
 ⟨rfl, by simp, rfl, rfl, fun q h => absurd h (by omega), fun q h => absurd h (by omega), fun q h => absurd h (by omega)⟩
theorem FzG.nodup {K : Kaut (List Int)} {S : Nat} {x0 : List Int} {i : Nat} {Z : List (List Int)} {nxt : List (List Nat)} {fins : List Bool} (h : FzG K S x0 i Z nxt fins) : Z.Nodup := by
 rw [← h.bf]; exact bfs_nodup _ _ _ _ (by simp)
theorem FzG.step {K : Kaut (List Int)} {S : Nat} {x0 : List Int} {i : Nat} {Z : List (List Int)} {nxt : List (List Nat)} {fins : List Bool} (h : FzG K S x0 i Z nxt fins) (hi : i < Z.length) :
  FzG K S x0 (i + 1) (metS K Z (Z.getD i x0) S) (nxt ++ [toS K (metS K Z (Z.getD i x0) S) (Z.getD i x0) S]) (fins ++ [K.fin (Z.getD i x0)]) := by
 have hx : Z[i]? = some (Z.getD i x0) := by rw [List.getD_eq_getElem?_getD, List.getElem?_eq_getElem hi]; rfl
 obtain ⟨r, hr⟩ := metS_pre K Z (Z.getD i x0) S
 have hat : ∀ q, q ≤ i → (metS K Z (Z.getD i x0) S).getD q x0 = Z.getD q x0 := by
  intro q hq
  rw [hr, List.getD_eq_getElem?_getD, List.getElem?_append_left (by omega), ← List.getD_eq_getElem?_getD]
 refine ⟨bfs_step h.bf hx, by rw [hr, List.length_append]; omega, by simp [h.nlen], by simp [h.flen], fun q hq => ?_, fun q hq a ha => ?_, fun q hq => ?_⟩
 ·rw [hat q (by omega)]
  by_cases e : q = i
  ·rw [e, List.getD_eq_getElem?_getD, ← h.nlen]; simp
  ·rw [List.getD_eq_getElem?_getD, List.getElem?_append_left (by rw [h.nlen]; omega), ← List.getD_eq_getElem?_getD, h.nx q (by omega)]
   unfold toS
   refine List.map_congr_left fun a ha => ?_
   rw [hr]
   exact (ix_pre (h.mem q (by omega) a (List.mem_range.1 ha))).symm
 ·rw [hat q (by omega)]
  by_cases e : q = i
  ·rw [e]; exact metS_mem ha
  ·rw [hr]; exact List.mem_append_left _ (h.mem q (by omega) a ha)
 ·rw [hat q (by omega)]
  by_cases e : q = i
  ·rw [e, List.getD_eq_getElem?_getD, ← h.flen]; simp
  ·rw [List.getD_eq_getElem?_getD, List.getElem?_append_left (by rw [h.flen]; omega), ← List.getD_eq_getElem?_getD, h.fin q (by omega)]
theorem FzG.done {K : Kaut (List Int)} {S : Nat} {x0 : List Int} {Z : List (List Int)} {nxt : List (List Nat)} {fins : List Bool} (h : FzG K S x0 Z.length Z nxt fins) (hp : 0 < Z.length) :
  IsBfs (K.nexts S) x0 Z ∧ (autR fins nxt).lang S 0 = K.lang S x0 ∧ (∀ q, q < fins.length → (nxt.getD q []).length = S ∧ ∀ a, a < S → (nxt.getD q []).getD a 0 < fins.length) := by
 have hb : IsBfs (K.nexts S) x0 Z := ⟨_, h.bf, Nat.le_refl _⟩
 have hto : ∀ q a, q < Z.length → a < S → (nxt.getD q []).getD a 0 = ix Z (K.step (Z.getD q x0) a) := by
  intro q a hq ha
  rw [h.nx q hq]
  simp [toS, ha]
 refine ⟨hb, ?_, fun q hq => ?_⟩
 ·rw [← K.lang_zero hb]
  refine (Aut.lang_congr (n := Z.length) (K.shut hb) (fun q hq => ?_) (fun q a hq ha => ?_) hp).symm
  ·exact (h.fin q hq).symm
  ·exact (hto q a hq ha).symm
 ·rw [h.flen] at hq ⊢
  refine ⟨by rw [h.nx q hq, toS_len], fun a ha => ?_⟩
  rw [hto q a hq ha]
  exact ix_lt (h.mem q hq a ha)
end Go.Proofs.YtoinajfliogcdaaDoor
