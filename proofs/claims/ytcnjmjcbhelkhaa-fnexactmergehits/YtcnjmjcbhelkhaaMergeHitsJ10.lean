import Derived.Test.YtcnjmjcbhelkhaaMergeHitsJ09
import Derived.Deep.LoopGhost
import Derived.Test.YtcnjmjcbhelkhaaMergeHitsJ03
namespace Go.Proofs.Ytcnjmjcbhelkhaa
open Go Go.RowKit Go.Shelf
set_option linter.unusedVariables false
set_option maxRecDepth 100000
set_option linter.unusedSimpArgs false

/-! impl.order.mergedHits: hits told one by one. -/
def totM (L : List (List Fd)) : Nat := (L.map List.length).sum
theorem tot_set : ∀ (L : List (List Fd)) (b : Nat) (r : List Fd), b < L.length → totM (L.set b r) + (L.getD b []).length = totM L + r.length
  | l :: L, 0, r, _ => by simp [totM]; omega
  | l :: L, b + 1, r, h => by
    have ih := tot_set L b r (by simpa using h)
    simp [totM] at ih ⊢
    omega
structure LOK (m : Nat) (L : List (List Fd)) : Prop where
  len : ∀ i, i < L.length → (L.getD i []).length ≤ 4096
  key : ∀ i f, f ∈ L.getD i [] → f.2.2.length = m
theorem LOK.set {m b : Nat} {L : List (List Fd)} (h : LOK m L) (hb : b < L.length) : LOK m (L.set b (L.getD b []).tail) := by
  refine ⟨fun i hi => ?_, fun i f hf => ?_⟩
  · rw [List.length_set] at hi
    by_cases e : i = b
    · subst e
      rw [setD_same _ hb, List.length_tail]
      have := h.len i hi; omega
    · rw [setD_other _ e]; exact h.len i hi
  · by_cases e : i = b
    · subst e
      rw [setD_same _ hb] at hf
      exact h.key i f (List.mem_of_mem_tail hf)
    · rw [setD_other _ e] at hf; exact h.key i f hf
/-- What the iterator has when k hits are left. -/
structure MgR (w0 : World) (ks : List (Tx × Bool)) (sa : Option Addr) (sc p : Nat) (J : List (List Fd) → World → Prop) (L : List (List Fd)) (sb lb : Nat → Nat) (v : Value) (H : List Nat) (W : World) : Prop where
  mg : MgS (envM w0 ks sa sc sb L) lb L L.length W p v H
  j : J L W
  ok : LOK ks.length L
def MgK (w0 : World) (ks : List (Tx × Bool)) (sa : Option Addr) (sc p : Nat) (J : List (List Fd) → World → Prop) (k : Nat) (W : World) : Prop := ∃ L sb lb v H, MgR w0 ks sa sc p J L sb lb v H W ∧ totM L = k
/-- How the iterator ends. -/
def MgOut (J : List (List Fd) → World → Prop) (S : World → Prop) (e : Ending) (W' : World) : Prop := (∃ v, e = .returned v) ∧ ((∃ L, (∀ i, i < L.length → L.getD i [] = []) ∧ J L W') ∨ S W')
def YldOut (w0 : World) (J : List (List Fd) → World → Prop) (S : World → Prop) (L' : List (List Fd)) (W : World) (e : Ending) (W' : World) : Prop := (e = .returned (.bool true) ∧ J L' W' ∧ Below w0.heap.size W W' ∧ ∀ (x : Nat) (cs : Array Value) (t : TypeId), W.heap[x]? = some (Obj.cells cs t) → TI t → W'.heap[x]? = some (Obj.cells cs t)) ∨ (e = .returned (.bool false) ∧ S W')
set_option maxHeartbeats 8000000 in
theorem merged_any (l B1 B2 : Nat) {w0 : World} {ks : List (Tx × Bool)} {sa : Option Addr} {sc : Nat} {la : Option Addr} {lc : Nat} {L0 : List (List Fd)} (hk : ks.length ≤ 4) (hS : HoldSK w0 sa ks) (hL : HoldFF w0 la L0) (h16 : L0.length ≤ 16) (hok : LOK ks.length L0)
    (J : List (List Fd) → World → Prop) (S : World → Prop) (hJk : ∀ L W W', J L W → MvT w0.heap.size TI W W' → J L W') (hJb : ∀ L W, J L W → Below w0.heap.size w0 W)
    (hY : ∀ L b fa fc W, BestM (dsOf ks) L L.length b → HoldZ w0 fa (hitM L b).2.2 → (hitM L b).2.2.length = ks.length → J L W → YieldAt Fence.wide 2 Try.prog l #[.agg #[.string (bs (hitM L b).1), .int .i64 (hitM L b).2.1, .slice fa (hitM L b).2.2.length fc]] W (YldOut w0 J S (L.set b (L.getD b []).tail) W))
    (W : World) (h0 : J L0 W) (k1 : W.cell? ⟨B1, 0, none⟩ = some (.slice sa ks.length sc)) (k2 : W.cell? ⟨B2, 0, none⟩ = some (.slice la L0.length lc)) :
    CallsIn Fence.wide 3 Try.prog 41 #[.func (.yield l) #[] #[], .pointer (some ⟨B1, 0, none⟩), .pointer (some ⟨B2, 0, none⟩)] W (MgOut J S) := by
  have HSr := hidd (sources_any (lc := lc) (sc := sc) hk hS hL h16 hok.len hok.key (hJb _ _ h0))
  have HJ0 := hidd h0
  have HJK := hidd hJk
  have HJB := hidd hJb
  have HY := hidd hY
  have HOk := hidd hok
  have HMt : Hid (∀ W', Below W.heap.size W W' → MvT w0.heap.size TI W W') := fun W' h => MvT.of_below h
  clear hk hS hL h16 hJk hJb hY h0 hok
  refine callsIn_of_wp Try.func41 rfl trivial ?_ rfl
  simp only [Try.ntmps41, List.size_toArray, List.length_cons, List.length_nil, Nat.reduceAdd, Nat.reduceSub, Array.replicate_succ, Array.replicate_zero, List.push_toArray, List.append_toArray, List.nil_append, List.cons_append]
  gi_wp2_with fail
  refine ⟨trivial, ((callsIn_wide (n := 2)).2 HSr.out).mono ?_⟩
  rintro e w1 ⟨sb0, lb0, p, v0, H0, rfl, hM1, hb1⟩
  have HK0 : Hid (MgK w0 ks sa sc p J (totM L0) w1) := ⟨L0, sb0, lb0, v0, H0, ⟨hM1, HJK.out _ _ _ HJ0.out (HMt.out _ hb1), HOk.out⟩, rfl⟩
  clear hM1 hb1 k1 k2 HJ0 HMt HSr HOk
  gi_wp2_with fail
  gi_loopw [5] (fun _ wx => ∃ k, MgK w0 ks sa sc p J k wx) (fun _ wx => leastOf fun k => MgK w0 ks sa sc p J k wx)
  case atStart => exact ⟨_, HK0.out⟩
  case round =>
    have hls := leastOf_spec hrel
    obtain ⟨LK, hLK⟩ : ∃ LK, leastOf (fun k => MgK w0 ks sa sc p J k wr) = LK := ⟨_, rfl⟩
    rw [hLK] at hls
    have HLK := hidd hLK
    obtain ⟨⟨L, sb, lb, v, H, hR, htot⟩, -⟩ := hls
    have HR := hidd hR
    have HTot := hidd htot
    have HLen := hidd (hlen_any _ _ _ _ _ hR.mg.hp)
    have hsh := hR.mg.short
    clear hR htot hLK hrel HK0
    gi_wp2_with fail
    refine ⟨trivial, ((callsIn_wide (n := 2)).2 HLen.out).mono ?_⟩
    rintro e w2 ⟨rfl, hw2⟩
    obtain rfl := hw2.symm
    by_cases hH0 : 0 < H.length
    · have hHz : (H.length : Int) > 0 := by omega
      obtain ⟨hbest, hbm⟩ := HR.out.mg.best hH0
      obtain ⟨b, hb⟩ : ∃ b, H.getD 0 0 = b := ⟨_, rfl⟩
      rw [hb] at hbest hbm
      have HBe := hidd hb
      obtain ⟨fa, fc, ra, rc, q1, q2, q3, q4, q5, q6⟩ := HR.out.mg.src b hbm
      have hbL := ((HR.out.mg.mem b).1 hbm).1
      have hbn := ((HR.out.mg.mem b).1 hbm).2
      obtain ⟨f, rest, hLb⟩ : ∃ f rest, L.getD b [] = f :: rest := by
        cases e : L.getD b [] with
        | nil => exact absurd e hbn
        | cons f rest => exact ⟨f, rest, rfl⟩
      have hHit : hitM L b = f := by unfold hitM; rw [hLb]; rfl
      have HYi := HY.out L b fa fc wr hbest q2 q3 HR.out.j
      rw [show (envM w0 ks sa sc sb L).hit b = f from hHit] at q1 q2 q3
      rw [hHit] at HYi
      rw [hLb, List.tail_cons] at q4 q5 q6
      rw [show (L.getD b []).tail = rest by rw [hLb]; rfl] at HYi
      have q1' : wr.heap[sb b]? = some (.cells #[.string (bs f.1), .int .i64 f.2.1, .slice fa f.2.2.length fc, .int .i64 (b : Int), nxV (lb b)] 82) := q1
      obtain ⟨g, cap, rfl, hg1, hg2, hg3⟩ := own1_form HR.out.mg.hp.row hH0
      have c0 : wr.cell? ⟨p, 0, none⟩ = some (.slice (some ⟨g, 0, none⟩) H.length cap) := blkc HR.out.mg.hp.box 0
      have c1 : wr.cell? ⟨g, 0, none⟩ = some (.pointer (some ⟨sb b, 0, none⟩)) := by have h := row_at HR.out.mg.hp.row 0 hH0; rw [hb] at h; exact h
      have x0 : wr.cell? ⟨sb b, 0, none⟩ = some (.string (bs f.1)) := blkc q1' 0
      have x1 : wr.cell? ⟨sb b, 1, none⟩ = some (.int .i64 f.2.1) := blkc q1' 1
      have x2 : wr.cell? ⟨sb b, 2, none⟩ = some (.slice fa f.2.2.length fc) := blkc q1' 2
      have HLb := hidd hLb
      have HHit := hidd hHit
      have HBm := hidd hbm
      have HBL := hidd hbL
      have HQ := hidd (And.intro q1' q4)
      have HQ2 := hidd q2
      obtain ⟨nH, hnH⟩ : ∃ n, H.length = n := ⟨_, rfl⟩
      have HNH := hidd hnH
      obtain ⟨SB, hSB⟩ : ∃ SB, sb b = SB := ⟨_, rfl⟩
      have HSB := hidd hSB
      rw [hSB] at c1 x0 x1 x2
      rw [hnH] at c0 hHz hsh ⊢
      obtain ⟨fn, tmps, assign, body, hy, hRd⟩ := HYi
      have HRd := hidd hRd
      clear hbest hbm hb q1 q1' q2 q3 q4 q5 q6 hbL hbn hLb hHit hnH hSB HY hRd hH0 HLen
      generalize f.2.2.length = kn at *
      generalize bs f.1 = fi at *
      generalize f.2.1 = fs at *
      gi_wp2_with fail
      refine HRd.out.mono ?_
      rintro e W3 hout
      rcases hout with ⟨rfl, hJ3, hbw, hkeep⟩ | ⟨rfl, hS3⟩
      · have HM3 := hidd (HR.out.mg.keep hbw hkeep)
        have HJ3 := hidd hJ3
        have HOk3 : Hid (LOK ks.length (L.set b rest)) := by have h := HR.out.ok.set HBL.out; rw [HLb.out] at h; exact h
        have HT3 : Hid (totM (L.set b rest) < LK) := by
          have h := tot_set L b rest HBL.out
          rw [HLb.out, HTot.out] at h
          simp at h
          show _ < _
          omega
        clear hJ3 hbw hkeep x0 x1 x2 c0 c1 hy HRd HQ HR
        obtain ⟨fa3, fc3, ra3, rc3, r1, r2, r3, r4, r5, r6⟩ := HM3.out.src b HBm.out
        rw [HLb.out, List.tail_cons] at r4 r5 r6
        have r1' := (show W3.heap[sb b]? = _ from r1)
        rw [HSB.out] at r1'
        have hH0 : 0 < H.length := by have := HNH.out; omega
        have hH16 : H.length ≤ 1048576 := by have := HM3.out.short; omega
        have hb3 : Below w0.heap.size w0 W3 := HM3.out.hp.bel
        have hnew3 := HM3.out.new b HBm.out
        have hk1 : w0.heap.size ≤ sb b := hnew3.1
        cases rest with
        | nil =>
          have HSt := hidd (step_none W3 SB (lb b) _ _ _ _ _ _ r1' r4)
          have HS82 : Hid (∃ cs, W3.heap[sb b]? = some (Obj.cells cs 82)) := ⟨_, r1⟩
          clear r1 r1' r2 r3 r4 r5 r6
          gi_wp2_with fail
          refine ⟨trivial, ((callsIn_wide (n := 2)).2 HSt.out).mono ?_⟩
          rintro e w4 ⟨rfl, hbut⟩
          have hbut' : But (fun x => x = sb b) W3 w4 := by rw [HSB.out]; exact hbut
          obtain ⟨nn, hnn⟩ : ∃ nn, H.length = nn + 1 := ⟨H.length - 1, by omega⟩
          have HD := hidd (fun H2 v2 w2 => HM3.out.drop (w2 := w2) (v2 := v2) (H2 := H2) hH0 HBe.out.symm HLb.out hbut')
          obtain ⟨d1, d2, -⟩ := HD.out H (.slice none 0 0) w4
          have HPop := hidd (heapPop_any { envM w0 ks sa sc sb L with hit := hitM L, dead := b } w4 p _ H nn hnn hH16 d2 HM3.out.heap d1)
          have HMv : Hid (MvT w0.heap.size TI W3 w4) := MvT.of_but hbut' fun x _ hx => by
            obtain ⟨cs, hcs⟩ := HS82.out
            subst hx
            exact ⟨hk1, cs, _, hcs, .inr (.inr (.inl rfl))⟩
          have HD1 := hidd d1
          clear hbut hbut' d1 d2 HSt HS82 hnn
          gi_wp2_with fail
          refine ⟨trivial, ((callsIn_wide (n := 2)).2 HPop.out).mono ?_⟩
          rintro e w5 ⟨m, rfl, hm, v5, H5, hp1, hp2, hp3, hp4, hp5, hp6⟩
          have hm2 : m = b := hm.trans HBe.out
          subst hm2
          have HK5 : Hid (MgK w0 ks sa sc p J (totM (L.set m [])) w5) := ⟨_, sb, lb, v5, H5, ⟨(HD.out H5 v5 w5).2.2 hp1 hp3 hp4 hp5, HJK.out _ _ _ HJ3.out (HMv.out.trans (HD1.out.mvT hp5)), HOk3.out⟩, rfl⟩
          clear hm hp1 hp2 hp3 hp4 hp5 hp6 HPop HD HD1
          gi_wp2_with fail
          go_roundw
          · exact ⟨_, HK5.out⟩
          · rw [HLK.out]
            exact Nat.lt_of_le_of_lt ((leastOf_spec ⟨_, HK5.out⟩).2 _ HK5.out) HT3.out
        | cons f2 rest =>
          have hlen4 : (f2 :: rest).length ≤ 4096 := by
            have h := HOk3.out.len b (by rw [List.length_set]; exact HBL.out)
            rw [setD_same _ HBL.out] at h
            exact h
          have hf2 : f2.2.2.length = ks.length := HOk3.out.key b f2 (by rw [setD_same _ HBL.out]; simp)
          have HSt := hidd (step_more w0 W3 SB (lb b) _ _ _ _ _ _ f2 rest r1' r4 r5 hb3 r6 (by simp at hlen4; omega))
          have HS82 : Hid (∃ cs cl, W3.heap[sb b]? = some (Obj.cells cs 82) ∧ W3.heap[lb b]? = some (Obj.cells cl 99)) := ⟨_, _, r1, r4⟩
          have HF2 := hidd hf2
          clear r1 r1' r2 r3 r4 r5 r6 hlen4 hf2
          gi_wp2_with fail
          refine ⟨trivial, ((callsIn_wide (n := 2)).2 HSt.out).mono ?_⟩
          rintro e w4 ⟨fa4, fc4, ra4, rc4, rfl, t1, t2, t3, t4, t5, hbut⟩
          rw [← HSB.out] at t2 hbut
          obtain ⟨d1, d2, d3⟩ := HM3.out.next hH0 HBe.out.symm HLb.out t1 HF2.out t2 t3 t4 t5 hbut
          have HMv : Hid (MvT w0.heap.size TI W3 w4) := MvT.of_but hbut fun x _ hx => by
            obtain ⟨cs, cl, hcs, hcl⟩ := HS82.out
            rcases hx with hx | hx
            · subst hx; exact ⟨hk1, cs, _, hcs, .inr (.inr (.inl rfl))⟩
            · subst hx; exact ⟨hnew3.2, cl, _, hcl, .inr (.inr (.inr rfl))⟩
          have HFix := hidd (heapFix_any (envM w0 ks sa sc sb (L.set b (f2 :: rest))) w4 p _ H hH16 hH0 HM3.out.dead d2 d1)
          have HD1 := hidd d1
          have HD3 := hidd d3
          clear t1 t2 t3 t4 t5 hbut d1 d2 d3 HSt HS82
          gi_wp2_with fail
          refine ⟨trivial, ((callsIn_wide (n := 2)).2 HFix.out).mono ?_⟩
          rintro e w5 ⟨rfl, H5, hp1, hp2, hp3, hp4⟩
          have HK5 : Hid (MgK w0 ks sa sc p J (totM (L.set b (f2 :: rest))) w5) := ⟨_, sb, lb, _, H5, ⟨HD3.out H5 _ w5 hp1 hp2 hp3 hp4, HJK.out _ _ _ HJ3.out (HMv.out.trans (HD1.out.mvT hp4)), HOk3.out⟩, rfl⟩
          clear hp1 hp2 hp3 hp4 HFix HD1 HD3
          gi_wp2_with fail
          go_roundw
          · exact ⟨_, HK5.out⟩
          · rw [HLK.out]
            exact Nat.lt_of_le_of_lt ((leastOf_spec ⟨_, HK5.out⟩).2 _ HK5.out) HT3.out
      · have HS3 := hidd hS3
        clear hS3
        gi_wp2_with fail
        first | go_end0 | refine bodyPost_ret (results_none rfl _ _ _) rfl ?_
        exact ⟨⟨_, rfl⟩, Or.inr HS3.out⟩
    · have hHz : ¬ (H.length : Int) > 0 := by omega
      obtain rfl : H = [] := List.length_eq_zero_iff.1 (by omega)
      gi_wp2_with fail
      go_end0
      exact ⟨⟨_, rfl⟩, Or.inl ⟨L, HR.out.mg.none, HR.out.j⟩⟩
end Go.Proofs.Ytcnjmjcbhelkhaa

namespace Go.Proofs.Ytcnjmjcbhelkhaa
open Go
set_option linter.unusedVariables false

/-! A region's orders, with a statement S that holds up to one operation z: a load whose value z waits for may be taken first, also where z writes what was loaded. -/
section
variable {P : Program} {md : Region.Mode} {ops : Array Oper} {Q : Exit → Act → World → Prop} {S : World → Prop} {z : Nat}
def wpAnyE (P : Program) (md : Region.Mode) (ops : Array Oper) (Q : Exit → Act → World → Prop) (S : World → Prop) (z : Nat) : Nat → Array Bool → Act → World → Prop
  | 0, listed, a, w => Region.ready md ops listed = [] ∧ Q .normal a w
  | fuel + 1, listed, a, w =>
    (Region.ready md ops listed = [] → Q .normal a w) ∧
    ∀ i ∈ Region.ready md ops listed, wpOp P ops Q i (fun a' w' => ((listed.setIfInBounds i true).getD z false = true ∨ S w') ∧ wpAnyE P md ops Q S z fuel (listed.setIfInBounds i true) a' w') a w
theorem wpAny_of_E : ∀ (fuel : Nat) (listed : Array Bool) (a : Act) (w : World), wpAnyE P md ops Q S z fuel listed a w → wpAny P md ops Q fuel listed a w
  | 0, _, _, _, h => h
  | fuel + 1, _, _, _, h => ⟨h.1, fun i hi => wpOp_mono (fun a' w' h' => wpAny_of_E fuel _ a' w' h'.2) (h.2 i hi)⟩
/-- One waits for the other. -/
def waits (md : Region.Mode) (ops : Array Oper) (i j : Nat) : Bool := ((ops[j]?).map fun o => o.after.any fun e => Region.binds md e && e.on == i).getD false
/-- Each of a row waits for the one ahead of it; z is the last. -/
def pathB (md : Region.Mode) (ops : Array Oper) (z : Nat) : Nat → List Nat → Bool
  | i, [] => i == z
  | i, j :: l => waits md ops i j && pathB md ops z j l
theorem waits_not {i j : Nat} {listed : Array Bool} (h : waits md ops i j = true) (hi : listed.getD i true = false) : j ∉ Region.ready md ops listed := fun hj => by
  obtain ⟨_, o, ho, hall⟩ := mem_ready.1 hj
  simp only [waits, ho, Option.map_some, Option.getD_some, Array.any_eq_true] at h
  obtain ⟨k, hk, he⟩ := h
  simp only [Bool.and_eq_true, beq_iff_eq] at he
  have h1 := hall o.after[k] (Array.getElem_mem hk) he.1
  rw [he.2] at h1
  rcases Nat.lt_or_ge i listed.size with h' | h'
  · simp [h'] at hi h1; rw [hi] at h1; cases h1
  · simp [Array.getElem?_eq_none h'] at h1
theorem path_not {listed : Array Bool} : ∀ (i : Nat) (l : List Nat), pathB md ops z i l = true → listed.getD i true = false → (∀ j ∈ l, listed.getD j true = false) → (∀ j ∈ l, j ∉ Region.ready md ops listed) ∧ (z = i ∨ z ∈ l)
  | i, [], h, _, _ => ⟨fun j hj => absurd hj (by simp), Or.inl (by have h' : (i == z) = true := h; exact (eq_of_beq h').symm)⟩
  | i, j :: l, h, hi, hl => by
    simp only [pathB, Bool.and_eq_true] at h
    have h1 := waits_not h.1 hi
    obtain ⟨h2, h3⟩ := path_not j l h.2 (hl j (List.mem_cons_self ..)) fun k hk => hl k (List.mem_cons_of_mem _ hk)
    refine ⟨fun k hk => ?_, ?_⟩
    · rcases List.mem_cons.1 hk with rfl | hk
      · exact h1
      · exact h2 k hk
    · rcases h3 with rfl | h3
      · exact Or.inr (List.mem_cons_self ..)
      · exact Or.inr (List.mem_cons_of_mem _ h3)
theorem wpAnyE_first {i : Nat} {oi : Oper} {v : Value} {l : List Nat} (hi : ops[i]? = some oi) (hsel : ∀ (j : Nat) (o : Oper) cs b, ops[j]? = some o → o.op ≠ .select cs b)
    (hQ : ∀ c a w, Q (.panic c) (a.put oi.dst v) w → Q (.panic c) a w) (hp : pathB md ops z i l = true) (hiz : i ≠ z) :
    ∀ (fuel : Nat) (listed : Array Bool) (a : Act) (w : World),
      (∀ j oj, ops[j]? = some oj → j ≠ i → listed.getD j true = false → (∀ e ∈ oj.after, Region.binds md e = true → e.on ≠ i) → oi.apart ops oj = true) →
      i ∈ Region.ready md ops listed → (∀ j ∈ l, listed.getD j true = false) → YieldsIf P ops S oi v a → S w →
      wpAnyE P md ops Q S z fuel (listed.setIfInBounds i true) (a.put oi.dst v) w → wpAnyE P md ops Q S z (fuel + 1) listed a w := by
  intro fuel
  induction fuel with
  | zero =>
    intro listed a w _ hr hl hy hS H
    refine ⟨fun h => (by rw [h] at hr; cases hr), fun j hj => ?_⟩
    by_cases hji : j = i
    · subst hji; exact hy.wpOp hi hS ⟨Or.inr hS, H⟩
    · have := ready_mono hj hji
      rw [H.1] at this
      cases this
  | succ fuel ih =>
    intro listed a w hfree hr hl hy hS H
    refine ⟨fun h => (by rw [h] at hr; cases hr), fun j hj => ?_⟩
    by_cases hji : j = i
    · subst hji; exact hy.wpOp hi hS ⟨Or.inr hS, H⟩
    · have h1 := H.2 j (ready_mono hj hji)
      obtain ⟨hjun, oj, hoj, hall⟩ := mem_ready.1 hj
      obtain ⟨hnp, hzp⟩ := path_not i l hp (mem_ready.1 hr).1 hl
      have hjz : j ≠ z := fun e => by
        rcases hzp with h | h
        · exact hji (e.trans h)
        · exact hnp z h (e ▸ hj)
      have hjl : ∀ k ∈ l, j ≠ k := fun k hk e => hnp k hk (e ▸ hj)
      have hnot : ∀ e ∈ oj.after, Region.binds md e = true → e.on ≠ i := fun e he hb heq => by
        have h1 := hall e he hb
        have h0 := (mem_ready.1 hr).1
        rw [heq] at h1
        rcases Nat.lt_or_ge i listed.size with h' | h'
        · simp [h'] at h0 h1; rw [h0] at h1; cases h1
        · simp [Array.getElem?_eq_none h'] at h1
      have h2 := wpOp_putIf hoj (hfree j oj hoj hji hjun hnot) (fun cs b => hsel i oi cs b hi) (fun cs b => hsel j oj cs b hoj) hQ hy h1
      have hfree' : ∀ k ok, ops[k]? = some ok → k ≠ i → (listed.setIfInBounds j true).getD k true = false →
          (∀ e ∈ ok.after, Region.binds md e = true → e.on ≠ i) → oi.apart ops ok = true := fun k ok hk hki hun hno => by
        refine hfree k ok hk hki ?_ hno
        by_cases hjk : j = k
        · subst hjk; exact hjun
        · rw [getD_set_ne true hjk] at hun; exact hun
      have hl' : ∀ k ∈ l, (listed.setIfInBounds j true).getD k true = false := fun k hk => by rw [getD_set_ne true (hjl k hk)]; exact hl k hk
      refine wpOp_mono (fun a' w' h3 => ?_) h2
      have hzl : listed.getD z false = false := by
        have h0 : listed.getD z true = false := by
          rcases hzp with h | h
          · exact absurd h.symm hiz
          · exact hl z h
        rcases Nat.lt_or_ge z listed.size with h' | h'
        · simp [h'] at h0 ⊢; exact h0
        · simp [Array.getElem?_eq_none h'] at h0
      have hS' : S w' := h3.2.1.resolve_left (fun h => by
        rw [getD_set_ne false hjz, getD_set_ne false hiz, hzl] at h
        cases h)
      refine ⟨Or.inr hS', ih (listed.setIfInBounds j true) a' w' hfree' (ready_mono hr (Ne.symm hji)) hl' h3.1 hS' ?_⟩
      rw [Array.setIfInBounds_comm _ _ hji]
      exact h3.2.2
theorem wpAnyE_all {rs : List Nat} {fuel : Nat} {listed : Array Bool} {a : Act} {w : World} (hr : Region.ready md ops listed = rs) (hne : rs ≠ [])
    (h : ∀ i ∈ rs, wpOp P ops Q i (fun a' w' => ((listed.setIfInBounds i true).getD z false = true ∨ S w') ∧ wpAnyE P md ops Q S z fuel (listed.setIfInBounds i true) a' w') a w) : wpAnyE P md ops Q S z (fuel + 1) listed a w :=
  ⟨fun h0 => absurd (hr ▸ h0) hne, hr ▸ h⟩
theorem wpAnyE_done {listed : Array Bool} {a : Act} {w : World} (hr : Region.ready md ops listed = []) (h : Q .normal a w) :
    ∀ fuel, wpAnyE P md ops Q S z fuel listed a w
  | 0 => ⟨hr, h⟩
  | _ + 1 => ⟨fun _ => h, by rw [hr]; simp⟩
theorem wpAnyE_one (i : Nat) {fuel : Nat} {listed : Array Bool} {a : Act} {w : World} (hr : Region.ready md ops listed = [i])
    (h : wpOp P ops Q i (fun a' w' => ((listed.setIfInBounds i true).getD z false = true ∨ S w') ∧ wpAnyE P md ops Q S z fuel (listed.setIfInBounds i true) a' w') a w) : wpAnyE P md ops Q S z (fuel + 1) listed a w :=
  wpAnyE_all hr (by simp) (fun j hj => by
    have e : j = i := by simpa using hj
    subst e
    exact h)
/-- Take a load first that z waits for, by way of l. -/
theorem ekL (i : Nat) (l : List Nat) {fuel : Nat} {listed : Array Bool} {a : Act} {w : World} {oi : Oper} {v : Value} (hi : ops[i]? = some oi := by rfl) (hs : Region.noSelect ops = true := by kernel_rfl) (hf : Region.free md ops listed i = true := by kernel_rfl) (hr : (Region.ready md ops listed).contains i = true := by kernel_rfl)
    (hp : pathB md ops z i l = true := by kernel_rfl) (hl : (l.all fun j => !listed.getD j true) = true := by kernel_rfl) (hiz : i ≠ z := by decide)
    (hQ : ∀ c a w, Q (.panic c) (a.put oi.dst v) w → Q (.panic c) a w := by exact fun _ _ _ h => h) (hw : Region.wanted oi (yielded ops a.tmps) = true := by kernel_rfl) (hx : ∀ w, S w → (execOp a.eval oi).run P w = .ok (.value v) w)
    (hS : S w) (h : wpAnyE P md ops Q S z fuel (listed.setIfInBounds i true) (a.put oi.dst v) w) : wpAnyE P md ops Q S z (fuel + 1) listed a w :=
  wpAnyE_first hi (Region.noSelect_spec hs) hQ hp hiz fuel listed a w (Region.free_spec hi hf) (by simpa using hr) (fun j hj => by
    have := List.all_eq_true.1 hl j hj
    simpa using this) (Or.inl ⟨hw, hx⟩) hS h
end
section
variable {md : Region.Mode} {ops : Array Oper} {Q : Exit → Act → World → Prop} {S : World → Prop} {z : Nat}
end
end Go.Proofs.Ytcnjmjcbhelkhaa
