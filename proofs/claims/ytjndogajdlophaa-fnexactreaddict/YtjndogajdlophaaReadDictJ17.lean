import Derived.Test.YtjndogajdlophaaReadDictJ16
import Derived.Test.YtjndogajdlophaaReadDictJ08
import Derived.Test.YtjndogajdlophaaReadDictJ13
namespace Go.Proofs.Ytjndogajdlophaa
open Go Go.RowKit
set_option linter.unusedVariables false

/-! The spec's way to what ReadDict tells. -/
theorem fine_of {S : List St} (h : ∀ s ∈ S, FitS S.length s) : Fine S := fun i hi => by
  have hs : arcsAt S i = S[i].2 := by simp [arcsAt, hi]
  have h1 := h S[i] (List.getElem_mem hi)
  rw [hs]
  refine ⟨h1.1, fun a ha => ?_⟩
  obtain ⟨a1, a2, a3, a4⟩ := h1.2 a ha
  exact ⟨a1, by omega, a3, by omega⟩
theorem Like.fine {S S' : List St} (h : Like S S') (hf : Fine S) : Fine S' := fun i hi => by
  have hl := h.len
  have h1 := hf i (by omega)
  have e := congrArg List.length (h.arcs i)
  simp only [List.length_map] at e
  refine ⟨by omega, fun a ha => ?_⟩
  obtain ⟨b, hb, e1, e2⟩ := h.symm.mem ha
  obtain ⟨a1, a2, a3, a4⟩ := h1.2 b hb
  unfold ArcIn
  rw [e1, e2]
  exact ⟨a1, a2, a3, by omega⟩
theorem Like.says {S S' : List St} (h : Like S S') {x : Int} (hx : CntSays S x) : CntSays S' x := fun e g hs hf hg => hx e g (h.symm.sane hs) (h.symm.fine hf) hg
theorem Like.langF {S S' : List St} (h : Like S S') (f i : Nat) : langF S f i = Go.Proofs.Ytjndogajdlophaa.langF S' f i := by
  rw [← langF_bare S, ← langF_bare S', h]
/-- A dictionary whose bytes these are is told by the states that are read. -/
theorem rdP_like {bs : List UInt8} {S : List St} (h : rdP bs = some S) {d : Int × List St} {ts : List Tx} (hd : IsDict d ts) (hb : bytesD d.2 = bs) : Like d.2 S := by
  have h1 := IsDict.rdP (c := d.1) (S := d.2) hd
  rw [hb, h] at h1
  show d.2.map bareS = S.map bareS
  rw [(rdP_inv h).2.2.2.1]
  exact (Option.some.inj h1).symm
theorem readD_count {bs : List UInt8} {S : List St} (h : rdP bs = some S) (h1 : 1 < S.length) {x : Int} (hx : CntSays S x) (hbad : x = 0 ∨ 4096 < x) : readD bs = none := readD_none fun d ts hd hb => by
  have hL := rdP_like h hd hb
  have hne : ts ≠ [] := by
    rintro rfl
    have e := IsDict.none.1 hd
    have := hL.len
    rw [e] at this
    simp at this
    omega
  obtain ⟨a1, a2, _⟩ := says_dict (hL.symm.says hx) (c := d.1) hd hne
  rcases hbad with h | h
  · exact a1 h
  · omega
theorem rdP_first {bs : List UInt8} {S : List St} (h : rdP bs = some S) {F : List St} (hF : F.length ≤ 300000) (hb : bytesD F = bs) : F.length ≤ 16384 := by
  have e0 : bytesD F = putL F.length ++ (F.flatMap stB ++ four (sumL (dB F))) := by
    show dB F ++ _ = _
    rw [← List.append_assoc]; rfl
  have hg := getL_put F.length (F.flatMap stB ++ four (sumL (dB F))) (by omega)
  rw [← e0, hb] at hg
  unfold rdP at h
  rw [hg, Option.bind_some] at h
  by_cases hc : 1 ≤ F.length ∧ F.length ≤ 16384
  · exact hc.2
  · rw [if_neg hc] at h; cases h
theorem readD_bad {bs : List UInt8} {S : List St} (h : rdP bs = some S) {f : Nat} (hf : 65 ≤ f) (hbad : ¬ GoodT (langF S f 0)) : readD bs = none := readD_none fun d ts hd hb => by
  refine hbad ?_
  rw [← (rdP_like h hd hb).langF f 0, IsDict.big (c := d.1) hd hf]
  exact hd.1
theorem readD_build {bs : List UInt8} {S : List St} (h : rdP bs = some S) {f : Nat} (hf : 65 ≤ f) {L : List Tx} (hL : langF S f 0 = L) (hg : GoodT L) {ord : List (List Tx)} (ho : IsBfs nextT L ord) (hn : ord.length ≤ 300000) : (bytesD (dictOf L ord).2 = bs → readD bs = some (dictOf L ord)) ∧ (bytesD (dictOf L ord).2 ≠ bs → readD bs = none) := by
  refine ⟨fun hb => ?_, fun hb => readD_none fun d ts hd hbd => hb ?_⟩
  · have hl := rdP_first h (F := (dictOf L ord).2) (by show (ord.map _).length ≤ _; rw [List.length_map]; exact hn) hb
    have hl : ord.length ≤ 16384 := by
      have : (ord.map (stOf ord)).length ≤ 16384 := hl
      rwa [List.length_map] at this
    exact readD_some (d := dictOf L ord) (ts := L) ⟨hg, ord, ho, hl, rfl⟩ hb
  · have e1 : ts = L := by rw [← hL, ← (rdP_like h hd hbd).langF f 0, IsDict.big (c := d.1) hd hf]
    subst e1
    obtain ⟨_, ord', ho', _, e2⟩ := hd
    rw [← hbd, e2, ho.uniq ho']
/-- One state that is read tells of no terms. -/
theorem readD_one {bs : List UInt8} {S : List St} (h : rdP bs = some S) (h1 : S.length = 1) {ord : List (List Tx)} (ho : IsBfs nextT [] ord) (hn : ord.length ≤ 300000) : (bytesD (dictOf [] ord).2 = bs → readD bs = some (dictOf [] ord)) ∧ (bytesD (dictOf [] ord).2 ≠ bs → readD bs = none) := by
  have hg : GoodT [] := ⟨List.Pairwise.nil, by simp, fun t ht => by simp at ht⟩
  refine ⟨fun hb => ?_, fun hb => readD_none fun d ts hd hbd => hb ?_⟩
  · have hl := rdP_first h (F := (dictOf [] ord).2) (by show (ord.map _).length ≤ _; rw [List.length_map]; exact hn) hb
    have hl : ord.length ≤ 16384 := by
      have : (ord.map (stOf ord)).length ≤ 16384 := hl
      rwa [List.length_map] at this
    exact readD_some (d := dictOf [] ord) (ts := []) ⟨hg, ord, ho, hl, rfl⟩ hb
  · have hlen := (rdP_like h hd hbd).len
    have e1 : ts = [] := by
      have hm := IsDict.must (c := d.1) hd
      have hd1 : d.2.length = 1 := by omega
      have ha : arcsAt d.2 0 = [] := by
        rcases hm.2.2 with ⟨_, h3⟩ | ⟨⟨e, g, hs⟩, _⟩
        · exact h3
        · refine List.eq_nil_iff_forall_not_mem.2 fun a ha => ?_
          have q1 := hs.long 0 (by omega) a ha
          have q2 := ((IsDict.small (c := d.1) hd 0 (by omega)).2 a ha).2.2.2
          rw [show a.2.1.toNat = 0 by omega] at q1
          omega
      exact (one_dict (c := d.1) hd1 hm.2.1 (by rw [ha]; rfl) hd).1
    subst e1
    obtain ⟨_, ord', ho', _, e2⟩ := hd
    rw [← hbd, e2, ho.uniq ho']
end Go.Proofs.Ytjndogajdlophaa

namespace Go.Proofs.Ytjndogajdlophaa
open Go Go.RowKit
set_option linter.unusedVariables false
set_option maxRecDepth 100000

/-- States in a row of one's own, their arcs in blocks of their own: all of it between lo and hi. -/
structure StsAt (W : World) (lo hi : Nat) (v : Value) (S : List St) (xs : List Value) : Prop where
  le : hi ≤ W.heap.size
  row : W.ownsRow lo 104 2 v S.length xs
  own : ∀ b, v.ownBlock = some b → b < hi
  sts : ∀ j, j < S.length → xs[j * 2]? = some (.bool (S.getD j st0).1) ∧ ∃ aj cj, xs[j * 2 + 1]? = some (.slice aj (S.getD j st0).2.length cj) ∧ HoldA W aj (S.getD j st0).2 ∧ ∀ b off, aj = some ⟨b, off, none⟩ → lo ≤ b ∧ b < hi ∧ ∃ cur, W.heap[b]? = some (.cells cur 110)
theorem StsAt.nil (W : World) (lo : Nat) : StsAt W lo W.heap.size (.slice none 0 0) [] [] := ⟨Nat.le_refl _, World.ownsRow_nil _ _ _ _, (fun b hb => by cases hb), fun j hj => by simp at hj⟩
theorem StsAt.keep {W W' : World} {lo hi : Nat} {v : Value} {S : List St} {xs : List Value} (h : StsAt W lo hi v S xs) (hz : W.heap.size ≤ W'.heap.size) (hk : ∀ b, lo ≤ b → b < hi → W'.heap[b]? = W.heap[b]?) : StsAt W' lo hi v S xs := by
  refine ⟨Nat.le_trans h.le hz, own_congr h.row fun b hb => hk b (own_blk h.row hb).1 (h.own b hb), h.own, fun j hj => ?_⟩
  obtain ⟨q1, aj, cj, q2, q3, q4⟩ := h.sts j hj
  refine ⟨q1, aj, cj, q2, q3.keep hz fun b off e _ => hk b (q4 b off e).1 (q4 b off e).2.1, fun b off e => ?_⟩
  obtain ⟨r1, r2, cur, r3⟩ := q4 b off e
  exact ⟨r1, r2, cur, (hk b r1 r2).trans r3⟩
theorem StsAt.push {W V w6 : World} {lo hi lo2 g6 cp6 : Nat} {v va : Value} {S : List St} {xs : List Value} {f : Bool} {l : List Ar} (h : StsAt W lo hi v S xs) (hlo : lo ≤ lo2) (harow : W.ownsRow lo2 110 3 va l.length (aC l)) (hV : Below W.heap.size W V)
    (hown : w6.ownsRow lo 104 2 (.slice (some ⟨g6, 0, none⟩) (S.length + 1) cp6) (S.length + 1) (xs ++ [.bool f, va])) (hg : V.grownBy w6 v.ownBlock) :
    StsAt w6 lo w6.heap.size (.slice (some ⟨g6, 0, none⟩) (S.length + 1) cp6) (S ++ [(f, l)]) (xs ++ [.bool f, va]) := by
  have hsz : W.heap.size ≤ w6.heap.size := Nat.le_trans hV.size hg.size
  have hkeep : ∀ (b : Nat) (cs : Array Value), W.heap[b]? = some (Obj.cells cs 110) → w6.heap[b]? = W.heap[b]? := fun b cs hb => by
    have hbl := (Array.getElem?_eq_some_iff.1 hb).1
    have hVs := hV.size
    rw [hg.block b (by omega) (fun e => by
      obtain ⟨h5, cur, hc⟩ := own_blk h.row e.symm
      exact blk_ne hb hc (by decide) rfl), hV.block b hbl]
  have hxl : xs.length = S.length * 2 := h.row.1
  obtain ⟨av, cv, hvv, hHA, hHb⟩ := holdA_of harow
  have hgl : ∀ b, (Value.slice (some ⟨g6, 0, none⟩) (S.length + 1) cp6).ownBlock = some b → b < w6.heap.size := fun b hb => by
    obtain ⟨_, cur, hc⟩ := own_blk hown hb
    exact (Array.getElem?_eq_some_iff.1 hc).1
  refine ⟨Nat.le_refl _, by simpa using hown, hgl, fun j hj => ?_⟩
  have hj' : j < S.length + 1 := by simpa using hj
  by_cases e : j < S.length
  · obtain ⟨q1, a, c, q2, q3, q4⟩ := h.sts j e
    have eS : (S ++ [(f, l)]).getD j st0 = S.getD j st0 := by simp [List.getD_eq_getElem?_getD, List.getElem?_append_left e]
    rw [eS, List.getElem?_append_left (by omega), List.getElem?_append_left (by omega)]
    refine ⟨q1, a, c, q2, q3.keep hsz fun b off e _ => ?_, fun b off e => ?_⟩
    · obtain ⟨_, _, cur, hc⟩ := q4 b off e
      exact hkeep b cur hc
    · obtain ⟨q5, q6, cur, hc⟩ := q4 b off e
      exact ⟨q5, by have := h.le; omega, cur, (hkeep b cur hc).trans hc⟩
  · obtain rfl : j = S.length := by omega
    have eS : (S ++ [(f, l)]).getD S.length st0 = (f, l) := by simp
    rw [eS, List.getElem?_append_right (by omega), List.getElem?_append_right (by omega), show S.length * 2 - xs.length = 0 from by omega, show S.length * 2 + 1 - xs.length = 1 from by omega]
    refine ⟨rfl, av, cv, by rw [hvv]; rfl, hHA.keep hsz fun b off e _ => ?_, fun b off e => ?_⟩
    · have hb : va.ownBlock = some b := by rw [hvv, e]; rfl
      obtain ⟨_, cur, hc⟩ := own_blk harow hb
      exact hkeep b cur hc
    · have hb : va.ownBlock = some b := by rw [hvv, e]; rfl
      obtain ⟨q5, cur, hc⟩ := own_blk harow hb
      exact ⟨by omega, by have := (Array.getElem?_eq_some_iff.1 hc).1; omega, cur, (hkeep b cur hc).trans hc⟩
/-- What lies so is held. -/
theorem StsAt.hold {W : World} {lo hi : Nat} {v : Value} {S : List St} {xs : List Value} (h : StsAt W lo hi v S xs) : ∃ a c, v = .slice a S.length c ∧ HoldS W a S := by
  rcases h.row.2 with ⟨h0, h1⟩ | ⟨g, cap, cur, e, hg, hcur, _⟩
  · exact ⟨none, 0, by rw [h0, h1], Or.inl (List.length_eq_zero_iff.1 h1)⟩
  · have hrow := h.row
    rw [e] at hrow
    refine ⟨some ⟨g, 0, none⟩, cap, e, Or.inr ⟨g, 0, rfl, (Array.getElem?_eq_some_iff.1 hcur).1, fun j hj => ?_⟩⟩
    obtain ⟨q1, aj, cj, q2, q3, _⟩ := h.sts j hj
    rw [Nat.zero_add]
    exact ⟨by rw [hrow.cellAt (j * 2) (by omega)]; exact q1, aj, cj, by rw [hrow.cellAt (j * 2 + 1) (by omega)]; exact q2, q3⟩
end Go.Proofs.Ytjndogajdlophaa

namespace Go.Proofs.Ytjndogajdlophaa
open Go Go.RowKit
set_option linter.unusedVariables false
set_option maxHeartbeats 1000000 in
/-- spec's l03Get at a place: what stands there. -/
theorem specGet_any (b off cap k : Nat) (bs : List UInt8) (w : World) (hl : bs.length ≤ 1048576) (hk : k ≤ bs.length) (hc : BytesAt w b off bs) :
    Calls Try.prog 65 #[.slice (some ⟨b, off, none⟩) bs.length cap, .int .i64 (k : Int)] w fun e w' => (∃ m, w' = w.drewN m) ∧
      ((getL (bs.drop k) = none ∧ ∃ x y : Int, e = .returned (.tuple #[.int .i64 x, .int .i64 y, .bool false])) ∨ ∃ v s, getL (bs.drop k) = some (v, s) ∧ e = .returned (.tuple #[.int .i64 (v : Int), .int .i64 ((k : Int) + (s : Int)), .bool true])) := by
  have Hc := hidd hc
  clear hc
  go_enter Try.func65, Try.ntmps65
  go_wp2
  go_loop [7, 8, 9] (fun vv uu nn => ∃ j y U : Nat, j ≤ 8 ∧ k + j ≤ bs.length ∧ nn = .int .i64 j ∧ vv = .int .i64 (y : Int) ∧ uu = .int .i64 (U : Int) ∧ U = 128 ^ j ∧ y < 128 ^ j ∧ getL (bs.drop k) = getGo (bs.drop (k + j)) j y) (fun _ _ nn => 9 - (intOf nn).toNat)
  case atStart => exact ⟨0, 0, 1, by omega, by omega, rfl, rfl, rfl, rfl, by omega, rfl⟩
  case round =>
    obtain ⟨j, y, U, hj, hkj, rfl, rfl, rfl, hU, hy, hget⟩ := hrel
    have hU8 : U ≤ 72057594037927936 := by rw [hU]; have := Nat.pow_le_pow_right (n := 128) (by omega) hj; omega
    have hyU : y < U := by omega
    have HG := hidd hget
    have HU := hidd hU
    clear hget hU hy
    have hj9 : (j : Int) < 9 := by omega
    by_cases hlt : k + j < bs.length
    · have hlz : (k : Int) + (j : Int) < (bs.length : Int) := by omega
      have g1 := Hc.out (k + j) hlt
      have hc256 : (bs.getD (k + j) 0).toNat < 256 := UInt8.toNat_lt _
      have Hd : Hid (bs.drop (k + j) = bs.getD (k + j) 0 :: bs.drop (k + j + 1)) := by show _ = _; rw [List.drop_eq_getElem_cons hlt]; simp [hlt]
      generalize hcc : bs.getD (k + j) 0 = cb at *
      clear hcc
      obtain ⟨T, hT⟩ : ∃ T : Nat, T = cb.toNat % 128 * U := ⟨_, rfl⟩
      have hTle : T ≤ 127 * U := by rw [hT]; exact Nat.mul_le_mul_right _ (by omega)
      have hTz : (cb.toNat : Int) % 128 * (U : Int) = (T : Int) := by rw [hT]; simp
      have HT := hidd hT
      clear hT
      by_cases h8 : j = 8 ∧ 63 < cb.toNat
      · obtain ⟨h8, h63⟩ := h8
        have hb8 : ((j : Int) == 8) = true := by simp; omega
        have h63z : (63 : Int) < (cb.toNat : Int) := by omega
        have HN : Hid (getL (bs.drop k) = none) := by show _ = _; rw [HG.out, Hd.out, getGo, if_pos (Or.inr ⟨h8, h63⟩)]
        clear h8
        go_wp2
        go_ret3
        exact ⟨⟨0, rfl⟩, Or.inl ⟨HN.out, _, _, rfl⟩⟩
      · have HS : Hid (cb.toNat < 128 → (j = 0 ∨ 0 < cb.toNat) → getL (bs.drop k) = some (y + T, j + 1)) := by
          intro h1 h2
          rw [HG.out, Hd.out, getGo, if_neg (by omega), if_pos h1, if_pos h2, HT.out, HU.out]
        have HN : Hid (cb.toNat < 128 → ¬ (j = 0 ∨ 0 < cb.toNat) → getL (bs.drop k) = none) := by
          intro h1 h2
          rw [HG.out, Hd.out, getGo, if_neg (by omega), if_pos h1, if_neg h2]
        have HX : Hid (¬ cb.toNat < 128 → getL (bs.drop k) = getGo (bs.drop (k + (j + 1))) (j + 1) (y + T)) := by
          intro h1
          rw [HG.out, Hd.out, getGo, if_neg (by omega), if_neg h1, HT.out, HU.out, Nat.add_assoc]
        have Hn8 : Hid (¬ (j = 8 ∧ 63 < cb.toNat)) := h8
        clear h8 Hd HG
        by_cases hj8 : j = 8
        · have h63 : cb.toNat ≤ 63 := by have := Hn8.out; omega
          have hb8 : ((j : Int) == 8) = true := by simp; omega
          have hcz : ¬ (63 : Int) < (cb.toNat : Int) := by omega
          have hc128 : (cb.toNat : Int) < 128 := by omega
          have hb0 : ((j : Int) == 0) = false := by simp; omega
          have hTle' : T ≤ 63 * U := by rw [HT.out]; exact Nat.mul_le_mul_right _ (by omega)
          by_cases hc0 : 0 < cb.toNat
          · have hc0z : (0 : Int) < (cb.toNat : Int) := by omega
            have HE := hidd (HS.out (by omega) (Or.inr hc0))
            clear hj8
            go_wp2
            go_ret3
            refine ⟨⟨0, rfl⟩, Or.inr ⟨y + T, _, HE.out, ?_⟩⟩
            congr 3
            try (simp; try omega)
          · have hc0z : ¬ (0 : Int) < (cb.toNat : Int) := by omega
            have HE := hidd (HN.out (by omega) (by omega))
            clear hj8
            go_wp2
            go_ret3
            exact ⟨⟨0, rfl⟩, Or.inl ⟨HE.out, _, _, rfl⟩⟩
        · have hb8 : ((j : Int) == 8) = false := by simp; omega
          by_cases hc128 : cb.toNat < 128
          · have hc128z : (cb.toNat : Int) < 128 := by omega
            by_cases hj0 : j = 0
            · have HE := hidd (HS.out hc128 (Or.inl hj0))
              have hb0 : ((j : Int) == 0) = true := by simp; omega
              clear hj0
              go_wp2
              go_ret3
              refine ⟨⟨0, rfl⟩, Or.inr ⟨y + T, _, HE.out, ?_⟩⟩
              congr 3
              try (simp; try omega)
            · have hb0 : ((j : Int) == 0) = false := by simp; omega
              by_cases hc0 : 0 < cb.toNat
              · have hc0z : (0 : Int) < (cb.toNat : Int) := by omega
                have HE := hidd (HS.out (by omega) (Or.inr hc0))
                go_wp2
                go_ret3
                refine ⟨⟨0, rfl⟩, Or.inr ⟨y + T, _, HE.out, ?_⟩⟩
                congr 3
                try (simp; try omega)
              · have hc0z : ¬ (0 : Int) < (cb.toNat : Int) := by omega
                have HE := hidd (HN.out (by omega) (by omega))
                go_wp2
                go_ret3
                exact ⟨⟨0, rfl⟩, Or.inl ⟨HE.out, _, _, rfl⟩⟩
          · have hc128z : ¬ (cb.toNat : Int) < 128 := by omega
            have hjlt : (j : Int) < 8 := by omega
            have hU7 : U ≤ 562949953421312 := by rw [HU.out]; have := Nat.pow_le_pow_right (n := 128) (i := j) (j := 7) (by omega) (by omega); omega
            have HE := hidd (HX.out hc128)
            go_wp2
            go_round
            case rel =>
              refine ⟨j + 1, y + T, U * 128, by omega, by omega, by go_num, by go_num, by go_num, by rw [HU.out, Nat.pow_succ], ?_, HE.out⟩
              rw [Nat.pow_succ, ← HU.out]; omega
            case measure => simp [intOf]; omega
    · have hlz : ¬ (k : Int) + (j : Int) < (bs.length : Int) := by omega
      have HN : Hid (getL (bs.drop k) = none) := by show _ = _; rw [HG.out, List.drop_of_length_le (by omega)]; rfl
      go_wp2
      go_ret3
      exact ⟨⟨0, rfl⟩, Or.inl ⟨HN.out, _, _, rfl⟩⟩
end Go.Proofs.Ytjndogajdlophaa

namespace Go.Proofs.Ytjndogajdlophaa
open Go Go.RowKit
set_option linter.unusedVariables false
set_option maxRecDepth 100000

/-! spec's reader of states, between two states and between two arcs. -/
structure PoAt (w W : World) (hi : Nat) (v : Value) (S : List St) (xs : List Value) : Prop where
  old : Below w.heap.size w W
  res : W.heap[w.heap.size]? = some (.cells #[.int .i64 0, .slice none 0 0] 30)
  dbx : W.heap[w.heap.size + 1]? = some (.cells #[.int .i64 0, v] 30)
  sts : StsAt W (w.heap.size + 2) hi v S xs
theorem PoAt.keep {w W W' : World} {hi : Nat} {v : Value} {S : List St} {xs : List Value} (h : PoAt w W hi v S xs) (hs : Below w.heap.size W W') (h0 : W'.heap[w.heap.size]? = W.heap[w.heap.size]?) (h1 : W'.heap[w.heap.size + 1]? = W.heap[w.heap.size + 1]?) (hk : ∀ b, w.heap.size + 2 ≤ b → b < hi → W'.heap[b]? = W.heap[b]?) : PoAt w W' hi v S xs :=
  ⟨h.old.trans hs, h0.trans h.res, h1.trans h.dbx, h.sts.keep hs.size hk⟩
theorem PoAt.below {w W W' : World} {hi : Nat} {v : Value} {S : List St} {xs : List Value} (h : PoAt w W hi v S xs) (hb : Below W.heap.size W W') : PoAt w W' hi v S xs :=
  h.keep (hb.mono h.old.size) (hb.block _ (Array.getElem?_eq_some_iff.1 h.res).1) (hb.block _ (Array.getElem?_eq_some_iff.1 h.dbx).1) (fun b _ h2 => hb.block b (Nat.lt_of_lt_of_le h2 h.sts.le))
structure PiAt (w W : World) (hi : Nat) (v : Value) (S : List St) (xs : List Value) (B : Nat) (f : Bool) (va : Value) (l : List Ar) : Prop where
  out : PoAt w W hi v S xs
  hiB : hi ≤ B
  lt : w.heap.size + 2 ≤ B
  box : W.heap[B]? = some (.cells #[.bool f, va] 104)
  row : W.ownsRow (B + 1) 110 3 va l.length (aC l)
theorem PiAt.below {w W W' : World} {hi : Nat} {v : Value} {S : List St} {xs : List Value} {B : Nat} {f : Bool} {va : Value} {l : List Ar} (h : PiAt w W hi v S xs B f va l) (hb : Below W.heap.size W W') : PiAt w W' hi v S xs B f va l :=
  ⟨h.out.below hb, h.hiB, h.lt, blko h.box hb, own_congr h.row fun b hb' => hb.block b (h.row.lt b hb').2⟩
theorem PiAt.push {w W V w6 : World} {hi : Nat} {v : Value} {S : List St} {xs : List Value} {B : Nat} {f : Bool} {va : Value} {l : List Ar} {p : Ar} {g6 cp6 : Nat} (h : PiAt w W hi v S xs B f va l) (hV : Below W.heap.size W V)
    (hown : w6.ownsRow (B + 1) 110 3 (.slice (some ⟨g6, 0, none⟩) (l.length + 1) cp6) (l.length + 1) (aC l ++ [.int .i64 p.1, .int .i64 p.2.1, .int .i64 p.2.2])) (hg : V.grownBy w6 va.ownBlock) (hat : va.ownBlock = some g6 ∨ g6 = V.heap.size) :
    w6.heap[B]? = some (.cells #[.bool f, va] 104) ∧ PiAt w (w6.setCell ⟨B, 1, none⟩ (.slice (some ⟨g6, 0, none⟩) (l.length + 1) cp6)) hi v S xs B f (.slice (some ⟨g6, 0, none⟩) (l.length + 1) cp6) (l ++ [p]) := by
  have hBl := (Array.getElem?_eq_some_iff.1 h.box).1
  have hVs := hV.size
  have hva : ∀ b, va.ownBlock = some b → B + 1 ≤ b := fun b hb => (own_blk h.row hb).1
  have hk : ∀ b, b ≤ B → w6.heap[b]? = W.heap[b]? := fun b hb => by
    rw [hg.block b (by omega) (fun e => by have := hva b e.symm; omega), hV.block b (by omega)]
  have hbox : w6.heap[B]? = some (.cells #[.bool f, va] 104) := (hk B (Nat.le_refl _)).trans h.box
  have hg6 : g6 ≠ B := by
    rcases hat with e | e
    · have := hva g6 e; omega
    · omega
  have hlt := h.lt
  have hb6 : Below w.heap.size W w6 := ⟨by rw [hg.os, hV.os], by rw [hg.tape, hV.tape], by rw [hg.output, hV.output], Nat.le_trans hV.size hg.size, fun b hb => hk b (by omega)⟩
  refine ⟨hbox, ?_, h.hiB, h.lt, blk_setk hbox 1 _, ?_⟩
  · refine h.out.keep (hb6.setCell (p := ⟨B, 1, none⟩) (by dsimp only; omega) _) ?_ ?_ fun b h1 h2 => ?_
    · rw [heap_set_other w6 B 1 _ _ (by omega)]; exact hk _ (by omega)
    · rw [heap_set_other w6 B 1 _ _ (by omega)]; exact hk _ (by omega)
    · have := h.hiB
      rw [heap_set_other w6 B 1 _ _ (by omega)]; exact hk _ (by omega)
  · rw [List.length_append, aC_snoc]
    exact own_congr hown fun b hb => heap_set_other w6 B 1 _ b (by cases hb; exact hg6)
theorem PiAt.next {w W V w6 : World} {hi : Nat} {v : Value} {S : List St} {xs : List Value} {B : Nat} {f : Bool} {va : Value} {l : List Ar} {g6 cp6 : Nat} (h : PiAt w W hi v S xs B f va l) (hV : Below W.heap.size W V)
    (hown : w6.ownsRow (w.heap.size + 2) 104 2 (.slice (some ⟨g6, 0, none⟩) (S.length + 1) cp6) (S.length + 1) (xs ++ [.bool f, va])) (hg : V.grownBy w6 v.ownBlock) (hat : v.ownBlock = some g6 ∨ g6 = V.heap.size) :
    w6.heap[w.heap.size + 1]? = some (.cells #[.int .i64 0, v] 30) ∧ PoAt w (w6.setCell ⟨w.heap.size + 1, 1, none⟩ (.slice (some ⟨g6, 0, none⟩) (S.length + 1) cp6)) w6.heap.size (.slice (some ⟨g6, 0, none⟩) (S.length + 1) cp6) (S ++ [(f, l)]) (xs ++ [.bool f, va]) := by
  have hdl := (Array.getElem?_eq_some_iff.1 h.out.dbx).1
  have hVs := hV.size
  have hlt := h.lt
  have hv : ∀ b, v.ownBlock = some b → w.heap.size + 2 ≤ b := fun b hb => (own_blk h.out.sts.row hb).1
  have hk : ∀ b, b < w.heap.size + 2 → w6.heap[b]? = W.heap[b]? := fun b hb => by
    rw [hg.block b (by omega) (fun e => by have := hv b e.symm; omega), hV.block b (by omega)]
  have hbox := (hk (w.heap.size + 1) (by omega)).trans h.out.dbx
  have hb6 : Below w.heap.size W w6 := ⟨by rw [hg.os, hV.os], by rw [hg.tape, hV.tape], by rw [hg.output, hV.output], Nat.le_trans hV.size hg.size, fun b hb => hk b (by omega)⟩
  have hst := h.out.sts.push (f := f) (l := l) (by omega) h.row hV hown hg
  refine ⟨hbox, h.out.old.trans (hb6.setCell (p := ⟨w.heap.size + 1, 1, none⟩) (by dsimp only; omega) _), ?_, blk_setk hbox 1 _, hst.keep (by simp) fun b h1 h2 => heap_set_other w6 (w.heap.size + 1) 1 _ b (by omega)⟩
  rw [heap_set_other w6 (w.heap.size + 1) 1 _ _ (by omega)]
  exact (hk _ (by omega)).trans h.out.res
theorem vOn {wb V w6 : World} {row : Option Nat} (h : V.grownBy w6 row) (hb : Below wb.heap.size wb V) : Hid (Below wb.heap.size wb V) := hidd hb
/-- What was read so far, and what is left. -/
def rdO (S : List St) (o : Option (List St × List UInt8)) : Option (List St × List UInt8) := o.map fun q => (S ++ q.1, q.2)
def rdA (l : List Ar) (o : Option (List Ar × List UInt8)) : Option (List Ar × List UInt8) := o.map fun q => (l ++ q.1, q.2)
theorem rdO_nil (o : Option (List St × List UInt8)) : rdO [] o = o := by cases o <;> simp [rdO]
theorem rdA_nil (o : Option (List Ar × List UInt8)) : rdA [] o = o := by cases o <;> simp [rdA]
theorem rdSts_step {n k : Nat} {S : List St} {bs : List UInt8} {s : St} {r : List UInt8} (h : rdSt n bs = some (s, r)) : rdO S (rdSts n (k + 1) bs) = rdO (S ++ [s]) (rdSts n k r) := by
  rw [rdSts, h, Option.bind_some]
  cases rdSts n k r <;> simp [rdO]
theorem rdSts_stop {n k : Nat} {S : List St} {bs : List UInt8} (h : rdSt n bs = none) : rdO S (rdSts n (k + 1) bs) = none := by
  rw [rdSts, h]; rfl
theorem rdArcs_step {n k : Nat} {l : List Ar} {b : UInt8} {bs : List UInt8} {v s : Nat} (h : getL bs = some (v, s)) (hv : v < n) : rdA l (rdArcs n (k + 1) (b :: bs)) = rdA (l ++ [((b.toNat : Int), (v : Int), 0)]) (rdArcs n k (bs.drop s)) := by
  rw [rdArcs, h, Option.bind_some, if_pos hv]
  cases rdArcs n k (bs.drop s) <;> simp [rdA]
theorem rdArcs_bad {n k : Nat} {l : List Ar} {b : UInt8} {bs : List UInt8} (h : ∀ v s, getL bs = some (v, s) → ¬ v < n) : rdA l (rdArcs n (k + 1) (b :: bs)) = none := by
  rw [rdArcs]
  cases hg : getL bs with
  | none => rfl
  | some p => rw [Option.bind_some, if_neg (h p.1 p.2 hg)]; rfl
theorem rdSt_bad {n : Nat} {bs : List UInt8} (h : ∀ v s, getL bs = some (v, s) → ¬ v ≤ 513) : rdSt n bs = none := by
  unfold rdSt
  cases hg : getL bs with
  | none => rfl
  | some p => rw [Option.bind_some, if_neg (h p.1 p.2 hg)]
theorem rdSt_arcs {n : Nat} {bs : List UInt8} {v s : Nat} (h : getL bs = some (v, s)) (hv : v ≤ 513) : rdSt n bs = (rdArcs n (v / 2) (bs.drop s)).map fun q => ((v % 2 == 1, q.1), q.2) := by
  unfold rdSt
  rw [h, Option.bind_some, if_pos hv]
theorem getL_fit {bs : List UInt8} {v s : Nat} (h : getL bs = some (v, s)) : s ≤ bs.length ∧ v < 4611686018427387904 := by
  obtain ⟨h1, h2, h3⟩ := getL_inv h
  have := congrArg List.length h1
  rw [List.length_take, ← h3] at this
  exact ⟨by omega, h2⟩
end Go.Proofs.Ytjndogajdlophaa
