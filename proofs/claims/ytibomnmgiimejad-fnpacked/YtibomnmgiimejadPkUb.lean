import Derived.Test.YtibomnmgiimejadPkUa
import Derived.Maps.AppendAt
namespace Go.Proofs.Ytibomnmgiimejad
open Go Go.RowKit
set_option linter.unusedVariables false

theorem own_shape {w : World} {base e n : Nat} {v : Value} {xs : List Value} (h : w.ownsRow base e 1 v n xs) : ∃ ao cap, v = .slice ao n cap := by
  rcases own_cases h with ⟨rfl, rfl⟩ | ⟨g, cap, rfl, _⟩
  · exact ⟨_, _, rfl⟩
  · exact ⟨_, _, rfl⟩
def UnOut (w : World) (bs : List UInt8) (e : Ending) (w' : World) : Prop :=
  Below w.heap.size w w' ∧ ((unAll bs = none ∧ ∃ u, e = .returned (.tuple #[u, .bool false])) ∨ ∃ vs u, unAll bs = some vs ∧ e = .returned (.tuple #[u, .bool true]) ∧ w'.ownsRow w.heap.size 3 1 u vs.length (nCells vs))

set_option maxHeartbeats 2000000 in
set_option maxRecDepth 100000 in
theorem unpacked_any (v : Value) (bs : List UInt8) (w : World) (hst : Stretch w v bs) :
    Calls Try.prog 35 #[v] w (UnOut w bs) := by
  have HS := hidd hst
  have hle := hst.le
  have HG := hidd (leadingInt_st v bs w hst)
  clear hst
  obtain ⟨i0, hi, hz0, hz1, hz2⟩ := info_parts infoN64
  cases hg : getL bs with
  | none =>
    obtain ⟨e1, e2⟩ := getVS_none hg
    rw [e1, e2] at HG
    have HU : Hid (unAll bs = none) := by show _ = _; simp [unAll, unpackL, hg]
    clear hg e1 e2
    go_enter Try.func35, Try.ntmps35
    go_wp2_with (first | (go_at_call 38; refine HG.out.mono ?_; rintro e w' ⟨rfl, hw'⟩; obtain rfl := hw'.symm; clear hw'))
    go_ret2
    exact ⟨Below.refl _ _, Or.inl ⟨HU.out, _, rfl⟩⟩
  | some p =>
    obtain ⟨c, s⟩ := p
    obtain ⟨e1, e2⟩ := getVS_some hg
    rw [e1, e2] at HG
    obtain ⟨hs1, hs9, hs0⟩ := getL_le hg
    have hsz0 : ((s : Int) == 0) = false := beq_false_of_ne (by omega)
    by_cases hbig : 4096 < c
    · have HU : Hid (unAll bs = none) := by show _ = _; simp [unAll, unpackL, hg, hbig]
      have hbz : (4096 : Int) < (c : Int) := by omega
      clear hg e1 e2
      go_enter Try.func35, Try.ntmps35
      go_wp2_with (first | (go_at_call 38; refine HG.out.mono ?_; rintro e w' ⟨rfl, hw'⟩; obtain rfl := hw'.symm; clear hw'))
      go_ret2
      exact ⟨Below.refl _ _, Or.inl ⟨HU.out, _, rfl⟩⟩
    · have HU : Hid (unAll bs = match unpackGo (bs.drop s) c with
          | none => none
          | some (vs, r) => if s + r = bs.length then some vs else none) := by
        show _ = _
        rw [unAll, unpackL, hg]
        simp only
        rw [if_neg hbig]
        cases unpackGo (bs.drop s) c with
        | none => rfl
        | some q => rfl
      have hbz : ¬ (4096 : Int) < (c : Int) := by omega
      clear hg e1 e2
      go_enter Try.func35, Try.ntmps35
      go_wp2_with (first | (go_at_call 38; refine HG.out.mono ?_; rintro e w' ⟨rfl, hw'⟩; obtain rfl := hw'.symm; clear hw') | (refine wpS_from rfl _ _ rfl v bs s rfl rfl HS.out hs1 hs0 ?_; intro v2 hv2; have HS2 := hidd hv2; clear hv2))
      go_loopw [0, 6] (fun vb vl wr => ∃ (acc : List Nat) (ts : List UInt8), Stretch w vb ts ∧ wr.ownsRow w.heap.size 3 1 vl acc.length (nCells acc) ∧ Below w.heap.size w wr ∧ acc.length ≤ c ∧ (unAll bs = match unpackGo ts (c - acc.length) with
          | none => none
          | some (us, r) => if r = ts.length then some (acc ++ us) else none)) (fun _ vl _ => c - vlen vl)
      case atStart =>
        refine ⟨[], bs.drop s, HS2.out, World.ownsRow_nil _ _ _ _, Below.refl _ _, by simp, ?_⟩
        rw [HU.out]
        simp only [List.length_nil, Nat.sub_zero, List.nil_append, List.length_drop]
        cases unpackGo (bs.drop s) c with
        | none => rfl
        | some q =>
          have : (s + q.2 = bs.length) = (q.2 = bs.length - s) := by apply propext; omega
          simp only [this]
      case round =>
        clear HS HS2 HG HU
        obtain ⟨acc, ts, hst, hown, hbel, hlen, hun⟩ := hrel
        have HS := hidd hst
        have HO := hidd hown
        have HB := hidd hbel
        have HU := hidd hun
        have htl := hst.le
        clear hst hown hbel hun
        obtain ⟨ao, cp, hvl⟩ := own_shape HO.out
        subst hvl
        by_cases hlt : acc.length < c
        · obtain ⟨n, hn⟩ : ∃ n, min (c - acc.length) 128 = n := ⟨_, rfl⟩
          have hn1 : 1 ≤ n := by omega
          have hn2 : n ≤ 128 := by omega
          have hnz : min ((c : Int) - (acc.length : Int)) 128 = (n : Int) := by omega
          have hltz : (acc.length : Int) < (c : Int) := by omega
          have HL := hidd (leadingBlock_any _ n ts wr hn2 (HS.out.below HB.out))
          have Hn := hidd hn
          clear hn
          go_wp2_with (first | (go_at_call 71; refine HL.out.mono ?_))
          rintro e w1 ⟨hb1, X, s2, hX, rfl⟩
          have HO1 := hidd (own_below HO.out hb1)
          have HB1 : Hid (Below w.heap.size w w1) := HB.out.trans (hb1.mono HB.out.size)
          have hzz : w.heap.size ≤ w1.heap.size := HB1.out.size
          have hXl := hX.1
          have hX2 := hX.2
          clear hb1 HO HB HL hX
          rcases hX2 with ⟨hno, rfl⟩ | ⟨us, r, hyes, rfl, rfl⟩
          · have HN : Hid (unAll bs = none) := by show _ = _; rw [HU.out, unpackGo_step ts _ (by omega), Hn.out, hno]
            clear HU hno
            go_wp2_with (first | (refine wpB_alloc rfl rfl ?_) | (refine wpB_store rfl _ _ rfl w.heap.size w1.heap.size zeros X rfl rfl hXl (Blk.new hzz zeros_length) ?_; intro w2 hB2 hg2; have HB2 : Hid (Below w.heap.size w w2) := (HB1.out.alloc hzz _).grown hg2 (by simp; omega) (fun j e => by cases e; exact hzz); clear hB2 hg2))
            go_ret2
            exact ⟨HB2.out, Or.inl ⟨HN.out, _, rfl⟩⟩
          · obtain ⟨hul, hu62, hr1, hr2⟩ := readBlock_some hyes
            have Hu62 := hidd hu62
            have HU2 : Hid (unAll bs = match unpackGo (ts.drop r) (c - (acc ++ us).length) with
                | none => none
                | some (us', r') => if r' = (ts.drop r).length then some ((acc ++ us) ++ us') else none) := by
              show _ = _
              rw [HU.out, unpackGo_step ts _ (by omega), Hn.out, hyes]
              have hcc : c - acc.length - n = c - (acc ++ us).length := by rw [List.length_append, hul]; omega
              simp only [hcc]
              cases unpackGo (ts.drop r) (c - (acc ++ us).length) with
              | none => rfl
              | some q =>
                have : (r + q.2 = ts.length) = (q.2 = (ts.drop r).length) := by apply propext; rw [List.length_drop]; omega
                simp only [this, List.append_assoc]
            have Hul := hidd hul
            have hal : acc.length + n ≤ c := by have := Hn.out; omega
            have hrz : ((r : Int) == 0) = false := beq_false_of_ne (by omega)
            have hnn : ¬ (128 : Int) < (n : Int) := by omega
            have hn128 : (n : Int) ≤ 128 := by omega
            have Hpc : Hid (∀ k, k < n → (padL us).getD k 0 = us.getD k 0) := by
              intro k hk
              rw [padL, List.getD_eq_getElem?_getD, List.getD_eq_getElem?_getD, List.getElem?_append_left (by omega)]
            generalize hps : padL us = ps at *
            clear HU hyes hul hu62 hps
            go_wp2_with (first | (refine wpB_alloc rfl rfl ?_) | (refine wpB_store rfl _ _ rfl w.heap.size w1.heap.size zeros ps rfl rfl hXl (Blk.new hzz zeros_length) ?_; intro w2 hB2 hg2; have HO2 : Hid (w2.ownsRow w.heap.size 3 1 (.slice ao acc.length cp) acc.length (nCells acc)) := (HO1.out.alloc _).kept hg2 (Or.inr (fun e => by have := (HO1.out.lt _ e).2; omega)); have HN2 : Hid (∀ j, (Value.slice ao acc.length cp).ownBlock = some j → j ≠ w1.heap.size) := (fun j e => by have := (HO1.out.lt _ e).2; omega); have HB2 : Hid (Below w.heap.size w w2) := (HB1.out.alloc hzz _).grown hg2 (by simp; omega) (fun j e => by cases e; exact hzz); have HK2 := hidd hB2; clear hB2 hg2))
            clear HO1 HB1
            generalize w1.heap.size = G at *
            go_loopw [6, 46] (fun vl i wr => ∃ k : Nat, k ≤ n ∧ i = .int .i64 k ∧ wr.ownsRow w.heap.size 3 1 vl (acc.length + k) (nCells (acc ++ us.take k)) ∧ (∀ j, vl.ownBlock = some j → j ≠ G) ∧ Blk wr w.heap.size G ps ∧ Below w.heap.size w wr) (fun _ i _ => n - (intOf i).toNat)
            case atStart => exact ⟨0, by omega, rfl, by simpa using HO2.out, HN2.out, HK2.out, HB2.out⟩
            case round =>
              clear HO2 HN2 HK2 HB2
              obtain ⟨k, hk, rfl, hown, hne, hblk, hbel⟩ := hrel
              have HO := hidd hown
              have HN := hidd hne
              have HK := hidd hblk
              have HB := hidd hbel
              have hGl := hblk.lt.2
              have hwl : w.heap.size ≤ wr.heap.size := hbel.size
              clear hown hne hblk hbel
              by_cases hkn : k < n
              · have g0 := HK.out.cell k (by omega)
                rw [Hpc.out k hkn] at g0
                have hku : k < us.length := by have := Hul.out; omega
                have hgd : us.getD k 0 = us[k] := by simp [hku]
                have hx62 : us.getD k 0 < 4611686018427387904 := by rw [hgd]; exact Hu62.out _ (List.getElem_mem _)
                have Hsn : Hid (us.take (k + 1) = us.take k ++ [us.getD k 0]) := by show _ = _; rw [hgd, List.take_append_getElem]
                clear hgd
                generalize us.getD k 0 = x at *
                have hwx : IntKind.i64.wrap (x : Int) = (x : Int) := IntWalk.i64_in _ ⟨by omega, by omega⟩
                go_wp2_with (at_builtin; refine wpList_append_own_at _ rfl _ _ 23 rfl w.heap.size 3 i0 (.int .i64 0) 1 8 Try.underlying23 hi hz0 hz1 hz2 rfl (by decide) _ _ _ rfl (HO.out.alloc _) ⟨wr.heap.size, 0, none⟩ 1 1 [.int .i64 (x : Int)] rfl rfl ?c1 ?c2 ?c3 ?c4 ?c5 ?_)
                case c1 =>
                  intro j u hj
                  match j, hj with
                  | 0, hj => simp at hj; subst hj; simp [Addr.add]
                case c2 => intro u hu; simp at hu; subst hu; rfl
                case c3 => unfold maxLen; omega
                case c4 => omega
                case c5 => simp; omega
                intro v6 w6 hown6 hgrow6 hne6 hat6
                have R : Hid (w6.ownsRow w.heap.size 3 1 v6 (acc.length + (k + 1)) (nCells (acc ++ us.take (k + 1))) ∧ (∀ j, v6.ownBlock = some j → j ≠ G) ∧ Blk w6 w.heap.size G ps ∧ Below w.heap.size w w6) := by
                  refine ⟨?_, ?_, (HK.out.alloc _).kept hgrow6 (fun e => HN.out G e rfl), (HB.out.alloc hwl _).grown hgrow6 (by simp; omega) (own_block HO.out)⟩
                  · rw [Hsn.out, ← List.append_assoc, nCells_snoc, ← Nat.add_assoc]; exact hown6
                  · intro j hj
                    rcases hat6 with h | h
                    · exact HN.out j (by rw [← h]; exact hj)
                    · rw [h] at hj; simp at hj; omega
                clear hown6 hgrow6 hat6 hne6 HO HB HK HN
                go_wp2
                go_roundw
                case rel => exact ⟨k + 1, by omega, by go_num, R.out.1, R.out.2.1, R.out.2.2.1, R.out.2.2.2⟩
                case measure => simp [intOf]; omega
              · obtain rfl : k = n := by omega
                have hk1 : us.take k = us := by rw [← Hul.out]; exact List.take_length
                rw [hk1] at HO
                clear hk1
                clear hlt hltz
                go_wp2_with (first | (refine wpS_from rfl _ _ rfl _ ts r rfl rfl HS.out hr2 hr1 ?_; intro v3 hv3; have HS3 := hidd hv3; clear hv3))
                go_roundw
                case rel => exact ⟨acc ++ us, ts.drop r, HS3.out, by rw [List.length_append, Hul.out]; exact HO.out, HB.out, by rw [List.length_append, Hul.out]; exact hal, HU2.out⟩
                case measure =>
                  obtain ⟨a9, c9, h9⟩ := own_shape HO.out
                  rw [h9]
                  simp only [vlen]
                  omega
        · obtain rfl : c = acc.length := by omega
          have HU2 : Hid (unAll bs = if ts.length = 0 then some acc else none) := by
            show _ = _
            rw [HU.out, Nat.sub_self, unpackGo_zero]
            simp only [List.append_nil]
            by_cases h0 : ts.length = 0
            · rw [if_pos h0, if_pos h0.symm]
            · rw [if_neg h0, if_neg (fun e => h0 e.symm)]
          obtain ⟨a2, c2, hvb⟩ := HS.out.len
          subst hvb
          by_cases h0 : ts.length = 0
          · rw [if_pos h0] at HU2
            rw [h0] at HS ⊢
            go_wp2
            go_ret2
            exact ⟨HB.out, Or.inr ⟨acc, _, HU2.out, rfl, HO.out⟩⟩
          · rw [if_neg h0] at HU2
            have hz : ((ts.length : Int) == 0) = false := beq_false_of_ne (by omega)
            go_wp2
            go_ret2
            exact ⟨HB.out, Or.inl ⟨HU2.out, _, rfl⟩⟩
end Go.Proofs.Ytibomnmgiimejad
