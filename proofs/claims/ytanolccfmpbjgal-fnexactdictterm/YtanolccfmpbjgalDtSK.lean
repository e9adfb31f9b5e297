import Derived.Test.YtanolccfmpbjgalDtPK
import Derived.Deep.LoopGhost
namespace Go.Proofs.Ytanolccfmpbjgal
open Go Go.RowKit
set_option linter.unusedVariables false
set_option maxRecDepth 100000

def SeekPost (w0 : World) (B : Nat) (aS : Option Addr) (cS : Nat) (S : List St) (τ : Tx) (e : Ending) (w' : World) : Prop :=
  ∃ gv' i k, e = .returned (.tuple #[]) ∧ CurAt w0 w' B aS cS S i k τ gv'
set_option maxHeartbeats 8000000 in
theorem seek_any {w0 W : World} {B : Nat} {aS : Option Addr} {cS : Nat} {S : List St} {gv : Value} {ts : List Tx} {ord : List (List Tx)} (τ : Tx) (n : Nat) (hd : DictAt ts ord S) (hr : RiseT ts) (hτ : τ ∈ ts) (hn : rk τ ts = n) (hl : τ.length ≤ 64) (h : CurAt w0 W B aS cS S (ord.idxOf ts) 0 [] gv) :
    Calls Try.prog 39 #[.pointer (some ⟨B, 0, none⟩), .int .i64 (n : Int)] W fun e w' => SeekPost w0 B aS cS S τ e w' := by
  have HD := hidd hd
  have HC := hidd h
  have HR := hidd hr
  have HT := hidd hτ
  have hfew := hd.few
  have hnl : n ≤ 4096 := by have := rk_le τ ts; omega
  have Hn := hidd hn
  clear hd h hr hτ hn
  go_enter Try.func39, Try.ntmps39
  go_wp2_with fail
  go_loopg [4] τ.length (fun g v4 wx => ∃ (p q : Tx) (gv : Value), τ = p ++ q ∧ g = q.length ∧ q ∈ subs p ts ∧ subs p ts ∈ ord ∧ CurAt w0 wx B aS cS S (ord.idxOf (subs p ts)) (rk p ts) p gv)
  case atStart => exact ⟨[], τ, gv, rfl, rfl, HT.out, (dict_root HD.out.bfs).1, by rw [rk_nil]; exact HC.out⟩
  case round =>
    obtain ⟨p, q, gv1, hτ, hg, hq, hmem, hcu⟩ := hrel
    clear HC
    have HC := hidd hcu
    have HM := hidd hmem
    have Hτ := hidd hτ
    have hpl : p.length + q.length ≤ 64 := by have := congrArg List.length hτ; rw [List.length_append] at this; omega
    have hsum : n = rk p ts + rk q (subs p ts) := by rw [← Hn.out, hτ, rk_append]
    clear hcu hmem hτ
    have hkl := rk_le p ts
    obtain ⟨L, hL⟩ : ∃ L, subs p ts = L := ⟨_, rfl⟩
    rw [hL] at HM HC hq hsum
    have HL := hidd hL
    have hLl : L.length ≤ 4096 := by have := subs_len p ts; rw [hL] at this; omega
    have HRL : Hid (RiseT L) := by rw [← hL]; exact subs_rise HR.out
    clear hL
    have hil := HD.out.lt HM.out
    have Har := hidd (HD.out.arcs HM.out)
    have HFi := hidd (fun (W' : World) (hW : Below wr.heap.size wr W') => final_any (HC.out.below hW) hil)
    rw [HD.out.fin HM.out] at HFi
    obtain ⟨ix, hix⟩ : ∃ ix, ord.idxOf L = ix := ⟨_, rfl⟩
    rw [hix] at HC hil Har
    clear hix
    obtain ⟨num, hnum⟩ : ∃ num, rk p ts = num := ⟨_, rfl⟩
    rw [hnum] at HC hsum hkl
    have Hnum := hidd hnum
    clear hnum
    have x3 := blkc HC.out.box 3
    cases q with
    | nil =>
      rw [rk_nil] at hsum
      have hnz : ¬ (num : Int) < (n : Int) := by omega
      have hft : finT L = true := finT_mem.2 hq
      rw [hft] at HFi
      clear hft hsum hq hg
      go_wp2_with (go_at_call 37; refine (HFi.out _ (Below.refl _ _)).mono ?_; rintro e w1 ⟨rfl, m1, rfl⟩)
      go_end0
      exact ⟨gv1, ix, num, rfl, by rw [Hτ.out, List.append_nil]; exact HC.out.below (below_drewN (Below.refl _ _) m1)⟩
    | cons b q' =>
      obtain ⟨hlab, hq', k, hk1, hk2⟩ := seek_arc (ord := ord) HRL.out hq
      go_upto_region 0 with fail
      go_cut [16] (fun cv wy => cv = .bool true ∧ ∃ m, wy = wr.drewN m)
      case first =>
        by_cases h0 : 0 < rk (b :: q') L
        · have hnz : (num : Int) < (n : Int) := by omega
          clear hk1 hk2 hlab hq' hq hsum
          go_wp2_with fail
          go_meet
          case rel => exact ⟨rfl, 0, rfl⟩
        · have hnz : ¬ (num : Int) < (n : Int) := by omega
          have hff : finT L = false := by
            cases hf : finT L with
            | false => rfl
            | true => exact absurd (rk_pos (finT_mem.1 hf) (List.cons_ne_nil b q')) h0
          rw [hff] at HFi
          clear hk1 hk2 hlab hq' hq hsum hff h0
          go_wp2_with (go_at_call 37; refine (HFi.out _ (Below.refl _ _)).mono ?_; rintro e w1 ⟨rfl, m1, rfl⟩)
          go_meet
          case rel => exact ⟨rfl, m1, rfl⟩
      case rest =>
        obtain ⟨rfl, m0, hwc⟩ := hcut
        have HB0 : Hid (Below wr.heap.size wr wc) := by rw [hwc]; exact below_drewN (Below.refl _ _) m0
        clear hwc
        have HC0 := hidd (HC.out.below HB0.out)
        clear HC x3
        have x3 := blkc HC0.out.box 3
        have HAr := hidd (fun (W' : World) (hW : Below wc.heap.size wc W') => arcs_any (HC0.out.below hW) hil)
        rw [Har.out] at HAr
        have hal : (stOf ord L).2.length ≤ 256 := by have := labelsT_len L; simpa [stOf] using this
        have Hrs := hidd (stOf_ahead ord L)
        obtain ⟨l, hl2⟩ : ∃ l, (stOf ord L).2 = l := ⟨_, rfl⟩
        rw [hl2] at HAr hal Hrs hk1 hk2
        have Hl := hidd hl2
        clear hl2
        obtain ⟨r, hr⟩ : ∃ r, rk (b :: q') L = r := ⟨_, rfl⟩
        rw [hr] at hsum hk1
        have hrl : r ≤ 4096 := by omega
        clear hr
        have HK1 := hidd hk1
        have HBs := hidd (fun (W' : World) (hW : Below wc.heap.size wc W') (ai : Option Addr) (ci : Nat) (hA : HoldA w0 ai l) => bsf_any 67 Try.call67 (fun a => a.2.2) ((r : Int) + 1) ai ci l W' (by omega) (hA.below (HC0.out.old.trans (hW.mono HC0.out.old.size))) (fun W2 _ x => seek1_any x.1 x.2.1 x.2.2 _ W2) Hrs.out)
        have hkl2 : k < l.length := (List.getElem?_eq_some_iff.1 hk2).1
        have q3 : l.getD k ar0 = ((b.toNat : Int), ((ord.idxOf (subT b.toNat L) : Nat) : Int), ((aheadT b.toNat L : Nat) : Int)) := by rw [List.getD_eq_getElem?_getD, hk2]; rfl
        have Q3 := hidd q3
        have HNx := hidd (dict_next HD.out.bfs HM.out hlab)
        have hah := ahead_le b.toNat L
        have HQ' := hidd hq'
        have hs1 : (n : Int) - (num : Int) = (r : Int) := by omega
        have hw1 : IntKind.i64.wrap (r : Int) = (r : Int) := IntWalk.i64_in _ ⟨by omega, by omega⟩
        have hw2 : IntKind.i64.wrap ((r : Int) + 1) = (r : Int) + 1 := IntWalk.i64_in _ ⟨by omega, by omega⟩
        have hBc : B < wc.heap.size := (Array.getElem?_eq_some_iff.1 HC0.out.box).1
        have HX3 : Hid (∀ W', Below wc.heap.size wc W' → W'.cell? ⟨B, 3, none⟩ = some (.int .i64 (num : Int))) := fun W' hW => (hW.cell (p := ⟨B, 3, none⟩) hBc).trans x3
        clear hk1 hk2 q3 hlab hq' hq hsum
        go_upto_region 1 with fail
        go_cut [4] (fun av wy => av = .int .i64 (((k + 1 : Nat) : Int)) ∧ Below wc.heap.size wc wy)
        case first =>
          go_region_with (first
            | (go_at_call 63; refine (HAr.out _ (by first | exact below_drewN (Below.refl _ _) 1 | exact Below.refl _ _)).mono ?_; rintro e w1 ⟨ai, ci, m1, rfl, hA1, hw1'⟩; have HA1 := hidd hA1; have HB1 : Hid (Below wc.heap.size wc w1) := (by rw [hw1']; first | exact below_drewN (below_drewN (Below.refl _ _) 1) m1 | exact below_drewN (Below.refl _ _) m1); have y3 := HX3.out w1 HB1.out; clear hA1 hw1')
            | (go_at_call 62; refine (HBs.out _ HB1.out _ _ HA1.out).mono ?_; rintro e w2 ⟨rfl, hb2⟩; have HB2 := hidd (HB1.out.trans (hb2.mono HB1.out.size)); clear hb2))
          all_goals
            go_wp2_with fail
            go_meet
            exact ⟨by rw [HK1.out], HB2.out⟩
        case rest =>
          obtain ⟨rfl, hbel⟩ := hcut
          have HC2 := hidd (HC0.out.below hbel)
          have hold2 := HC2.out.old
          have hkz : (k : Int) < (l.length : Int) := by omega
          have hk3 : ((k + 1 : Nat) : Int) - 1 = (k : Int) := by omega
          have hk4 : IntKind.i64.wrap (k : Int) = (k : Int) := IntWalk.i64_in _ ⟨by omega, by omega⟩
          have HAr2 := hidd (arcs_any HC2.out hil)
          rw [Har.out, Hl.out] at HAr2
          have HFo := hidd (fun (W' : World) (hW : Below wc.heap.size wc W') => follow_any (x := b) (j := ord.idxOf (subT b.toNat L)) (m := aheadT b.toNat L) (HC2.out.below hW) (by simp at hpl; omega) (by omega) (by omega))
          have HSt : Hid (subs (p ++ [b]) ts = subT b.toNat L ∧ rk (p ++ [b]) ts = num + aheadT b.toNat L) := by
            rw [subs_snoc, rk_snoc, HL.out, Hnum.out]
            exact ⟨rfl, rfl⟩
          obtain ⟨nx, hnx⟩ : ∃ nx, ord.idxOf (subT b.toNat L) = nx := ⟨_, rfl⟩
          obtain ⟨ah, hah2⟩ : ∃ ah, aheadT b.toNat L = ah := ⟨_, rfl⟩
          rw [hnx] at Q3 HFo
          rw [hah2] at Q3 HFo hah
          have Hnx := hidd hnx
          have Hah := hidd hah2
          clear hnx hah2 hbel x3 hs1 hw1 hw2
          go_wp2_with (first
            | (go_at_call 63; refine HAr2.out.mono ?_; rintro e w1 ⟨ai, ci, m1, rfl, hA1, rfl⟩; obtain ⟨g1, o1, rfl, hg1, hc1⟩ := hA1.resolve_left (fun h => by rw [h] at hkl2; simp at hkl2); obtain ⟨p0, p1, p2⟩ := hc1 k hkl2; have hbm := below_drewN hold2 m1; replace p0 := (hbm.cell (p := ⟨g1, o1 + k * 3, none⟩) hg1).trans p0; replace p1 := (hbm.cell (p := ⟨g1, o1 + k * 3 + 1, none⟩) hg1).trans p1; replace p2 := (hbm.cell (p := ⟨g1, o1 + k * 3 + 2, none⟩) hg1).trans p2; rw [Q3.out] at p0 p1 p2; dsimp only at p0 p1 p2; clear hA1 hc1 hbm)
            | (go_at_call 66; refine (HFo.out _ (below_drewN (Below.refl _ _) _)).mono ?_))
          rintro e w2 ⟨gv2, rfl, hcu2, _⟩
          have HC3 := hidd hcu2
          clear hcu2 p0 p1 p2
          dsimp only
          go_wp2_with fail
          go_roundg q'.length
          case measure => rw [hg]; simp
          case rel => exact ⟨p ++ [b], q', gv2, by rw [Hτ.out]; simp, rfl, by rw [HSt.out.1]; exact HQ'.out, by rw [HSt.out.1]; exact HNx.out, by rw [HSt.out.1, HSt.out.2, Hnx.out, Hah.out]; exact HC3.out⟩
end Go.Proofs.Ytanolccfmpbjgal
