import Derived.Test.YtbkedgpligcicaaDictJ24
import Derived.Deep.LoopGhost
import Derived.Test.YtbkedgpligcicaaDictJ17
import Derived.Test.YtbkedgpligcicaaDictJ05
import Derived.Test.YtbkedgpligcicaaDictJ20
import Derived.Test.YtbkedgpligcicaaDictJ19
namespace Go.Proofs.Ytbkedgpligcicaa
open Go Go.RowKit
set_option linter.unusedVariables false
set_option maxRecDepth 100000

def SeekPost (w0 : World) (B : Nat) (aS : Option Addr) (cS : Nat) (S : List St) (τ : Tx) (e : Ending) (w' : World) : Prop :=
  ∃ gv' i k, e = .returned (.tuple #[]) ∧ CurAt w0 w' B aS cS S i k τ gv'
set_option maxHeartbeats 8000000 in
theorem seek_any {w0 W : World} {B : Nat} {aS : Option Addr} {cS : Nat} {S : List St} {gv : Value} {ts : List Tx} {ord : List (List Tx)} (τ : Tx) (n : Nat) (hd : DictAt ts ord S) (hr : RiseT ts) (hτ : τ ∈ ts) (hn : rk τ ts = n) (hl : τ.length ≤ 64) (h : CurAt w0 W B aS cS S (ord.idxOf ts) 0 [] gv) :
    Calls Try.prog 46 #[.pointer (some ⟨B, 0, none⟩), .int .i64 (n : Int)] W fun e w' => SeekPost w0 B aS cS S τ e w' := by
  have HD := hidd hd
  have HC := hidd h
  have HR := hidd hr
  have HT := hidd hτ
  have hfew := hd.few
  have hnl : n ≤ 4096 := by have := rk_le τ ts; omega
  have Hn := hidd hn
  clear hd h hr hτ hn
  go_enter Try.func46, Try.ntmps46
  go_wp2_with fail
  go_loopg [4] τ.length (fun g v4 wx => ∃ (p q : Tx) (gv : Value), τ = p ++ q ∧ g = q.length ∧ q ∈ subs p ts ∧ subs p ts ∈ ord ∧ CurAt w0 wx B aS cS S (ord.idxOf (subs p ts)) (rk p ts) p gv)
  case atStart => exact ⟨[], τ, gv, rfl, rfl, HT.out, (dict_root HD.out.bfs).1, by rw [rk_nil]; exact HC.out⟩
  case round =>
    obtain ⟨p, q, gv1, hτ, hg, hq, hmem, hcu⟩ := hrel
    clear HC
    have HC := hidd hcu
    have HM := hidd hmem
    have Hτ := hidd hτ
    have hpl : p.length + q.length ≤ 64 := by have := congrArg List.length hτ; rw [List.length_append] at this; omega
    have hsum : n = rk p ts + rk q (subs p ts) := by rw [← Hn.out, hτ, rk_append]
    clear hcu hmem hτ
    have hkl := rk_le p ts
    obtain ⟨L, hL⟩ : ∃ L, subs p ts = L := ⟨_, rfl⟩
    rw [hL] at HM HC hq hsum
    have HL := hidd hL
    have hLl : L.length ≤ 4096 := by have := subs_len p ts; rw [hL] at this; omega
    have HRL : Hid (RiseT L) := by rw [← hL]; exact subs_rise HR.out
    clear hL
    have hil := HD.out.lt HM.out
    have Har := hidd (HD.out.arcs HM.out)
    have HFi := hidd (fun (W' : World) (hW : Below wr.heap.size wr W') => final_any (HC.out.below hW) hil)
    rw [HD.out.fin HM.out] at HFi
    obtain ⟨ix, hix⟩ : ∃ ix, ord.idxOf L = ix := ⟨_, rfl⟩
    rw [hix] at HC hil Har
    clear hix
    obtain ⟨num, hnum⟩ : ∃ num, rk p ts = num := ⟨_, rfl⟩
    rw [hnum] at HC hsum hkl
    have Hnum := hidd hnum
    clear hnum
    have x3 := blkc HC.out.box 3
    cases q with
    | nil =>
      rw [rk_nil] at hsum
      have hnz : ¬ (num : Int) < (n : Int) := by omega
      have hft : finT L = true := finT_mem.2 hq
      rw [hft] at HFi
      clear hft hsum hq hg
      go_wp2_with (go_at_call 44; refine (HFi.out _ (Below.refl _ _)).mono ?_; rintro e w1 ⟨rfl, m1, rfl⟩)
      go_end0
      exact ⟨gv1, ix, num, rfl, by rw [Hτ.out, List.append_nil]; exact HC.out.below (below_drewN (Below.refl _ _) m1)⟩
    | cons b q' =>
      obtain ⟨hlab, hq', k, hk1, hk2⟩ := seek_arc (ord := ord) HRL.out hq
      go_upto_region 0 with fail
      go_cut [16] (fun cv wy => cv = .bool true ∧ ∃ m, wy = wr.drewN m)
      case first =>
        by_cases h0 : 0 < rk (b :: q') L
        · have hnz : (num : Int) < (n : Int) := by omega
          clear hk1 hk2 hlab hq' hq hsum
          go_wp2_with fail
          go_meet
          case rel => exact ⟨rfl, 0, rfl⟩
        · have hnz : ¬ (num : Int) < (n : Int) := by omega
          have hff : finT L = false := by
            cases hf : finT L with
            | false => rfl
            | true => exact absurd (rk_pos (finT_mem.1 hf) (List.cons_ne_nil b q')) h0
          rw [hff] at HFi
          clear hk1 hk2 hlab hq' hq hsum hff h0
          go_wp2_with (go_at_call 44; refine (HFi.out _ (Below.refl _ _)).mono ?_; rintro e w1 ⟨rfl, m1, rfl⟩)
          go_meet
          case rel => exact ⟨rfl, m1, rfl⟩
      case rest =>
        obtain ⟨rfl, m0, hwc⟩ := hcut
        have HB0 : Hid (Below wr.heap.size wr wc) := by rw [hwc]; exact below_drewN (Below.refl _ _) m0
        clear hwc
        have HC0 := hidd (HC.out.below HB0.out)
        clear HC x3
        have x3 := blkc HC0.out.box 3
        have HAr := hidd (fun (W' : World) (hW : Below wc.heap.size wc W') => arcs_any (HC0.out.below hW) hil)
        rw [Har.out] at HAr
        have hal : (stOf ord L).2.length ≤ 256 := by have := labelsT_len L; simpa [stOf] using this
        have Hrs := hidd (stOf_ahead ord L)
        obtain ⟨l, hl2⟩ : ∃ l, (stOf ord L).2 = l := ⟨_, rfl⟩
        rw [hl2] at HAr hal Hrs hk1 hk2
        have Hl := hidd hl2
        clear hl2
        obtain ⟨r, hr⟩ : ∃ r, rk (b :: q') L = r := ⟨_, rfl⟩
        rw [hr] at hsum hk1
        have hrl : r ≤ 4096 := by omega
        clear hr
        have HK1 := hidd hk1
        have HBs := hidd (fun (W' : World) (hW : Below wc.heap.size wc W') (ai : Option Addr) (ci : Nat) (hA : HoldA w0 ai l) => bsf_any 77 Try.call77 (fun a => a.2.2) ((r : Int) + 1) ai ci l W' (by omega) (hA.below (HC0.out.old.trans (hW.mono HC0.out.old.size))) (fun W2 _ x => seek1_any x.1 x.2.1 x.2.2 _ W2) Hrs.out)
        have hkl2 : k < l.length := (List.getElem?_eq_some_iff.1 hk2).1
        have q3 : l.getD k ar0 = ((b.toNat : Int), ((ord.idxOf (subT b.toNat L) : Nat) : Int), ((aheadT b.toNat L : Nat) : Int)) := by rw [List.getD_eq_getElem?_getD, hk2]; rfl
        have Q3 := hidd q3
        have HNx := hidd (dict_next HD.out.bfs HM.out hlab)
        have hah := ahead_le b.toNat L
        have HQ' := hidd hq'
        have hs1 : (n : Int) - (num : Int) = (r : Int) := by omega
        have hw1 : IntKind.i64.wrap (r : Int) = (r : Int) := IntWalk.i64_in _ ⟨by omega, by omega⟩
        have hw2 : IntKind.i64.wrap ((r : Int) + 1) = (r : Int) + 1 := IntWalk.i64_in _ ⟨by omega, by omega⟩
        have hBc : B < wc.heap.size := (Array.getElem?_eq_some_iff.1 HC0.out.box).1
        have HX3 : Hid (∀ W', Below wc.heap.size wc W' → W'.cell? ⟨B, 3, none⟩ = some (.int .i64 (num : Int))) := fun W' hW => (hW.cell (p := ⟨B, 3, none⟩) hBc).trans x3
        clear hk1 hk2 q3 hlab hq' hq hsum
        go_upto_region 1 with fail
        go_cut [4] (fun av wy => av = .int .i64 (((k + 1 : Nat) : Int)) ∧ Below wc.heap.size wc wy)
        case first =>
          go_region_with (first
            | (go_at_call 73; refine (HAr.out _ (by first | exact below_drewN (Below.refl _ _) 1 | exact Below.refl _ _)).mono ?_; rintro e w1 ⟨ai, ci, m1, rfl, hA1, hw1'⟩; have HA1 := hidd hA1; have HB1 : Hid (Below wc.heap.size wc w1) := (by rw [hw1']; first | exact below_drewN (below_drewN (Below.refl _ _) 1) m1 | exact below_drewN (Below.refl _ _) m1); have y3 := HX3.out w1 HB1.out; clear hA1 hw1')
            | (go_at_call 72; refine (HBs.out _ HB1.out _ _ HA1.out).mono ?_; rintro e w2 ⟨rfl, hb2⟩; have HB2 := hidd (HB1.out.trans (hb2.mono HB1.out.size)); clear hb2))
          all_goals
            go_wp2_with fail
            go_meet
            exact ⟨by rw [HK1.out], HB2.out⟩
        case rest =>
          obtain ⟨rfl, hbel⟩ := hcut
          have HC2 := hidd (HC0.out.below hbel)
          have hold2 := HC2.out.old
          have hkz : (k : Int) < (l.length : Int) := by omega
          have hk3 : ((k + 1 : Nat) : Int) - 1 = (k : Int) := by omega
          have hk4 : IntKind.i64.wrap (k : Int) = (k : Int) := IntWalk.i64_in _ ⟨by omega, by omega⟩
          have HAr2 := hidd (arcs_any HC2.out hil)
          rw [Har.out, Hl.out] at HAr2
          have HFo := hidd (fun (W' : World) (hW : Below wc.heap.size wc W') => follow_any (x := b) (j := ord.idxOf (subT b.toNat L)) (m := aheadT b.toNat L) (HC2.out.below hW) (by simp at hpl; omega) (by omega) (by omega))
          have HSt : Hid (subs (p ++ [b]) ts = subT b.toNat L ∧ rk (p ++ [b]) ts = num + aheadT b.toNat L) := by
            rw [subs_snoc, rk_snoc, HL.out, Hnum.out]
            exact ⟨rfl, rfl⟩
          obtain ⟨nx, hnx⟩ : ∃ nx, ord.idxOf (subT b.toNat L) = nx := ⟨_, rfl⟩
          obtain ⟨ah, hah2⟩ : ∃ ah, aheadT b.toNat L = ah := ⟨_, rfl⟩
          rw [hnx] at Q3 HFo
          rw [hah2] at Q3 HFo hah
          have Hnx := hidd hnx
          have Hah := hidd hah2
          clear hnx hah2 hbel x3 hs1 hw1 hw2
          go_wp2_with (first
            | (go_at_call 73; refine HAr2.out.mono ?_; rintro e w1 ⟨ai, ci, m1, rfl, hA1, rfl⟩; obtain ⟨g1, o1, rfl, hg1, hc1⟩ := hA1.resolve_left (fun h => by rw [h] at hkl2; simp at hkl2); obtain ⟨p0, p1, p2⟩ := hc1 k hkl2; have hbm := below_drewN hold2 m1; replace p0 := (hbm.cell (p := ⟨g1, o1 + k * 3, none⟩) hg1).trans p0; replace p1 := (hbm.cell (p := ⟨g1, o1 + k * 3 + 1, none⟩) hg1).trans p1; replace p2 := (hbm.cell (p := ⟨g1, o1 + k * 3 + 2, none⟩) hg1).trans p2; rw [Q3.out] at p0 p1 p2; dsimp only at p0 p1 p2; clear hA1 hc1 hbm)
            | (go_at_call 76; refine (HFo.out _ (below_drewN (Below.refl _ _) _)).mono ?_))
          rintro e w2 ⟨gv2, rfl, hcu2, _⟩
          have HC3 := hidd hcu2
          clear hcu2 p0 p1 p2
          dsimp only
          go_wp2_with fail
          go_roundg q'.length
          case measure => rw [hg]; simp
          case rel => exact ⟨p ++ [b], q', gv2, by rw [Hτ.out]; simp, rfl, by rw [HSt.out.1]; exact HQ'.out, by rw [HSt.out.1]; exact HNx.out, by rw [HSt.out.1, HSt.out.2, Hnx.out, Hah.out]; exact HC3.out⟩
end Go.Proofs.Ytbkedgpligcicaa

namespace Go.Proofs.Ytbkedgpligcicaa
open Go Go.RowKit
set_option linter.unusedVariables false
set_option maxRecDepth 100000

/-- What DictTerm tells. -/
def termO (d : Option (List Tx)) (n : Int) : Tx × Int := match d with
  | none => ([], 1)
  | some ts => if 0 ≤ n ∧ n < (ts.length : Int) then (ts.getD n.toNat [], 0) else ([], 8)
def TermC (fn : Nat) : Prop := ∀ (c : Int) (a : Option Addr) (cap : Nat) (S : List St) (n : Int) (w : World), S.length ≤ 1048576 → (∀ i, (arcsAt S i).length ≤ 1048576) → HoldS w a S →
  Calls Try.prog fn #[.agg #[.int .i64 c, .slice a S.length cap], .int .i64 n] w fun e w' => e = .returned (.tuple #[.string ⟨(termO (dictT c S) n).1.toArray⟩, .int .i64 (termO (dictT c S) n).2]) ∧ Below w.heap.size w w'
theorem termO_none (n : Int) : termO none n = ([], 1) := rfl
theorem termO_in {ts : List Tx} {n : Int} (h : 0 ≤ n ∧ n < (ts.length : Int)) : termO (some ts) n = (ts.getD n.toNat [], 0) := by
  unfold termO; simp [h]
theorem termO_out {ts : List Tx} {n : Int} (h : ¬ (0 ≤ n ∧ n < (ts.length : Int))) : termO (some ts) n = ([], 8) := by
  unfold termO; simp only [if_neg h]

set_option maxHeartbeats 4000000 in
theorem implTerm_any (hok : OkC 15) : TermC 11 := by
  intro c a cap S n w hn hA hS
  have HOk := hidd (fun W (hW : Below w.heap.size w W) => hok c a cap S W hn hA (hS.below hW))
  have HS := hidd hS
  clear hok hA hS
  have HBa : Hid (Below w.heap.size w (w.alloc (.cells #[.int .i64 c, .slice a S.length cap] 27))) := (Below.refl _ _).alloc (Nat.le_refl _) _
  have Hbx := hidd (heap_alloc_new w (.cells #[.int .i64 c, .slice a S.length cap] 27))
  go_enter Try.func11, Try.ntmps11
  go_wp2_with fail
  refine (HOk.out _ HBa.out).mono ?_
  rintro e w1 ⟨rfl, hb1⟩
  have HB1 := hidd (HBa.out.trans (hb1.mono HBa.out.size))
  have Hbx1 := hidd (blko Hbx.out hb1)
  clear hb1 Hbx HOk
  dsimp only
  rcases okD_cases c S with ⟨hok, ts, hts⟩ | ⟨hok, hno⟩
  · rw [hok]
    have HD := hidd (dictT_some hts)
    obtain ⟨ord, hat⟩ := hts.at
    have HAt := hidd hat
    have HGd := hidd hts.1
    have hcl : c = (ts.length : Int) := by
      obtain ⟨_, o2, _, _, hd⟩ := hts
      unfold dictOf at hd
      exact (Prod.mk.inj hd).1
    have hfew : ts.length ≤ 4096 := hat.few
    clear hok hts hat
    have b0 := blkc Hbx1.out 0
    have b1 := blkc Hbx1.out 1
    have hzw : w.heap.size < w1.heap.size := (Array.getElem?_eq_some_iff.1 Hbx1.out).1
    have Hcl := hidd hcl
    obtain ⟨B, hB⟩ : ∃ B : Bool, B = (decide (0 ≤ n) && decide (n ≤ c - 1)) := ⟨_, rfl⟩
    have HBB := hidd hB
    have hcb : 0 ≤ c ∧ c ≤ 4096 := by omega
    clear hcl hB
    go_upto_region 3 with fail
    go_cut [15] (fun cv wy => cv = .bool (!B) ∧ wy = w1)
    case first =>
      go_wp2_with (go_at_call 45; refine (within_any _ _ _ _).mono ?_; rintro e w' ⟨rfl, rfl⟩)
      go_meet
      case rel => exact ⟨by rw [HBB.out, Bool.not_and], rfl⟩
    case rest =>
      obtain ⟨rfl, hwc⟩ := hcut
      have hwc' := hwc.symm
      subst hwc'
      clear hwc
      cases hB : B with
      | false =>
        have HR : Hid (termO (dictT c S) n = ([], 8)) := by
          show _ = _
          rw [HD.out, termO_out]
          rintro ⟨q1, q2⟩
          have := HBB.out
          rw [hB] at this
          have h5 : n ≤ c - 1 := by have := Hcl.out; omega
          simp [q1, h5] at this
        clear hB
        go_wp2_with fail
        go_ret2
        exact ⟨by rw [HR.out]; rfl, HB1.out⟩
      | true =>
        have hin : 0 ≤ n ∧ n < (ts.length : Int) := by
          have h5 := HBB.out
          rw [hB] at h5
          have h6 := h5.symm
          rw [Bool.and_eq_true, decide_eq_true_eq, decide_eq_true_eq] at h6
          have := Hcl.out
          omega
        obtain ⟨m, rfl⟩ : ∃ m : Nat, n = (m : Int) := ⟨n.toNat, by omega⟩
        have hm : m < ts.length := by omega
        have HR : Hid (termO (dictT c S) (m : Int) = (ts.getD m [], 0)) := by
          show _ = _
          rw [HD.out, termO_in hin, Int.toNat_natCast]
        have hmem : ts.getD m [] ∈ ts := by rw [getD_at hm]; exact List.getElem_mem hm
        have hnd : ts.Nodup := HGd.out.1.imp fun {x y} hxy e => by rw [e, ltT_irr] at hxy; cases hxy
        have hrk : rk (ts.getD m []) ts = m := by
          rw [← rise_rk HGd.out.1 hmem]
          exact idxOf_of hnd (by rw [getD_at hm]; exact List.getElem?_eq_getElem hm)
        obtain ⟨τ, hτ⟩ : ∃ τ, ts.getD m [] = τ := ⟨_, rfl⟩
        rw [hτ] at HR hmem hrk
        have hτl := (HGd.out.2.2 τ hmem)
        clear hτ hB hnd hin
        have HBc := hidd ((Below.refl w1.heap.size w1).alloc (Nat.le_refl _) (.cells #[.slice a S.length cap, .int .i64 0, .slice none 0 0, .int .i64 0] 71))
        have HC0 : Hid (CurAt w1 (w1.alloc (.cells #[.slice a S.length cap, .int .i64 0, .slice none 0 0, .int .i64 0] 71)) w1.heap.size a cap S (ord.idxOf ts) 0 [] (.slice none 0 0)) := by
          refine ⟨HBc.out, HS.out.below HB1.out, Nat.le_refl _, ?_, World.ownsRow_nil _ _ _ _⟩
          rw [(dict_root HAt.out.bfs).2]
          exact heap_alloc_new w1 _
        have HSk := hidd (seek_any τ m HAt.out HGd.out.1 hmem hrk hτl.2 HC0.out)
        clear hmem hrk
        go_wp2_with fail
        refine HSk.out.mono ?_
        rintro e w2 ⟨gv2, i2, k2, rfl, hcu⟩
        have HB2 := hidd (HB1.out.trans (hcu.old.mono HB1.out.size))
        have x2 := blkc hcu.box 2
        rcases own_cases hcu.row with ⟨_, he⟩ | ⟨g, c', rfl, _, hg⟩
        · omega
        have xc := conv_str w2 g 0 c' τ (own_bytes hcu.row rfl)
        clear hcu HSk HC0 HBc b0 b1
        dsimp only
        go_wp2_with fail
        go_ret2
        exact ⟨by rw [HR.out]; rfl, HB2.out⟩
  · rw [hok]
    have HR : Hid (termO (dictT c S) n = ([], 1)) := by
      show _ = _
      rw [dictT_none hno, termO_none]
    clear hok hno
    go_wp2_with fail
    go_ret2
    exact ⟨by rw [HR.out]; rfl, HB1.out⟩
end Go.Proofs.Ytbkedgpligcicaa

namespace Go.Proofs.Ytbkedgpligcicaa
open Go Go.RowKit
set_option linter.unusedVariables false
set_option linter.unusedSimpArgs false
set_option maxRecDepth 100000

set_option maxHeartbeats 8000000 in
theorem implBytes_any (hok : OkC 15) : BytesC 13 := by
  intro c a cap S w hn hA hS
  obtain ⟨i1, hi1, hy0, hy1, hy2⟩ := info_parts Try.infoByte
  have HOk := hidd (fun W (hW : Below w.heap.size w W) => hok c a cap S W hn hA (hS.below hW))
  have HS := hidd hS
  clear hok hA hS
  have HBa : Hid (Below w.heap.size w (w.alloc (.cells #[.int .i64 c, .slice a S.length cap] 27))) := (Below.refl _ _).alloc (Nat.le_refl _) _
  have Hbx := hidd (heap_alloc_new w (.cells #[.int .i64 c, .slice a S.length cap] 27))
  go_enter Try.func13, Try.ntmps13
  go_wp2_with fail
  refine (HOk.out _ HBa.out).mono ?_
  rintro e w1 ⟨rfl, hb1⟩
  have HB1 := hidd (HBa.out.trans (hb1.mono HBa.out.size))
  have Hbx1 := hidd (blko Hbx.out hb1)
  clear hb1 Hbx HOk
  dsimp only
  rcases okD_cases c S with ⟨hok, ts, hts⟩ | ⟨hok, hno⟩
  · rw [hok]
    have HO : Hid (bytesO S (dictT c S) = (bytesD S, 0)) := by show _ = _; rw [dictT_some hts]; rfl
    have HFi := hidd hts.small
    have hlen := hts.len
    have HSt := hidd (fine_sts hts.small hlen.2)
    clear hok hts
    have b1 := blkc Hbx1.out 1
    have hzw : w.heap.size < w1.heap.size := (Array.getElem?_eq_some_iff.1 Hbx1.out).1
    obtain ⟨gS, oS, rfl, hgS, hcS⟩ := HS.out.resolve_left (fun h => by rw [h] at hlen; simp at hlen)
    have HcS := hidd hcS
    clear hcS
    have HA0 := hidd (appendInt_any w1.heap.size 0 (.slice none 0 0) [] S.length w1 (by omega) rfl (by omega) (Nat.le_refl _) (World.ownsRow_nil _ _ _ _))
    go_wp2_with fail
    refine HA0.out.mono ?_
    rintro e w2 ⟨v2, rfl, hown2, hg2, hv2⟩
    have HO2 : Hid (w2.ownsRow w1.heap.size 5 1 v2 (preB S 0).length (Lib.byteCells (preB S 0))) := by
      show World.ownsRow _ _ _ _ _ _ _
      rw [preB_zero]; simpa using hown2
    have HB2 : Hid (Below w1.heap.size w1 w2) := (Below.refl _ _).grown hg2.1 (Nat.le_refl _) (fun k h => by cases h)
    have c1 := (HB2.out.cell (p := ⟨w.heap.size, 1, none⟩) hzw).trans b1
    clear hown2 hg2 hv2 HA0 b1
    dsimp only
    go_wp2_with fail
    go_loopw [4, 20] (fun v kv wr => ∃ k : Nat, k ≤ S.length ∧ kv = .int .i64 (k : Int) ∧ wr.ownsRow w1.heap.size 5 1 v (preB S k).length (Lib.byteCells (preB S k)) ∧ Below w1.heap.size w1 wr) (fun _ kv _ => S.length - (intOf kv).toNat)
    case atStart => exact ⟨0, Nat.zero_le _, rfl, HO2.out, HB2.out⟩
    case round =>
      obtain ⟨k, hk, rfl, hown, hbel⟩ := hrel
      clear HO2 HB2 c1
      have HOw := hidd hown
      have HBe := hidd hbel
      obtain ⟨av, cv, rfl⟩ := own_form hown
      clear hown hbel
      have hpl := preB_len HFi.out hlen.2 k
      have hwz := HBe.out.size
      by_cases hlt : k < S.length
      · have hltz : (k : Int) < (S.length : Int) := by omega
        obtain ⟨s0, ak, ck, s1, hAk⟩ := HcS.out k hlt
        have hgS1 : gS < w1.heap.size := Nat.lt_of_lt_of_le hgS HB1.out.size
        have hBw := HB1.out.trans (HBe.out.mono HB1.out.size)
        replace s0 := (hBw.cell (p := ⟨gS, oS + k * 2, none⟩) hgS).trans s0
        replace s1 := (hBw.cell (p := ⟨gS, oS + k * 2 + 1, none⟩) hgS).trans s1
        have HAk := hidd hAk
        have Hall := hidd (midB_all hlt)
        have Hs := hidd (HSt.out (S.getD k st0) (by simp only [List.getD_eq_getElem?_getD, List.getElem?_eq_getElem hlt, Option.getD_some]; exact List.getElem_mem hlt))
        have Hin := hidd ((HFi.out k hlt).2)
        have hAr : arcsAt S k = (S.getD k st0).2 := rfl
        rw [hAr] at Hin
        clear hAk hAr hBw
        generalize S.getD k st0 = s at s0 s1 HAk Hall Hs Hin
        obtain ⟨F, l⟩ := s
        dsimp only at s0 s1 HAk Hall Hs Hin
        have hll : l.length ≤ 256 := Hs.out.1
        obtain ⟨R, hR⟩ : ∃ R, 2 * l.length + (if F then 1 else 0) = R := ⟨_, rfl⟩
        rw [hR] at Hall
        have hR2 : R ≤ 513 := by rw [← hR]; split <;> omega
        have HD := hidd (fun (W : World) => doubled_any l.length F W (by omega) R hR)
        clear hR
        have HBq := hidd ((Below.refl wr.heap.size wr).alloc (Nat.le_refl _) (.cells #[.bool F, .slice ak l.length ck] 82))
        have HAp := hidd (appendInt_any w1.heap.size (preB S k).length (.slice av (preB S k).length cv) (preB S k) R (wr.alloc (.cells #[.bool F, .slice ak l.length ck] 82)) (by omega) rfl (by omega) (by simp; omega) (own_below HOw.out HBq.out))
        go_wp2_with (first
          | (go_at_call 49; refine (HD.out _).mono ?_; rintro e w' ⟨rfl, rfl⟩)
          | (go_at_call 48; refine HAp.out.mono ?_))
        rintro e w3 ⟨v3, rfl, hown3, hg3, hv3⟩
        have HBq2 := HBq.out
        have hSB := heap_alloc_new wr (.cells #[.bool F, .slice ak l.length ck] 82)
        have hov : ∀ b, (Value.slice av (preB S k).length cv).ownBlock = some b → w1.heap.size ≤ b ∧ ∃ cur, wr.heap[b]? = some (Obj.cells cur 5) := fun b hb => own_blk HOw.out hb
        have hSB3 : w3.heap[wr.heap.size]? = some (.cells #[.bool F, .slice ak l.length ck] 82) := (hg3.1.block wr.heap.size (by simp) (fun e => by
          obtain ⟨_, cur, hc⟩ := hov _ e.symm
          have := (Array.getElem?_eq_some_iff.1 hc).1
          omega)).trans hSB
        have HB3 : Hid (Below w1.heap.size w1 w3) := (HBe.out.trans (HBq2.mono hwz)).grown hg3.1 (by have := HBq2.size; omega) (fun b h => (hov b h).1)
        have HO3 : Hid (w3.ownsRow w1.heap.size 5 1 v3 (midB S k l R 0).length (Lib.byteCells (midB S k l R 0))) := by
          show World.ownsRow _ _ _ _ _ _ _
          rw [midB_zero, List.length_append]
          exact hown3
        have t1 := blkc hSB3 1
        clear hown3 hg3 hv3 HBq2 hSB hov hSB3 HAp HBq s0 s1 HD
        dsimp only
        go_wp2_with fail
        go_loopw [4, 35] (fun v jv wx => ∃ j : Nat, j ≤ l.length ∧ jv = .int .i64 (j : Int) ∧ wx.ownsRow w1.heap.size 5 1 v (midB S k l R j).length (Lib.byteCells (midB S k l R j)) ∧ Below w1.heap.size w1 wx) (fun _ jv _ => l.length - (intOf jv).toNat)
        case atStart => exact ⟨0, Nat.zero_le _, rfl, HO3.out, HB3.out⟩
        case round =>
          obtain ⟨j, hj, rfl, hown, hbel⟩ := hrel
          clear HO3 HB3 t1 HOw
          have HOj := hidd hown
          have HBj := hidd hbel
          obtain ⟨aj, cj, rfl⟩ := own_form hown
          clear hown hbel
          have hml := midB_len (k := k) HFi.out hlen.2 hll Hs.out.2 (n := R) (by omega) j
          have hjz2 := HBj.out.size
          by_cases hjl : j < l.length
          · have hjlz : (j : Int) < (l.length : Int) := by omega
            obtain ⟨gA, oA, rfl, hgA, hcA⟩ := HAk.out.resolve_left (fun h => by rw [h] at hjl; simp at hjl)
            obtain ⟨p0, p1, p2⟩ := hcA j hjl
            have hBw := HB1.out.trans (HBj.out.mono HB1.out.size)
            replace p0 := (hBw.cell (p := ⟨gA, oA + j * 3, none⟩) hgA).trans p0
            replace p1 := (hBw.cell (p := ⟨gA, oA + j * 3 + 1, none⟩) hgA).trans p1
            replace p2 := (hBw.cell (p := ⟨gA, oA + j * 3 + 2, none⟩) hgA).trans p2
            have Hst := hidd (midB_step (S := S) (k := k) (n := R) hjl)
            have Hx := hidd (Hin.out (l.getD j ar0) (by simp only [List.getD_eq_getElem?_getD, List.getElem?_eq_getElem hjl, Option.getD_some]; exact List.getElem_mem hjl))
            clear hcA hBw
            generalize l.getD j ar0 = x at p0 p1 p2 Hst Hx
            obtain ⟨x0, x1, x2⟩ := x
            obtain ⟨q0, q1, q2, q3⟩ := Hx.out
            dsimp only at p0 p1 p2 Hst q0 q1 q2 q3
            obtain ⟨lb, rfl⟩ : ∃ lb : Nat, x0 = (lb : Int) := ⟨x0.toNat, by omega⟩
            obtain ⟨to_, rfl⟩ : ∃ to_ : Nat, x1 = (to_ : Int) := ⟨x1.toNat, by omega⟩
            simp only [Int.toNat_natCast] at Hst q3
            have hlb : lb ≤ 255 := by omega
            have hwl : IntKind.u8.wrap (lb : Int) = (lb : Int) := u8_in_b (by omega)
            have hbn : (UInt8.ofNat lb).toNat = lb := by rw [UInt8.toNat_ofNat']; omega
            have HQ := hidd (heap_alloc_new wr (.cells #[.int .i64 (lb : Int), .int .i64 (to_ : Int), .int .i64 x2] 85))
            have HBq := hidd ((Below.refl wr.heap.size wr).alloc (Nat.le_refl _) (.cells #[.int .i64 (lb : Int), .int .i64 (to_ : Int), .int .i64 x2] 85))
            go_upto_region 11 with fail
            obtain ⟨Q, hQ⟩ : ∃ Q, wr.heap.size = Q := ⟨_, rfl⟩
            obtain ⟨wq, hwq⟩ : ∃ wq, wr.alloc (.cells #[.int .i64 (lb : Int), .int .i64 (to_ : Int), .int .i64 x2] 85) = wq := ⟨_, rfl⟩
            rw [hwq] at HQ HBq
            try rw [hwq]
            clear hwq
            have HOq := hidd (own_below HOj.out HBq.out)
            have HBw : Hid (Below w1.heap.size w1 wq) := HBj.out.trans (HBq.out.mono hjz2)
            have hqs := HBq.out.size
            have hQw : wr.heap.size < wq.heap.size := (Array.getElem?_eq_some_iff.1 HQ.out).1
            rw [hQ] at HQ hQw
            try rw [hQ]
            have e0 := blkc HQ.out 0
            have e1 := blkc HQ.out 1
            clear p0 p1 p2 HOj HBj hjz2 hQ HBq
            obtain ⟨M, hM⟩ : ∃ M, midB S k l R j = M := ⟨_, rfl⟩
            rw [hM] at HOq Hst hml
            try rw [hM]
            clear hM
            have HK : Hid (∀ (V w6 : World) (v : Value) (base : Nat) (n : Nat) (ys : List Value), V.heap[Q]? = some (.cells #[.int .i64 (lb : Int), .int .i64 (to_ : Int), .int .i64 x2] 85) → V.ownsRow base 5 1 v n ys → V.grownBy w6 v.ownBlock → w6.heap[Q]? = some (.cells #[.int .i64 (lb : Int), .int .i64 (to_ : Int), .int .i64 x2] 85)) := fun V w6 v base n ys hV ho hg => box_grown hV (Below.refl _ _) hg (fun e => by
              obtain ⟨_, cur, hc⟩ := own_blk ho e
              exact blk_ne hc hV (by decide) rfl)
            have HAp := hidd (fun (w6 : World) (g6 cp6 : Nat) (hb6 : Below w1.heap.size w1 w6) (ho : w6.ownsRow w1.heap.size 5 1 (.slice (some ⟨g6, 0, none⟩) (M.length + 1) cp6) (M.length + 1) (Lib.byteCells (M ++ [UInt8.ofNat lb]))) => appendInt_any w1.heap.size (M.length + 1) (.slice (some ⟨g6, 0, none⟩) (M.length + 1) cp6) (M ++ [UInt8.ofNat lb]) to_ w6 (by omega) (by simp) (by omega) hb6.size ho)
            have hB1 : Below wq.heap.size wq wq.drew := below_drewN (Below.refl _ wq) 1
            have HS1 : Hid (wq.drew.heap[Q]? = some (.cells #[.int .i64 (lb : Int), .int .i64 (to_ : Int), .int .i64 x2] 85)) := blko HQ.out hB1
            refine wp_region_held (S := fun W' => W'.heap[Q]? = some (.cells #[.int .i64 (lb : Int), .int .i64 (to_ : Int), .int .i64 x2] 85)) (by kernel_rfl) ?_
            try simp only [Act.put, List.getElem_toArray, List.getElem_cons_succ, List.getElem_cons_zero, List.setIfInBounds_toArray, List.set_cons_zero, List.set_cons_succ]
            refine wpAnyH_take (i := 0) (v := (.slice aj M.length cj)) rfl (by kernel_rfl) (by kernel_rfl) (by kernel_rfl) (fun _ _ _ h => h) (Or.inl ⟨by kernel_rfl, fun W hW => mkx_move W _ _ _ rfl _ (by kernel_rfl)⟩) HS1.out ?_
            try simp only [Act.put, List.getElem_toArray, List.getElem_cons_succ, List.getElem_cons_zero, List.setIfInBounds_toArray, List.set_cons_zero, List.set_cons_succ]
            refine wpAnyH_take (i := 1) (v := (.pointer (some ⟨Q, 0, none⟩))) rfl (by kernel_rfl) (by kernel_rfl) (by kernel_rfl) (fun _ _ _ h => h) (Or.inl ⟨by kernel_rfl, fun W hW => dbx_field0 W _ _ _ rfl Q (by kernel_rfl)⟩) HS1.out ?_
            try simp only [Act.put, List.getElem_toArray, List.getElem_cons_succ, List.getElem_cons_zero, List.setIfInBounds_toArray, List.set_cons_zero, List.set_cons_succ]
            refine wpAnyH_take (i := 2) (v := (.int .i64 (lb : Int))) rfl (by kernel_rfl) (by kernel_rfl) (by kernel_rfl) (fun _ _ _ h => h) (Or.inl ⟨by kernel_rfl, fun W hW => dbx_loadI W _ _ _ rfl Q 0 _ (by kernel_rfl) (blkc hW 0)⟩) HS1.out ?_
            try simp only [Act.put, List.getElem_toArray, List.getElem_cons_succ, List.getElem_cons_zero, List.setIfInBounds_toArray, List.set_cons_zero, List.set_cons_succ]
            refine wpAnyH_take (i := 3) (v := (.int .u8 (lb : Int))) rfl (by kernel_rfl) (by kernel_rfl) (by kernel_rfl) (fun _ _ _ h => h) (Or.inl ⟨by kernel_rfl, fun W hW => dbx_conv W _ _ _ rfl (lb : Int) hwl (by kernel_rfl)⟩) HS1.out ?_
            try simp only [Act.put, List.getElem_toArray, List.getElem_cons_succ, List.getElem_cons_zero, List.setIfInBounds_toArray, List.set_cons_zero, List.set_cons_succ]
            refine wpAnyH_take (i := 6) (v := (.pointer (some ⟨Q, 1, none⟩))) rfl (by kernel_rfl) (by kernel_rfl) (by kernel_rfl) (fun _ _ _ h => h) (Or.inl ⟨by kernel_rfl, fun W hW => dbx_field1 W _ _ _ rfl Q (by kernel_rfl)⟩) HS1.out ?_
            try simp only [Act.put, List.getElem_toArray, List.getElem_cons_succ, List.getElem_cons_zero, List.setIfInBounds_toArray, List.set_cons_zero, List.set_cons_succ]
            refine wpAnyH_take (i := 7) (v := (.int .i64 (to_ : Int))) rfl (by kernel_rfl) (by kernel_rfl) (by kernel_rfl) (fun _ _ _ h => h) (Or.inl ⟨by kernel_rfl, fun W hW => dbx_loadI W _ _ _ rfl Q 1 _ (by kernel_rfl) (blkc hW 1)⟩) HS1.out ?_
            try simp only [Act.put, List.getElem_toArray, List.getElem_cons_succ, List.getElem_cons_zero, List.setIfInBounds_toArray, List.set_cons_zero, List.set_cons_succ]
            have hB2 : Below wq.heap.size wq (wq.drew.alloc (.cells #[.int .u8 (lb : Int)] 5)) := hB1.alloc hB1.size _
            refine mkAny_one 4 (by kernel_rfl) ?_
            refine mkOp_val (.slice (some ⟨wq.drew.heap.size, 0, none⟩) 1 1) (wq.drew.alloc (.cells #[.int .u8 (lb : Int)] 5)) rfl (by kernel_rfl) (dbx_build _ _ _ _ rfl _ (by kernel_rfl)) ?_
            refine ⟨blko HQ.out hB2, ?_⟩
            try simp only [Act.put, List.getElem_toArray, List.getElem_cons_succ, List.getElem_cons_zero, List.setIfInBounds_toArray, List.set_cons_zero, List.set_cons_succ]
            refine mkAny_one 5 (by kernel_rfl) ?_
            refine mkOp_wp rfl (by kernel_rfl) (wp_append_lies _ (.tmp 39) (.tmp 43) 22 rfl w1.heap.size 5 i1 (.int .u8 0) 1 1 Try.underlying22 hi1 hy0 hy1 hy2 rfl (by decide) (.slice aj M.length cj) M.length (Lib.byteCells M) (by kernel_rfl) (own_below HOq.out hB2) ⟨wq.drew.heap.size, 0, none⟩ 1 1 [.int .u8 (lb : Int)] (by kernel_rfl) rfl (World.news_of_block (heap_alloc_new wq.drew _)) (by intro u' hu'; simp at hu'; subst hu'; rfl) (by omega) (by unfold maxLen; omega) (by omega) (by have := hB2.size; have := HBw.out.size; omega) _ rfl ?_)
            intro g6 cp6 w6 hown6 hgrow6 hat6 hlt6
            have hq6 := HK.out _ w6 _ w1.heap.size _ _ (blko HQ.out hB2) (own_below HOq.out hB2) hgrow6
            have HB6 : Hid (Below w1.heap.size w1 w6) := (HBw.out.trans (hB2.mono HBw.out.size)).grown hgrow6 (by have := hB2.size; have := HBw.out.size; omega) (fun b h => (own_blk HOq.out h).1)
            have HO6 : Hid (w6.ownsRow w1.heap.size 5 1 (.slice (some ⟨g6, 0, none⟩) (M.length + 1) cp6) (M.length + 1) (Lib.byteCells (M ++ [UInt8.ofNat lb]))) := by
              show World.ownsRow _ _ _ _ _ _ _
              rw [byteCells_snoc, hbn]
              exact hown6
            clear hown6 hgrow6 hat6 hlt6
            refine ⟨hq6, ?_⟩
            try simp only [Act.put, List.getElem_toArray, List.getElem_cons_succ, List.getElem_cons_zero, List.setIfInBounds_toArray, List.set_cons_zero, List.set_cons_succ]
            refine mkAny_one 8 (by kernel_rfl) ?_
            refine mkOp_call 48 #[.slice (some ⟨g6, 0, none⟩) (M.length + 1) cp6, .int .i64 (to_ : Int)] rfl (by kernel_rfl) (dbx_call2 _ _ _ _ _ _ _ _ rfl _ _ (by kernel_rfl) (by kernel_rfl) (Try.call48 _ _)) ?_
            refine (HAp.out _ _ _ HB6.out HO6.out).mono ?_
            rintro e w7 ⟨v7, rfl, hown7, hg7, hv7⟩
            have hq7 := HK.out _ w7 _ w1.heap.size _ _ hq6 HO6.out hg7.1
            have HB7 : Hid (Below w1.heap.size w1 w7) := HB6.out.grown hg7.1 HB6.out.size (fun b h => (own_blk HO6.out h).1)
            have HO7 := hidd hown7
            clear hown7 hg7 hv7
            refine ⟨hq7, ?_⟩
            try simp only [Act.put, List.getElem_toArray, List.getElem_cons_succ, List.getElem_cons_zero, List.setIfInBounds_toArray, List.set_cons_zero, List.set_cons_succ]
            refine wpAnyH_take (i := 9) (v := v7) rfl (by kernel_rfl) (by kernel_rfl) (by kernel_rfl) (fun _ _ _ h => h) (Or.inl ⟨by kernel_rfl, fun W hW => dbx_assign W _ _ _ rfl _ (by kernel_rfl)⟩) hq7 ?_
            try simp only [Act.put, List.getElem_toArray, List.getElem_cons_succ, List.getElem_cons_zero, List.setIfInBounds_toArray, List.set_cons_zero, List.set_cons_succ]
            refine wpAnyH_done (by kernel_rfl) ?_ _
            clear e0 e1 hq6 hq7
            go_wp2_with fail
            go_roundw
            case rel => exact ⟨j + 1, by omega, by go_num, by rw [Hst.out, List.length_append, List.length_append, List.length_singleton]; exact HO7.out, HB7.out⟩
            case measure => simp [intOf]; omega
          · have hjlz : ¬ (j : Int) < (l.length : Int) := by omega
            obtain rfl : j = l.length := by omega
            go_wp2_with fail
            go_roundw
            case rel => exact ⟨k + 1, by omega, by go_num, by rw [← Hall.out]; exact HOj.out, HBj.out⟩
            case measure => simp [intOf]; omega
      · have hltz : ¬ (k : Int) < (S.length : Int) := by omega
        obtain rfl : k = S.length := by omega
        rw [preB_all] at HOw hpl
        try rw [preB_all]
        have hpos : 0 < (dB S).length := by
          have := putL_pos S.length
          simp only [dB, List.length_append]; omega
        rcases own_cases HOw.out with ⟨_, h0⟩ | ⟨g, c', e1, hgb, hg⟩
        · omega
        simp only [Value.slice.injEq, true_and] at e1
        obtain ⟨rfl, rfl⟩ := e1
        have HSu := hidd (sumBytes_any g 0 cv (dB S) wr (own_bytes HOw.out rfl) hg)
        have hsl := sumL_lt (dB S)
        have HBD : Hid (bytesD S = dB S ++ four (sumL (dB S))) := rfl
        obtain ⟨n, hn2⟩ : ∃ n, sumL (dB S) = n := ⟨_, rfl⟩
        rw [hn2] at HSu hsl HBD
        clear hn2
        obtain ⟨M, hM⟩ : ∃ M, dB S = M := ⟨_, rfl⟩
        rw [hM] at HOw hpl hpos HSu HBD
        try rw [hM]
        clear hM
        go_wp2_with fail
        refine HSu.out.mono ?_
        rintro e w4 ⟨rfl, hb4⟩
        have HO4 := hidd (own_below HOw.out hb4)
        have HB4 := hidd (HBe.out.trans (hb4.mono hwz))
        have hz4 := HB4.out.size
        clear hb4 HSu HOw
        dsimp only
        go_wp2_with (at_builtin; refine wpList_append_lies _ rfl (.tmp 52) (.tmp 53) 22 rfl w1.heap.size 5 i1 (.int .u8 0) 1 1 Try.underlying22 hi1 hy0 hy1 hy2 rfl (by decide) (.slice (some ⟨g, 0, none⟩) M.length cv) M.length (Lib.byteCells M) rfl (HO4.out.alloc _) ⟨w4.heap.size, 0, none⟩ 4 4 [.int .u8 ((n : Int) / 16777216), .int .u8 ((n : Int) / 65536 % 256), .int .u8 ((n : Int) / 256 % 256), .int .u8 ((n : Int) % 256)] rfl rfl (World.news_of_block (heap_alloc_new w4 _)) (by intro u' hu'; simp at hu'; rcases hu' with rfl | rfl | rfl | rfl <;> rfl) (by decide) ?d3 ?d4 ?d5 _ rfl ?_)
        case d3 => unfold maxLen; omega
        case d4 => omega
        case d5 => simp; omega
        intro g6 cp6 w6 hown6 hgrow6 hat6 hlt6
        have HB6 : Hid (Below w.heap.size w w6) := ((HB1.out.trans (HB4.out.mono HB1.out.size)).alloc (by omega) _).grown hgrow6 (by simp; omega) (fun b h => by have := (own_blk HO4.out h).1; omega)
        have HO6 : Hid (w6.ownsRow w1.heap.size 5 1 (.slice (some ⟨g6, 0, none⟩) (M.length + 4) cp6) (M.length + 4) (Lib.byteCells (M ++ four n))) := by
          show World.ownsRow _ _ _ _ _ _ _
          rw [four_cells n hsl]
          exact hown6
        clear hown6 hgrow6 hat6 hlt6
        go_wp2_with fail
        go_ret2
        refine ⟨_, by rw [HO.out]; rfl, ?_, HB6.out⟩
        rw [HO.out]
        show World.ownsRow _ _ _ _ _ (bytesD S).length (Lib.byteCells (bytesD S))
        rw [HBD.out, List.length_append]
        exact own_mono HO6.out (by omega)
  · rw [hok]
    have HO : Hid (bytesO S (dictT c S) = ([], 1)) := by show _ = _; rw [dictT_none hno]; rfl
    clear hok hno
    go_wp2_with fail
    go_ret2
    exact ⟨_, by rw [HO.out]; rfl, by rw [HO.out]; exact World.ownsRow_nil _ _ _ _, HB1.out⟩
end Go.Proofs.Ytbkedgpligcicaa

namespace Go.Proofs.Ytbkedgpligcicaa
open Go Go.RowKit
set_option linter.unusedVariables false
set_option maxRecDepth 100000

/-- What the program's reader does: its answer owns its memory, place by place. -/
def ReadI (fn : Nat) : Prop := ∀ (b off cap : Nat) (bs : List UInt8) (w : World), bs.length ≤ 9223372036854775807 → bs.length ≤ cap → BytesAt w b off bs → b < w.heap.size →
  Calls Try.prog fn #[.slice (some ⟨b, off, none⟩) bs.length cap] w fun e w' => ∃ a c lo hi xs, e = .returned (.tuple #[.agg #[.int .i64 (readO bs).1.1, .slice a (readO bs).1.2.length c], .int .i64 (readO bs).2]) ∧ w.heap.size ≤ lo ∧ StsAt w' lo hi (.slice a (readO bs).1.2.length c) (readO bs).1.2 xs ∧ DisX xs (readO bs).1.2.length ∧ Below w.heap.size w w'
set_option maxHeartbeats 8000000 in
theorem implRead_any : ReadI 14 := by
  intro b off cap bs w hlen hcap hc hb
  have Hc := hidd hc
  clear hc
  have HBa : Hid (Below w.heap.size w (w.alloc (.cells #[.int .i64 0, .slice none 0 0] 27))) := (Below.refl _ _).alloc (Nat.le_refl _) _
  have HX0 := hidd (heap_alloc_new w (.cells #[.int .i64 0, .slice none 0 0] 27))
  go_enter Try.func14, Try.ntmps14
  go_upto_region 1 with fail
  obtain ⟨wa, hwa⟩ : ∃ wa, w.alloc (.cells #[.int .i64 0, .slice none 0 0] 27) = wa := ⟨_, rfl⟩
  rw [hwa] at HBa HX0
  try rw [hwa]
  clear hwa
  by_cases hl : 1048576 < bs.length
  · have hlz : (bs.length : Int) > 1048576 := by omega
    have HO := hidd (readO_long hl)
    have x0 := blkc HX0.out 0
    have x1 := blkc HX0.out 1
    have f0 := blkf HX0.out 0
    have f1 := blkf HX0.out 1
    have HR := hidd (box_ret (x' := .int .i64 0) (y' := .slice none 0 0) HBa.out HX0.out)
    have z0 := blkc HR.out.2 0
    have z1 := blkc HR.out.2 1
    go_wp2_with fail
    refine bodyPost_ret (v := .tuple #[.agg #[.int .i64 0, .slice none 0 0], .int .i64 2]) (by simp [results, Try.results14, go_sem, z0, z1]) rfl ?_
    refine ⟨none, 0, w.heap.size, _, [], by rw [HO.out]; rfl, Nat.le_refl _, by rw [HO.out]; exact StsAt.nil _ _, by rw [HO.out]; exact fun i j b _ hj => by simp at hj, HR.out.1⟩
  have hlz : ¬ (bs.length : Int) > 1048576 := by omega
  have HSo := hidd (statesOf_any b off cap bs wa (by omega) hcap (Hc.out.below HBa.out) (Nat.lt_of_lt_of_le hb HBa.out.size))
  go_wp2_with fail
  refine HSo.out.mono ?_
  rintro e w1 ⟨hb1, a, n, c, t, rfl, hcs⟩
  have HB1 := hidd (HBa.out.trans (hb1.mono HBa.out.size))
  have HX1 := hidd (blko HX0.out hb1)
  have hza : w.heap.size < wa.heap.size := (Array.getElem?_eq_some_iff.1 HX0.out).1
  clear hb1 HSo HX0
  dsimp only
  rcases hcs with ⟨rfl, hno⟩ | ⟨rfl, S, lo, hi, xs, hrd, rfl, hlo, hst, hdi⟩
  · have HO := hidd (readO_none hl (readD_impl_none hno))
    clear hno
    have x0 := blkc HX1.out 0
    have x1 := blkc HX1.out 1
    have f0 := blkf HX1.out 0
    have f1 := blkf HX1.out 1
    have HR := hidd (box_ret (x' := .int .i64 0) (y' := .slice none 0 0) HB1.out HX1.out)
    have z0 := blkc HR.out.2 0
    have z1 := blkc HR.out.2 1
    go_wp2_with fail
    refine bodyPost_ret (v := .tuple #[.agg #[.int .i64 0, .slice none 0 0], .int .i64 15]) (by simp [results, Try.results14, go_sem, z0, z1]) rfl ?_
    refine ⟨none, 0, w.heap.size, _, [], by rw [HO.out]; rfl, Nat.le_refl _, by rw [HO.out]; exact StsAt.nil _ _, by rw [HO.out]; exact fun i j b _ hj => by simp at hj, HR.out.1⟩
  · have HRd := hidd hrd
    have HSt := hidd hst
    have HDi := hidd hdi
    obtain ⟨hv1, hv2, hv3, hv4⟩ := rdI_inv hrd
    have hAr : ∀ i, (arcsAt S i).length ≤ 1048576 := fun i => by
      by_cases hi' : i < S.length
      · have e : arcsAt S i = S[i].2 := by simp [arcsAt, hi']
        have := (hv3 S[i] (List.getElem_mem hi')).1
        rw [e]; omega
      · have : arcsAt S i = [] := by
          unfold arcsAt
          rw [List.getD_eq_getElem?_getD, List.getElem?_eq_none (by omega)]; rfl
        rw [this]; simp
    have HAr := hidd hAr
    have Hv4 := hidd hv4
    clear hrd hst hdi hv1 hv3 hv4 hAr
    obtain ⟨a', c', e', hH⟩ := HSt.out.hold
    simp only [Value.slice.injEq, true_and] at e'
    obtain ⟨rfl, rfl⟩ := e'
    have HE := hidd (endingsM_any a c S w1 (by omega) HAr.out hH)
    clear hH
    go_wp2_with fail
    refine HE.out.mono ?_
    rintro e w2 ⟨v, ok, rfl, hb2, hyes, hmust⟩
    have HB2 := hidd (HB1.out.trans (hb2.mono HB1.out.size))
    have HX2 := hidd (blko HX1.out hb2)
    have Hb2 := hidd hb2
    clear hb2 HE HB1
    dsimp only
    cases ok with
    | false =>
      have HO := hidd (readO_none hl (readD_notMust HRd.out (fun hm => by have := hmust hm; cases this)))
      clear hyes hmust
      have x0 := blkc HX2.out 0
      have x1 := blkc HX2.out 1
      have f0 := blkf HX2.out 0
      have f1 := blkf HX2.out 1
      have HR := hidd (box_ret (x' := .int .i64 0) (y' := .slice none 0 0) HB2.out HX2.out)
      have z0 := blkc HR.out.2 0
      have z1 := blkc HR.out.2 1
      go_wp2_with fail
      refine bodyPost_ret (v := .tuple #[.agg #[.int .i64 0, .slice none 0 0], .int .i64 15]) (by simp [results, Try.results14, go_sem, z0, z1]) rfl ?_
      refine ⟨none, 0, w.heap.size, _, [], by rw [HO.out]; rfl, Nat.le_refl _, by rw [HO.out]; exact StsAt.nil _ _, by rw [HO.out]; exact fun i j b _ hj => by simp at hj, HR.out.1⟩
    | true =>
      obtain ⟨be, E, rfl, hbe, hrow, hok⟩ := hyes rfl
      have HO := hidd (readO_some hl (readD_ok HRd.out hok))
      have hw1 := HSt.out.le
      have HSt2 := hidd (HSt.out.keep Hb2.out.size fun b h1 h2 => Hb2.out.block b (by omega))
      have HDo := hidd (dictOf_any a c S E be lo hi xs w2 HSt2.out HDi.out hrow hok HAr.out (fun j hj hx => by have := (hx.range HSt.out hj).2; omega))
      clear hyes hmust hrow hok
      go_wp2_with fail
      refine HDo.out.mono ?_
      rintro e w3 ⟨rfl, hs3, hb3⟩
      have HS3 := hidd hs3
      have HX3 : Hid (w3.heap[w.heap.size]? = some (.cells #[.int .i64 0, .slice none 0 0] 27)) := (hb3.block _ (Array.getElem?_eq_some_iff.1 HX2.out).1 (by
        rintro ⟨j, hj, hx⟩
        have := (hx.range HSt.out hj).1
        omega)).trans HX2.out
      have HB3 : Hid (Below w.heap.size w w3) := HB2.out.trans (hb3.below HB2.out.size (fun i hi' ⟨j, hj, hx⟩ => by
        have := (hx.range HSt.out hj).1
        omega))
      clear hs3 hb3 HDo
      dsimp only
      generalize hV : valE E 0 = V at *
      have HV := hidd hV
      clear hV
      have x0 := blkc HX3.out 0
      have x1 := blkc HX3.out 1
      have f0 := blkf HX3.out 0
      have f1 := blkf HX3.out 1
      have HR := hidd (box_ret (x' := .int .i64 (V : Int)) (y' := .slice a S.length c) HB3.out HX3.out)
      have z0 := blkc HR.out.2 0
      have z1 := blkc HR.out.2 1
      have HHo : Hid (StsAt ((w3.setCell ⟨w.heap.size, 0, none⟩ (.int .i64 (V : Int))).setCell ⟨w.heap.size, 1, none⟩ (.slice a S.length c)) lo hi (.slice a S.length c) (S.map (ahdS E)) xs) := HS3.out.keep (by simp) fun b h1 h2 => by
        rw [heap_set_other _ w.heap.size 1 _ b (by omega), heap_set_other w3 w.heap.size 0 _ b (by omega)]
      go_wp2_with fail
      refine bodyPost_ret (v := .tuple #[.agg #[.int .i64 (V : Int), .slice a S.length c], .int .i64 0]) (by simp [results, Try.results14, go_sem, z0, z1]) rfl ?_
      refine ⟨a, c, lo, hi, xs, ?_, by omega, ?_, ?_, HR.out.1⟩
      · rw [HO.out]; simp
      · rw [HO.out]
        have := HHo.out
        simpa using this
      · rw [HO.out]
        have := HDi.out
        simpa using this
end Go.Proofs.Ytbkedgpligcicaa

namespace Go.Proofs.Ytbkedgpligcicaa
open Go
set_option linter.unusedVariables false

/-! The terms that begin with given bytes, in plain words. -/
def begs (p s : Tx) : Bool := p.isPrefixOf s
theorem begs_nil (s : Tx) : begs [] s = true := by cases s <;> rfl
theorem begs_cons (b c : UInt8) (p s : Tx) : begs (b :: p) (c :: s) = (b == c && begs p s) := rfl
theorem subT_count (b : UInt8) (p : Tx) : ∀ L : List Tx, (subT b.toNat L).countP (begs p) = L.countP (begs (b :: p))
  | [] => rfl
  | s :: L => by
    have ih := subT_count b p L
    unfold subT at ih ⊢
    rw [List.filterMap_cons, List.countP_cons]
    cases s with
    | nil => simp only [tailIf]; rw [ih]; simp [begs]
    | cons c r =>
      by_cases h : c.toNat = b.toNat
      · have e : c = b := UInt8.toNat_inj.1 h
        subst e
        simp only [tailIf, if_true]
        rw [List.countP_cons, ih]
        simp [begs]
      · have e : ¬ b = c := fun e => h (by rw [e])
        simp only [tailIf, if_neg h]
        rw [ih]
        simp [begs, e]
theorem subs_count : ∀ (p : Tx) (L : List Tx), (subs p L).length = L.countP (begs p)
  | [], L => by
    rw [subs]
    exact (List.countP_eq_length.2 fun s _ => begs_nil s).symm
  | b :: p, L => by rw [subs, subs_count p, subT_count]
theorem begs_ge : ∀ {p s : Tx}, begs p s = true → ltT s p = false
  | [], s, _ => by cases s <;> rfl
  | b :: p, [], h => by simp [begs] at h
  | b :: p, c :: s, h => by
    rw [begs_cons, Bool.and_eq_true, beq_iff_eq] at h
    obtain ⟨rfl, h2⟩ := h
    have := begs_ge h2
    simp [ltT, this]
/-- What lies between a beginning and a text with it has it, too. -/
theorem begs_mid : ∀ {p x y : Tx}, ltT x p = false → begs p y = true → (x = y ∨ ltT x y = true) → begs p x = true
  | [], x, y, _, _, _ => begs_nil x
  | b :: p, x, [], _, h, _ => by simp [begs] at h
  | b :: p, [], c :: y, h1, _, _ => by simp [ltT] at h1
  | b :: p, a :: x, c :: y, h1, h2, h3 => by
    rw [begs_cons, Bool.and_eq_true, beq_iff_eq] at h2
    obtain ⟨rfl, h2⟩ := h2
    have h4 : ¬ a.toNat < b.toNat := by
      intro e
      simp [ltT, e] at h1
    rcases h3 with h3 | h3
    · obtain ⟨rfl, rfl⟩ := List.cons.inj h3
      rw [begs_cons, h2]; simp
    · rw [ltT_cons] at h3
      rcases h3 with h3 | ⟨rfl, h3⟩
      · omega
      · have h5 : ltT x p = false := by
          cases e : ltT x p with
          | false => rfl
          | true => simp [ltT, e] at h1
        rw [begs_cons, begs_mid h5 h2 (Or.inr h3)]; simp
theorem rk_edge : ∀ {L : List Tx} {p : Tx}, RiseT L → (∀ j, j < rk p L → ltT (L.getD j []) p = true) ∧ (∀ j, rk p L ≤ j → j < L.length → ltT (L.getD j []) p = false)
  | [], p, _ => ⟨fun j h => by simp [rk] at h, fun j _ h => by simp at h⟩
  | s :: L, p, hr => by
    have hr' := List.pairwise_cons.1 hr
    have ih := rk_edge (p := p) hr'.2
    by_cases h : ltT s p = true
    · have e : rk p (s :: L) = rk p L + 1 := by unfold rk; rw [List.countP_cons_of_pos (by simpa using h)]
      rw [e]
      refine ⟨fun j hj => ?_, fun j h1 h2 => ?_⟩
      · cases j with
        | zero => simpa using h
        | succ j => simpa using ih.1 j (by omega)
      · cases j with
        | zero => omega
        | succ j => simpa using ih.2 j (by omega) (by simpa using h2)
    · have h' : ltT s p = false := by simpa using h
      have hz : rk p (s :: L) = 0 := by
        unfold rk
        rw [List.countP_eq_zero]
        intro x hx hlt
        rcases List.mem_cons.1 hx with rfl | hx
        · exact h hlt
        · exact h (ltT_trans (hr'.1 x hx) hlt)
      rw [hz]
      refine ⟨fun j hj => by omega, fun j _ h2 => ?_⟩
      cases j with
      | zero => simpa using h'
      | succ j =>
        have hj : j < L.length := by simpa using h2
        cases e : ltT ((s :: L).getD (j + 1) []) p with
        | false => rfl
        | true =>
          have e2 : (s :: L).getD (j + 1) [] = L[j] := by simp [hj]
          rw [e2] at e
          exact absurd (ltT_trans (hr'.1 _ (List.getElem_mem hj)) e) h
/-- The first one that begins so. -/
theorem first_rk {L : List Tx} {p : Tx} {i : Nat} (hr : RiseT L) (hi : i < L.length) (hb : begs p (L.getD i []) = true) (hn : ∀ j, j < i → begs p (L.getD j []) = false) : i = rk p L := by
  obtain ⟨e1, e2⟩ := rk_edge (p := p) hr
  have h1 : rk p L ≤ i := by
    rcases Nat.lt_or_ge i (rk p L) with h | h
    · have := e1 i h
      rw [begs_ge hb] at this; cases this
    · exact h
  rcases Nat.lt_or_ge (rk p L) i with h | h
  · have h3 := hn _ h
    have h4 := begs_mid (e2 _ (Nat.le_refl _) (by omega)) hb (Or.inr (by
      rw [getD_at hi, getD_at (show rk p L < L.length by omega)]
      exact List.pairwise_iff_getElem.1 hr _ _ (by omega) hi h))
    rw [h3] at h4; cases h4
  · omega
/-- What DictRange tells. -/
def rangeO (d : Option (List Tx)) (p : Tx) : Int × Int × Int := if 65536 < p.length then (0, 0, 2) else match d with
  | none => (0, 0, 1)
  | some ts => if (subs p ts).length = 0 then (0, 0, 8) else (((rk p ts : Nat) : Int), (((subs p ts).length : Nat) : Int), 0)
theorem rangeO_long {d : Option (List Tx)} {t : Tx} (h : 65536 < t.length) : rangeO d t = (0, 0, 2) := by unfold rangeO; rw [if_pos h]
theorem rangeO_none {t : Tx} (h : ¬ 65536 < t.length) : rangeO none t = (0, 0, 1) := by unfold rangeO; rw [if_neg h]
theorem rangeO_out {t : Tx} {ts : List Tx} (h : ¬ 65536 < t.length) (hm : (subs t ts).length = 0) : rangeO (some ts) t = (0, 0, 8) := by unfold rangeO; rw [if_neg h]; simp only [if_pos hm]
theorem rangeO_in {t : Tx} {ts : List Tx} (h : ¬ 65536 < t.length) (hm : ¬ (subs t ts).length = 0) : rangeO (some ts) t = (((rk t ts : Nat) : Int), (((subs t ts).length : Nat) : Int), 0) := by unfold rangeO; rw [if_neg h]; simp only [if_neg hm]
/-- Where the search from the end stands. -/
structure Back (ts : List Tx) (p : Tx) (m first n : Nat) : Prop where
  le : m ≤ ts.length
  cnt : n = (ts.drop m).countP (begs p)
  zero : n = 0 → first = 0
  pos : 0 < n → m ≤ first ∧ first < ts.length ∧ begs p (ts.getD first []) = true ∧ ∀ j, m ≤ j → j < first → begs p (ts.getD j []) = false
theorem Back.start (ts : List Tx) (p : Tx) : Back ts p ts.length 0 0 := ⟨Nat.le_refl _, by simp, fun _ => rfl, fun h => by omega⟩
theorem drop_count {ts : List Tx} {p : Tx} {m : Nat} (h : m < ts.length) : (ts.drop m).countP (begs p) = (ts.drop (m + 1)).countP (begs p) + (if begs p (ts.getD m []) then 1 else 0) := by
  rw [List.drop_eq_getElem_cons h, List.countP_cons, getD_at h]
theorem Back.hit {ts : List Tx} {p : Tx} {m first n : Nat} (h : Back ts p (m + 1) first n) (hb : begs p (ts.getD m []) = true) : Back ts p m m (n + 1) := by
  have hm : m < ts.length := by have := h.le; omega
  refine ⟨by omega, by rw [drop_count hm, ← h.cnt, hb]; rfl, fun e => by omega, fun _ => ⟨Nat.le_refl _, hm, hb, fun j h1 h2 => by omega⟩⟩
theorem Back.miss {ts : List Tx} {p : Tx} {m first n : Nat} (h : Back ts p (m + 1) first n) (hb : begs p (ts.getD m []) = false) : Back ts p m first n := by
  have hm : m < ts.length := by have := h.le; omega
  refine ⟨by omega, by rw [drop_count hm, ← h.cnt, hb]; rfl, h.zero, fun e => ?_⟩
  obtain ⟨h1, h2, h3, h4⟩ := h.pos e
  refine ⟨by omega, h2, h3, fun j hj1 hj2 => ?_⟩
  by_cases e2 : j = m
  · rw [e2]; exact hb
  · exact h4 j (by omega) hj2
theorem Back.done {ts : List Tx} {p : Tx} {first n : Nat} (hr : RiseT ts) (h : Back ts p 0 first n) : n = (subs p ts).length ∧ (0 < n → first = rk p ts) := by
  refine ⟨by rw [subs_count, h.cnt, List.drop_zero], fun e => ?_⟩
  obtain ⟨_, h2, h3, h4⟩ := h.pos e
  exact first_rk hr h2 h3 fun j hj => h4 j (Nat.zero_le _) hj
end Go.Proofs.Ytbkedgpligcicaa
