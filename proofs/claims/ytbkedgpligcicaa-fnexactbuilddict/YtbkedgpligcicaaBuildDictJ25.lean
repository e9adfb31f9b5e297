import Derived.Test.YtbkedgpligcicaaBuildDictJ23
import Derived.Test.YtbkedgpligcicaaBuildDictJ11
import Derived.Test.YtbkedgpligcicaaBuildDictJ24
import Derived.Test.YtbkedgpligcicaaProg
import Derived.Test.YtbkedgpligcicaaBuildDictJ00
import Derived.WalkLawsBesides
import Derived.WalkSpells
import Derived.Test.YtbkedgpligcicaaBuildDictJ22
import Derived.BigQuiet
import Derived.Deep.QuietTactic
import Derived.Test.YtbkedgpligcicaaBuildDictJ18
namespace Go.Proofs.Ytbkedgpligcicaa
open Go Go.RowKit
set_option linter.unusedVariables false
set_option maxRecDepth 100000

def BldPost (ts : List Tx) (w : World) (e : Ending) (w' : World) : Prop := ∃ a' c, e = .returned (.tuple #[.agg #[.int .i64 (bldO ts).1.1, .slice a' (bldO ts).1.2.length c], .int .i64 (bldO ts).2]) ∧ HoldS w' a' (bldO ts).1.2 ∧ Below w.heap.size w w'
def BuildS : Prop := ∀ (a : Option Addr) (cap : Nat) (ts : List Tx) (w : World), ts.length ≤ 1048576 → TmAt w a ts →
  Calls Try.prog 8 #[.slice a ts.length cap] w (BldPost ts w)
theorem okT_not {t : Tx} (h : ¬ okT t) : t.length < 1 ∨ 64 < t.length := by
  unfold okT at h
  omega
set_option maxHeartbeats 8000000 in
theorem specBuild_any : BuildS := by
  intro a cap ts w hlen htm
  have HT := hidd htm
  clear htm
  have HBa : Hid (Below w.heap.size w (w.alloc (.cells #[.int .i64 0, .slice none 0 0] 27))) := (Below.refl _ _).alloc (Nat.le_refl _) _
  have HX0 := hidd (heap_alloc_new w (.cells #[.int .i64 0, .slice none 0 0] 27))
  go_enter Try.func8, Try.ntmps8
  go_upto_region 1 with fail
  obtain ⟨wa, hwa⟩ : ∃ wa, w.alloc (.cells #[.int .i64 0, .slice none 0 0] 27) = wa := ⟨_, rfl⟩
  rw [hwa] at HBa HX0
  try rw [hwa]
  clear hwa
  have HTa : Hid (TmAt wa a ts) := HT.out.keep HBa.out.size fun g off ha hn => by
    obtain ⟨g', off', ha', hg', _⟩ := HT.out.resolve_left hn
    rw [ha] at ha'; cases ha'
    exact HBa.out.block _ hg'
  have HEnd : Hid (∀ (W : World) (c : Int), Below w.heap.size w W → W.heap[w.heap.size]? = some (.cells #[.int .i64 0, .slice none 0 0] 27) → CodeT ts c → c ≠ 0 → ∀ W', Below w.heap.size w W' → BldPost ts w (Ending.returned (.tuple #[.agg #[.int .i64 0, .slice none 0 0], .int .i64 c])) W') := by
    intro W c _ _ hc h0 W' hb'
    unfold BldPost
    rw [bldO_is (Or.inl ⟨hc, h0, rfl⟩)]
    exact ⟨none, 0, rfl, Or.inl rfl, hb'⟩
  by_cases hlong : 4096 < ts.length
  · have hlz : (4096 : Int) < (ts.length : Int) := by omega
    have x0 := blkc HX0.out 0
    have x1 := blkc HX0.out 1
    have f0 := blkf HX0.out 0
    have f1 := blkf HX0.out 1
    have HR := hidd (box_ret (x' := .int .i64 0) (y' := .slice none 0 0) HBa.out HX0.out)
    have z0 := blkc HR.out.2 0
    have z1 := blkc HR.out.2 1
    go_wp2_with fail
    refine bodyPost_ret (v := .tuple #[.agg #[.int .i64 0, .slice none 0 0], .int .i64 2]) (by simp [results, Try.results8, go_sem, z0, z1]) rfl ?_
    exact HEnd.out _ 2 HBa.out HX0.out (Or.inl ⟨hlong, rfl⟩) (by omega) _ HR.out.1
  have hlz : ¬ (4096 : Int) < (ts.length : Int) := by omega
  go_wp2_with fail
  go_loop [4] (fun iv => ∃ i : Nat, i ≤ ts.length ∧ iv = .int .i64 (i : Int) ∧ ∀ j, j < i → okT (ts.getD j [])) (fun iv => ts.length - (intOf iv).toNat)
  case atStart => exact ⟨0, Nat.zero_le _, rfl, fun j hj => by omega⟩
  case round =>
    obtain ⟨i, hi, rfl, hok⟩ := hrel
    have HOk := hidd hok
    clear hok
    by_cases hlt : i < ts.length
    · have hltz : (i : Int) < (ts.length : Int) := by omega
      obtain ⟨g, off, rfl, hg, hc⟩ := HTa.out.resolve_left (fun h => by rw [h] at hlt; simp at hlt)
      have c1 := hc i hlt
      clear hc
      obtain ⟨t, ht⟩ : ∃ t, ts.getD i [] = t := ⟨_, rfl⟩
      have Ht := hidd ht
      rw [ht] at c1
      clear ht
      have htl : (⟨t.toArray⟩ : ByteArray).size = t.length := by simp [ByteArray.size]
      by_cases hok : okT t
      · have HK : Hid (okT t) := hok
        have k1 : ¬ (t.length : Int) < 1 := by have := hok.1; omega
        have k2 : ¬ (64 : Int) < (t.length : Int) := by have := hok.2; omega
        clear hok
        go_wp2_with fail
        go_round
        case rel =>
          refine ⟨i + 1, by omega, by go_num, fun j hj => ?_⟩
          by_cases e : j = i
          · subst e; rw [Ht.out]; exact HK.out
          · exact HOk.out j (by omega)
        case measure => simp [intOf]; omega
      · have HK : Hid (CodeT ts 1) := Or.inr (Or.inl ⟨by omega, ⟨i, hlt, by rw [Ht.out]; exact hok⟩, rfl⟩)
        have x0 := blkc HX0.out 0
        have x1 := blkc HX0.out 1
        have f0 := blkf HX0.out 0
        have f1 := blkf HX0.out 1
        have HR := hidd (box_ret (x' := .int .i64 0) (y' := .slice none 0 0) HBa.out HX0.out)
        have z0 := blkc HR.out.2 0
        have z1 := blkc HR.out.2 1
        rcases okT_not hok with k1 | k1
        · have k1z : (t.length : Int) < 1 := by omega
          clear hok
          go_wp2_with fail
          refine bodyPost_ret (v := .tuple #[.agg #[.int .i64 0, .slice none 0 0], .int .i64 1]) (by simp [results, Try.results8, go_sem, z0, z1]) rfl ?_
          exact HEnd.out _ 1 HBa.out HX0.out HK.out (by omega) _ HR.out.1
        · have k1z : (64 : Int) < (t.length : Int) := by omega
          have k2z : ¬ (t.length : Int) < 1 := by omega
          clear hok
          go_wp2_with fail
          refine bodyPost_ret (v := .tuple #[.agg #[.int .i64 0, .slice none 0 0], .int .i64 1]) (by simp [results, Try.results8, go_sem, z0, z1]) rfl ?_
          exact HEnd.out _ 1 HBa.out HX0.out HK.out (by omega) _ HR.out.1
    · have hltz : ¬ (i : Int) < (ts.length : Int) := by omega
      have HAll : Hid (∀ j, j < ts.length → okT (ts.getD j [])) := fun j hj => HOk.out j (by omega)
      go_wp2_with fail
      go_loopw [5] (fun iv wr => ∃ i : Nat, 1 ≤ i ∧ iv = .int .i64 (i : Int) ∧ i ≤ 4097 ∧ (∀ j, 0 < j → j < i → j < ts.length → ltT (ts.getD (j - 1) []) (ts.getD j []) = true) ∧ ∃ q, wr = wa.drewN q) (fun iv _ => 5000 - (intOf iv).toNat)
      case atStart => exact ⟨1, Nat.le_refl _, rfl, by omega, fun j h0 h1 => by omega, 0, rfl⟩
      case round =>
        obtain ⟨i, hi1, rfl, hi2, hri, q, rfl⟩ := hrel
        have HRi := hidd hri
        clear hri
        have HBq : Hid (Below w.heap.size w (wa.drewN q)) := below_drewN HBa.out q
        have HXq : Hid ((wa.drewN q).heap[w.heap.size]? = some (.cells #[.int .i64 0, .slice none 0 0] 27)) := by show _ = _; rw [← HX0.out]; simp
        by_cases hlt : i < ts.length
        · have hltz : (i : Int) < (ts.length : Int) := by omega
          obtain ⟨g, off, rfl, hg, hc⟩ := HTa.out.resolve_left (fun h => by rw [h] at hlt; simp at hlt)
          have c1 := hc i hlt
          have c2 := hc (i - 1) (by omega)
          clear hc
          obtain ⟨ti, hti⟩ : ∃ t, ts.getD i [] = t := ⟨_, rfl⟩
          obtain ⟨tp, htp⟩ : ∃ t, ts.getD (i - 1) [] = t := ⟨_, rfl⟩
          have Hti := hidd hti
          have Htp := hidd htp
          rw [hti] at c1
          rw [htp] at c2
          have hpn : ((i : Int) - 1).toNat = i - 1 := by omega
          have hp0 : ¬ ((i : Int) - 1 < 0) := by omega
          have hp1 : (i : Int) - 1 < (ts.length : Int) := by omega
          clear hti htp
          go_upto_region 11 with fail
          go_cut [47] (fun v wy => v = .bool (!(ltT tp ti)) ∧ ∃ q', wy = wa.drewN q')
          case first =>
            go_quiet (fail)
            go_wp2_with fail
            go_meet
            case rel => exact ⟨by rw [← le_lt], q + nq, by first | rfl | simp [World.drewN, Nat.add_assoc]⟩
          case rest =>
            obtain ⟨rfl, q', rfl⟩ := hcut
            cases hlt2 : ltT tp ti with
            | true =>
              have HL2 := hidd hlt2
              clear hlt2
              go_wp2_with fail
              go_roundw
              case rel =>
                refine ⟨i + 1, by omega, by go_num, by omega, fun j h0 h1 h2 => ?_, q', rfl⟩
                by_cases e : j = i
                · subst e; rw [Hti.out, Htp.out]; exact HL2.out
                · exact HRi.out j h0 (by omega) h2
              case measure => simp [intOf]; omega
            | false =>
              have HL2 := hidd hlt2
              clear hlt2 HBq HXq
              have HBq : Hid (Below w.heap.size w (wa.drewN q')) := below_drewN HBa.out q'
              have HXq : Hid ((wa.drewN q').heap[w.heap.size]? = some (.cells #[.int .i64 0, .slice none 0 0] 27)) := by show _ = _; rw [← HX0.out]; simp
              have HK : Hid (CodeT ts 17) := Or.inr (Or.inr (Or.inl ⟨by omega, HAll.out, ⟨i, by omega, hlt, by rw [Hti.out, Htp.out]; exact HL2.out⟩, rfl⟩))
              generalize wa.drewN q' = wq at *
              have x0 := blkc HXq.out 0
              have x1 := blkc HXq.out 1
              have f0 := blkf HXq.out 0
              have f1 := blkf HXq.out 1
              have HR := hidd (box_ret (x' := .int .i64 0) (y' := .slice none 0 0) HBq.out HXq.out)
              have z0 := blkc HR.out.2 0
              have z1 := blkc HR.out.2 1
              go_wp2_with fail
              refine bodyPost_ret (v := .tuple #[.agg #[.int .i64 0, .slice none 0 0], .int .i64 17]) (by simp [results, Try.results8, go_sem, z0, z1]) rfl ?_
              exact HEnd.out _ 17 HBq.out HXq.out HK.out (by omega) _ HR.out.1
        · have hltz : ¬ (i : Int) < (ts.length : Int) := by omega
          have HCd : Hid (CodeT ts 0) := Or.inr (Or.inr (Or.inr ⟨by omega, HAll.out, fun j h0 h1 => HRi.out j h0 (by omega) h1, rfl⟩))
          have HG := hidd HCd.out.good
          have HTq : Hid (TmAt (wa.drewN q) a ts) := HTa.out.keep (by simp) fun g off ha hn => by simp
          have HBd := hidd (build_any make_any ts a cap (wa.drewN q) (by omega) HG.out.1 (fun t ht => (HG.out.2.2 t ht).2) HTq.out)
          generalize wa.drewN q = wq at *
          go_wp2_with fail
          refine HBd.out.mono ?_
          rintro e w6 ⟨ord, a6, c6, rfl, hbf, hh6, hb6, hol⟩
          have HBf := hidd hbf
          have HH6 := hidd hh6
          have HB6 := hidd (HBq.out.trans (hb6.mono HBq.out.size))
          have HX6 := hidd (blko HXq.out hb6)
          clear hbf hh6 hb6 HBd
          dsimp only
          go_upto_region 14 with fail
          have HB7 := hidd ((Below.refl w6.heap.size w6).alloc (Nat.le_refl _) (.cells #[.int .i64 (ts.length : Int), .slice a6 ord.length c6] 27))
          have HD7 := hidd (heap_alloc_new w6 (.cells #[.int .i64 (ts.length : Int), .slice a6 ord.length c6] 27))
          obtain ⟨w7, hw7⟩ : ∃ w7, w6.alloc (.cells #[.int .i64 (ts.length : Int), .slice a6 ord.length c6] 27) = w7 := ⟨_, rfl⟩
          rw [hw7] at HB7 HD7
          try rw [hw7]
          clear hw7
          have HX7 := hidd (blko HX6.out HB7.out)
          have HH7 := hidd (HH6.out.below HB7.out)
          have HBw7 := hidd (HB6.out.trans (HB7.out.mono HB6.out.size))
          have hne7 : w.heap.size ≠ w6.heap.size := by have := (Array.getElem?_eq_some_iff.1 HX6.out).1; omega
          obtain ⟨D7, hD7⟩ : ∃ D7, w6.heap.size = D7 := ⟨_, rfl⟩
          rw [hD7] at HD7 hne7
          try rw [hD7]
          clear hD7 HB7 HX6 HB6 HH6
          have d0 := blkc HD7.out 0
          have d1 := blkc HD7.out 1
          have x0 := blkc HX7.out 0
          have x1 := blkc HX7.out 1
          have f0 := blkf HX7.out 0
          have f1 := blkf HX7.out 1
          by_cases hbig : 16384 < ord.length
          · have hbz : (16384 : Int) < (ord.length : Int) := by omega
            have HO : Hid (bldO ts = ((0, []), 11)) := bldO_is (Or.inr ⟨HCd.out, ord, HBf.out, Or.inl ⟨hbig, rfl, rfl⟩⟩)
            have HR := hidd (box_ret (x' := .int .i64 0) (y' := .slice none 0 0) HBw7.out HX7.out)
            have z0 := blkc HR.out.2 0
            have z1 := blkc HR.out.2 1
            go_wp2_with fail
            refine bodyPost_ret (v := .tuple #[.agg #[.int .i64 0, .slice none 0 0], .int .i64 11]) (by simp [results, Try.results8, go_sem, z0, z1]) rfl ?_
            unfold BldPost
            rw [HO.out]
            exact ⟨none, 0, rfl, Or.inl rfl, HR.out.1⟩
          · have hbz : ¬ (16384 : Int) < (ord.length : Int) := by omega
            have HO : Hid (bldO ts = (dictOf ts ord, 0)) := bldO_is (Or.inr ⟨HCd.out, ord, HBf.out, Or.inr ⟨by omega, rfl, rfl⟩⟩)
            have HR := hidd (box_ret (x' := .int .i64 (ts.length : Int)) (y' := .slice a6 ord.length c6) HBw7.out HX7.out)
            have z0 := blkc HR.out.2 0
            have z1 := blkc HR.out.2 1
            have HHz : Hid (HoldS ((w7.setCell ⟨w.heap.size, 0, none⟩ (.int .i64 (ts.length : Int))).setCell ⟨w.heap.size, 1, none⟩ (.slice a6 ord.length c6)) a6 (dictOf ts ord).2) := HH7.out.away (n := 0) (y := 0) (z := 0) (x := none) (i0 := 0) (by simp) HX7.out (fun b hb => by
              rw [heap_set_other _ w.heap.size 1 _ b hb, heap_set_other w7 w.heap.size 0 _ b hb])
            go_wp2_with fail
            refine bodyPost_ret (v := .tuple #[.agg #[.int .i64 (ts.length : Int), .slice a6 ord.length c6], .int .i64 0]) (by simp [results, Try.results8, go_sem, z0, z1]) rfl ?_
            unfold BldPost
            rw [HO.out]
            exact ⟨a6, c6, by simp [dictOf], HHz.out, HR.out.1⟩
end Go.Proofs.Ytbkedgpligcicaa

namespace Go.Proofs.Ytbkedgpligcicaa
open Go Go.RowKit
set_option linter.unusedVariables false

/-- The digits of a number, behind what is there. -/
def mkD : Nat → Nat → List UInt8 → List UInt8
  | 0, _, out => out
  | f + 1, k, out => if k = 0 then out else mkD f (k / 10) ((48 + UInt8.ofNat (k % 10)) :: out)
def mkText (k : Int) : ByteArray := if k ≤ 0 then ⟨#[109, 48]⟩ else ⟨(109 :: mkD k.toNat k.toNat []).toArray⟩
theorem mkD_len : ∀ f k out, (mkD f k out).length ≤ out.length + f
  | 0, _, out => by simp [mkD]
  | f + 1, k, out => by
    rw [mkD]
    split
    · omega
    · have := mkD_len f (k / 10) ((48 + UInt8.ofNat (k % 10)) :: out); rw [List.length_cons] at this; omega
theorem mkD_zero (f : Nat) (out : List UInt8) : mkD f 0 out = out := by cases f <;> simp [mkD]

theorem ba_cons (b : UInt8) (l : List UInt8) : (⟨#[b]⟩ : ByteArray) ++ ⟨l.toArray⟩ = ⟨(b :: l).toArray⟩ := by
  apply ByteArray.ext
  simp
theorem digit_nat (n : Nat) : ((48 + UInt8.ofNat (n % 10)).toNat : Int) = 48 + (n : Int) % 10 := by
  have h : n % 10 < 10 := Nat.mod_lt _ (by omega)
  rw [UInt8.toNat_add, UInt8.toNat_ofNat']
  have e : (48 : UInt8).toNat = 48 := rfl
  rw [e]
  omega

set_option maxHeartbeats 1000000 in
theorem markText_any (k : Int) (w : World) (h0 : 1 ≤ k) (h1 : k ≤ 4398046511104) :
    Calls Try.prog 55 #[.int .i64 k] w fun e w' => e = .returned (.string (mkText k)) ∧ Below w.heap.size w w' := by
  have HT : Hid (mkText k = ⟨(109 :: mkD k.toNat k.toNat []).toArray⟩) := by show _ = _; rw [mkText, if_neg (by omega)]
  obtain ⟨K, rfl⟩ := Int.eq_ofNat_of_zero_le (by omega : 0 ≤ k)
  rw [Int.toNat_natCast] at HT
  obtain ⟨A, hA⟩ : ∃ A, A = mkD K K [] := ⟨_, rfl⟩
  rw [← hA] at HT
  have HS : Hid (mkD K K [] = A) := hA.symm
  clear hA
  go_enter Try.func55, Try.ntmps55
  go_wp2
  go_loopw [0, 3] (fun kv ov wr => ∃ (n f : Nat) (out : List UInt8), n ≤ K ∧ n ≤ f ∧ out.length + f ≤ K ∧ kv = .int .i64 (n : Int) ∧ ov = .string ⟨out.toArray⟩ ∧ mkD f n out = A ∧ Below w.heap.size w wr) (fun kv _ _ => (intOf kv).toNat)
  case atStart => exact ⟨K, K, [], Nat.le_refl _, Nat.le_refl _, by simp, rfl, rfl, HS.out, Below.refl _ _⟩
  case round =>
    obtain ⟨n, f, out, hn, hnf, hof, rfl, rfl, hd, hbel⟩ := hrel
    by_cases hp : 0 < n
    · obtain ⟨g, rfl⟩ : ∃ g, f = g + 1 := ⟨f - 1, by omega⟩
      have Hd : Hid (mkD g (n / 10) ((48 + UInt8.ofNat (n % 10)) :: out) = A) := by show _ = _; rw [mkD, if_neg (by omega)] at hd; exact hd
      clear hd
      have hcv : ∀ (wx : World), (convert 22 9 (.slice (some ⟨wr.heap.size, 0, none⟩) 1 1)).run Try.prog (wr.alloc (.cells #[.int .u8 (48 + (n : Int) % 10)] 5)) = .ok (.string ⟨#[48 + UInt8.ofNat (n % 10)]⟩) (wr.alloc (.cells #[.int .u8 (48 + (n : Int) % 10)] 5)) := fun wx => by
        refine run_convert_bytes_back _ 22 9 5 ⟨wr.heap.size, 0, none⟩ 1 [48 + UInt8.ofNat (n % 10)] Try.underlying22 Try.underlying5 Try.underlying9 fun j hj => ?_
        obtain rfl : j = 0 := by simpa using hj
        rw [add_head, World.cell?_alloc_at (hn := rfl)]
        have hd := digit_nat n
        simp only [List.getElem_cons_zero]
        rw [hd]
        simp
      have hcv1 := hcv wr
      clear hcv
      go_wp2
      go_roundw
      case rel => exact ⟨n / 10, g, (48 + UInt8.ofNat (n % 10)) :: out, by omega, by omega, by rw [List.length_cons]; omega, by go_num, by rw [ba_cons], Hd.out, hbel.alloc hbel.size _⟩
      case measure => simp [intOf]; omega
    · have HN : Hid (n = 0) := by show n = 0; omega
      have HA : Hid (A = out) := by show _ = _; rw [← hd, HN.out, mkD_zero]
      clear hd
      go_wp2
      go_ret
      rw [HT.out, HA.out, ← ba_cons]
      exact ⟨rfl, hbel⟩
end Go.Proofs.Ytbkedgpligcicaa

namespace Go.Proofs.Ytbkedgpligcicaa
open Go Go.RowKit
set_option linter.unusedVariables false
set_option maxRecDepth 100000

theorem TmAt.below {w w' : World} {a : Option Addr} {l : List (List UInt8)} (h : TmAt w a l) (hb : Below w.heap.size w w') : TmAt w' a l := by
  refine h.keep hb.size fun g off ha hn => ?_
  obtain ⟨g', off', ha', hg', _⟩ := h.resolve_left hn
  rw [ha] at ha'; cases ha'
  exact hb.block _ hg'
def szG {X : Type} (g : Int → X → Int) : Int → List X → Int
  | left, [] => left
  | left, x :: t => if g left x < 0 then -1 else szG g (g left x) t
theorem szG_step {X : Type} (g : Int → X → Int) (l : List X) (d : X) (k : Nat) (left : Int) (h : k < l.length) : szG g left (l.drop k) = if g left (l.getD k d) < 0 then -1 else szG g (g left (l.getD k d)) (l.drop (k + 1)) := by
  rw [List.drop_eq_getElem_cons h, szG]; simp [h]
def szTx (left : Int) (l : List (List UInt8)) : Int := if left - (l.length : Int) < 0 then -1 else szG (fun a t => szN a t.length) (left - (l.length : Int)) l
theorem szTx_bound {left : Int} {l : List (List UInt8)} (h0 : 0 ≤ left) (h : ¬ szTx left l < 0) : (l.length : Int) ≤ left := by
  unfold szTx at h
  split at h
  · omega
  · omega
set_option maxHeartbeats 2000000 in
theorem szStrs_any (a : Option Addr) (c : Nat) (l : List (List UInt8)) (left : Int) (w : World) (h0 : 0 ≤ left) (h1 : left ≤ 1048576) (hn : l.length ≤ 9223372036854775807) (hA : ∀ i, (l.getD i []).length ≤ 9223372036854775807) (hS : TmAt w a l) :
    Calls Try.prog 17 #[.slice a l.length c, .int .i64 left] w fun e w' => e = .returned (.int .i64 (szTx left l)) ∧ w' = w := by
  have HS := hidd hS
  have HA := hidd hA
  clear hS hA
  by_cases h : left - (l.length : Int) < 0
  · have HE : Hid (szTx left l = -1) := by show _ = _; rw [szTx, if_pos h]
    go_enter Try.func17, Try.ntmps17
    go_wp2_with fail
    go_ret
    rw [HE.out]
    exact ⟨rfl, rfl⟩
  · obtain ⟨R, hR⟩ : ∃ R, szTx left l = R := ⟨_, rfl⟩
    rw [hR]
    have HE : Hid (szG (fun a t => szN a t.length) (left - (l.length : Int)) l = R) := by show _ = _; rw [← hR, szTx, if_neg h]
    clear hR
    go_enter Try.func17, Try.ntmps17
    go_wp2_with fail
    go_loopw [1, 5] (fun lv iv wr => ∃ (k : Nat) (x : Int), k ≤ l.length ∧ iv = .int .i64 (k : Int) ∧ lv = .int .i64 x ∧ 0 ≤ x ∧ x ≤ 1048576 ∧ szG (fun a t => szN a t.length) x (l.drop k) = R ∧ wr = w) (fun _ iv _ => l.length - (intOf iv).toNat)
    case atStart => exact ⟨0, _, Nat.zero_le _, rfl, rfl, by omega, by omega, by rw [List.drop_zero]; exact HE.out, rfl⟩
    case round =>
      clear HE
      obtain ⟨k, x, hk, rfl, rfl, hx0, hx1, hgo, hww⟩ := hrel
      have hww' := hww.symm
      subst hww'
      clear hww
      have HG := hidd hgo
      clear hgo
      by_cases hlt : k < l.length
      · have hkz : (k : Int) < (l.length : Int) := by omega
        obtain ⟨b, off, rfl, hbl, hc⟩ := HS.out.resolve_left (fun h => by rw [h] at hlt; simp at hlt)
        have x0 := hc k hlt
        rw [szG_step _ l [] k x hlt] at HG
        have hal := HA.out k
        clear hc
        generalize l.getD k [] = t at *
        have htl : (⟨t.toArray⟩ : ByteArray).size = t.length := by rw [Lib.size_eq]
        by_cases hX : x - (t.length : Int) < 0
        · have HR : Hid (R = -1) := by show _ = _; have := HG.out; rw [szN, if_pos hX, if_pos (by omega)] at this; exact this.symm
          go_wp2_with fail
          go_ret
          rw [HR.out]
          exact ⟨rfl, rfl⟩
        · have HR : Hid (szG (fun a (t : List UInt8) => szN a t.length) (x - (t.length : Int)) (l.drop (k + 1)) = R) := by show _ = _; have := HG.out; rw [szN, if_neg hX, if_neg hX] at this; exact this
          go_wp2_with fail
          go_roundw
          case rel => exact ⟨k + 1, x - (t.length : Int), by omega, by go_num, by go_num, by omega, by omega, HR.out, by first | trivial | rfl⟩
          case measure => simp [intOf]; omega
      · have hkz : ¬ (k : Int) < (l.length : Int) := by omega
        rw [List.drop_of_length_le (by omega), szG] at HG
        go_wp2_with fail
        go_ret
        rw [← HG.out]
        exact ⟨rfl, rfl⟩
theorem Try.infoStrD : (Try.prog.info? 9).map (fun i => (i.zero, i.size, i.bytes)) = some (some (.string ⟨#[]⟩), 1, 16) := by kernel_rfl
def mkTx (t : List UInt8) : Value := .string ⟨t.toArray⟩
/-- A row of its own, of type ty, that begins with the cells of l. -/
def RowX {X : Type} (mk : X → Value) (ty : TypeId) (d : X) (w : World) (g : Nat) (l : List X) : Prop := ∃ cur, w.heap[g]? = some (Obj.cells cur ty) ∧ l.length ≤ cur.size ∧ ∀ i, i < l.length → cur[i]? = some (mk (l.getD i d))
abbrev RowTx (w : World) (g : Nat) (l : List (List UInt8)) : Prop := RowX mkTx 9 [] w g l
theorem RowX.keep {X : Type} {mk : X → Value} {ty : TypeId} {d : X} {w w' : World} {g : Nat} {l : List X} (h : RowX mk ty d w g l) (hk : w'.heap[g]? = w.heap[g]?) : RowX mk ty d w' g l := by
  obtain ⟨cur, h1, h2, h3⟩ := h
  exact ⟨cur, hk.trans h1, h2, h3⟩
theorem RowX.lt {X : Type} {mk : X → Value} {ty : TypeId} {d : X} {w : World} {g : Nat} {l : List X} (h : RowX mk ty d w g l) : g < w.heap.size := by
  obtain ⟨cur, h1, h2, h3⟩ := h
  exact (Array.getElem?_eq_some_iff.1 h1).1
theorem RowX.below {X : Type} {mk : X → Value} {ty : TypeId} {d : X} {w w' : World} {g : Nat} {l : List X} (h : RowX mk ty d w g l) (hb : Below w.heap.size w w') : RowX mk ty d w' g l := h.keep (hb.block g h.lt)
theorem rowTx_hold {w : World} {g : Nat} {l : List (List UInt8)} (h : RowTx w g l) : TmAt w (some ⟨g, 0, none⟩) l := by
  refine Or.inr ⟨g, 0, rfl, h.lt, fun i hi => ?_⟩
  obtain ⟨cur, h1, h2, h3⟩ := h
  rw [Nat.zero_add, blkc h1, h3 i hi]; rfl
theorem row_ownX {X : Type} (mk : X → Value) (l : List X) (d : X) {w : World} {base g : Nat} {ty : TypeId} (h : w.ownsRow base ty 1 (.slice (some ⟨g, 0, none⟩) l.length l.length) l.length (l.map mk)) : RowX mk ty d w g l := by
  rcases h.2 with ⟨h', _⟩ | ⟨g', cap, cur, h', _, hg, hc1, hc2, hc3, hc4⟩
  · simp at h'
  · simp only [Value.slice.injEq, Option.some.injEq, Addr.mk.injEq, and_true, true_and] at h'
    obtain ⟨rfl, rfl⟩ := h'
    refine ⟨cur, hg, by omega, fun i hi => ?_⟩
    have := h.cellAt i (by omega)
    rw [blkc hg] at this
    rw [this]
    simp [hi]
theorem setOneX {X : Type} (mk : X → Value) (l : List X) (d : X) (k : Nat) (xs : List Value) (hx : xs.length = l.length) (hk : k < l.length) : ((l.take k).map mk ++ xs.drop k).set k (mk (l.getD k d)) = (l.take (k + 1)).map mk ++ xs.drop (k + 1) := by
  have e : ((l.take k).map mk).length = k := by simp; omega
  rw [List.set_append_right _ _ (by omega), e, Nat.sub_self, List.drop_eq_getElem_cons (l := xs) (i := k) (by omega), List.set_cons_zero, List.take_succ_eq_append_getElem hk, List.getD_eq_getElem?_getD, List.getElem?_eq_getElem hk, List.map_append, List.append_assoc]
  rfl
set_option maxHeartbeats 2000000 in
theorem toTx_any (a : Option Addr) (cap : Nat) (l : List (List UInt8)) (w : World) (hn : l.length ≤ 1048576) (hS : TmAt w a l) :
    Calls Try.prog 18 #[.slice a l.length cap] w fun e w' => e = .returned (.slice (some ⟨w.heap.size, 0, none⟩) l.length l.length) ∧ RowTx w' w.heap.size l ∧ Below w.heap.size w w' := by
  obtain ⟨i0, hi, hz0, hz1, hz2⟩ := info_parts Try.infoStrD
  have HS := hidd hS
  clear hS
  go_enter Try.func18, Try.ntmps18
  go_wp2_with (at_make; refine wpList_make_full _ rfl _ _ 23 rfl w.heap.size 9 i0 (.string ⟨#[]⟩) 1 Try.underlying23 hi hz0 hz1 _ _ _ _ l.length rfl rfl (by omega) (by omega) ?b2 ?b3 (Nat.le_refl _) ?_)
  case b2 => (first | omega | (rw [hz2]; omega))
  case b3 => unfold maxLen; omega
  intro w0 hown0 hgrow0
  generalize (madeCells #[Value.string ⟨#[]⟩] l.length).toList = xs at hown0
  have hxl : xs.length = l.length := by have := hown0.1; omega
  have HO0 := hidd hown0
  have HB0 : Hid (Below w.heap.size w w0) := (Below.refl _ _).grown hgrow0 (Nat.le_refl _) (fun k h => by cases h)
  clear hown0 hgrow0
  go_wp2
  go_loopw [4] (fun i wr => ∃ k : Nat, k ≤ l.length ∧ i = .int .i64 k ∧ wr.ownsRow w.heap.size 9 1 (.slice (some ⟨w.heap.size, 0, none⟩) l.length l.length) l.length ((l.take k).map mkTx ++ xs.drop k) ∧ Below w.heap.size w wr) (fun i _ => l.length - (intOf i).toNat)
  case atStart => exact ⟨0, Nat.zero_le _, rfl, HO0.out, HB0.out⟩
  case round =>
    obtain ⟨k, hk, rfl, hown, hbel⟩ := hrel
    have HO := hidd hown
    have HB := hidd hbel
    by_cases hlt : k < l.length
    · obtain ⟨b, off, rfl, hbl, hc⟩ := HS.out.resolve_left (fun h => by rw [h] at hlt; simp at hlt)
      have g1 := (hbel.cell (p := ⟨b, off + k, none⟩) hbl).trans (hc k hlt)
      have f1 := hown.frozenAt k
      have hex : ∃ u, wr.cell? ⟨w.heap.size, k, none⟩ = some u := by
        rw [hown.cellAt k (by omega)]
        have hlen : k < ((l.take k).map mkTx ++ xs.drop k).length := by rw [List.length_append, List.length_map, List.length_take, List.length_drop]; omega
        exact ⟨_, List.getElem?_eq_getElem hlen⟩
      obtain ⟨u, q1⟩ := hex
      have HSet := hidd (setOneX mkTx l [] k xs hxl hlt)
      generalize l.getD k [] = t at *
      clear hown hbel hc
      go_wp2
      go_roundw
      case rel =>
        have st := (HO.out.stored k (mkTx t)).1
        rw [HSet.out] at st
        exact ⟨k + 1, by omega, by go_num, st, HB.out.setCell (p := ⟨w.heap.size, k, none⟩) (Nat.le_refl _) _⟩
      case measure => simp [intOf]; omega
    · have HF := HO.out
      rw [List.take_of_length_le (by omega), List.drop_of_length_le (by omega), List.append_nil] at HF
      have HF2 := hidd (row_ownX mkTx l [] HF)
      clear HF hown hbel
      go_wp2
      go_ret
      exact ⟨rfl, HF2.out, HB.out⟩
set_option maxHeartbeats 1000000 in
theorem eqTx_any (a1 a2 : Option Addr) (c1 c2 : Nat) (l : List (List UInt8)) (w : World) (hn : l.length ≤ 1048576) (h1 : TmAt w a1 l) (h2 : TmAt w a2 l) :
    Calls Try.prog 20 #[.slice a1 l.length c1, .slice a2 l.length c2] w fun e w' => e = .returned (.bool true) ∧ Below w.heap.size w w' := by
  have H1 := hidd h1
  have H2 := hidd h2
  clear h1 h2
  go_enter Try.func20, Try.ntmps20
  go_wp2
  go_loopw [5] (fun i wr => ∃ k : Nat, k ≤ l.length ∧ i = .int .i64 k ∧ Below w.heap.size w wr) (fun i _ => l.length - (intOf i).toNat)
  case atStart => exact ⟨0, Nat.zero_le _, rfl, Below.refl _ _⟩
  case round =>
    obtain ⟨k, hk, rfl, hbel⟩ := hrel
    have HB := hidd hbel
    by_cases hlt : k < l.length
    · obtain ⟨b1, o1, rfl, hb1, hc1⟩ := (H1.out.below hbel).resolve_left (fun h => by rw [h] at hlt; simp at hlt)
      obtain ⟨b2, o2, rfl, hb2, hc2⟩ := (H2.out.below hbel).resolve_left (fun h => by rw [h] at hlt; simp at hlt)
      have g1 := hc1 k hlt
      have g2 := hc2 k hlt
      clear hc1 hc2 hbel
      generalize l.getD k [] = t at g1 g2
      go_wp2
      go_quiet (fail)
      go_wp2
      go_roundw
      case rel => exact ⟨k + 1, by omega, by go_num, below_drewN HB.out _⟩
      case measure => simp [intOf]; omega
    · clear hbel
      go_wp2
      go_ret
      exact ⟨rfl, HB.out⟩
def RowN (w : World) (g n : Nat) (ty : TypeId) : Prop := ∃ cur, w.heap[g]? = some (Obj.cells cur ty) ∧ n ≤ cur.size
theorem RowN.cell {W : World} {b n : Nat} {ty : TypeId} (h : RowN W b n ty) {j : Nat} (hj : j < n) : (∃ u, W.cell? ⟨b, j, none⟩ = some u) ∧ W.frozen? ⟨b, j, none⟩ = false := by
  obtain ⟨cur, h1, h2⟩ := h
  refine ⟨⟨cur[j]'(by omega), ?_⟩, blkf h1 j⟩
  rw [blkc h1 j]
  exact Array.getElem?_eq_getElem (by omega)
theorem RowN.keep {w w' : World} {g n : Nat} {ty : TypeId} (h : RowN w g n ty) (hk : w'.heap[g]? = w.heap[g]?) : RowN w' g n ty := by
  obtain ⟨cur, h1, h2⟩ := h
  exact ⟨cur, hk.trans h1, h2⟩
theorem RowN.set {w : World} {g n : Nat} {ty : TypeId} (h : RowN w g n ty) (j : Nat) (u : Value) : RowN (w.setCell ⟨g, j, none⟩ u) g n ty := by
  obtain ⟨cur, h1, h2⟩ := h
  exact ⟨_, heap_setCell_same w g j _ _ u h1, by simpa using h2⟩
theorem grown_belowX {w w1 w2 : World} {b : Nat} (h : w.grownBy w1 (some b)) (k : Below w1.heap.size w1 w2) : w.grownBy w2 (some b) :=
  ⟨k.os.trans h.os, k.tape.trans h.tape, k.output.trans h.output, Nat.le_trans h.size k.size, fun i hi hb => by
    rw [k.block i (Nat.lt_of_lt_of_le hi h.size), h.block i hi hb]⟩
theorem grown_setX {w w1 : World} {b : Nat} (h : w.grownBy w1 (some b)) (j : Nat) (u : Value) : w.grownBy (w1.setCell ⟨b, j, none⟩ u) (some b) :=
  ⟨h.os, h.tape, h.output, by have := h.size; simpa using this, fun i hi hb => by
    rw [heap_set_other w1 b j u i (fun e => hb (by rw [e]))]
    exact h.block i hi hb⟩
set_option maxHeartbeats 2000000 in
theorem markTx_any (b n c : Nat) (w : World) (hn : n ≤ 1048576) (hr : RowN w b n 9) :
    Calls Try.prog 21 #[.slice (some ⟨b, 0, none⟩) n c, .int .i64 1] w fun e w' => e = .returned (.int .i64 ((1 + n : Nat) : Int)) ∧ w.grownBy w' (some b) := by
  have HR := hidd hr
  clear hr
  go_enter Try.func21, Try.ntmps21
  go_wp2
  go_loopw [1, 5] (fun kv iv wr => ∃ i : Nat, i ≤ n ∧ iv = .int .i64 (i : Int) ∧ kv = .int .i64 ((1 + i : Nat) : Int) ∧ w.grownBy wr (some b) ∧ RowN wr b n 9) (fun _ iv _ => n - (intOf iv).toNat)
  case atStart => exact ⟨0, Nat.zero_le _, rfl, by simp, ⟨rfl, rfl, rfl, Nat.le_refl _, fun _ _ _ => rfl⟩, HR.out⟩
  case round =>
    obtain ⟨i, hi, rfl, rfl, hfz, hrn⟩ := hrel
    have HF := hidd hfz
    have HRn := hidd hrn
    clear hfz hrn
    by_cases hlt : i < n
    · have hltz : (i : Int) < (n : Int) := by omega
      obtain ⟨K, hK⟩ : ∃ K, 1 + i = K := ⟨_, rfl⟩
      have HK := hidd hK
      have hK0 : 1 ≤ K := by omega
      have hKl : K ≤ 1048577 := by omega
      try rw [hK]
      clear hK
      have HM := hidd (markText_any (K : Int) wr (by omega) (by omega))
      generalize mkText (K : Int) = T at HM
      go_wp2_with fail
      refine HM.out.mono ?_
      rintro e w2 ⟨rfl, hb2⟩
      have HF2 := hidd (grown_belowX HF.out hb2)
      have hr2 : RowN w2 b n 9 := HRn.out.keep (by
        obtain ⟨cur, h1, _⟩ := HRn.out
        exact hb2.block b (Array.getElem?_eq_some_iff.1 h1).1)
      obtain ⟨⟨u0, q0⟩, f0⟩ := hr2.cell hlt
      have HS := hidd (grown_setX HF2.out i (.string T))
      have HS2 := hidd (hr2.set i (.string T))
      clear hb2 HM hr2
      dsimp only
      go_wp2_with fail
      go_roundw
      case rel =>
        refine ⟨i + 1, by omega, by go_num, ?_, HS.out, HS2.out⟩
        have := HK.out
        first | (congr 1; omega) | go_num
      case measure => simp [intOf]; omega
    · have hltz : ¬ (i : Int) < (n : Int) := by omega
      obtain rfl : i = n := by omega
      go_wp2
      go_ret
      exact ⟨rfl, HF.out⟩
end Go.Proofs.Ytbkedgpligcicaa

namespace Go.Proofs.Ytbkedgpligcicaa
open Go Go.RowKit
set_option linter.unusedVariables false
set_option maxRecDepth 100000

/-- What the program's reader does: its answer owns its memory, place by place. -/
def ReadI (fn : Nat) : Prop := ∀ (b off cap : Nat) (bs : List UInt8) (w : World), bs.length ≤ 9223372036854775807 → bs.length ≤ cap → BytesAt w b off bs → b < w.heap.size →
  Calls Try.prog fn #[.slice (some ⟨b, off, none⟩) bs.length cap] w fun e w' => ∃ a c lo hi xs, e = .returned (.tuple #[.agg #[.int .i64 (readO bs).1.1, .slice a (readO bs).1.2.length c], .int .i64 (readO bs).2]) ∧ w.heap.size ≤ lo ∧ StsAt w' lo hi (.slice a (readO bs).1.2.length c) (readO bs).1.2 xs ∧ DisX xs (readO bs).1.2.length ∧ Below w.heap.size w w'
set_option maxHeartbeats 8000000 in
theorem implRead_any : ReadI 14 := by
  intro b off cap bs w hlen hcap hc hb
  have Hc := hidd hc
  clear hc
  have HBa : Hid (Below w.heap.size w (w.alloc (.cells #[.int .i64 0, .slice none 0 0] 27))) := (Below.refl _ _).alloc (Nat.le_refl _) _
  have HX0 := hidd (heap_alloc_new w (.cells #[.int .i64 0, .slice none 0 0] 27))
  go_enter Try.func14, Try.ntmps14
  go_upto_region 1 with fail
  obtain ⟨wa, hwa⟩ : ∃ wa, w.alloc (.cells #[.int .i64 0, .slice none 0 0] 27) = wa := ⟨_, rfl⟩
  rw [hwa] at HBa HX0
  try rw [hwa]
  clear hwa
  by_cases hl : 1048576 < bs.length
  · have hlz : (bs.length : Int) > 1048576 := by omega
    have HO := hidd (readO_long hl)
    have x0 := blkc HX0.out 0
    have x1 := blkc HX0.out 1
    have f0 := blkf HX0.out 0
    have f1 := blkf HX0.out 1
    have HR := hidd (box_ret (x' := .int .i64 0) (y' := .slice none 0 0) HBa.out HX0.out)
    have z0 := blkc HR.out.2 0
    have z1 := blkc HR.out.2 1
    go_wp2_with fail
    refine bodyPost_ret (v := .tuple #[.agg #[.int .i64 0, .slice none 0 0], .int .i64 2]) (by simp [results, Try.results14, go_sem, z0, z1]) rfl ?_
    refine ⟨none, 0, w.heap.size, _, [], by rw [HO.out]; rfl, Nat.le_refl _, by rw [HO.out]; exact StsAt.nil _ _, by rw [HO.out]; exact fun i j b _ hj => by simp at hj, HR.out.1⟩
  have hlz : ¬ (bs.length : Int) > 1048576 := by omega
  have HSo := hidd (statesOf_any b off cap bs wa (by omega) hcap (Hc.out.below HBa.out) (Nat.lt_of_lt_of_le hb HBa.out.size))
  go_wp2_with fail
  refine HSo.out.mono ?_
  rintro e w1 ⟨hb1, a, n, c, t, rfl, hcs⟩
  have HB1 := hidd (HBa.out.trans (hb1.mono HBa.out.size))
  have HX1 := hidd (blko HX0.out hb1)
  have hza : w.heap.size < wa.heap.size := (Array.getElem?_eq_some_iff.1 HX0.out).1
  clear hb1 HSo HX0
  dsimp only
  rcases hcs with ⟨rfl, hno⟩ | ⟨rfl, S, lo, hi, xs, hrd, rfl, hlo, hst, hdi⟩
  · have HO := hidd (readO_none hl (readD_impl_none hno))
    clear hno
    have x0 := blkc HX1.out 0
    have x1 := blkc HX1.out 1
    have f0 := blkf HX1.out 0
    have f1 := blkf HX1.out 1
    have HR := hidd (box_ret (x' := .int .i64 0) (y' := .slice none 0 0) HB1.out HX1.out)
    have z0 := blkc HR.out.2 0
    have z1 := blkc HR.out.2 1
    go_wp2_with fail
    refine bodyPost_ret (v := .tuple #[.agg #[.int .i64 0, .slice none 0 0], .int .i64 15]) (by simp [results, Try.results14, go_sem, z0, z1]) rfl ?_
    refine ⟨none, 0, w.heap.size, _, [], by rw [HO.out]; rfl, Nat.le_refl _, by rw [HO.out]; exact StsAt.nil _ _, by rw [HO.out]; exact fun i j b _ hj => by simp at hj, HR.out.1⟩
  · have HRd := hidd hrd
    have HSt := hidd hst
    have HDi := hidd hdi
    obtain ⟨hv1, hv2, hv3, hv4⟩ := rdI_inv hrd
    have hAr : ∀ i, (arcsAt S i).length ≤ 1048576 := fun i => by
      by_cases hi' : i < S.length
      · have e : arcsAt S i = S[i].2 := by simp [arcsAt, hi']
        have := (hv3 S[i] (List.getElem_mem hi')).1
        rw [e]; omega
      · have : arcsAt S i = [] := by
          unfold arcsAt
          rw [List.getD_eq_getElem?_getD, List.getElem?_eq_none (by omega)]; rfl
        rw [this]; simp
    have HAr := hidd hAr
    have Hv4 := hidd hv4
    clear hrd hst hdi hv1 hv3 hv4 hAr
    obtain ⟨a', c', e', hH⟩ := HSt.out.hold
    simp only [Value.slice.injEq, true_and] at e'
    obtain ⟨rfl, rfl⟩ := e'
    have HE := hidd (endingsM_any a c S w1 (by omega) HAr.out hH)
    clear hH
    go_wp2_with fail
    refine HE.out.mono ?_
    rintro e w2 ⟨v, ok, rfl, hb2, hyes, hmust⟩
    have HB2 := hidd (HB1.out.trans (hb2.mono HB1.out.size))
    have HX2 := hidd (blko HX1.out hb2)
    have Hb2 := hidd hb2
    clear hb2 HE HB1
    dsimp only
    cases ok with
    | false =>
      have HO := hidd (readO_none hl (readD_notMust HRd.out (fun hm => by have := hmust hm; cases this)))
      clear hyes hmust
      have x0 := blkc HX2.out 0
      have x1 := blkc HX2.out 1
      have f0 := blkf HX2.out 0
      have f1 := blkf HX2.out 1
      have HR := hidd (box_ret (x' := .int .i64 0) (y' := .slice none 0 0) HB2.out HX2.out)
      have z0 := blkc HR.out.2 0
      have z1 := blkc HR.out.2 1
      go_wp2_with fail
      refine bodyPost_ret (v := .tuple #[.agg #[.int .i64 0, .slice none 0 0], .int .i64 15]) (by simp [results, Try.results14, go_sem, z0, z1]) rfl ?_
      refine ⟨none, 0, w.heap.size, _, [], by rw [HO.out]; rfl, Nat.le_refl _, by rw [HO.out]; exact StsAt.nil _ _, by rw [HO.out]; exact fun i j b _ hj => by simp at hj, HR.out.1⟩
    | true =>
      obtain ⟨be, E, rfl, hbe, hrow, hok⟩ := hyes rfl
      have HO := hidd (readO_some hl (readD_ok HRd.out hok))
      have hw1 := HSt.out.le
      have HSt2 := hidd (HSt.out.keep Hb2.out.size fun b h1 h2 => Hb2.out.block b (by omega))
      have HDo := hidd (dictOf_any a c S E be lo hi xs w2 HSt2.out HDi.out hrow hok HAr.out (fun j hj hx => by have := (hx.range HSt.out hj).2; omega))
      clear hyes hmust hrow hok
      go_wp2_with fail
      refine HDo.out.mono ?_
      rintro e w3 ⟨rfl, hs3, hb3⟩
      have HS3 := hidd hs3
      have HX3 : Hid (w3.heap[w.heap.size]? = some (.cells #[.int .i64 0, .slice none 0 0] 27)) := (hb3.block _ (Array.getElem?_eq_some_iff.1 HX2.out).1 (by
        rintro ⟨j, hj, hx⟩
        have := (hx.range HSt.out hj).1
        omega)).trans HX2.out
      have HB3 : Hid (Below w.heap.size w w3) := HB2.out.trans (hb3.below HB2.out.size (fun i hi' ⟨j, hj, hx⟩ => by
        have := (hx.range HSt.out hj).1
        omega))
      clear hs3 hb3 HDo
      dsimp only
      generalize hV : valE E 0 = V at *
      have HV := hidd hV
      clear hV
      have x0 := blkc HX3.out 0
      have x1 := blkc HX3.out 1
      have f0 := blkf HX3.out 0
      have f1 := blkf HX3.out 1
      have HR := hidd (box_ret (x' := .int .i64 (V : Int)) (y' := .slice a S.length c) HB3.out HX3.out)
      have z0 := blkc HR.out.2 0
      have z1 := blkc HR.out.2 1
      have HHo : Hid (StsAt ((w3.setCell ⟨w.heap.size, 0, none⟩ (.int .i64 (V : Int))).setCell ⟨w.heap.size, 1, none⟩ (.slice a S.length c)) lo hi (.slice a S.length c) (S.map (ahdS E)) xs) := HS3.out.keep (by simp) fun b h1 h2 => by
        rw [heap_set_other _ w.heap.size 1 _ b (by omega), heap_set_other w3 w.heap.size 0 _ b (by omega)]
      go_wp2_with fail
      refine bodyPost_ret (v := .tuple #[.agg #[.int .i64 (V : Int), .slice a S.length c], .int .i64 0]) (by simp [results, Try.results14, go_sem, z0, z1]) rfl ?_
      refine ⟨a, c, lo, hi, xs, ?_, by omega, ?_, ?_, HR.out.1⟩
      · rw [HO.out]; simp
      · rw [HO.out]
        have := HHo.out
        simpa using this
      · rw [HO.out]
        have := HDi.out
        simpa using this
end Go.Proofs.Ytbkedgpligcicaa

namespace Go.Proofs.Ytbkedgpligcicaa
open Go Go.RowKit
set_option linter.unusedVariables false
set_option maxRecDepth 100000

/-! An answer that is written over, place by place, and held against what was written. -/
def mkAr (k : Nat) (i : Nat) : Ar := (((k + 3 * i : Nat) : Int), ((k + 3 * i + 1 : Nat) : Int), ((k + 3 * i + 2 : Nat) : Int))
def mkAf (k : Nat) (l : List Ar) (i : Nat) : List Ar := l.mapIdx fun j a => if j < i then mkAr k j else a
theorem mkAf_len (k : Nat) (l : List Ar) (i : Nat) : (mkAf k l i).length = l.length := by simp [mkAf]
theorem mkAf_zero (k : Nat) (l : List Ar) : mkAf k l 0 = l := by
  apply List.ext_getElem
  · simp [mkAf]
  · intro i h1 h2; simp [mkAf]
theorem mkAf_at (k : Nat) (l : List Ar) (i : Nat) {j : Nat} (h : j < l.length) : (mkAf k l i).getD j ar0 = if j < i then mkAr k j else l.getD j ar0 := by
  simp [mkAf, List.getD_eq_getElem?_getD, h]
def mkA (k : Nat) (l : List Ar) : List Ar := mkAf k l l.length
theorem mkA_len (k : Nat) (l : List Ar) : (mkA k l).length = l.length := mkAf_len _ _ _
theorem HoldA.mark3 {W : World} {b off k i : Nat} {l : List Ar} {cur : Array Value} (h : HoldA W (some ⟨b, off, none⟩) (mkAf k l i)) (hi : i < l.length) (hb : W.heap[b]? = some (.cells cur 85)) :
    HoldA (((W.setCell ⟨b, off + i * 3, none⟩ (.int .i64 ((k + 3 * i : Nat) : Int))).setCell ⟨b, off + i * 3 + 1, none⟩ (.int .i64 ((k + 3 * i + 1 : Nat) : Int))).setCell ⟨b, off + i * 3 + 2, none⟩ (.int .i64 ((k + 3 * i + 2 : Nat) : Int))) (some ⟨b, off, none⟩) (mkAf k l (i + 1)) := by
  rcases h with h | ⟨b', off', e, hbl, hc⟩
  · have := congrArg List.length h
    rw [mkAf_len, List.length_nil] at this
    omega
  · cases e
    refine Or.inr ⟨b, off, rfl, by simpa using hbl, fun j hj => ?_⟩
    rw [mkAf_len] at hj
    have s1 := blk_setk hb (off + i * 3) (.int .i64 ((k + 3 * i : Nat) : Int))
    have s2 := blk_setk s1 (off + i * 3 + 1) (.int .i64 ((k + 3 * i + 1 : Nat) : Int))
    have s3 := blk_setk s2 (off + i * 3 + 2) (.int .i64 ((k + 3 * i + 2 : Nat) : Int))
    rw [blkc s3, blkc s3, blkc s3, mkAf_at k l (i + 1) hj]
    have hc' := hc j (by rw [mkAf_len]; exact hj)
    rw [mkAf_at k l i hj, blkc hb, blkc hb, blkc hb] at hc'
    obtain ⟨c0, c1, c2⟩ := hc'
    have l0 := (Array.getElem?_eq_some_iff.1 c0).1
    have l1 := (Array.getElem?_eq_some_iff.1 c1).1
    have l2 := (Array.getElem?_eq_some_iff.1 c2).1
    by_cases hji : j = i
    · subst hji
      rw [if_pos (by omega)]
      refine ⟨?_, ?_, ?_⟩
      · rw [Array.getElem?_setIfInBounds_ne (by omega), Array.getElem?_setIfInBounds_ne (by omega), Array.getElem?_setIfInBounds_self_of_lt l0]; rfl
      · rw [Array.getElem?_setIfInBounds_ne (by omega), Array.getElem?_setIfInBounds_self_of_lt (by simpa using l1)]; rfl
      · rw [Array.getElem?_setIfInBounds_self_of_lt (by simpa using l2)]; rfl
    · have hq : (j < i + 1) ↔ j < i := by omega
      simp only [hq]
      rw [Array.getElem?_setIfInBounds_ne (by omega), Array.getElem?_setIfInBounds_ne (by omega), Array.getElem?_setIfInBounds_ne (by omega), Array.getElem?_setIfInBounds_ne (by omega), Array.getElem?_setIfInBounds_ne (by omega), Array.getElem?_setIfInBounds_ne (by omega), Array.getElem?_setIfInBounds_ne (by omega), Array.getElem?_setIfInBounds_ne (by omega), Array.getElem?_setIfInBounds_ne (by omega)]
      exact ⟨c0, c1, c2⟩
set_option maxHeartbeats 4000000 in
theorem markA_any (a : Option Addr) (c k : Nat) (l : List Ar) (w : World) (hn : l.length ≤ 1048576) (hk : k ≤ 17592186044416) (h : HoldA w a l) (ht : ∀ b off, a = some ⟨b, off, none⟩ → ∃ cur, w.heap[b]? = some (.cells cur 85)) :
    Calls Try.prog 87 #[.slice a l.length c, .int .i64 (k : Int)] w fun e w' => e = .returned (.int .i64 ((k + 3 * l.length : Nat) : Int)) ∧ HoldA w' a (mkA k l) ∧ ButX (fun b => ∃ off, a = some ⟨b, off, none⟩) w w' ∧ ∀ b off, a = some ⟨b, off, none⟩ → ∃ cur, w'.heap[b]? = some (.cells cur 85) := by
  have H := hidd h
  have HT := hidd ht
  clear h ht
  go_enter Try.func87, Try.ntmps87
  go_wp2_with fail
  go_loopw [1, 5] (fun kv iv wr => ∃ i : Nat, i ≤ l.length ∧ kv = .int .i64 ((k + 3 * i : Nat) : Int) ∧ iv = .int .i64 (i : Int) ∧ HoldA wr a (mkAf k l i) ∧ ButX (fun b => ∃ off, a = some ⟨b, off, none⟩) w wr ∧ ∀ b off, a = some ⟨b, off, none⟩ → ∃ cur, wr.heap[b]? = some (.cells cur 85)) (fun _ iv _ => l.length - (intOf iv).toNat)
  case atStart => exact ⟨0, Nat.zero_le _, by simp, rfl, by rw [mkAf_zero]; exact H.out, ButX.refl _ _, HT.out⟩
  case round =>
    obtain ⟨i, hi, rfl, rfl, hA, hB, hT⟩ := hrel
    clear H HT
    by_cases hlt : i < l.length
    · have hltz : (i : Int) < (l.length : Int) := by omega
      obtain ⟨b, off, rfl, hbl, hc⟩ := hA.resolve_left (fun e => by have := congrArg List.length e; rw [mkAf_len, List.length_nil] at this; omega)
      obtain ⟨cur, hcur⟩ := hT b off rfl
      obtain ⟨c0, c1, c2⟩ := hc i (by rw [mkAf_len]; exact hlt)
      have HM := hidd (HoldA.mark3 (k := k) (i := i) (l := l) (Or.inr ⟨b, off, rfl, hbl, hc⟩) hlt hcur)
      have f0 : wr.frozen? ⟨b, off + i * 3, none⟩ = false := frozen_of_row wr b _ cur _ hcur
      have f1 : wr.frozen? ⟨b, off + i * 3 + 1, none⟩ = false := frozen_of_row wr b _ cur _ hcur
      have f2 : wr.frozen? ⟨b, off + i * 3 + 2, none⟩ = false := frozen_of_row wr b _ cur _ hcur
      have HB := hidd hB
      have HT := hidd hT
      have Hcur := hidd hcur
      clear hA hB hT hc hcur
      generalize (mkAf k l i).getD i ar0 = p at *
      obtain ⟨p0, p1, p2⟩ := p
      dsimp only at c0 c1 c2
      obtain ⟨K, hK⟩ : ∃ K, k + 3 * i = K := ⟨_, rfl⟩
      have hKb : K ≤ 17592190000000 := by omega
      rw [hK] at HM
      have HKe := hidd hK
      rw [hK]
      clear hK
      rw [show ((K + 1 : Nat) : Int) = (K : Int) + 1 by omega, show ((K + 2 : Nat) : Int) = (K : Int) + 1 + 1 by omega] at HM
      go_wp2_with fail
      go_roundw
      case rel =>
        refine ⟨i + 1, by omega, ?_, by go_num, HM.out, ⟨HB.out.os, HB.out.tape, HB.out.output, by simpa using HB.out.size, fun b' hb' hn => ?_⟩, fun b' off' e => ?_⟩
        · have := HKe.out
          rw [show k + 3 * (i + 1) = K + 3 by omega]
          go_num
        · have hne : b' ≠ b := fun e => hn ⟨off, by rw [e]⟩
          rw [heap_set_other _ b _ _ b' hne, heap_set_other _ b _ _ b' hne, heap_set_other _ b _ _ b' hne]
          exact HB.out.block b' hb' hn
        · cases e
          exact ⟨_, blk_setk (blk_setk (blk_setk Hcur.out _ _) _ _) _ _⟩
      case measure => simp [intOf]; omega
    · have hltz : ¬ (i : Int) < (l.length : Int) := by omega
      obtain rfl : i = l.length := by omega
      have HA := hidd hA
      have HB := hidd hB
      have HT := hidd hT
      clear hA hB hT
      generalize hK : k + 3 * l.length = K at *
      go_wp2_with fail
      go_ret
      exact ⟨rfl, HA.out, HB.out, HT.out⟩
set_option maxHeartbeats 4000000 in
theorem heldA_any (a : Option Addr) (c k : Nat) (l : List Ar) (w : World) (hn : l.length ≤ 1048576) (hk : k ≤ 17592186044416) (h : HoldA w a (mkA k l)) :
    Calls Try.prog 88 #[.slice a l.length c, .int .i64 (k : Int)] w fun e w' => e = .returned (.int .i64 ((k + 3 * l.length : Nat) : Int)) ∧ ∃ m, w' = w.drewN m := by
  have H := hidd h
  clear h
  go_enter Try.func88, Try.ntmps88
  go_wp2_with fail
  go_loopw [1, 5] (fun kv iv wr => ∃ i : Nat, i ≤ l.length ∧ kv = .int .i64 ((k + 3 * i : Nat) : Int) ∧ iv = .int .i64 (i : Int) ∧ wr = w) (fun _ iv _ => l.length - (intOf iv).toNat)
  case atStart => exact ⟨0, Nat.zero_le _, by simp, rfl, rfl⟩
  case round =>
    obtain ⟨i, hi, rfl, rfl, hwr⟩ := hrel
    subst hwr
    by_cases hlt : i < l.length
    · have hltz : (i : Int) < (l.length : Int) := by omega
      obtain ⟨b, off, rfl, hbl, hc⟩ := H.out.resolve_left (fun e => by have := congrArg List.length e; rw [mkA_len, List.length_nil] at this; omega)
      obtain ⟨c0, c1, c2⟩ := hc i (by rw [mkA_len]; exact hlt)
      unfold mkA at c0 c1 c2
      rw [mkAf_at k l l.length hlt, if_pos hlt] at c0 c1 c2
      unfold mkAr at c0 c1 c2
      dsimp only at c0 c1 c2
      clear hc
      obtain ⟨K, hK⟩ : ∃ K, k + 3 * i = K := ⟨_, rfl⟩
      have hKb : K ≤ 17592190000000 := by omega
      rw [hK] at c0 c1 c2
      have HKe := hidd hK
      rw [hK]
      clear hK
      rw [show ((K + 1 : Nat) : Int) = (K : Int) + 1 by omega] at c1
      rw [show ((K + 2 : Nat) : Int) = (K : Int) + 1 + 1 by omega] at c2
      go_wp2_with fail
      go_roundw
      case rel =>
        refine ⟨i + 1, by omega, ?_, by go_num, trivial⟩
        have := HKe.out
        rw [show k + 3 * (i + 1) = K + 3 by omega]
        go_num
      case measure => simp [intOf]; omega
    · have hltz : ¬ (i : Int) < (l.length : Int) := by omega
      obtain rfl : i = l.length := by omega
      generalize hK : k + 3 * l.length = K at *
      go_wp2_with fail
      go_ret
      exact ⟨rfl, 0, rfl⟩
end Go.Proofs.Ytbkedgpligcicaa
