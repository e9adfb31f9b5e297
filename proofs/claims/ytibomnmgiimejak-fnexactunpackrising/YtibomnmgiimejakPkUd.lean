import Derived.Test.YtibomnmgiimejakPkUc
import Derived.Test.YtibomnmgiimejakPkG0
import Derived.Test.YtibomnmgiimejakPkK
import Derived.Test.YtibomnmgiimejakPkUe
namespace Go.Proofs.Ytibomnmgiimejak
open Go Go.RowKit
set_option linter.unusedVariables false
set_option linter.unusedSimpArgs false

theorem leNum_bit (l : List UInt8) : ∀ p, p < 8 * l.length → leNum l / 2 ^ p % 2 = (l.getD (p / 8) 0).toNat / 2 ^ (p % 8) % 2 := by
  induction l with
  | nil => intro p hp; simp at hp
  | cons b t ih =>
    intro p hp
    rw [leNum]
    have hb : b.toNat < 256 := UInt8.toNat_lt _
    by_cases h8 : p < 8
    · have e1 : p / 8 = 0 := by omega
      have e2 : p % 8 = p := by omega
      rw [e1, e2, List.getD_cons_zero]
      have e3 : 256 * leNum t = 2 ^ p * (2 * (2 ^ (7 - p) * leNum t)) := by
        have : (256 : Nat) = 2 ^ p * (2 * 2 ^ (7 - p)) := by
          rw [← Nat.pow_succ', ← Nat.pow_add, show p + (7 - p + 1) = 8 from by omega]
        rw [this]; simp [Nat.mul_assoc]
      rw [e3, Nat.add_mul_div_left _ _ (Nat.pow_pos (by omega))]
      omega
    · obtain ⟨q, rfl⟩ : ∃ q, p = q + 8 := ⟨p - 8, by omega⟩
      have e1 : (q + 8) / 8 = q / 8 + 1 := by omega
      have e2 : (q + 8) % 8 = q % 8 := by omega
      rw [e1, e2, List.getD_cons_succ, ← ih q (by rw [List.length_cons] at hp; omega), show 2 ^ (q + 8) = 256 * 2 ^ q from by rw [Nat.pow_add]; omega, ← Nat.div_div_eq_div_mul]
      congr 2
      omega

theorem nums62_append {a b : List Nat} (h1 : nums62 a) (h2 : ∀ v ∈ b, v < 4611686018427387904) : nums62 (a ++ b) := fun v hv => (List.mem_append.1 hv).elim (h1 v) (h2 v)
theorem bit_of (M X k : Nat) : M / 2 ^ X / 2 ^ k % 2 = M / 2 ^ (X + k) % 2 := by rw [Nat.pow_add, Nat.div_div_eq_div_mul]

set_option maxHeartbeats 2000000 in
set_option maxRecDepth 100000 in
theorem l03Unpack_some (b off cap : Nat) (bs : List UInt8) (w : World) (hpos : 0 < bs.length) (hle : bs.length ≤ 1048576) (hcap : bs.length ≤ cap) (hc : BytesAt w b off bs) :
    Calls Try.prog 40 #[.slice (some ⟨b, off, none⟩) bs.length cap, .int .i64 0] w fun e w' => Below w.heap.size w w' ∧ ((unpackL bs = none ∧ ∃ xo xc, e = .returned (.tuple #[.slice xo 0 xc, .int .i64 0, .bool false])) ∨ ∃ vs s u, unpackL bs = some (vs, s) ∧ e = .returned (.tuple #[u, .int .i64 (s : Int), .bool true]) ∧ w'.ownsRow w.heap.size 3 1 u vs.length (nCells vs)) := by
  have Hc := hidd hc
  have hb : b < w.heap.size := cell_lt (hc 0 hpos)
  have HG := hidd (specGet_any b off cap 0 bs w hle (by omega) hc)
  rw [List.drop_zero] at HG
  clear hc
  obtain ⟨i0, hi, hz0, hz1, hz2⟩ := info_parts infoN64
  go_enter Try.func40, Try.ntmps40
  go_wp2_with (first | (go_at_call 66; refine HG.out.mono ?_))
  rintro e w1 ⟨⟨m1, rfl⟩, h1⟩
  have HB1 : Hid (Below w.heap.size w (w.drewN m1)) := below_drewN (Below.refl _ _) m1
  generalize w.drewN m1 = w1 at *
  clear HG
  rcases h1 with ⟨hg, x, y, rfl⟩ | ⟨c, s, hg, rfl⟩
  · have HU : Hid (unpackL bs = none) := by show _ = _; simp [unpackL, hg]
    clear hg
    go_wp2
    go_ret3
    exact ⟨HB1.out.alloc HB1.out.size _, Or.inl ⟨HU.out, _, _, rfl⟩⟩
  · obtain ⟨hs1, hs9, hs0⟩ := getL_le hg
    by_cases hbig : 4096 < c
    · have HU : Hid (unpackL bs = none) := by show _ = _; simp [unpackL, hg, hbig]
      have hbz : (4096 : Int) < (c : Int) := by omega
      clear hg
      go_wp2
      go_ret3
      exact ⟨HB1.out.alloc HB1.out.size _, Or.inl ⟨HU.out, _, _, rfl⟩⟩
    · have HR : Hid (rawL bs = match rawGo (bs.drop s) c with
          | none => none
          | some (vs, r) => some (vs, s + r)) := by
        show _ = _
        rw [rawL, hg]
        simp only
        rw [if_neg hbig]
        cases rawGo (bs.drop s) c <;> rfl
      have hbz : ¬ (4096 : Int) < (c : Int) := by omega
      have hsz : (0 : Int) + (s : Int) = (s : Int) := by omega
      clear hg
      go_wp2
      have HO1 := hidd (own_mono (own_empty w1 3) HB1.out.size)
      have HB2 := hidd (HB1.out.alloc HB1.out.size (.cells #[] 3))
      clear HB1
      go_loopw [1, 10] (fun av vl wr => ∃ (at_ : Nat) (acc : List Nat), av = .int .i64 (at_ : Int) ∧ at_ ≤ bs.length ∧ wr.ownsRow w.heap.size 3 1 vl acc.length (nCells acc) ∧ vl ≠ .slice none 0 0 ∧ Below w.heap.size w wr ∧ acc.length ≤ c ∧ nums62 acc ∧ (rawL bs = match rawGo (bs.drop at_) (c - acc.length) with
          | none => none
          | some (us, r) => some (acc ++ us, at_ + r))) (fun _ vl _ => c - vlen vl)
      case atStart => exact ⟨s, [], by go_num, hs1, HO1.out, by simp, HB2.out, by simp, fun v hv => by simp at hv, HR.out⟩
      case round =>
        clear HO1 HB2 HR
        obtain ⟨at_, acc, rfl, hat, hown, hnn, hbel, hlen, hnums, hraw⟩ := hrel
        have HO := hidd hown
        have HB := hidd hbel
        have HU := hidd hraw
        have Hnums := hidd hnums
        have Hnn := hidd hnn
        have hwl : w.heap.size ≤ wr.heap.size := hbel.size
        clear hown hbel hraw hnums hnn
        obtain ⟨ao, cp, hvl⟩ := own_shape HO.out
        subst hvl
        by_cases hlt : acc.length < c
        · obtain ⟨n, hn⟩ : ∃ n, min (c - acc.length) 128 = n := ⟨_, rfl⟩
          have hn1 : 1 ≤ n := by omega
          have hn2 : n ≤ 128 := by omega
          have hnz : min 128 ((c : Int) - (acc.length : Int)) = (n : Int) := by omega
          have hltz : (acc.length : Int) < (c : Int) := by omega
          have hnc : acc.length + n ≤ c := by omega
          have HU2 : Hid (rawL bs = match rawBlock (bs.drop at_) n with
              | none => none
              | some (vs, s') => match rawGo ((bs.drop at_).drop s') (c - acc.length - n) with
                | none => none
                | some (us, r) => some (acc ++ (vs ++ us), at_ + (s' + r))) := by
            show _ = _
            rw [HU.out, rawGo_step _ _ (by omega), hn]
            cases rawBlock (bs.drop at_) n with
            | none => rfl
            | some q =>
              simp only
              cases rawGo ((bs.drop at_).drop q.2) (c - acc.length - n) <;> rfl
          clear HU hn
          by_cases hend : at_ < bs.length
          · have hendz : ¬ (bs.length : Int) ≤ (at_ : Int) := by omega
            have hendy : (at_ : Int) < (bs.length : Int) := by omega
            have q0 := (HB.out.cell (p := ⟨b, off + at_, none⟩) hb).trans (Hc.out at_ hend)
            have Hdr : Hid (bs.drop at_ = bs.getD at_ 0 :: bs.drop (at_ + 1)) := by
              show _ = _
              rw [List.drop_eq_getElem_cons hend]
              simp [hend]
            have hx256 : (bs.getD at_ 0).toNat < 256 := UInt8.toNat_lt _
            rw [Hdr.out] at HU2
            generalize bs.getD at_ 0 = x at *
            generalize hwd : x.toNat = wd at *
            by_cases hw : 62 < wd
            · have hwz : (62 : Int) < (wd : Int) := by omega
              have HN : Hid (unpackL bs = none) := by show _ = _; rw [unpackL_raw, HU2.out, rawBlock, hwd, if_pos hw]
              clear HU2 Hdr
              go_wp2
              go_ret3
              exact ⟨HB.out.alloc HB.out.size _, Or.inl ⟨HN.out, _, _, rfl⟩⟩
            · have hwz : ¬ (62 : Int) < (wd : Int) := by omega
              have hw62 : wd ≤ 62 := by omega
              have hsl := sizeL_le n wd hn2 hw62
              obtain ⟨P, hP⟩ : ∃ P, n * wd = P := ⟨_, rfl⟩
              have hPle : P ≤ 7936 := by rw [← hP]; exact Nat.mul_le_mul hn2 hw62
              have hPz : (n : Int) * (wd : Int) = (P : Int) := by rw [← hP, Int.natCast_mul]
              obtain ⟨sz, hsz2⟩ : ∃ sz, sizeL n wd = sz := ⟨_, rfl⟩
              have hsz3 : (P + 7) / 8 = sz := by rw [← hsz2, sizeL, hP]
              have hsz4 : ((P : Int) + 7) / 8 = (sz : Int) := by omega
              have hsz5 : P ≤ 8 * sz := by omega
              have hsz6 : sz ≤ 1000 := by omega
              have HU3 : Hid (rawL bs = if bs.length < at_ + 1 + sz then none else match rawGo (bs.drop (at_ + (1 + sz))) (c - acc.length - n) with
                  | none => none
                  | some (us, r) => some (acc ++ (takeN n wd (leNum ((bs.drop (at_ + 1)).take sz)) ++ us), at_ + ((1 + sz) + r))) := by
                show _ = _
                rw [HU2.out, rawBlock, hwd, if_neg hw, hsz2]
                by_cases hsh : bs.length < at_ + 1 + sz
                · rw [if_pos hsh, if_pos (by rw [List.length_drop]; omega)]
                · rw [if_neg hsh, if_neg (by rw [List.length_drop]; omega)]
                  simp only
                  rw [← hwd] at *
                  rw [← Hdr.out, List.drop_drop]
              clear HU2 Hdr
              have Hsz := hidd hsz3
              have HP := hidd hP
              clear hsz3 hsz2 hP
              by_cases hroom : bs.length < at_ + 1 + sz
              · have hrz : (bs.length : Int) - ((at_ : Int) + 1) < (sz : Int) := by omega
                have HN : Hid (unpackL bs = none) := by show _ = _; rw [unpackL_raw, HU3.out, if_pos hroom]
                clear HU3
                go_wp2
                go_ret3
                exact ⟨HB.out.alloc HB.out.size _, Or.inl ⟨HN.out, _, _, rfl⟩⟩
              · have hrz : ¬ (bs.length : Int) - ((at_ : Int) + 1) < (sz : Int) := by omega
                rw [if_neg hroom] at HU3
                go_wp2
                have Hbyte : Hid (∀ p, p < 8 * sz → leNum ((bs.drop (at_ + 1)).take sz) / 2 ^ p % 2 = (bs.getD (at_ + 1 + p / 8) 0).toNat / 2 ^ (p % 8) % 2) := by
                  intro p hp
                  have hll : ((bs.drop (at_ + 1)).take sz).length = sz := by rw [List.length_take, List.length_drop]; omega
                  rw [leNum_bit _ p (by rw [hll]; exact hp)]
                  rw [List.getD_eq_getElem?_getD, List.getD_eq_getElem?_getD, List.getElem?_take, if_pos (by omega), List.getElem?_drop]
                generalize leNum ((bs.drop (at_ + 1)).take sz) = M at *
                have Hv62 := hidd (takeN_62 n wd M hw62)
                go_loopw [10, 14] (fun vl iv wr => ∃ i : Nat, i ≤ n ∧ iv = .int .i64 i ∧ wr.ownsRow w.heap.size 3 1 vl (acc.length + i) (nCells (acc ++ takeN i wd M)) ∧ vl ≠ .slice none 0 0 ∧ Below w.heap.size w wr) (fun _ iv _ => n - (intOf iv).toNat)
                case atStart => exact ⟨0, by omega, rfl, by simpa [takeN] using HO.out, Hnn.out, HB.out⟩
                case round =>
                  clear HO HB Hnn hwl q0
                  obtain ⟨i, hin, rfl, hown, hnn, hbel⟩ := hrel
                  have HO := hidd hown
                  have HB := hidd hbel
                  have Hnn := hidd hnn
                  have hwl : w.heap.size ≤ wr.heap.size := hbel.size
                  clear hown hbel hnn
                  by_cases hil : i < n
                  · have hilz : (i : Int) < (n : Int) := by omega
                    obtain ⟨X, hX⟩ : ∃ X, i * wd = X := ⟨_, rfl⟩
                    have hXz : (i : Int) * (wd : Int) = (X : Int) := by rw [← hX, Int.natCast_mul]
                    have hXP : X + wd ≤ P := by rw [← HP.out, ← hX]; have := Nat.mul_le_mul_right wd (show i + 1 ≤ n from hil); rw [Nat.succ_mul] at this; exact this
                    have HX := hidd hX
                    clear hX
                    go_wp2
                    go_loopw [15, 16] (fun vv kv wx => ∃ k : Nat, k ≤ wd ∧ kv = .int .i64 k ∧ vv = .int .i64 ((M / 2 ^ X % 2 ^ k : Nat) : Int) ∧ wx.ownsRow w.heap.size 3 1 u10 (acc.length + i) (nCells (acc ++ takeN i wd M)) ∧ Below w.heap.size w wx) (fun _ kv _ => wd - (intOf kv).toNat)
                    case atStart => exact ⟨0, by omega, rfl, by simp [Nat.mod_one], HO.out, HB.out⟩
                    case round =>
                      clear HO HB hwl
                      obtain ⟨k, hkw, rfl, rfl, hown, hbel⟩ := hrel
                      have HO := hidd hown
                      have HB := hidd hbel
                      have hwl : w.heap.size ≤ wr.heap.size := hbel.size
                      clear hown hbel
                      by_cases hkl : k < wd
                      · have hklz : (k : Int) < (wd : Int) := by omega
                        obtain ⟨pp, hpp⟩ : ∃ pp, X + k = pp := ⟨_, rfl⟩
                        have hppz : (X : Int) + (k : Int) = (pp : Int) := by omega
                        have hpp8 : pp < 8 * sz := by omega
                        have hbit := Hbyte.out pp hpp8
                        obtain ⟨pd, hpd⟩ : ∃ pd, pp / 8 = pd := ⟨_, rfl⟩
                        obtain ⟨pr, hpr⟩ : ∃ pr, pp % 8 = pr := ⟨_, rfl⟩
                        have hq1 : (pp : Int) / 8 = (pd : Int) := by omega
                        have hq2 : (pp : Int) % 8 = (pr : Int) := by omega
                        have hpr8 : pr < 8 := by omega
                        rw [hpd, hpr] at hbit
                        obtain ⟨AT, hAT⟩ : ∃ AT, at_ + 1 + pd = AT := ⟨_, rfl⟩
                        have hATz : (at_ : Int) + 1 + (pd : Int) = (AT : Int) := by omega
                        have hATl : AT < bs.length := by omega
                        have hATy : (AT : Int) < (bs.length : Int) := by omega
                        rw [hAT] at hbit
                        have q1 := (HB.out.cell (p := ⟨b, off + AT, none⟩) hb).trans (Hc.out AT hATl)
                        have hy256 : (bs.getD AT 0).toNat < 256 := UInt8.toNat_lt _
                        generalize (bs.getD AT 0).toNat = y at *
                        have HBit : Hid (∀ W, Calls Try.prog 61 #[.int .i64 (y : Int), .int .i64 (pr : Int)] W fun e w' => e = .returned (.int .i64 ((y / 2 ^ pr % 2 : Nat) : Int)) ∧ w' = W) := fun W => bit_any y pr W (by omega) (by omega)
                        have Hst : Hid (M / 2 ^ X % 2 ^ (k + 1) = M / 2 ^ X % 2 ^ k + 2 ^ k * (y / 2 ^ pr % 2)) := by show _ = _; rw [mod_step, bit_of, hpp, hbit]
                        have hVlt : M / 2 ^ X % 2 ^ k < 2 ^ k := Nat.mod_lt _ (Nat.pow_pos (by omega))
                        have hk2 : 2 ^ k ≤ 2305843009213693952 := Nat.le_trans (Nat.pow_le_pow_right (by omega) (show k ≤ 61 by omega)) (by decide)
                        have hB1 : y / 2 ^ pr % 2 ≤ 1 := by omega
                        clear hbit hpp hpd hpr hAT
                        generalize M / 2 ^ X % 2 ^ k = V at *
                        generalize y / 2 ^ pr % 2 = B at *
                        obtain ⟨C, hC, HC⟩ : ∃ C : Nat, (B : Int) * 2 ^ k = (C : Int) ∧ Hid (2 ^ k * B = C) := by
                          refine ⟨_, ?_, rfl⟩
                          rw [Int.natCast_mul, Int.natCast_pow, Int.mul_comm]; rfl
                        rw [HC.out] at Hst
                        have hCle : C ≤ 2305843009213693952 := by rw [← HC.out]; exact Nat.le_trans (Nat.mul_le_mul_left _ hB1) (by omega)
                        have hw1 : IntKind.i64.wrap (pd : Int) = (pd : Int) := IntWalk.i64_in _ ⟨by omega, by omega⟩
                        have hw2 : IntKind.i64.wrap (AT : Int) = (AT : Int) := IntWalk.i64_in _ ⟨by omega, by omega⟩
                        have hw3 : IntKind.i64.wrap (C : Int) = (C : Int) := IntWalk.i64_in _ ⟨by omega, by omega⟩
                        obtain ⟨D, hD⟩ : ∃ D, V + C = D := ⟨_, rfl⟩
                        rw [hD] at Hst
                        have hVC : (V : Int) + (C : Int) = (D : Int) := by omega
                        have hD62 : D < 4611686018427387904 := by omega
                        have hw4 : IntKind.i64.wrap (D : Int) = (D : Int) := IntWalk.i64_in _ ⟨by omega, by omega⟩
                        clear hD
                        have RR : Hid (wr.drew.ownsRow w.heap.size 3 1 u10 (acc.length + i) (nCells (acc ++ takeN i wd M)) ∧ Below w.heap.size w wr.drew) := ⟨own_drewN HO.out 1, below_drewN HB.out 1⟩
                        have HV := hidd hVlt
                        have hV61 : V < 2305843009213693952 := by omega
                        clear hVlt hk2 hB1 Hbyte
                        go_wp2_with (first | (go_at_call 61; refine (HBit.out _).mono ?_; rintro e w' ⟨rfl, hw'⟩; obtain rfl := hw'.symm; clear hw'))
                        go_roundw
                        case rel => exact ⟨k + 1, by omega, by go_num, by rw [Hst.out], HO.out, HB.out⟩
                        case measure => simp [intOf]; omega
                      · obtain rfl : k = wd := by omega
                        have Hsn : Hid (takeN (i + 1) k M = takeN i k M ++ [M / 2 ^ X % 2 ^ k]) := by show _ = _; rw [takeN_succ, HX.out]
                        generalize M / 2 ^ X % 2 ^ k = V at *
                        clear Hbyte
                        go_wp2_with (at_builtin; refine wpList_append_own_at _ rfl _ _ 22 rfl w.heap.size 3 i0 (.int .i64 0) 1 8 Try.underlying22 hi hz0 hz1 hz2 rfl (by decide) _ _ _ rfl (HO.out.alloc _) ⟨wr.heap.size, 0, none⟩ 1 1 [.int .i64 (V : Int)] rfl rfl ?c1 ?c2 ?c3 ?c4 ?c5 ?_)
                        case c1 =>
                          intro j u hj
                          match j, hj with
                          | 0, hj => simp at hj; subst hj; simp [Addr.add]
                        case c2 => intro u hu; simp at hu; subst hu; rfl
                        case c3 => unfold maxLen; omega
                        case c4 => omega
                        case c5 => simp; omega
                        intro v6 w6 hown6 hgrow6 hne6 hat6
                        have R : Hid (w6.ownsRow w.heap.size 3 1 v6 (acc.length + (i + 1)) (nCells (acc ++ takeN (i + 1) k M)) ∧ v6 ≠ .slice none 0 0 ∧ Below w.heap.size w w6) := by
                          refine ⟨?_, fun e => by first | exact hne6 e | (have := (hne6.1 e).2; omega), (HB.out.alloc hwl _).grown hgrow6 (by simp; omega) (own_block HO.out)⟩
                          rw [Hsn.out, ← List.append_assoc, nCells_snoc, ← Nat.add_assoc]; exact hown6
                        clear hown6 hgrow6 hat6 hne6 HO HB
                        go_wp2
                        go_roundw
                        case rel => exact ⟨i + 1, by omega, by go_num, R.out.1, R.out.2.1, R.out.2.2⟩
                        case measure => simp [intOf]; omega
                  · obtain rfl : i = n := by omega
                    have hilz : ¬ (i : Int) < (i : Int) := by omega
                    clear Hbyte
                    have htl : (takeN i wd M).length = i := takeN_length i wd M
                    have HU4 : Hid (rawL bs = match rawGo (bs.drop (at_ + 1 + sz)) (c - (acc ++ takeN i wd M).length) with
                        | none => none
                        | some (us, r) => some ((acc ++ takeN i wd M) ++ us, (at_ + 1 + sz) + r)) := by
                      show _ = _
                      rw [HU3.out, List.length_append, htl, ← Nat.add_assoc, Nat.sub_sub]
                      cases rawGo (bs.drop (at_ + 1 + sz)) (c - (acc.length + i)) with
                      | none => rfl
                      | some q => simp only [List.append_assoc, Nat.add_assoc]
                    clear HU3
                    go_wp2
                    go_roundw
                    case rel => exact ⟨at_ + 1 + sz, acc ++ takeN i wd M, by go_num, by omega, by rw [List.length_append, htl]; exact HO.out, Hnn.out, HB.out, by rw [List.length_append, htl]; exact hnc, nums62_append Hnums.out Hv62.out, HU4.out⟩
                    case measure =>
                      obtain ⟨a9, c9, h9⟩ := own_shape HO.out
                      rw [h9]
                      simp only [vlen]
                      omega
          · have hendz : (bs.length : Int) ≤ (at_ : Int) := by omega
            have HN : Hid (unpackL bs = none) := by show _ = _; rw [unpackL_raw, HU2.out, List.drop_of_length_le (by omega), rawBlock]
            clear HU2
            go_wp2
            go_ret3
            exact ⟨HB.out.alloc HB.out.size _, Or.inl ⟨HN.out, _, _, rfl⟩⟩
        · obtain rfl : c = acc.length := by omega
          have hltz : ¬ (acc.length : Int) < (acc.length : Int) := by omega
          have HU2 : Hid (unpackL bs = if packL acc = bs.take at_ then some (acc, at_) else none) := by
            show _ = _
            rw [unpackL_raw, HU.out, Nat.sub_self, rawGo_zero]
            simp only [List.append_nil, Nat.add_zero]
          clear HU
          rcases own_cases HO.out with ⟨h, _⟩ | ⟨g, cp', h, _, _⟩
          · exact absurd h Hnn.out
          · cases h
            have HNA : Hid (NumsAt .i64 wr g 0 acc) := by
              intro t ht
              rw [Nat.zero_add, HO.out.cellAt t (by omega)]
              simp [nCells, ht]
            have hbc : BytesAt wr b off bs := fun t ht => (HB.out.cell (p := ⟨b, off + t, none⟩) hb).trans (Hc.out t ht)
            have Hbc := hidd hbc
            clear hbc
            have HS1 : Hid (∀ m, BytesAt (wr.drewN m) b off bs ∧ NumsAt .i64 (wr.drewN m) g 0 acc ∧ (wr.drewN m).ownsRow w.heap.size 3 1 (.slice (some ⟨g, 0, none⟩) acc.length cp) acc.length (nCells acc) ∧ Below w.heap.size w (wr.drewN m)) := fun m => ⟨fun t ht => (below_drewN (Below.refl wr.heap.size wr) m).cell (p := ⟨b, off + t, none⟩) (Nat.lt_of_lt_of_le hb hwl) |>.trans (Hbc.out t ht), HNA.out.below (below_drewN (Below.refl _ _) m), own_drewN HO.out m, below_drewN HB.out m⟩
            have hcapl : acc.length ≤ cp := by rcases HO.out.2 with ⟨h, _⟩ | ⟨g', cap', cur, h, _, _, _, h9, _⟩; cases h; cases h; first | exact h9 | omega
            clear HNA HO HB Hbc
            go_wp2
            refine wp_region_held (S := fun W' => BytesAt W' b off bs ∧ NumsAt .i64 W' g 0 acc ∧ W'.ownsRow w.heap.size 3 1 (.slice (some ⟨g, 0, none⟩) acc.length cp) acc.length (nCells acc) ∧ Below w.heap.size w W') (by kernel_rfl) ?_
            try simp only [Act.put, List.getElem_toArray, List.getElem_cons_succ, List.getElem_cons_zero, List.setIfInBounds_toArray, List.set_cons_zero, List.set_cons_succ]
            refine wpAnyH_take (i := 0) (v := .slice (some ⟨g, 0, none⟩) acc.length cp) rfl (by kernel_rfl) (by kernel_rfl) (by kernel_rfl) (fun _ _ _ h => h) (Or.inl ⟨by kernel_rfl, fun W hW => exec_move W _ _ _ rfl _ (by kernel_rfl)⟩) (HS1.out 1) ?_
            try simp only [Act.put, List.getElem_toArray, List.getElem_cons_succ, List.getElem_cons_zero, List.setIfInBounds_toArray, List.set_cons_zero, List.set_cons_succ]
            refine wpAnyH_take (i := 3) (v := .slice (some ⟨b, off, none⟩) bs.length cap) rfl (by kernel_rfl) (by kernel_rfl) (by kernel_rfl) (fun _ _ _ h => h) (Or.inl ⟨by kernel_rfl, fun W hW => exec_move W _ _ _ rfl _ (by kernel_rfl)⟩) (HS1.out 1) ?_
            try simp only [Act.put, List.getElem_toArray, List.getElem_cons_succ, List.getElem_cons_zero, List.setIfInBounds_toArray, List.set_cons_zero, List.set_cons_succ]
            refine wpAnyH_take (i := 4) (v := .int .i64 0) rfl (by kernel_rfl) (by kernel_rfl) (by kernel_rfl) (fun _ _ _ h => h) (Or.inl ⟨by kernel_rfl, fun W hW => exec_move W _ _ _ rfl _ (by kernel_rfl)⟩) (HS1.out 1) ?_
            try simp only [Act.put, List.getElem_toArray, List.getElem_cons_succ, List.getElem_cons_zero, List.setIfInBounds_toArray, List.set_cons_zero, List.set_cons_succ]
            refine wpAnyH_take (i := 5) (v := .int .i64 (at_ : Int)) rfl (by kernel_rfl) (by kernel_rfl) (by kernel_rfl) (fun _ _ _ h => h) (Or.inl ⟨by kernel_rfl, fun W hW => exec_move W _ _ _ rfl _ (by kernel_rfl)⟩) (HS1.out 1) ?_
            try simp only [Act.put, List.getElem_toArray, List.getElem_cons_succ, List.getElem_cons_zero, List.setIfInBounds_toArray, List.set_cons_zero, List.set_cons_succ]
            refine wpAnyH_take (i := 6) (v := .slice (some ⟨b, off, none⟩) at_ cap) rfl (by kernel_rfl) (by kernel_rfl) (by kernel_rfl) (fun _ _ _ h => h) (Or.inl ⟨by kernel_rfl, fun W hW => exec_cut W _ _ _ _ _ rfl ⟨b, off, none⟩ bs.length cap at_ (by kernel_rfl) (by kernel_rfl) (by kernel_rfl) (by omega)⟩) (HS1.out 1) ?_
            try simp only [Act.put, List.getElem_toArray, List.getElem_cons_succ, List.getElem_cons_zero, List.setIfInBounds_toArray, List.set_cons_zero, List.set_cons_succ]
            have hbt : (bs.take at_).length = at_ := by rw [List.length_take]; omega
            refine wpAnyH_take (i := 7) (v := .string ⟨(bs.take at_).toArray⟩) rfl (by kernel_rfl) (by kernel_rfl) (by kernel_rfl) (fun _ _ _ h => h) (Or.inl ⟨by kernel_rfl, fun W hW => exec_str W _ _ _ rfl b off cap (bs.take at_) at_ hbt (by kernel_rfl) (fun t ht => by rw [hW.1 t (by omega)]; rw [List.getD_eq_getElem?_getD, List.getD_eq_getElem?_getD, List.getElem?_take, if_pos (by omega)])⟩) (HS1.out 1) ?_
            try simp only [Act.put, List.getElem_toArray, List.getElem_cons_succ, List.getElem_cons_zero, List.setIfInBounds_toArray, List.set_cons_zero, List.set_cons_succ]
            refine wpAnyH_one 1 (by kernel_rfl) ?_
            refine wpOp_call 37 #[.slice (some ⟨g, 0, none⟩) acc.length cp] rfl (by kernel_rfl) (exec_call1 _ _ _ _ _ _ rfl _ (by kernel_rfl) (Try.call37 _ _)) ?_
            refine (specPack_any g 0 cp acc _ (by omega) hcapl Hnums.out (HS1.out 1).2.1).mono ?_
            rintro e w5 ⟨g5, cap5, rfl, hown5, hb5⟩
            have HS5 : Hid (BytesAt w5 b off bs ∧ NumsAt .i64 w5 g 0 acc ∧ w5.ownsRow w.heap.size 3 1 (.slice (some ⟨g, 0, none⟩) acc.length cp) acc.length (nCells acc) ∧ Below w.heap.size w w5) := ⟨fun t ht => (hb5.cell (p := ⟨b, off + t, none⟩) (cell_lt ((HS1.out 1).1 t ht))).trans ((HS1.out 1).1 t ht), (HS1.out 1).2.1.below hb5, own_below (HS1.out 1).2.2.1 hb5, (HS1.out 1).2.2.2.trans (hb5.mono (HS1.out 1).2.2.2.size)⟩
            have Hby5 := hidd (own_bytes hown5 rfl)
            clear hown5 hb5 HS1
            refine ⟨HS5.out, ?_⟩
            try simp only [Act.put, List.getElem_toArray, List.getElem_cons_succ, List.getElem_cons_zero, List.setIfInBounds_toArray, List.set_cons_zero, List.set_cons_succ]
            refine wpAnyH_one 2 (by kernel_rfl) ?_
            refine wpOp_val (.string ⟨(packL acc).toArray⟩) rfl (by kernel_rfl) (exec_str _ _ _ _ rfl g5 0 cap5 (packL acc) _ rfl (by kernel_rfl) Hby5.out) ?_
            refine ⟨HS5.out, ?_⟩
            try simp only [Act.put, List.getElem_toArray, List.getElem_cons_succ, List.getElem_cons_zero, List.setIfInBounds_toArray, List.set_cons_zero, List.set_cons_succ]
            refine wpAnyH_take (i := 8) (v := .bool (!(packL acc == bs.take at_))) rfl (by kernel_rfl) (by kernel_rfl) (by kernel_rfl) (fun _ _ _ h => h) (Or.inl ⟨by kernel_rfl, fun W hW => exec_neqStr W _ _ _ _ _ rfl (packL acc) (bs.take at_) (by kernel_rfl) (by kernel_rfl)⟩) HS5.out ?_
            try simp only [Act.put, List.getElem_toArray, List.getElem_cons_succ, List.getElem_cons_zero, List.setIfInBounds_toArray, List.set_cons_zero, List.set_cons_succ]
            refine wpAnyH_done (by kernel_rfl) ?_ _
            by_cases heq : packL acc = bs.take at_
            · rw [if_pos heq] at HU2
              have hbb : (packL acc == bs.take at_) = true := by simp [heq]
              rw [hbb]
              clear heq hbb
              go_wp2
              go_ret3
              exact ⟨HS5.out.2.2.2, Or.inr ⟨acc, at_, _, HU2.out, rfl, HS5.out.2.2.1⟩⟩
            · rw [if_neg heq] at HU2
              have hbb : (packL acc == bs.take at_) = false := by simp [heq]
              rw [hbb]
              clear heq hbb
              go_wp2
              go_ret3
              exact ⟨HS5.out.2.2.2.alloc HS5.out.2.2.2.size _, Or.inl ⟨HU2.out, _, _, rfl⟩⟩
end Go.Proofs.Ytibomnmgiimejak
