import Derived.Test.YtoinajfliogcdaaDoorNearJ22
import Derived.Test.YtoinajfliogcdaaDoorNearJ46
import Derived.Test.YtoinajfliogcdaaDoorNearJ00
import Derived.Test.YtoinajfliogcdaaDoorNearJ05
import Derived.Test.YtoinajfliogcdaaDoorNearJ02
import Derived.Test.YtoinajfliogcdaaDoorNearJ21
import Derived.Deep.AppendLies
import Derived.Deep.RegionLaw
import Derived.BigQuiet
import Derived.WalkLawsBesides
namespace Go.Proofs.YtoinajfliogcdaaDoor
open Go Go.RowKit
set_option linter.unusedVariables false
set_option linter.unusedSimpArgs false

theorem num_bd {o : List Lang} {K : Lang} (h : K ∈ o ∨ K = emptyL) : -1 ≤ sysL.num o K ∧ sysL.num o K < o.length := by
 unfold Sys.num
 split
 ·constructor
  ·omega
  ·omega
 ·rename_i hd
  have hk : K ∈ o := h.resolve_right (fun e => hd (by simp [sysL, e]))
  have := ix_lt hk
  omega
theorem range_rise (ls : List Int) (hr : RiseZ ls) (g : Nat → Int) (P : Nat → Bool) : ((List.range ls.length).filter P |>.map fun k => (ls.getD k 0, g k)).Pairwise fun x y => x.1 < y.1 := by
 rw [List.pairwise_map]
 have h1 : (List.range ls.length).Pairwise (· < ·) := List.pairwise_lt_range
 have h2 := h1.sublist (List.filter_sublist (p := P))
 refine h2.imp_of_mem ?_
 intro a b ha hb hab
 have hb' : b < ls.length := List.mem_range.1 (List.mem_filter.1 hb).1
 have ha' : a < ls.length := List.mem_range.1 (List.mem_filter.1 ha).1
 have := List.pairwise_iff_getElem.1 hr a b ha' hb' hab
 rw [List.getD_eq_getElem?_getD, List.getD_eq_getElem?_getD, List.getElem?_eq_getElem ha', List.getElem?_eq_getElem hb']
 exact this
theorem least_valid {m : Nat} {ls : List Int} {L : Lang} {D : List PSt} (h : sysL.Least m ls L D) (hm : ls.length = m) (hr : RiseZ ls) (hc : ∀ y ∈ ls, chr y = true) (hl : ls.length ≤ 1048576) (hD : D.length ≤ 256) : ValD D := by
 obtain ⟨o, h1, rfl⟩ := h
 rw [List.length_map] at hD
 have ho : 0 < o.length := (List.getElem?_eq_some_iff.1 h1.head).1
 have next_in : ∀ K, K ∈ o → ∀ a, a ≤ m → (toL K a ∈ o ∨ toL K a = emptyL) := by
  intro K hK a ha
  by_cases he : toL K a = emptyL
  ·exact Or.inr he
  ·exact Or.inl (h1.closed K hK _ (nexts_mem ha he))
 refine ⟨by rw [List.length_map]; omega, by rw [List.length_map]; exact hD, fun s hs => ?_⟩
 obtain ⟨K, hK, rfl⟩ := List.mem_map.1 hs
 rw [List.length_map]
 have hels := num_bd (next_in K hK m (Nat.le_refl m))
 refine ⟨⟨?_, ?_, ?_⟩, hels.1, hels.2⟩
 ·show ((sysL.told m K).map fun k => (ls.getD k 0, sysL.num o (sysL.gto K k))).Pairwise _
  unfold Sys.told
  rw [← hm]
  exact range_rise ls hr (fun k => sysL.num o (sysL.gto K k)) _
 ·intro a ha
  obtain ⟨k, hk, rfl⟩ := List.mem_map.1 (show a ∈ (sysL.told m K).map fun k => (ls.getD k 0, sysL.num o (sysL.gto K k)) from ha)
  have hkm : k < m := List.mem_range.1 (List.mem_filter.1 hk).1
  have hb := num_bd (next_in K hK k (by omega))
  refine ⟨?_, hb.1, hb.2⟩
  have hkl : k < ls.length := by omega
  show chr (ls.getD k 0) = true
  rw [List.getD_eq_getElem?_getD, List.getElem?_eq_getElem hkl]
  exact hc _ (List.getElem_mem hkl)
 ·show ((sysL.told m K).map _).length ≤ _
  rw [List.length_map]
  exact Nat.le_trans (List.length_filter_le _ _) (by simp; omega)
theorem decList_chr (s : ByteArray) : ∀ x ∈ decList s, chr x = true := by
 intro x hx
 unfold decList at hx
 split at hx
 ·simp at hx
 ·unfold decL at hx
  split at hx
  ·rename_i hv
   exact runes_chr s hv x hx
  ·simp at hx
def NearD (s : ByteArray) (k head : Nat) (D : List PSt) : Prop := (decList s).length ≤ 30 ∧ k ≤ 2 ∧ head ≤ (decList s).length ∧ decCode s = 0 ∧ ValD D ∧ ∀ rs : List Int, (∀ r ∈ rs, 0 ≤ r) → finP D (rs.foldl (stepP D) 0) = nearB (decList s) rs k head
theorem near_join {s : ByteArray} {k head : Int} {w : World} {e : Ending} {w' : World} (h : FzAll s k head w e w') : ∃ (code : Int) (ad : Option Addr) (n c : Nat), e = .returned (.tuple #[.agg #[.slice ad n c], .int .i64 code]) ∧ Below w.heap.size w w' ∧
  ∀ w2 e2 w2', FiAll s k head w2 e2 w2' → ∃ (a2 : Option Addr) (c2 : Nat) (D : List PSt), e2 = .returned (.tuple #[.agg #[.slice a2 D.length c2], .int .i64 code]) ∧ HDS w2' a2 D ∧ Below w2.heap.size w2 w2' ∧ (code = 0 → ∃ k' head' : Nat, k = (k' : Int) ∧ head = (head' : Int) ∧ NearD s k' head' D) := by
 rcases h with ⟨h1, rfl, hb⟩ | ⟨h0, ls, L, hr, hm, hL, hb, hcase⟩
 ·refine ⟨fzCode s k head, none, 0, 0, rfl, hb, fun w2 e2 w2' h2 => ?_⟩
  rcases h2 with ⟨_, rfl, hb2⟩ | ⟨h0, _⟩
  ·exact ⟨none, 0, [], rfl, Or.inl rfl, hb2, fun e => absurd e h1⟩
  ·exact absurd h0 h1
 ·obtain ⟨hdc, hl, hk1, hk2, hh1, hh2⟩ := fzCode_ok h0
  obtain ⟨k, rfl⟩ : ∃ n : Nat, k = (n : Int) := ⟨k.toNat, by omega⟩
  obtain ⟨head, rfl⟩ : ∃ n : Nat, head = (n : Int) := ⟨head.toNat, by omega⟩
  have hz : ∀ z ∈ decList s, 0 ≤ z := fun z hz => (decList_bd s z hz).1
  have els : ls = lettersZ (decList s) := rise_uniq _ _ hr (lettersZ_rise _) (fun x => by rw [hm, lettersZ_mem])
  have hll := lettersZ_len (decList s)
  have hL0 := hL
  rw [near_lang (decList s) ls k head _ (by omega) hz] at hL
  rcases hcase with ⟨hbig, rfl⟩ | ⟨hs, v, l, hl2, rfl, hM⟩
  ·refine ⟨11, none, 0, 0, rfl, hb, fun w2 e2 w2' h2 => ?_⟩
   rcases h2 with ⟨h1, _⟩ | ⟨_, hb2, hc⟩
   ·exact absurd h0 h1
   ·rcases hc with ⟨rfl, _⟩ | ⟨v2, l2, q1, q2, rfl, q3⟩
    ·exact ⟨none, 0, [], rfl, Or.inl rfl, hb2, fun e => absurd e (by decide)⟩
    ·rw [Int.toNat_natCast, Int.toNat_natCast, ← els] at q1
     have e9 := congrArg List.length (Sys.Least.uniq hL q1)
     rw [List.length_map] at e9
     omega
  ·obtain ⟨ad, c, hv⟩ := own_slk hM.row
   subst hv
   refine ⟨0, ad, _, c, rfl, hb, fun w2 e2 w2' h2 => ?_⟩
   rcases h2 with ⟨h1, _⟩ | ⟨_, hb2, hc⟩
   ·exact absurd h0 h1
   ·rcases hc with ⟨rfl, q0⟩ | ⟨v2, l2, q1, q2, rfl, q3⟩
    ·have := q0 L (by rw [Int.toNat_natCast, Int.toNat_natCast, ← els]; exact hL)
     omega
    ·rw [Int.toNat_natCast, Int.toNat_natCast, ← els] at q1
     obtain ⟨a2, c2, rfl, q4⟩ := q3.hds
     have eu := Sys.Least.uniq q1 hL
     rw [eu] at q4
     rw [eu]
     refine ⟨a2, c2, L, rfl, q4, hb2, fun _ => ⟨k, head, rfl, rfl, hl, by omega, by omega, hdc, ?_, ?_⟩⟩
     ·exact least_valid hL rfl hr (fun y hy => decList_chr s y ((hm y).1 hy)) (by rw [els]; omega) hs
     ·intro rs hrs
      exact near_run hL0 (hr.imp (fun h => by omega)) hm hz (by omega) rs hrs
end Go.Proofs.YtoinajfliogcdaaDoor

namespace Go.Proofs.YtoinajfliogcdaaDoor
open Go
def ansCode (zs : List Int) : Int := if 65536 < zs.length then 2 else if zs.all chr = true then (if 65536 < (encs zs).length then 2 else 0) else 1
def ansText (zs : List Int) : List UInt8 := if 65536 < zs.length then [] else if zs.all chr = true then (if 65536 < (encs zs).length then [] else encs zs) else []
theorem all_take_succ (zs : List Int) (k : Nat) (h : k < zs.length) : (zs.take (k + 1)).all chr = ((zs.take k).all chr && chr (zs.getD k 0)) := by
 rw [take_snoc zs k h]; simp
theorem not_all (zs : List Int) (k : Nat) (h : k < zs.length) (hc : chr (zs.getD k 0) = false) : zs.all chr = false := by
 rw [List.all_eq_false]
 refine ⟨zs[k], List.getElem_mem h, ?_⟩
 have : zs.getD k 0 = zs[k] := by simp [h]
 rw [← this, hc]; simp
theorem all_at (zs : List Int) (h : zs.all chr = true) (t : Nat) (ht : t < zs.length) : chr (zs.getD t 0) = true := by
 have : zs.getD t 0 = zs[t] := by simp [ht]
 rw [this]
 exact List.all_eq_true.1 h _ (List.getElem_mem ht)
end Go.Proofs.YtoinajfliogcdaaDoor

namespace Go.Proofs.YtoinajfliogcdaaDoor
open Go
set_option linter.unusedVariables false

def blen (l : List Int) : Nat := (encs l).length
theorem blen_cons (r : Int) (t : List Int) : blen (r :: t) = (Lib.encodeRune r).length + blen t := by simp [blen, encs]
theorem blen_nil : blen [] = 0 := rfl
theorem blen_append (a b : List Int) : blen (a ++ b) = blen a + blen b := by simp [blen, encs]
theorem runesFrom_fuel (s : ByteArray) : ∀ f f' p, s.size ≤ p + f → s.size ≤ p + f' → runesFrom s f p = runesFrom s f' p
 | 0, f', p, h, _ => by rw [runesFrom_end s 0 p (by omega), runesFrom_end s f' p (by omega)]
 | f + 1, f', p, h, h' => by
  by_cases hp : p < s.size
  ·have hw := width_le s p hp
   obtain ⟨g, rfl⟩ : ∃ g, f' = g + 1 := ⟨f' - 1, by omega⟩
   rw [runesFrom_step s f p hp, runesFrom_step s g p hp, runesFrom_fuel s f g _ (by omega) (by omega)]
  ·rw [runesFrom_end s _ p hp, runesFrom_end s _ p hp]
def Rs (s : ByteArray) (p : Nat) : List Int := runesFrom s s.size p
theorem Rs_zero (s : ByteArray) : Rs s 0 = runes s := rfl
theorem Rs_end (s : ByteArray) (p : Nat) (h : ¬ p < s.size) : Rs s p = [] := runesFrom_end s _ p h
theorem Rs_step (s : ByteArray) (p : Nat) (h : p < s.size) : Rs s p = ((Utf8.decode s p).1 : Int) :: Rs s (p + (Utf8.decode s p).2) := by
 have hw := width_le s p h
 rw [Rs, runesFrom_fuel s s.size ((s.size - 1) + 1) p (by omega) (by omega), runesFrom_step s _ p h, runesFrom_fuel s (s.size - 1) s.size _ (by omega) (by omega)]
 rfl
theorem byte_nat (x : Int) (_h0 : 0 ≤ x) (h1 : x < 256) : (x.toNat.toUInt8).toNat = x.toNat := by
 simp
 omega
theorem decode_encode (r : Int) (h : chr r = true) (rest : List UInt8) : Lib.decodeL (Lib.encodeRune r ++ rest) = (r.toNat, (Lib.encodeRune r).length) := by
 rw [chr_iff] at h
 rw [Lib.decodeL_N]
 by_cases h1 : r ≤ 127
 ·have e : Lib.encodeRune r = [r.toNat.toUInt8] := by rw [Lib.encodeRune, Lib.encodeRuneZ_one h.1 h1]; rfl
  have b0 := byte_nat r (by omega) (by omega)
  rw [e]
  simp only [List.cons_append, List.nil_append, List.getD_cons_zero, List.length_cons, List.length_nil, b0]
  unfold Lib.decodeN
  rw [if_pos (by omega)]
 by_cases h2 : r ≤ 2047
 ·have e : Lib.encodeRune r = [(192 + r / 64).toNat.toUInt8, (128 + r % 64).toNat.toUInt8] := by rw [Lib.encodeRune, Lib.encodeRuneZ_two (by omega) h2]; rfl
  have b0 := byte_nat (192 + r / 64) (by omega) (by omega)
  have b1 := byte_nat (128 + r % 64) (by omega) (by omega)
  rw [e]
  simp only [List.cons_append, List.nil_append, List.getD_cons_zero, List.getD_cons_succ, List.length_cons, List.length_nil, b0, b1]
  unfold Lib.decodeN
  rw [if_neg (by omega), if_pos (by omega), if_pos (by omega)]
  apply Prod.ext <;> simp only <;> omega
 by_cases h3 : r ≤ 65535
 ·have e : Lib.encodeRune r = [(224 + r / 4096).toNat.toUInt8, (128 + r / 64 % 64).toNat.toUInt8, (128 + r % 64).toNat.toUInt8] := by rw [Lib.encodeRune, Lib.encodeRuneZ_three (by omega)]; rfl
  have b0 := byte_nat (224 + r / 4096) (by omega) (by omega)
  have b1 := byte_nat (128 + r / 64 % 64) (by omega) (by omega)
  have b2 := byte_nat (128 + r % 64) (by omega) (by omega)
  rw [e]
  simp only [List.cons_append, List.nil_append, List.getD_cons_zero, List.getD_cons_succ, List.length_cons, List.length_nil, b0, b1, b2]
  unfold Lib.decodeN
  rw [if_neg (by omega), if_neg (by omega), if_pos (by omega), if_pos (by omega)]
  apply Prod.ext <;> simp only <;> omega
 ·have e : Lib.encodeRune r = [(240 + r / 262144).toNat.toUInt8, (128 + r / 4096 % 64).toNat.toUInt8, (128 + r / 64 % 64).toNat.toUInt8, (128 + r % 64).toNat.toUInt8] := by rw [Lib.encodeRune, Lib.encodeRuneZ_four (by omega) (by omega)]; rfl
  have b0 := byte_nat (240 + r / 262144) (by omega) (by omega)
  have b1 := byte_nat (128 + r / 4096 % 64) (by omega) (by omega)
  have b2 := byte_nat (128 + r / 64 % 64) (by omega) (by omega)
  have b3 := byte_nat (128 + r % 64) (by omega) (by omega)
  rw [e]
  simp only [List.cons_append, List.nil_append, List.getD_cons_zero, List.getD_cons_succ, List.length_cons, List.length_nil, b0, b1, b2, b3]
  unfold Lib.decodeN
  rw [if_neg (by omega), if_neg (by omega), if_neg (by omega), if_pos (by omega), if_pos (by omega)]
  apply Prod.ext <;> simp only <;> omega
theorem encode_one (r : Int) (h : chr r = true) (hl : (Lib.encodeRune r).length = 1) : r ≤ 127 := by
 rw [chr_iff] at h
 by_cases h1 : r ≤ 127
 ·exact h1
 ·exfalso
  by_cases h2 : r ≤ 2047
  ·rw [Lib.encodeRune, Lib.encodeRuneZ_two (by omega) h2] at hl; simp at hl
  ·by_cases h3 : r ≤ 65535
   ·rw [Lib.encodeRune, Lib.encodeRuneZ_three (by omega)] at hl; simp at hl
   ·rw [Lib.encodeRune, Lib.encodeRuneZ_four (by omega) (by omega)] at hl; simp at hl
theorem Rs_encs (s : ByteArray) : ∀ (l pre : List Int), (∀ r ∈ l, chr r = true) → s.data.toList = encs pre ++ encs l → Rs s (blen pre) = l ∧ vFrom s (blen pre) = true
 | [], pre, _, hs => by
  have hz : ¬ blen pre < s.size := by rw [← data_len, hs]; simp [blen, encs_nil]
  exact ⟨Rs_end s _ hz, vFrom_end s _ hz⟩
 | r :: t, pre, hc, hs => by
  have hr := hc r (by simp)
  have e : encs (r :: t) = Lib.encodeRune r ++ encs t := by simp [encs]
  have hel := encodeRune_length r
  have hlt : blen pre < s.size := by rw [← data_len, hs, e]; simp [blen]; omega
  have hdrop : s.data.toList.drop (blen pre) = Lib.encodeRune r ++ encs t := by rw [hs, e]; simp [blen]
  have hdec : Utf8.decode s (blen pre) = (r.toNat, (Lib.encodeRune r).length) := by rw [← Lib.decodeL_drop, hdrop]; exact decode_encode r hr _
  have hr0 := ((chr_iff r).1 hr).1
  have hg : ¬ bad s (blen pre) := by
   intro hb
   rw [bad, hdec] at hb
   have := encode_one r hr hb.2
   have := hb.1
   simp only at this
   omega
  have ih := Rs_encs s t (pre ++ [r]) (fun x hx => hc x (by simp [hx])) (by rw [hs, e, encs_snoc, List.append_assoc])
  have hb2 : blen (pre ++ [r]) = blen pre + (Lib.encodeRune r).length := by rw [blen_append, blen_cons, blen_nil]; omega
  rw [hb2] at ih
  refine ⟨?_, ?_⟩
  ·rw [Rs_step s _ hlt, hdec]
   simp only
   rw [ih.1, Int.toNat_of_nonneg hr0]
  ·rw [← vFrom_good s _ hlt hg, hdec]
   exact ih.2
theorem runes_encs (l : List Int) (h : ∀ r ∈ l, chr r = true) : runes ⟨(encs l).toArray⟩ = l ∧ validB ⟨(encs l).toArray⟩ = true := by
 have := Rs_encs ⟨(encs l).toArray⟩ l [] h (by simp [encs_nil])
 rw [blen_nil, Rs_zero, vFrom_zero] at this
 exact this
end Go.Proofs.YtoinajfliogcdaaDoor

namespace Go.Proofs.YtoinajfliogcdaaDoor
open Go Go.RowKit
theorem Tryd.infoByte : (Tryd.prog.info? 5).map (fun i => (i.zero, i.size, i.bytes)) = some (some (.int .u8 0), 1, 1) := by kernel_rfl
set_option maxHeartbeats 800000 in
theorem encode_some (b off n cap : Nat) (zs : List Int) (w : World) (hn : n ≤ 65536) (hl : zs.length = n) (hb : b < w.heap.size)
  (hc : ∀ t, t < n → w.cell? ⟨b, off + t, none⟩ = some (.int .i64 (zs.getD t 0))) (hok : ∀ t, t < n → chr (zs.getD t 0) = true) :
  Calls Tryd.prog 47 #[.slice (some ⟨b, off, none⟩) n cap] w fun e w' => e = .returned (.string ⟨(encs zs).toArray⟩) ∧ Below w.heap.size w w' := by
 obtain ⟨i0, hi, hz0, hz1, hz2⟩ := info_parts Tryd.infoByte
 go_enter Tryd.func47, Tryd.ntmps47
 go_wp2
 go_loopw [3, 4] (fun v i wr => ∃ k : Nat, k ≤ n ∧ i = .int .i64 k ∧ wr.ownsRow w.heap.size 5 1 v (encs (zs.take k)).length (Lib.byteCells (encs (zs.take k))) ∧ Below w.heap.size w wr ∧ v ≠ .slice none 0 0) (fun _ i _ => n - (intOf i).toNat)
 case atStart =>
  refine ⟨0, Nat.zero_le _, rfl, ?_, (Below.refl _ _).alloc (Nat.le_refl _) _, by simp⟩
  simpa [encs, Lib.byteCells] using (World.ownsRow_lit (base := w.heap.size) (e := 5) (size := 1) w #[] 0 (Nat.le_refl _) (by unfold maxLen; omega) (by simp))
 case round =>
  obtain ⟨k, hk, rfl, hown, hbel, hnn⟩ := hrel
  by_cases hlt : k < n
  ·have g1 := (hbel.cell (p := ⟨b, off + k, none⟩) hb).trans (hc k hlt)
   have hok1 := hok k hlt
   have hkz : k < zs.length := by omega
   have eg : zs.getD k 0 = zs[k] := by simp [hkz]
   rw [eg] at hok1 g1
   have Hts : Hid (zs.take (k + 1) = zs.take k ++ [zs[k]]) := by show _ = _; rw [take_snoc zs k hkz, eg]
   have hle : (encs (zs.take k)).length ≤ 4 * n := by have := encs_le (zs.take k); rw [List.length_take] at this; omega
   have hrl := Lib.runeCells_le zs[k]
   clear hc hok eg
   go_wp2_with fail
   refine (bytes_any zs[k] _ hok1).mono ?_
   rintro e w1 ⟨rfl, rfl⟩
   have hcr : Hid (∀ j u, (Lib.runeCells zs[k])[j]? = some u → (wr.alloc (.cells (Lib.runeCells zs[k]).toArray 5)).cell? ((⟨wr.heap.size, 0, none⟩ : Addr).add j) = some u) := by
    intro j u hj
    rw [add_head, World.cell?_alloc_at (hn := rfl)]
    simpa using hj
   go_wp2_with (at_builtin; refine wpList_append_own _ rfl (.tmp 12) (.tmp 17) 22 rfl w.heap.size 5 i0 (.int .u8 0) 1 1 Tryd.underlying22 hi hz0 hz1 hz2 rfl (by decide) _ _ _ rfl (hown.alloc _) ⟨wr.heap.size, 0, none⟩ _ _ (Lib.runeCells zs[k]) rfl (by simp) ?c1 ?c2 ?c3 ?c4 ?c5 ?_)
   case c1 => exact hcr.out
   case c2 => exact rune_one _
   case c3 => unfold maxLen; omega
   case c4 => omega
   case c5 => have := hbel.size; simp; omega
   intro v' w2 hown' hgrow hne
   have R : Hid (w2.ownsRow w.heap.size 5 1 v' (encs (zs.take (k + 1))).length (Lib.byteCells (encs (zs.take (k + 1)))) ∧ Below w.heap.size w w2) := by
    refine ⟨?_, (hbel.alloc hbel.size _).grown hgrow (by have := hbel.size; simp; omega) ?_⟩
    ·rw [Hts.out, encs_snoc, Lib.byteCells_append, Lib.byteCells_encodeRune, List.length_append, ← Lib.runeCells_length]
     exact hown'
    ·intro g hg
     rcases hown.2 with ⟨h, _⟩ | ⟨g', cap', cur, h, hbase, _⟩
     ·exact absurd h hnn
     ·rw [h] at hg; cases hg; exact hbase
   clear hown' hgrow hcr
   go_wp2
   go_roundw
   case rel => exact ⟨k + 1, by omega, by go_num, R.out.1, R.out.2, hne⟩
   case measure => simp [intOf]; omega
  ·have HK : Hid (k = n) := by show k = n; omega
   have hcb : Hid (∃ g cap', u3 = .slice (some ⟨g, 0, none⟩) (encs (zs.take k)).length cap') := by
    rcases hown.2 with ⟨h, _⟩ | ⟨g, cap', _, h, _⟩
    ·exact absurd h hnn
    ·exact ⟨g, cap', h⟩
   obtain ⟨g, cap', rfl⟩ := hcb.out
   have hcv : (convert 22 9 (.slice (some ⟨g, 0, none⟩) (encs (zs.take k)).length cap')).run Tryd.prog wr = .ok (.string ⟨(encs (zs.take k)).toArray⟩) wr := by
    refine run_convert_bytes_back wr 22 9 5 ⟨g, 0, none⟩ cap' (encs (zs.take k)) Tryd.underlying22 Tryd.underlying5 Tryd.underlying9 fun j hj => ?_
    rw [add_head, hown.cellAt j (by omega)]
    simp [Lib.byteCells, hj]
   go_wp2
   go_ret
   refine ⟨?_, hbel⟩
   rw [HK.out, List.take_of_length_le (by omega)]
   rfl
end Go.Proofs.YtoinajfliogcdaaDoor

namespace Go.Proofs.YtoinajfliogcdaaDoor
open Go Go.RowKit

set_option maxHeartbeats 800000 in
theorem specEncode_any (b off n cap : Nat) (zs : List Int) (w : World) (hn : n ≤ 1048576) (hl : zs.length = n) (hb : b < w.heap.size)
  (hc : ∀ t, t < n → w.cell? ⟨b, off + t, none⟩ = some (.int .i64 (zs.getD t 0))) :
  Calls Tryd.prog 12 #[.slice (some ⟨b, off, none⟩) n cap] w fun e w' => e = .returned (.tuple #[.string ⟨(ansText zs).toArray⟩, .int .i64 (ansCode zs)]) ∧ Below w.heap.size w w' := by
 by_cases hlong : 65536 < n
 ·have HT : Hid (ansText zs = []) := by show _ = _; unfold ansText; rw [if_pos (by omega)]
  have HC : Hid (ansCode zs = 2) := by show _ = _; unfold ansCode; rw [if_pos (by omega)]
  have hlz : (65536 : Int) < (n : Int) := by omega
  go_enter Tryd.func12, Tryd.ntmps12
  go_wp2
  go_ret2
  rw [HT.out, HC.out]
  exact ⟨rfl, Below.refl _ _⟩
 ·have hlz : ¬ (65536 : Int) < (n : Int) := by omega
  go_enter Tryd.func12, Tryd.ntmps12
  go_wp2
  go_loop [4] (fun i => ∃ k : Nat, k ≤ n ∧ i = .int .i64 k ∧ (zs.take k).all chr = true) (fun i => n - (intOf i).toNat)
  case atStart => exact ⟨0, Nat.zero_le _, rfl, by simp⟩
  case round =>
   obtain ⟨k, hk, rfl, hall⟩ := hrel
   by_cases hlt : k < n
   ·have g1 := hc k hlt
    have HA : Hid ((zs.take k).all chr = true) := hall
    have hkz : k < zs.length := by omega
    have eg : Hid (zs.getD k 0 = zs[k]) := by show _ = _; simp [hkz]
    clear hall hc
    rw [eg.out] at g1
    by_cases hch : chr zs[k] = true
    ·go_wp2_with (go_at_call 46; refine (charOK_any _ _).mono ?_; rintro e w' ⟨rfl, rfl⟩)
     go_round
     case rel => exact ⟨k + 1, by omega, by go_num, by rw [all_take_succ zs k hkz, HA.out, eg.out, hch]; rfl⟩
     case measure => simp [intOf]; omega
    ·have hch' : chr zs[k] = false := by simpa using hch
     have HN := not_all zs k hkz (by rw [eg.out]; exact hch')
     have HT : Hid (ansText zs = []) := by show _ = _; unfold ansText; rw [if_neg (by omega), if_neg (by rw [HN]; simp)]
     have HC : Hid (ansCode zs = 1) := by show _ = _; unfold ansCode; rw [if_neg (by omega), if_neg (by rw [HN]; simp)]
     clear HN hch
     go_wp2_with (go_at_call 46; refine (charOK_any _ _).mono ?_; rintro e w' ⟨rfl, rfl⟩)
     go_ret2
     rw [HT.out, HC.out]
     exact ⟨rfl, Below.refl _ _⟩
   ·have hkn : k = n := by omega
    have HA : zs.all chr = true := by rw [hkn, List.take_of_length_le (by omega)] at hall; exact hall
    have HA' : Hid (zs.all chr = true) := HA
    have cE := encode_some b off n cap zs w (by omega) hl hb hc (fun t ht => all_at zs HA t (by omega))
    have HcE := hidd cE
    clear cE HA hall hkn hc
    by_cases hlen : 65536 < (encs zs).length
    ·have HT : Hid (ansText zs = []) := by show _ = _; unfold ansText; rw [if_neg (by omega), if_pos HA'.out, if_pos hlen]
     have HC : Hid (ansCode zs = 2) := by show _ = _; unfold ansCode; rw [if_neg (by omega), if_pos HA'.out, if_pos hlen]
     have hlz2 : (65536 : Int) < ((encs zs).length : Int) := by omega
     go_wp2_with fail
     refine HcE.out.mono ?_
     rintro e w1 ⟨rfl, hb1⟩
     go_wp2
     go_ret2
     rw [HT.out, HC.out]
     exact ⟨rfl, hb1⟩
    ·have HT : Hid (ansText zs = encs zs) := by show _ = _; unfold ansText; rw [if_neg (by omega), if_pos HA'.out, if_neg hlen]
     have HC : Hid (ansCode zs = 0) := by show _ = _; unfold ansCode; rw [if_neg (by omega), if_pos HA'.out, if_neg hlen]
     have hlz2 : ¬ (65536 : Int) < ((encs zs).length : Int) := by omega
     go_wp2_with fail
     refine HcE.out.mono ?_
     rintro e w1 ⟨rfl, hb1⟩
     go_wp2
     go_ret2
     rw [HT.out, HC.out]
     exact ⟨rfl, hb1⟩
end Go.Proofs.YtoinajfliogcdaaDoor

namespace Go.Proofs.YtoinajfliogcdaaDoor
open Go Go.RowKit
set_option linter.unusedVariables false

def edZ (a b : List Int) (i k : Nat) : Int := ((edAt a b i k : Nat) : Int)
theorem edZ_bd (a b : List Int) (i k : Nat) : 0 ≤ edZ a b i k ∧ edZ a b i k ≤ a.length + b.length := by
 have := edAt_le a b i k
 unfold edZ
 omega
def edCode (s t : ByteArray) : Int :=
 if 65536 < s.size ∨ 65536 < t.size then 2 else if validB s = false then 3 else if validB t = false then 3 else if 200 < (runes s).length ∨ 200 < (runes t).length then 12 else 0
def edVal (s t : ByteArray) : Int := if edCode s t = 0 then ((edits (runes s) (runes t) : Nat) : Int) else 0
theorem edCode_ok {s t : ByteArray} (h1 : ¬ 65536 < s.size) (h2 : ¬ 65536 < t.size) (h3 : validB s = true) (h4 : validB t = true) (h5 : ¬ 200 < (runes s).length) (h6 : ¬ 200 < (runes t).length) : edCode s t = 0 ∧ edVal s t = ((edits (runes s) (runes t) : Nat) : Int) := by
 have : edCode s t = 0 := by
  rw [edCode, if_neg (by omega), if_neg (by simp [h3]), if_neg (by simp [h4]), if_neg (by omega)]
 exact ⟨this, by rw [edVal, if_pos this]⟩
theorem edVal_ne {s t : ByteArray} (h : edCode s t ≠ 0) : edVal s t = 0 := by rw [edVal, if_neg h]
theorem decList_ok {s : ByteArray} (h1 : ¬ 65536 < s.size) (h3 : validB s = true) : decList s = runes s ∧ decCode s = 0 := by
 rw [decList, if_neg h1, decL, if_pos h3, decCode, if_neg h1, if_pos h3]
 exact ⟨rfl, rfl⟩
theorem decCode_bad {s : ByteArray} (h1 : ¬ 65536 < s.size) (h3 : validB s = false) : decCode s = 3 := by
 rw [decCode, if_neg h1, if_neg (by simp [h3])]
end Go.Proofs.YtoinajfliogcdaaDoor
