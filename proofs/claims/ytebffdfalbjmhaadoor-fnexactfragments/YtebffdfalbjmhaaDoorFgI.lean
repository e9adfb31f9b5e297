import Derived.Test.YtebffdfalbjmhaaDoorFgP
import Derived.Test.YtebffdfalbjmhaaDoorTextCode
import Derived.Test.YtebffdfalbjmhaaDoorClone
import Derived.Test.YtebffdfalbjmhaaDoorStrC
import Derived.Test.YtebffdfalbjmhaaDoorFzD
import Derived.Test.YtebffdfalbjmhaaDoorRgA
import Derived.Test.YtebffdfalbjmhaaDoorWithin
import Derived.Maps.AppendAt
import Derived.Laws.OwnMore
namespace Go.Proofs.YtebffdfalbjmhaaDoor
open Go Go.RowKit Go.Shelf
set_option linter.unusedVariables false
set_option linter.unusedSimpArgs false
set_option maxRecDepth 100000

/-! impl.cutUp: a text in parts. -/
theorem slice_text (s : ByteArray) (a b : Nat) (bz : Int) (hb : bz = (b : Int)) (h1 : a ≤ b) (h2 : b ≤ s.size) (w : World) :
    (Instr.slice 9 (.string s) (some (.int .i64 (a : Int))) (some (.int .i64 bz)) none).run Tryd.prog w = .ok (.string (s.extract a b)) w := by
  subst hb
  have h := run_slice_string (P := Tryd.prog) w 9 s .i64 .i64 (a : Int) (b : Int) Tryd.underlying9 (by omega) (by omega) (by omega)
  simpa using h
theorem cutF_any (s : ByteArray) (k : Int) (w : World) :
    Calls Tryd.prog 14 #[.string s, .int .i64 k] w fun e w' => e = .returned (.func (.func 21) #[] #[.pointer (some ⟨w.heap.size, 0, none⟩), .pointer (some ⟨w.heap.size + 1, 0, none⟩)]) ∧ w' = (w.alloc (.cells #[.string s] 9)).alloc (.cells #[.int .i64 k] 3) := by
  go_enter Tryd.func14, Tryd.ntmps14
  go_wp2
  go_ret
  exact ⟨rfl, rfl⟩
/-- Where the cutter stands: acc was told, the part begins at F, i characters of it were met, p is the next place. -/
structure CutAt (s : ByteArray) (k : Nat) (acc : List (List UInt8)) (F i p : Nat) : Prop where
  le : p ≤ s.size
  fl : F ≤ s.size
  vf : vFrom s F = true
  vp : vFrom s p = true
  ik : i ≤ k
  pos : p = F + blen ((Rs s F).take i)
  il : i ≤ (Rs s F).length
  all : acc ++ frL k (Rs s F) = frL k (runes s)
theorem cut_start (s : ByteArray) (k : Nat) (hv : validB s = true) : CutAt s k [] 0 0 0 := by
  have h : vFrom s 0 = true := by rw [vFrom_zero]; exact hv
  exact ⟨by omega, by omega, h, h, by omega, by simp [blen_nil], by omega, by rw [Rs_zero]; rfl⟩
theorem CutAt.more {s : ByteArray} {k : Nat} {acc : List (List UInt8)} {F i p : Nat} (h : CutAt s k acc F i p) (hp : p < s.size) (hi : i < k) : CutAt s k acc F (i + 1) (p + (Utf8.decode s p).2) := by
  have hw := width_le s p hp
  have hg := good_of s p hp h.vp
  have hd := Rs_drop s i F h.vf
  rw [← h.pos] at hd
  have hs := Rs_step s p hp
  have hlen : i < (Rs s F).length := by
    rcases Nat.lt_or_ge i (Rs s F).length with h1 | h1
    · exact h1
    · have := hd.1; rw [List.drop_of_length_le h1, hs] at this; cases this
  refine ⟨by omega, h.fl, h.vf, by rw [vFrom_good s p hp hg]; exact h.vp, by omega, ?_, hlen, h.all⟩
  have e : (Rs s F).take (i + 1) = (Rs s F).take i ++ [((Utf8.decode s p).1 : Int)] := by
    have h2 := hd.1
    rw [hs] at h2
    rw [List.take_succ_eq_append_getElem hlen]
    have h3 : (Rs s F)[i] = ((Rs s F).drop i).head (by rw [← h2]; simp) := by simp
    rw [h3]
    simp [← h2]
  rw [e, blen_append, h.pos, Nat.add_assoc]
  congr 1
  congr 1
  rw [blen_cons, blen_nil, ← h.pos, rune_width s p hp hg]; rfl
/-- The part that is full. -/
theorem CutAt.part {s : ByteArray} {k : Nat} {acc : List (List UInt8)} {F p : Nat} (h : CutAt s k acc F k p) (hk : 1 ≤ k) : CutAt s k (acc ++ part91 ((Rs s F).take k)) p 0 p := by
  have hd := Rs_drop s k F h.vf
  rw [← h.pos] at hd
  refine ⟨h.le, h.le, h.vp, h.vp, by omega, by simp [blen_nil], by omega, ?_⟩
  have hne : Rs s F ≠ [] := fun e => by have := h.il; rw [e] at this; simp at this; omega
  rw [← h.all, frL_step hk hne, hd.1, List.append_assoc]
theorem CutAt.last {s : ByteArray} {k : Nat} {acc : List (List UInt8)} {F i p : Nat} (h : CutAt s k acc F i p) (hk : 1 ≤ k) (hp : ¬ p < s.size) : acc ++ part91 (Rs s F) = frL k (runes s) := by
  have hd := Rs_drop s i F h.vf
  rw [← h.pos, Rs_end s p hp] at hd
  have hl : (Rs s F).length ≤ i := List.drop_eq_nil_iff.1 hd.1.symm
  rw [← h.all, frL_last hk (by have := h.ik; omega)]
theorem CutAt.text {s : ByteArray} {k : Nat} {acc : List (List UInt8)} {F i p : Nat} (h : CutAt s k acc F i p) : s.extract F p = bs (encs ((Rs s F).take i)) := by
  rw [h.pos]
  exact cut_text s F i h.fl h.vf
theorem Rs_chr (s : ByteArray) (p : Nat) (h : vFrom s p = true) : ∀ r ∈ Rs s p, chr r = true := runesFrom_chr s _ p h
def GoodP (s : ByteArray) (part : List Int) : Prop := (∀ r ∈ part, chr r = true) ∧ (encs part).length ≤ 65536
theorem good_part (s : ByteArray) (hs : s.size ≤ 65536) (F i : Nat) (hF : F ≤ s.size) (hv : vFrom s F = true) : GoodP s ((Rs s F).take i) := by
  refine ⟨fun r hr => Rs_chr s F hv r (List.mem_of_mem_take hr), ?_⟩
  have := Rs_take_le s i F hF hv
  unfold blen at this
  omega
theorem iterPos_ofF {w : World} {k p : Nat} {s : ByteArray} (h : w.heap[k]? = some (.stringIter s p)) : w.iterPos k = p := by simp [World.iterPos, h]
set_option maxHeartbeats 4000000 in
theorem cutN_any (n : Nat) (hn : 1 ≤ n) (l Bt Bn k : Nat) (s : ByteArray) (hs : s.size ≤ 65536) (hv : validB s = true) (hk1 : 10 ≤ k) (hk2 : k ≤ 1000) (J : List (List UInt8) → Option (Nat × Nat) → World → Prop)
    (hJ : ∀ acc io W, J acc io W → W.cell? ⟨Bt, 0, none⟩ = some (.string s) ∧ W.cell? ⟨Bn, 0, none⟩ = some (.int .i64 (k : Int)))
    (hJa : ∀ acc W, J acc none W → J acc (some (W.heap.size, 0)) (W.iter s 0))
    (hJn : ∀ acc I p W, J acc (some (I, p)) W → W.heap[I]? = some (.stringIter s p))
    (hJi : ∀ acc I p p' W, J acc (some (I, p)) W → J acc (some (I, p')) (W.iterAt I s p'))
    (hY : ∀ acc I p part W, GoodP s part → (acc ++ part91 part).length ≤ (frL k (runes s)).length → J acc (some (I, p)) W → YieldAt Fence.wide (n - 1) Tryd.prog l #[.string (bs (encs part))] W fun e W' => e = .returned (.bool true) ∧ J (acc ++ part91 part) (some (I, p)) W')
    (W : World) (h0 : J [] none W) :
    CallsIn Fence.wide n Tryd.prog 21 #[.func (.yield l) #[] #[], .pointer (some ⟨Bt, 0, none⟩), .pointer (some ⟨Bn, 0, none⟩)] W fun e W' => (∃ v, e = .returned v) ∧ ∃ io, J (frL k (runes s)) io W' := by
  refine callsIn_of_wp Tryd.func21 rfl trivial ?_ rfl
  simp only [Tryd.ntmps21, List.size_toArray, List.length_cons, List.length_nil, Nat.reduceAdd, Nat.reduceSub, Array.replicate_succ, Array.replicate_zero, List.push_toArray, List.append_toArray, List.nil_append, List.cons_append]
  have k1 := (hJ _ _ _ h0).1
  have HJ0 := hidd (hJa _ _ h0)
  have HJJ := hidd hJ
  have HJN := hidd hJn
  have HJI := hidd hJi
  have HY := hidd hY
  have HV := hidd hv
  clear hJ hJa hJn hJi hY h0 hv
  gi_wp2
  obtain ⟨I, hI⟩ : ∃ I, W.heap.size = I := ⟨_, rfl⟩
  rw [hI] at HJ0
  try rw [hI]
  generalize W.iter s 0 = W1 at *
  clear hI k1
  gi_loopw [4, 5] (fun fv cv wr => ∃ (acc : List (List UInt8)) (F i p : Nat), fv = .int .i64 (F : Int) ∧ cv = .int .i64 (i : Int) ∧ CutAt s k acc F i p ∧ J acc (some (I, p)) wr) (fun _ _ wr => s.size - wr.iterPos I)
  case atStart => exact ⟨[], 0, 0, 0, rfl, rfl, cut_start s k HV.out, HJ0.out⟩
  case round =>
    obtain ⟨acc, F, i, p, rfl, rfl, hcut, hJw⟩ := hrel
    have HC := hidd hcut
    have HJw := hidd hJw
    have hit := HJN.out _ _ _ _ hJw
    have hle := hcut.le
    have hfl := hcut.fl
    have hik := hcut.ik
    have hFp : F ≤ p := by have := hcut.pos; omega
    clear hcut hJw HJ0
    by_cases hlt : p < s.size
    · have hnx : ∀ ty, (Instr.next (.pointer (some ⟨I, 0, none⟩)) true ty).run Tryd.prog wr = _ := fun ty => Lib.run_next_any_at wr I s p ty hit hlt
      have hw := width_le s p hlt
      have HJ2 := hidd (HJI.out _ _ _ (p + (Utf8.decode s p).2) _ HJw.out)
      have Hpos := hidd (iterPos_ofF hit)
      have hr := rune_le s p
      by_cases hfull : i = k
      · subst hfull
        have HC2 := hidd ((HC.out.part (by omega)).more hlt (by omega))
        have HTx := hidd HC.out.text
        generalize (Utf8.decode s p).1 = r at *
        generalize (Utf8.decode s p).2 = m at *
        generalize wr.iterAt I s (p + m) = wi at *
        have HYi := HY.out acc I (p + m) ((Rs s F).take i) wi (good_part s hs F i hfl HC.out.vf) (by rw [← HC2.out.all]; simp) HJ2.out
        obtain ⟨fn, tmps, assign, body, hy, hR⟩ := HYi
        have k1 := (HJJ.out _ _ _ HJ2.out).1
        have k2 := (HJJ.out _ _ _ HJ2.out).2
        have hsl := slice_text s F p (p : Int) rfl hFp hle wi
        rw [HTx.out] at hsl
        have hee : ((i : Int) == (i : Int)) = true := by simp
        generalize bs (encs ((Rs s F).take i)) = tx at *
        gi_wp2
        refine hR.mono ?_
        rintro e W3 ⟨rfl, hJ3⟩
        have HJ3 := hidd hJ3
        clear hJ3
        gi_wp2
        go_roundw
        · exact ⟨_, p, 1, p + m, rfl, rfl, HC2.out, HJ3.out⟩
        · rw [iterPos_ofF (HJN.out _ _ _ _ HJ3.out), Hpos.out]; omega
      · have HC2 := hidd (HC.out.more hlt (by omega))
        generalize (Utf8.decode s p).1 = r at *
        generalize (Utf8.decode s p).2 = m at *
        generalize wr.iterAt I s (p + m) = wi at *
        have k2 := (HJJ.out _ _ _ HJ2.out).2
        have hee : ((i : Int) == (k : Int)) = false := by simp; omega
        gi_wp2
        go_roundw
        · exact ⟨_, F, i + 1, p + m, rfl, by go_num, HC2.out, HJ2.out⟩
        · rw [iterPos_ofF (HJN.out _ _ _ _ HJ2.out), Hpos.out]; omega
    · obtain rfl : p = s.size := by omega
      have hnx : ∀ ty, (Instr.next (.pointer (some ⟨I, 0, none⟩)) true ty).run Tryd.prog wr = _ := fun ty => Lib.run_next_end_at wr I s s.size ty hit (by omega)
      have HL := hidd (HC.out.last (by omega) hlt)
      have HTx : Hid (s.extract F s.size = bs (encs (Rs s F))) := hidd (by
        have h1 := HC.out.text
        have hd := Rs_drop s i F HC.out.vf
        rw [← HC.out.pos, Rs_end s s.size (by omega)] at hd
        rw [List.take_of_length_le (List.drop_eq_nil_iff.1 hd.1.symm)] at h1
        exact h1)
      have HG : Hid (GoodP s (Rs s F)) := hidd (by
        have h1 := good_part s hs F (Rs s F).length hfl HC.out.vf
        rw [List.take_length] at h1
        exact h1)
      have HYi := HY.out acc I s.size (Rs s F) wr HG.out (by rw [HL.out]; exact Nat.le_refl _) HJw.out
      obtain ⟨fn, tmps, assign, body, hy, hR⟩ := HYi
      have k1 := (HJJ.out _ _ _ HJw.out).1
      rw [← HTx.out] at hy
      gi_wp2
      refine hR.mono ?_
      rintro e W3 ⟨rfl, hJ3⟩
      have HJ3 := hidd hJ3
      clear hJ3
      gi_wp2
      go_end0
      refine ⟨⟨_, rfl⟩, some (I, s.size), ?_⟩
      have h3 := HJ3.out
      rw [HL.out] at h3
      exact h3
end Go.Proofs.YtebffdfalbjmhaaDoor
