import Derived.Test.YtkbjimkngmlfcaaDoorSetsJ02
import Derived.Deep.RegionHeld3
namespace Go.Proofs.YtkbjimkngmlfcaaDoor
open Go Go.RowKit
open Go renaming World→aaa,Value→aab,heap_alloc_new→aar
open List renaming getD_eq_getElem?_getD→aap,getElem?_eq_getElem→aas,drop_sublist→aav,mem_append→aal,mem_singleton→aau
set_option linter.unusedVariables false
set_option linter.unusedSimpArgs false
set_option maxRecDepth 100000
set_option maxHeartbeats 4000000
theorem aa6 {P:Prop}(h:P:=by
 intro e;have:=GV.out.2;rw[e]at this;rcases this with⟨_,h⟩| ⟨_,_,_,h,_⟩;·omega
 ·simp at h) :P:=h
theorem zc1 {P : Prop} (h : P := by
  have HFin : Hid (∀ (W : World) (v : Value), W.ownsRow w.heap.size 3 1 v (p + 1 + (out.length - p)) (zI (out.take p) ++ [.int .i64 x] ++ zI (out.drop p)) → Below w.heap.size w W → v ≠ .slice none 0 0 → _) := fun W v h1 h2 h3 => fin.out W v (out.take p ++ [x] ++ out.drop p) (by simp; omega) HI.out (fun y => by rw [abO, kH.out y, IW.out y]) (by rw [nD, mh, show (out.take p ++ [x] ++ out.drop p).length = p + 1 + (out.length - p) by simp; omega]; exact h1) h2 h3
  clear HP qF
  have hpc : (p : Int) ≤ (cap : Int) := by omega
  have hpo : (p : Int) ≤ (out.length : Int) := by omega
  go_wp2
  go_quiet (fail)
  go_wp2
  go_quiet (fail)
  go_wp2
  generalize hW1 : (wr.drewN _).drewN _ = W1
  have agD : Hid (W1.ownsRow w.heap.size 3 1 (.slice (some ⟨g, 0, none⟩) out.length cap) out.length (zI out)) := by show World.ownsRow _ _ _ _ _ _ _; rw [← hW1]; exact own_drewN (own_drewN HOq.out _) _
  have PT : Hid (Below w.heap.size w W1) := by show Below _ _ _; rw [← hW1]; exact below_drewN (below_drewN l6.out _) _
  have e0 : W1.cell? ⟨gz, oz + i, none⟩ = some (.int .i64 x) := by rw [← hW1]; simpa using d0
  clear hW1 HOq l6
  have GU : Hid (gz < W1.heap.size) := Nat.lt_of_lt_of_le hgz PT.out.size
  have jX : Hid (Below W1.heap.size W1 W1.drew) := below_drewN (Below.refl _ _) 1
  have pQ : Hid (w.heap.size ≤ W1.heap.size) := PT.out.size
  have Oc : Hid ((zI (out.take p)).length = p * 1) := by show _ = _; simp [zI]; omega
  have HtB : Hid ((zI (out.drop p)).length = (out.length - p) * 1) := by show _ = _; simp [zI]
  have OW : Hid (∀ W, Below W1.heap.size W1 W → ∀ (j : Nat) u, (zI (out.take p))[j]? = some u → W.cell? ((⟨g, 0, none⟩ : Addr).add j) = some u) := Yw agD.out 0 p (by omega) rfl
  by_cases hcp : p = cap
  · subst hcp
    have HnB : Hid (∀ W, Below W1.heap.size W1 W → ∀ (j : Nat) u, (zI (out.drop p))[j]? = some u → W.cell? ((⟨g, 0, none⟩ : Addr).add j) = some u) := by
      show ∀ _, _
      intro W _ j u hu
      rw [List.drop_eq_nil_of_le (by omega)] at hu
      simp [zI] at hu
    go_region_held3 (fun W => W.cell? ⟨gz, oz + i, none⟩ = some (.int .i64 x)) (first | exact e0 | exact (EJ.out.cell (p := ⟨gz, oz + i, none⟩) GU.out).trans e0 | exact (qj.out.cell (p := ⟨gz, oz + i, none⟩) GU.out).trans e0 | exact (iM.out.cell (p := ⟨gz, oz + i, none⟩) GU.out).trans e0 | go_keep) (first
      | (refine dh _ rfl (.tmp 49) (.tmp 54) 56 rfl W1.heap.size 3 i0 (.int .i64 0) 1 8 Tryd.underlying56 hi hz0 hz1 hz2 rfl (by decide) v49 p (zI (out.take p)) (by simp [Act.eval]) (nE.out.alloc _) ⟨tO.heap.size, 0, none⟩ 1 1 [.int .i64 x] (by simp [Act.eval]) rfl (one_cell (I9 _ _)) (by intro u' hu'; simp at hu'; subst hu'; rfl) (by unfold maxLen; omega) (by omega) (by have := iM.out.size; first | omega | (simp; done) | (simp; omega)) ?_; intro v55 Bq ja gP; have zF := ah ja; have qj : Hid (Below W1.heap.size W1 Bq) := (iM.out.alloc iM.out.size _).grown gP (by have := iM.out.size; first | omega | (simp; done) | (simp; omega)) (fun k hk => by have := fF nE.out k hk; omega); clear ja gP)
      | (refine dh _ rfl (.tmp 49) (.tmp 54) 56 rfl W1.heap.size 3 i0 (.int .i64 0) 1 8 Tryd.underlying56 hi hz0 hz1 hz2 rfl (by decide) v49 p (zI (out.take p)) (by simp [Act.eval]) (nE.out) ⟨W1.heap.size + 1, 0, none⟩ 1 1 [.int .i64 x] (by simp [Act.eval]) rfl (one_cell (Ey.out)) (by intro u' hu'; simp at hu'; subst hu'; rfl) (by unfold maxLen; omega) (by omega) (by have := iM.out.size; first | omega | (simp; done) | (simp; omega)) ?_; intro v55 Bq ja gP; have zF := ah ja; have qj : Hid (Below W1.heap.size W1 Bq) := (iM.out).grown gP (by have := iM.out.size; first | omega | (simp; done) | (simp; omega)) (fun k hk => by have := fF nE.out k hk; omega); clear ja gP)
      | (refine dh _ rfl (.tmp 49) (.tmp 54) 56 rfl W1.heap.size 3 i0 (.int .i64 0) 1 8 Tryd.underlying56 hi hz0 hz1 hz2 rfl (by decide) v49 p (zI (out.take p)) (by simp [Act.eval]) (nE.out) ⟨W1.heap.size, 0, none⟩ 1 1 [.int .i64 x] (by simp [Act.eval]) rfl (one_cell (Ey.out)) (by intro u' hu'; simp at hu'; subst hu'; rfl) (by unfold maxLen; omega) (by omega) (by have := iM.out.size; first | omega | (simp; done) | (simp; omega)) ?_; intro v55 Bq ja gP; have zF := ah ja; have qj : Hid (Below W1.heap.size W1 Bq) := (iM.out).grown gP (by have := iM.out.size; first | omega | (simp; done) | (simp; omega)) (fun k hk => by have := fF nE.out k hk; omega); clear ja gP)
      | (refine dh _ rfl (.tmp 55) (.tmp 58) 56 rfl W1.heap.size 3 i0 (.int .i64 0) 1 8 Tryd.underlying56 hi hz0 hz1 hz2 rfl (by decide) v55 (p + 1) (zI (out.take p) ++ [.int .i64 x]) (by simp [Act.eval]) (zF.out) ⟨g, 0, none⟩ (out.length - p) (p - p) (zI (out.drop p)) (by first | (simp [Act.eval]; done) | (simp [Act.eval]; omega)) (HtB.out) (HnB.out _ qj.out) (uf _) (by unfold maxLen; omega) (by omega) (by have := qj.out.size; first | omega | (simp; done) | (simp; omega)) ?_; intro v59 ME Cv yO; have GV := ah Cv; have EJ : Hid (Below W1.heap.size W1 ME) := qj.out.grown yO qj.out.size (fun k hk => by have := fF zF.out k hk; omega); clear Cv yO)
      | (refine dh _ rfl (.tmp 45) (.tmp 48) 56 rfl W1.heap.size 3 i0 (.int .i64 0) 1 8 Tryd.underlying56 hi hz0 hz1 hz2 rfl (by decide) (.slice (some ⟨W1.heap.size, 0, none⟩) 0 0) 0 [] (by simp [Act.eval]) (rW (heap_alloc_new W1.drew _) (by simp)) ⟨g, 0, none⟩ p p (zI (out.take p)) (by simp [Act.eval]) (Oc.out) (OW.out _ (jX.out.alloc (by simp) _)) (uf _) (by unfold maxLen; omega) (by omega) (by first | omega | (simp; done) | (simp; omega)) ?_; intro v49 tO fC eP; simp only [Nat.zero_add, List.nil_append] at fC; have nE := ah fC; have iM : Hid (Below W1.heap.size W1 tO) := (jX.out.alloc (by simp) _).grown eP (by first | omega | (simp; done) | (simp; omega)) (fun k hk => by first | (simp [Value.ownBlock] at hk; omega) | (cases hk; first | omega | simp)); clear fC eP)
      | (refine dh _ rfl (.tmp 45) (.tmp 48) 56 rfl W1.heap.size 3 i0 (.int .i64 0) 1 8 Tryd.underlying56 hi hz0 hz1 hz2 rfl (by decide) (.slice (some ⟨W1.heap.size, 0, none⟩) 0 0) 0 [] (by simp [Act.eval]) (rW ((Below.heap_alloc _ _ _ (by simp)).trans (heap_alloc_new W1.drew _)) (by simp)) ⟨g, 0, none⟩ p p (zI (out.take p)) (by simp [Act.eval]) (Oc.out) (OW.out _ ((jX.out.alloc (by simp) _).alloc (by simp) _)) (uf _) (by unfold maxLen; omega) (by omega) (by first | omega | (simp; done) | (simp; omega)) ?_; intro v49 tO fC eP; simp only [Nat.zero_add, List.nil_append] at fC; have nE := ah fC; have iM : Hid (Below W1.heap.size W1 tO) := ((jX.out.alloc (by simp) _).alloc (by simp) _).grown eP (by first | omega | (simp; done) | (simp; omega)) (fun k hk => by first | (simp [Value.ownBlock] at hk; omega) | (cases hk; first | omega | simp)); have vV : tO.cell? ⟨W1.heap.size + 1, 0, none⟩ = some (.int .i64 x) := (World.cell?_of_block (eP.block (W1.heap.size + 1) (by simp) (by simp [Value.ownBlock]))).trans (Jo _ _ _); have Ey := ah vV; clear vV; clear fC eP)
      | (refine dh _ rfl (.tmp 45) (.tmp 48) 56 rfl W1.heap.size 3 i0 (.int .i64 0) 1 8 Tryd.underlying56 hi hz0 hz1 hz2 rfl (by decide) (.slice (some ⟨W1.heap.size + 1, 0, none⟩) 0 0) 0 [] (by simp [Act.eval]) (rW ((show _ = _ by have hh := heap_alloc_new (W1.drew.alloc (.cells #[.int .i64 x] 3)) (.cells #[] 3); rw [World.size_alloc] at hh; exact hh)) (by simp)) ⟨g, 0, none⟩ p p (zI (out.take p)) (by simp [Act.eval]) (Oc.out) (OW.out _ ((jX.out.alloc (by simp) _).alloc (by simp) _)) (uf _) (by unfold maxLen; omega) (by omega) (by first | omega | (simp; done) | (simp; omega)) ?_; intro v49 tO fC eP; simp only [Nat.zero_add, List.nil_append] at fC; have nE := ah fC; have iM : Hid (Below W1.heap.size W1 tO) := ((jX.out.alloc (by simp) _).alloc (by simp) _).grown eP (by first | omega | (simp; done) | (simp; omega)) (fun k hk => by first | (simp [Value.ownBlock] at hk; omega) | (cases hk; first | omega | simp)); have vV : tO.cell? ⟨W1.heap.size, 0, none⟩ = some (.int .i64 x) := (World.cell?_of_block (eP.block W1.heap.size (by first | (simp; done) | (simp; omega)) (by simp [Value.ownBlock]))).trans (IM _ _ _); have Ey := ah vV; clear vV; clear fC eP))
    all_goals
      have RR : Hid (ME.ownsRow w.heap.size 3 1 v59 (p + 1 + (out.length - p)) (zI (out.take p) ++ [.int .i64 x] ++ zI (out.drop p)) ∧ Below w.heap.size w ME) := ⟨jM GV.out pQ.out, PT.out.trans (EJ.out.mono pQ.out)⟩
      have K9 : v59 ≠ .slice none 0 0 := by
        exact aa6
      have HV := ah K9
      clear K9 GV EJ
      go_wp2
      go_roundw
      · exact HFin.out _ _ RR.out.1 RR.out.2 HV.out
      · simp [intOf]; omega
  · have HnB : Hid (∀ W, Below W1.heap.size W1 W → ∀ (j : Nat) u, (zI (out.drop p))[j]? = some u → W.cell? ((⟨g, p, none⟩ : Addr).add j) = some u) := VU agD.out p
    go_region_held3 (fun W => W.cell? ⟨gz, oz + i, none⟩ = some (.int .i64 x)) (first | exact e0 | exact (EJ.out.cell (p := ⟨gz, oz + i, none⟩) GU.out).trans e0 | exact (qj.out.cell (p := ⟨gz, oz + i, none⟩) GU.out).trans e0 | exact (iM.out.cell (p := ⟨gz, oz + i, none⟩) GU.out).trans e0 | go_keep) (first
      | (refine dh _ rfl (.tmp 49) (.tmp 54) 56 rfl W1.heap.size 3 i0 (.int .i64 0) 1 8 Tryd.underlying56 hi hz0 hz1 hz2 rfl (by decide) v49 p (zI (out.take p)) (by simp [Act.eval]) (nE.out.alloc _) ⟨tO.heap.size, 0, none⟩ 1 1 [.int .i64 x] (by simp [Act.eval]) rfl (one_cell (I9 _ _)) (by intro u' hu'; simp at hu'; subst hu'; rfl) (by unfold maxLen; omega) (by omega) (by have := iM.out.size; first | omega | (simp; done) | (simp; omega)) ?_; intro v55 Bq ja gP; have zF := ah ja; have qj : Hid (Below W1.heap.size W1 Bq) := (iM.out.alloc iM.out.size _).grown gP (by have := iM.out.size; first | omega | (simp; done) | (simp; omega)) (fun k hk => by have := fF nE.out k hk; omega); clear ja gP)
      | (refine dh _ rfl (.tmp 49) (.tmp 54) 56 rfl W1.heap.size 3 i0 (.int .i64 0) 1 8 Tryd.underlying56 hi hz0 hz1 hz2 rfl (by decide) v49 p (zI (out.take p)) (by simp [Act.eval]) (nE.out) ⟨W1.heap.size + 1, 0, none⟩ 1 1 [.int .i64 x] (by simp [Act.eval]) rfl (one_cell (Ey.out)) (by intro u' hu'; simp at hu'; subst hu'; rfl) (by unfold maxLen; omega) (by omega) (by have := iM.out.size; first | omega | (simp; done) | (simp; omega)) ?_; intro v55 Bq ja gP; have zF := ah ja; have qj : Hid (Below W1.heap.size W1 Bq) := (iM.out).grown gP (by have := iM.out.size; first | omega | (simp; done) | (simp; omega)) (fun k hk => by have := fF nE.out k hk; omega); clear ja gP)
      | (refine dh _ rfl (.tmp 49) (.tmp 54) 56 rfl W1.heap.size 3 i0 (.int .i64 0) 1 8 Tryd.underlying56 hi hz0 hz1 hz2 rfl (by decide) v49 p (zI (out.take p)) (by simp [Act.eval]) (nE.out) ⟨W1.heap.size, 0, none⟩ 1 1 [.int .i64 x] (by simp [Act.eval]) rfl (one_cell (Ey.out)) (by intro u' hu'; simp at hu'; subst hu'; rfl) (by unfold maxLen; omega) (by omega) (by have := iM.out.size; first | omega | (simp; done) | (simp; omega)) ?_; intro v55 Bq ja gP; have zF := ah ja; have qj : Hid (Below W1.heap.size W1 Bq) := (iM.out).grown gP (by have := iM.out.size; first | omega | (simp; done) | (simp; omega)) (fun k hk => by have := fF nE.out k hk; omega); clear ja gP)
      | (refine dh _ rfl (.tmp 55) (.tmp 58) 56 rfl W1.heap.size 3 i0 (.int .i64 0) 1 8 Tryd.underlying56 hi hz0 hz1 hz2 rfl (by decide) v55 (p + 1) (zI (out.take p) ++ [.int .i64 x]) (by simp [Act.eval]) (zF.out) ⟨g, p, none⟩ (out.length - p) (cap - p) (zI (out.drop p)) (by first | (simp [Act.eval]; done) | (simp [Act.eval]; omega)) (HtB.out) (HnB.out _ qj.out) (uf _) (by unfold maxLen; omega) (by omega) (by have := qj.out.size; first | omega | (simp; done) | (simp; omega)) ?_; intro v59 ME Cv yO; have GV := ah Cv; have EJ : Hid (Below W1.heap.size W1 ME) := qj.out.grown yO qj.out.size (fun k hk => by have := fF zF.out k hk; omega); clear Cv yO)
      | (refine dh _ rfl (.tmp 45) (.tmp 48) 56 rfl W1.heap.size 3 i0 (.int .i64 0) 1 8 Tryd.underlying56 hi hz0 hz1 hz2 rfl (by decide) (.slice (some ⟨W1.heap.size, 0, none⟩) 0 0) 0 [] (by simp [Act.eval]) (rW (heap_alloc_new W1.drew _) (by simp)) ⟨g, 0, none⟩ p cap (zI (out.take p)) (by simp [Act.eval]) (Oc.out) (OW.out _ (jX.out.alloc (by simp) _)) (uf _) (by unfold maxLen; omega) (by omega) (by first | omega | (simp; done) | (simp; omega)) ?_; intro v49 tO fC eP; simp only [Nat.zero_add, List.nil_append] at fC; have nE := ah fC; have iM : Hid (Below W1.heap.size W1 tO) := (jX.out.alloc (by simp) _).grown eP (by first | omega | (simp; done) | (simp; omega)) (fun k hk => by first | (simp [Value.ownBlock] at hk; omega) | (cases hk; first | omega | simp)); clear fC eP)
      | (refine dh _ rfl (.tmp 45) (.tmp 48) 56 rfl W1.heap.size 3 i0 (.int .i64 0) 1 8 Tryd.underlying56 hi hz0 hz1 hz2 rfl (by decide) (.slice (some ⟨W1.heap.size, 0, none⟩) 0 0) 0 [] (by simp [Act.eval]) (rW ((Below.heap_alloc _ _ _ (by simp)).trans (heap_alloc_new W1.drew _)) (by simp)) ⟨g, 0, none⟩ p cap (zI (out.take p)) (by simp [Act.eval]) (Oc.out) (OW.out _ ((jX.out.alloc (by simp) _).alloc (by simp) _)) (uf _) (by unfold maxLen; omega) (by omega) (by first | omega | (simp; done) | (simp; omega)) ?_; intro v49 tO fC eP; simp only [Nat.zero_add, List.nil_append] at fC; have nE := ah fC; have iM : Hid (Below W1.heap.size W1 tO) := ((jX.out.alloc (by simp) _).alloc (by simp) _).grown eP (by first | omega | (simp; done) | (simp; omega)) (fun k hk => by first | (simp [Value.ownBlock] at hk; omega) | (cases hk; first | omega | simp)); have vV : tO.cell? ⟨W1.heap.size + 1, 0, none⟩ = some (.int .i64 x) := (World.cell?_of_block (eP.block (W1.heap.size + 1) (by simp) (by simp [Value.ownBlock]))).trans (Jo _ _ _); have Ey := ah vV; clear vV; clear fC eP)
      | (refine dh _ rfl (.tmp 45) (.tmp 48) 56 rfl W1.heap.size 3 i0 (.int .i64 0) 1 8 Tryd.underlying56 hi hz0 hz1 hz2 rfl (by decide) (.slice (some ⟨W1.heap.size + 1, 0, none⟩) 0 0) 0 [] (by simp [Act.eval]) (rW ((show _ = _ by have hh := heap_alloc_new (W1.drew.alloc (.cells #[.int .i64 x] 3)) (.cells #[] 3); rw [World.size_alloc] at hh; exact hh)) (by simp)) ⟨g, 0, none⟩ p cap (zI (out.take p)) (by simp [Act.eval]) (Oc.out) (OW.out _ ((jX.out.alloc (by simp) _).alloc (by simp) _)) (uf _) (by unfold maxLen; omega) (by omega) (by first | omega | (simp; done) | (simp; omega)) ?_; intro v49 tO fC eP; simp only [Nat.zero_add, List.nil_append] at fC; have nE := ah fC; have iM : Hid (Below W1.heap.size W1 tO) := ((jX.out.alloc (by simp) _).alloc (by simp) _).grown eP (by first | omega | (simp; done) | (simp; omega)) (fun k hk => by first | (simp [Value.ownBlock] at hk; omega) | (cases hk; first | omega | simp)); have vV : tO.cell? ⟨W1.heap.size, 0, none⟩ = some (.int .i64 x) := (World.cell?_of_block (eP.block W1.heap.size (by first | (simp; done) | (simp; omega)) (by simp [Value.ownBlock]))).trans (IM _ _ _); have Ey := ah vV; clear vV; clear fC eP))
    all_goals
      have RR : Hid (ME.ownsRow w.heap.size 3 1 v59 (p + 1 + (out.length - p)) (zI (out.take p) ++ [.int .i64 x] ++ zI (out.drop p)) ∧ Below w.heap.size w ME) := ⟨jM GV.out pQ.out, PT.out.trans (EJ.out.mono pQ.out)⟩
      have K9 : v59 ≠ .slice none 0 0 := by
        exact aa6
      have HV := ah K9
      clear K9 GV EJ
      go_wp2
      go_roundw
      · exact HFin.out _ _ RR.out.1 RR.out.2 HV.out
      · simp [intOf]; omega) : P := h
theorem aan {P:Prop}(h:P:=by
 rintro((h|h)|h);·exact Or.inl (Or.inl h)
 ·exact Or.inr h
 ·exact Or.inl (Or.inr h)) :P:=h
theorem KD {out:List Int} {x:Int} {p:Nat}(h:iG out)(hp:p≤out.length)(h1: ∀j,j<p→out.getD j 0<x)(h2:p<out.length→x<out.getD p 0) :iG (out.take p++ [x]++out.drop p) :=by
 unfold iG at*;have ht: ∀y∈out.take p,y<x:=by
  intro y hy;obtain⟨j,hj⟩ :=List.mem_iff_getElem?.1 hy;rw[List.getElem?_take]at hj;split at hj;·rename_i hjp;have:=h1 j hjp;rw[aap,hj]at this;exact this
  ·cases hj
 have hd: ∀y∈out.drop p,x<y:=by
  intro y hy;by_cases hpl:p<out.length
  ·have h3:=h2 hpl;have he:out.drop p=out.getD p 0::out.drop (p+1) :=by rw[List.drop_eq_getElem_cons hpl,aap,aas hpl];rfl
   rw[he]at hy;rcases List.mem_cons.1 hy with rfl|hy';·exact h3
   ·have hs:(out.drop p).Pairwise (· < ·) :=h.sublist (aav p out);rw[he]at hs;exact Int.lt_trans h3 ((List.pairwise_cons.1 hs).1 y hy')
  ·rw[List.drop_eq_nil_of_le (by omega)]at hy;simp at hy
 have e:out.take p++ [x]++out.drop p=out.take p++(x::out.drop p) :=by simp
 rw[e,List.pairwise_append];refine⟨h.sublist (List.take_sublist p out),List.pairwise_cons.2 ⟨hd,h.sublist (aav p out)⟩,?_⟩;intro a ha b hb;rcases List.mem_cons.1 hb with rfl|hb;·exact ht a ha
 ·exact Int.lt_trans (ht a ha) (hd b hb)
theorem abO {out:List Int} {x:Int}(p:Nat)(y:Int) :y∈out.take p++ [x]++out.drop p↔y∈out∨y=x:=by
 rw[aal,aal,aau];have:=aal (a:=y) (s:=out.take p) (t:=out.drop p);rw[List.take_append_drop]at this;rw[this];constructor;·exact aan
 ·exact aan
theorem Xj {l:List Int} {i:Nat}(hi:i<l.length)(y:Int) :y∈l.take (i+1)↔y∈l.take i∨y=l.getD i 0:=by rw[List.take_succ_eq_append_getElem hi,aal,aau,aap,aas hi];rfl
theorem rW {W:aaa} {base b:Nat}(h:W.heap[b]?=some (.cells #[] 3))(hb:base≤b) :W.ownsRow base 3 1 (.slice (some ⟨b,0,none⟩) 0 0) 0 [] :=by refine⟨rfl,Or.inr ⟨b,0,#[],rfl,hb,h,?_⟩⟩;simp
theorem uf(l:List Int) : ∀u∈zI l,u.oneCell'=true:=by intro u hu;obtain⟨x,_,rfl⟩ :=List.mem_map.1 hu;rfl
theorem one_cell {W:aaa} {b:Nat} {x:aab}(h:W.cell? ⟨b,0,none⟩=some x) : ∀(j:Nat)u,[x][j]?=some u→W.cell? ((⟨b,0,none⟩ :Addr).add j)=some u:=by
 intro j u hu;match j,hu with
 |0,hu=>simp at hu;subst hu;simpa[Addr.add]using h
 |j+1,hu=>simp at hu
theorem I9(W:aaa)(x:aab) :(W.alloc (.cells #[x] 3)).cell? ⟨W.heap.size,0,none⟩=some x:=aj (aar W _) 0
theorem IM(W:aaa)(x:aab)(o:Obj) :((W.drew.alloc (.cells #[x] 3)).alloc o).cell? ⟨W.heap.size,0,none⟩=some x:=aj ((Below.heap_alloc _ _ _ (by simp)).trans (aar W.drew _)) 0
theorem Jo(W:aaa)(x:aab)(o:Obj) :((W.drew.alloc o).alloc (.cells #[x] 3)).cell? ⟨W.heap.size+1,0,none⟩=some x:=aj (cs:=#[x]) (t:=3) (by have:=aar (W.drew.alloc o) (.cells #[x] 3);rw[World.size_alloc]at this;exact this) 0
theorem Yw {W0:aaa} {base g cap:Nat} {out:List Int}(h:W0.ownsRow base 3 1 (.slice (some ⟨g,0,none⟩) out.length cap) out.length (zI out))(z p:Nat)(hp:p≤out.length)(hz:z=0) : ∀W,Below W0.heap.size W0 W→∀(j:Nat)u,(zI (out.take p))[j]?=some u→W.cell? ((⟨g,z,none⟩ :Addr).add j)=some u:=by
 subst hz;intro W hb j u hu;have hj:j<p:=by have:=(List.getElem?_eq_some_iff.1 hu).1;simp[zI]at this;omega
 rw[wS,hb.cell (p:=⟨g,j,none⟩) (Km h),h.cellAt j (by omega),←hu];simp[zI,hj]
theorem VU {W0:aaa} {base g cap:Nat} {out:List Int}(h:W0.ownsRow base 3 1 (.slice (some ⟨g,0,none⟩) out.length cap) out.length (zI out))(p:Nat) : ∀W,Below W0.heap.size W0 W→∀(j:Nat)u,(zI (out.drop p))[j]?=some u→W.cell? ((⟨g,p,none⟩ :Addr).add j)=some u:=by
 intro W hb j u hu;have hj:p+j<out.length:=by have:=(List.getElem?_eq_some_iff.1 hu).1;simp[zI]at this;omega
 have e:(⟨g,p,none⟩ :Addr).add j=⟨g,p+j,none⟩ :=by
  unfold Addr.add;by_cases h0:j=0;·subst h0;simp
  ·simp[h0]
 rw[e,hb.cell (p:=⟨g,p+j,none⟩) (Km h),h.cellAt (p+j) (by omega),←hu];simp[zI]
theorem dh {P:Program}(w:aaa) {ops:Array Oper} {o:Oper} {a:Act} {K:Act→aaa→Prop} {Q:Exit→Act→aaa→Prop} {E:Prop}(hgd:o.guard=none)(s x:Operand)(t:TypeId)(ho:o.op= .call {callee:= .builtin .append,args:=#[s,x],argTypes:=#[t,t]})(base:Nat)(e:TypeId)(i:TypeInfo)(z:aab)(size bytes:Nat)(ht:P.underlying t=some (.slice e))(hi:P.info? e=some i)(hz:i.zero=some z)(hsize:i.size=size)(hby:i.bytes=bytes)(hzs:z.cells.size=size)(hsz:0<size)(v:aab)(n:Nat)(xs:List aab)(hs:a.eval s=v)(hown:w.ownsRow base e size v n xs)(ad:Addr)(m c:Nat)(news:List aab)(hx:a.eval x= .slice (some ad) m c)(hl:news.length=m*size)(hnews: ∀j u,news[j]?=some u→w.cell? (ad.add j)=some u)(h1: ∀u∈news,u.oneCell'=true)(h63:n+m≤maxLen)(hbytes:(n+m)*bytes≤140737488355328)(hbase:base≤w.heap.size)(h: ∀v' w',w'.ownsRow base e size v' (n+m) (xs++news)→w.grownBy w' v.ownBlock→K (a.put o.dst v') w') :if Region.wanted o (yielded ops a.tmps)=true then Oper.wp P o a w K Q else E:=by
 have hw:Region.wanted o (yielded ops a.tmps)=true:=by simp[Region.wanted,hgd]
 rw[if_pos hw];exact wp_append_own w s x t ho base e i z size bytes ht hi hz hsize hby hzs hsz v n xs hs hown ad m c news hx hl hnews h1 h63 hbytes hbase fun v' w' h2 h3 h4=>h v' w' h2 h3
theorem yo(zs:List Int)(vz:aab)(w:aaa)(hl:zs.length≤1048576)(hz:bD w vz zs) :Calls Tryd.prog 47 #[vz] w fun e w'=>∃v ls,e= .returned v∧iG ls∧(∀y,y∈ls↔y∈zs)∧ls.length≤zs.length∧w'.ownsRow w.heap.size 3 1 v ls.length (zI ls)∧Below w.heap.size w w':=by
 obtain⟨i0,hi,hz0,hz1,hz2⟩ :=info_parts Tryd.infoIntL;obtain⟨az,cz,rfl,hzz⟩ :=hz;have HZ:=ah hzz;clear hzz;go_enter Tryd.func47,Tryd.ntmps47;go_wp2;have Bh:=ah (gF w 3);have HB0:Hid (Below w.heap.size w (w.alloc (.cells #[] 3))) :=(Below.refl _ _).alloc (Nat.le_refl _) _;generalize w.alloc (.cells #[] 3)=wn at*;go_loopw [3,4](fun ov iv wx=>∃(i g cap:Nat)(out:List Int),i≤zs.length∧iv= .int .i64 (i:Int)∧ov= .slice (some ⟨g,0,none⟩) out.length cap∧out.length≤i∧out.length≤cap∧iG out∧(∀y,y∈out↔y∈zs.take i)∧wx.ownsRow w.heap.size 3 1 ov out.length (zI out)∧Below w.heap.size w wx)(fun _ iv _=>zs.length-(intOf iv).toNat);case atStart=>exact⟨0,_,0,[],Nat.zero_le _,rfl,rfl,by simp,by simp,List.Pairwise.nil,by simp,Bh.out,HB0.out⟩
 case round=>
  clear Bh HB0;obtain⟨i,g,cap,out,hi',rfl,rfl,hoi,hcap,hrise,hmem,hown,hbel⟩ :=hrel;have HO:=ah hown;have fP:=ah hbel;have hzx:=hbel.size;have qF:=ah hrise;have kH:=ah hmem;clear hown hbel hrise hmem;by_cases hlt:i<zs.length
  ·have hltz:(i:Int)<(zs.length:Int) :=by omega
   obtain⟨gz,oz,rfl,hgz,hcz⟩ :=HZ.out.resolve_left (fun h=>by rw[h]at hlt;simp at hlt);have HCz:=ah hcz;have c0:=(fP.out.cell (p:=⟨gz,oz+i,none⟩) hgz).trans (hcz i hlt);have IW:=ah (Xj hlt);clear hcz;generalize zs.getD i 0=x at*;have hgl:=Km HO.out;have hgb:w.heap.size≤g:=fF HO.out g rfl;generalize wr=W0 at*;go_wp2;go_loopw [5](fun pv wx=>∃p q:Nat,p≤out.length∧pv= .int .i64 (p:Int)∧(∀j,j<p→out.getD j 0<x)∧wx=W0.drewN q)(fun pv _=>out.length-(intOf pv).toNat);case atStart=>exact⟨0,0,Nat.zero_le _,rfl,fun j hj=>by omega,rfl⟩
   case round=>
    obtain⟨p,q,hp,rfl,hbelow,hwq⟩ :=hrel;have vK:=ah hwq;have HP:=ah hbelow;have HOq:Hid (wr.ownsRow w.heap.size 3 1 (.slice (some ⟨g,0,none⟩) out.length cap) out.length (zI out)) :=by show World.ownsRow _ _ _ _ _ _ _;rw[hwq];exact own_drewN HO.out q
    have l6:Hid (Below w.heap.size w wr) :=by show Below _ _ _;rw[hwq];exact below_drewN fP.out q
    have d0:wr.cell? ⟨gz,oz+i,none⟩=some (.int .i64 x) :=by rw[hwq];simpa using c0
    have hzq:wr.heap.size=W0.heap.size:=by rw[hwq];simp
    have Hzq:=ah hzq;clear hbelow hwq hzq;have fin:Hid (∀(W:aaa)(v:aab)(out':List Int),out'.length≤i+1→iG out'→(∀y,y∈out'↔y∈zs.take (i+1))→W.ownsRow w.heap.size 3 1 v out'.length (zI out')→Below w.heap.size w W→v≠ .slice none 0 0→∃(i_1 g cap:Nat)(out:List Int),i_1≤zs.length∧Value.int .i64 ((i:Int)+1)= .int .i64 (i_1:Int)∧v= .slice (some ⟨g,0,none⟩) out.length cap∧out.length≤i_1∧out.length≤cap∧iG out∧(∀y,y∈out↔y∈zs.take i_1)∧W.ownsRow w.heap.size 3 1 v out.length (zI out)∧Below w.heap.size w W) :=by
     show∀_,_;intro W v out' h1 h2 h3 h4 h5 h6;rcases h4.2 with⟨rfl,_⟩| ⟨g',c',cur,rfl,hb',hg',hc'⟩;·exact absurd rfl h6
     ·exact⟨i+1,g',c',out',by omega,by simp,rfl,h1,hc'.1,h2,h3,h4,h5⟩
    by_cases hpl:p<out.length
    ·have anM:(p:Int)<(out.length:Int) :=by omega
     have hpb:decide ((p:Int)<(out.length:Int))=true:=by simpa using hpl
     have hpe:((p:Int)==(out.length:Int))=false:=by simp;omega
     have d1:wr.cell? ⟨g,p,none⟩=some (.int .i64 (out.getD p 0)) :=by rw[HOq.out.cellAt p (by omega)];simp[zI,hpl]
     have HX:=ah (show out.getD p 0∈out by rw[aap,aas hpl,Option.getD_some];exact List.getElem_mem hpl);obtain⟨y,hy⟩ : ∃y,out.getD p 0=y:=⟨_,rfl⟩;rw[hy]at d1 HX;by_cases hyx:y<x
     ·have cZ:Hid (∀j,j<p+1→out.getD j 0<x) :=by
       show∀j,j<p+1→_;intro j hj;by_cases e:j=p;·rw[e,hy];exact hyx
       ·exact HP.out j (by omega)
      clear hy;go_wp2;go_quiet(fail);go_wp2;go_roundw;case rel=>exact⟨p+1,q+nq,by omega,by go_num,cZ.out,by rw[vK.out,World.drewN_drewN]⟩
      case measure=>simp[intOf];omega
     ·have hyb:decide (y<x)=false:=by simpa using hyx
      by_cases hxe:y=x
      ·have hne:(y !=x)=false:=by simp[hxe]
       have gW:Hid (∀z,z∈out↔z∈zs.take (i+1)) :=by
        show∀z,_;intro z;rw[IW.out z,←kH.out z];constructor;·exact Or.inl
        ·rintro(h|h);·exact h
         ·rw[h,←hxe];exact HX.out
       clear hy hxe hyx;go_wp2;go_quiet(fail);go_wp2;go_quiet(fail);go_wp2;go_roundw;case rel=>exact fin.out _ _ out (by omega) qF.out gW.out (own_drewN HOq.out _) (below_drewN l6.out _) (by simp)
       case measure=>simp[intOf];omega
      ·have hne:(y !=x)=true:=by simp[hxe]
       have HI:=ah (KD qF.out hp HP.out (fun _=>by rw[hy];omega));clear hy hxe hyx;exact zc1
    ·have anM: ¬(p:Int)<(out.length:Int) :=by omega
     have hpb:decide ((p:Int)<(out.length:Int))=false:=by simpa using hpl
     have hpe:((p:Int)==(out.length:Int))=true:=by simp;omega
     have HI:=ah (KD qF.out hp HP.out (fun h=>absurd h hpl));exact zc1
  ·have hltz: ¬(i:Int)<(zs.length:Int) :=by omega
   have gW:Hid (∀y,y∈out↔y∈zs) :=by show∀y,_;intro y;rw[kH.out y,List.take_of_length_le (by omega)]
   go_wp2;go_ret;exact⟨_,rfl,out,qF.out,gW.out,by omega,HO.out,fP.out⟩
end Go.Proofs.YtkbjimkngmlfcaaDoor
