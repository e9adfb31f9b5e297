import Derived.Test.YtbkedgpligcicaaDictJ05
import Derived.Deep.AppendLies
import Derived.Deep.RegionLaw
import Derived.Deep.CutBlock
import Derived.Deep.RegionHeld3
import Derived.Deep.DeepCutAuto
namespace Go.Proofs.Ytbkedgpligcicaa
open Go Go.RowKit
set_option linter.unusedVariables false

theorem u8_in_b {b : Nat} (h : b < 256) : IntKind.u8.wrap (b : Int) = (b : Int) := by
  have : (b : Int) % 256 = b := by omega
  simp [IntKind.wrap, IntKind.bits, IntKind.signed, this]
def txV (t : Tx) : Value := .string ⟨t.toArray⟩
def tCells (A : List Tx) : List Value := A.map txV
theorem tCells_len (A : List Tx) : (tCells A).length = A.length := by simp [tCells]
theorem tCells_snoc (A : List Tx) (t : Tx) : tCells (A ++ [t]) = tCells A ++ [.string ⟨t.toArray⟩] := by simp [tCells, txV]
section
variable {P : Program} (w : World)
/-- append at a step of a region that draws, also of nothing. -/
theorem step_append_at {ops : Array Oper} {o : Oper} {a : Act} {K : Act → World → Prop} {Q : Exit → Act → World → Prop} {E : Prop} (hgd : o.guard = none) (s x : Operand) (t : TypeId)
    (ho : o.op = .call { callee := .builtin .append, args := #[s, x], argTypes := #[t, t] })
    (base : Nat) (e : TypeId) (i : TypeInfo) (z : Value) (size bytes : Nat) (ht : P.underlying t = some (.slice e)) (hi : P.info? e = some i) (hz : i.zero = some z)
    (hsize : i.size = size) (hby : i.bytes = bytes) (hzs : z.cells.size = size) (hsz : 0 < size)
    (v : Value) (n : Nat) (xs : List Value) (hs : a.eval s = v) (hown : w.ownsRow base e size v n xs)
    (ad : Addr) (m c : Nat) (news : List Value) (hx : a.eval x = .slice (some ad) m c) (hl : news.length = m * size) (hnews : ∀ j u, news[j]? = some u → w.cell? (ad.add j) = some u) (h1 : ∀ u ∈ news, u.oneCell' = true)
    (hv : v ≠ .slice none 0 0) (h63 : n + m ≤ maxLen) (hbytes : (n + m) * bytes ≤ 140737488355328) (hbase : base ≤ w.heap.size)
    (h : ∀ g cap w', w'.ownsRow base e size (.slice (some ⟨g, 0, none⟩) (n + m) cap) (n + m) (xs ++ news) → w.grownBy w' v.ownBlock → (v.ownBlock = some g ∨ g = w.heap.size) → K (a.put o.dst (.slice (some ⟨g, 0, none⟩) (n + m) cap)) w') :
    if Region.wanted o (yielded ops a.tmps) = true then Oper.wp P o a w K Q else E := by
  have hw : Region.wanted o (yielded ops a.tmps) = true := by simp [Region.wanted, hgd]
  rw [if_pos hw]
  obtain ⟨v', w', hr, h2, h3, h4, h5⟩ := run_append_own_at (P := P) w base t o.type e i z size bytes ht hi hz hsize hby hzs hsz v n xs hown ad m c news hl hnews h1 h63 hbytes hbase
  have hne : v' ≠ .slice none 0 0 := fun e1 => hv (h4.1 e1).1
  obtain ⟨g, cap, rfl⟩ : ∃ g cap, v' = .slice (some ⟨g, 0, none⟩) (n + m) cap := by
    rcases h2.2 with ⟨h', _⟩ | ⟨g, cap, cur, h', _⟩
    · exact absurd h' hne
    · exact ⟨g, cap, h'⟩
  unfold Oper.wp execOp
  simp only [ho, resolve, invoke, builtin, Sem.run_bind, Sem.run_pure, Result.andThen_ok, List.map_toArray, List.map_cons, List.map_nil, hs, hx, hr]
  refine h g cap w' h2 h3 ?_
  rcases h5 with h5 | h5
  · exact .inl h5.symm
  · exact .inr (by simpa [Value.ownBlock] using h5)
/-- A call of a Go function at a step of a region that draws. -/
theorem step_call {ops : Array Oper} {o : Oper} {a : Act} {K : Act → World → Prop} {Q : Exit → Act → World → Prop} {E : Prop} (hgd : o.guard = none) (f : FuncId) (args : Array Value) (ho : (execOp a.eval o).run P w = .ok (.enter f args) w)
    (h : Calls P f args w fun e w' => match e, w' with
      | .returned v, w'' => K (a.put o.dst v) w''
      | .panicked c, w'' => Q (.panic c) a w''
      | .outgrown, _ => LetsOut Q) :
    if Region.wanted o (yielded ops a.tmps) = true then Oper.wp P o a w K Q else E := by
  have hw : Region.wanted o (yielded ops a.tmps) = true := by simp [Region.wanted, hgd]
  rw [if_pos hw]
  unfold Oper.wp
  simp only [ho, Oper.upon]
  exact h
end
theorem exec_call4 (W : World) (a : Act) (o : Oper) (f : FuncId) (x y z q : Operand) (t u s r : TypeId) (ho : o.op = .call { callee := .value (.func f), args := #[x, y, z, q], argTypes := #[t, u, s, r] }) (v1 v2 v3 v4 : Value) (h1 : a.eval x = v1) (h2 : a.eval y = v2) (h3 : a.eval z = v3) (h4 : a.eval q = v4)
    (hf : (callFunc f #[v1, v2, v3, v4]).run Try.prog W = .ok (.enter f #[v1, v2, v3, v4]) W) : (execOp a.eval o).run Try.prog W = .ok (.enter f #[v1, v2, v3, v4]) W := by
  have hfn : a.eval (.func f) = .func (.func f) #[] #[] := rfl
  unfold execOp
  simp [ho, resolve, invoke, Deferred.ofValue, hfn, h1, h2, h3, h4, hf]
theorem conv_str (W : World) (g off cap : Nat) (l : List UInt8) (hc : BytesAt W g off l) : (convert 22 9 (.slice (some ⟨g, off, none⟩) l.length cap)).run Try.prog W = .ok (.string ⟨l.toArray⟩) W := by
  refine run_convert_bytes_back W 22 9 5 ⟨g, off, none⟩ cap l Try.underlying22 Try.underlying5 Try.underlying9 fun j hj => ?_
  have := hc j hj
  rw [show (⟨g, off, none⟩ : Addr).add j = ⟨g, off + j, none⟩ from by simp only [Addr.add]; split <;> simp_all]
  simpa [hj] using this
theorem Try.infoStr : (Try.prog.info? 9).map (fun i => (i.zero, i.size, i.bytes)) = some (some (.string ⟨#[]⟩), 1, 16) := by kernel_rfl
theorem ownE {B : Nat} (W : World) (h : W.heap.size = B) : (W.alloc (.cells #[] 5)).ownsRow B 5 1 (.slice (some ⟨B, 0, none⟩) 0 0) 0 [] := by
  subst h
  exact own_empty W 5
theorem bytes_news {W W' : World} {bh : Nat} {l : List UInt8} (h : BytesAt W bh 0 l) (hb : Below W.heap.size W W') : ∀ j u, (Lib.byteCells l)[j]? = some u → W'.cell? ((⟨bh, 0, none⟩ : Addr).add j) = some u := by
  intro j u hu
  have hj : j < l.length := by have := (List.getElem?_eq_some_iff.1 hu).1; simpa [Lib.byteCells] using this
  rw [byteCells_at l j hj] at hu
  have := h.below hb j hj
  rw [show (⟨bh, 0, none⟩ : Addr).add j = ⟨bh, 0 + j, none⟩ from by simp only [Addr.add]; split <;> simp_all, this]
  exact hu
theorem bytes_one (l : List UInt8) : ∀ u ∈ Lib.byteCells l, u.oneCell' = true := by
  intro u hu
  simp only [Lib.byteCells, List.mem_map] at hu
  obtain ⟨x, _, rfl⟩ := hu
  rfl
theorem new_cell (V : World) (x : Value) (t : TypeId) {B : Nat} (h : V.heap.size = B) : (V.alloc (.cells #[x] t)).cell? ⟨B, 0, none⟩ = some x := by
  subst h
  rw [cell_of_row _ V.heap.size 0 #[x] t (0, 0) (by show (V.heap.push _)[V.heap.size]? = _; simp)]
  rfl
theorem old_cell (V : World) (o : Obj) {B : Nat} {x : Value} (h : V.cell? ⟨B, 0, none⟩ = some x) : (V.alloc o).cell? ⟨B, 0, none⟩ = some x :=
  (((Below.refl V.heap.size V).alloc (Nat.le_refl _) o).cell (p := ⟨B, 0, none⟩) (cell_lt h)).trans h
theorem keep_cell {V W : World} {row : Option Nat} (hg : V.grownBy W row) {B : Nat} {x : Value} (h : V.cell? ⟨B, 0, none⟩ = some x) (hne : some B ≠ row) : W.cell? ⟨B, 0, none⟩ = some x :=
  (World.cell?_of_block (hg.block B (cell_lt h) hne)).trans h
theorem one_news {W : World} {ad : Addr} {x : Value} (hoff : ad.add 0 = ad) (h : W.cell? ad = some x) : ∀ j u, [x][j]? = some u → W.cell? (ad.add j) = some u := by
  intro j u hj
  match j, hj with
  | 0, hj =>
    simp at hj
    subst hj
    rw [hoff]
    exact h
/-- What l04Terms does. -/
def TermsC (w0 : World) (aS : Option Addr) (cS : Nat) (c : Int) (S : List St) (D : List Int) (ρ : Nat → Nat) (f : Nat) : Prop :=
  ∀ (i bh hc : Nat) (head : Tx) (A : List Tx) (v : Value) (w : World), i < S.length → 0 < valD D i → ρ i < f → Below w0.heap.size w0 w → BytesAt w bh 0 head → bh < w.heap.size → head.length + f ≤ 65536 → w.ownsRow w0.heap.size 9 1 v A.length (tCells A) → v ≠ .slice none 0 0 → v.ownBlock ≠ some bh → A.length + (langF S f i).length ≤ 4096 →
    Calls Try.prog 63 #[.agg #[.int .i64 c, .slice aS S.length cS], .int .i64 (i : Int), .slice (some ⟨bh, 0, none⟩) head.length hc, v] w fun e w' =>
      ∃ v', e = .returned v' ∧ w'.ownsRow w0.heap.size 9 1 v' (A ++ (langF S f i).map (head ++ ·)).length (tCells (A ++ (langF S f i).map (head ++ ·))) ∧ v' ≠ .slice none 0 0 ∧ Grew w w' v v'
set_option maxHeartbeats 4000000 in
set_option maxRecDepth 100000 in
theorem terms_step {w0 : World} {aS : Option Addr} {cS : Nat} {c : Int} {S : List St} {D : List Int} {ρ : Nat → Nat} {M f : Nat} (hn : S.length ≤ 16384) (hS : HoldS w0 aS S) (hok : CntOK S D ρ M) (ih : TermsC w0 aS cS c S D ρ f) : TermsC w0 aS cS c S D ρ (f + 1) := by
  intro i bh hc head A v w hi hp hρ hb hbh hbl hfl hown hv hvb hlen
  obtain ⟨i0, hi0, hz0, hz1, hz2⟩ := info_parts Try.infoStr
  obtain ⟨j0, hj0, hy0, hy1, hy2⟩ := info_parts Try.infoByte
  have HS := hidd hS
  have HOk := hidd hok
  have HIh := hidd ih
  have HB := hidd hb
  have HBh := hidd hbh
  have HOwn := hidd hown
  have Hlen := hidd hlen
  have hfew := hok.few i hi hp
  clear hS hok ih hb hbh hown hlen
  obtain ⟨bS, oS, rfl, hbS, hst⟩ := HS.out.resolve_left (fun h => by rw [h] at hi; simp at hi)
  obtain ⟨s0, ai, ci, s1, hai⟩ := hst i hi
  rw [show (S.getD i st0).1 = finAt S i from rfl] at s0
  rw [show (S.getD i st0).2 = arcsAt S i from rfl] at s1 hai
  have HS0 := hidd s0
  have HS1 := hidd s1
  have HAi := hidd hai
  clear hst s0 s1 hai
  have hzw := HB.out.size
  have HBa : Hid (Below w.heap.size w (w.alloc (.cells #[.int .i64 c, .slice (some ⟨bS, oS, none⟩) S.length cS] 27))) := (Below.refl _ _).alloc (Nat.le_refl _) _
  have Hbx := hidd (heap_alloc_new w (.cells #[.int .i64 c, .slice (some ⟨bS, oS, none⟩) S.length cS] 27))
  have hiz : (i : Int) < (S.length : Int) := by omega
  go_enter Try.func63, Try.ntmps63
  go_upto_region 1 with fail
  obtain ⟨wa, hwa⟩ : ∃ wa, w.alloc (.cells #[.int .i64 c, .slice (some ⟨bS, oS, none⟩) S.length cS] 27) = wa := ⟨_, rfl⟩
  have HO2 : Hid (wa.ownsRow w0.heap.size 9 1 v A.length (tCells A)) := by show wa.ownsRow _ _ _ _ _ _; rw [← hwa]; exact HOwn.out.alloc _
  rw [hwa] at HBa Hbx
  try rw [hwa]
  clear hwa
  have hza : w.heap.size < wa.heap.size := (Array.getElem?_eq_some_iff.1 Hbx.out).1
  have HB0 := hidd (HB.out.trans (HBa.out.mono hzw))
  have x1 : wa.cell? ⟨w.heap.size, 1, none⟩ = some (.slice (some ⟨bS, oS, none⟩) S.length cS) := blkc Hbx.out 1
  have x2 : wa.cell? ⟨bS, oS + i * 2, none⟩ = some (.bool (finAt S i)) := (HB0.out.cell (p := ⟨bS, oS + i * 2, none⟩) hbS).trans HS0.out
  have hcv := conv_str wa bh 0 hc head (HBh.out.below HBa.out)
  go_upto_if 16 with fail
  go_cut [3] (fun cv wy => wy.ownsRow w0.heap.size 9 1 cv (A ++ (toldT S f i 0).map (head ++ ·)).length (tCells (A ++ (toldT S f i 0).map (head ++ ·))) ∧ cv ≠ .slice none 0 0 ∧ Grew wa wy v cv)
  case first =>
    have HT0 := hidd (toldT_zero S f i)
    cases hf : finAt S i with
    | false =>
      rw [hf] at x2 HT0
      clear hf
      go_wp2_with fail
      go_meet
      case rel =>
        refine ⟨?_, hv, Grew.refl _ _⟩
        rw [HT0.out]
        simpa using HO2.out
    | true =>
      rw [hf] at x2 HT0
      clear hf
      have hA := Hlen.out
      have hl2 := toldT_len S f i 0
      have hl1 : A.length + 1 ≤ 4096 := by
        rw [HT0.out] at hl2
        simp at hl2
        omega
      rcases own_cases HO2.out with ⟨rfl, _⟩ | ⟨gv, cv, rfl, hg1, hg2⟩
      · exact absurd rfl hv
      go_wp2_with (at_builtin; refine wpList_append_own_at _ rfl _ _ 23 rfl w0.heap.size 9 i0 (.string ⟨#[]⟩) 1 16 Try.underlying23 hi0 hz0 hz1 hz2 rfl (by decide) _ _ _ rfl (HO2.out.alloc _) ⟨wa.heap.size, 0, none⟩ 1 1 [.string ⟨head.toArray⟩] rfl rfl ?c1 ?c2 ?c3 ?c4 ?c5 ?_)
      try case c1 =>
        intro j u hj
        match j, hj with
        | 0, hj => simp at hj; subst hj; simp [Addr.add]
      case c2 => first | rfl | (intro u hu; simp at hu; subst hu; rfl)
      case c3 => unfold maxLen; omega
      case c4 => omega
      case c5 => first | omega | (simp; omega)
      intro v6 w6 hown6 hgrow6 hne6 hat6
      go_wp2_with fail
      go_meet
      case rel =>
        refine ⟨?_, ?_, ?_⟩
        · rw [HT0.out]
          simp only [if_true, List.map_cons, List.map_nil, List.append_nil, tCells_snoc, List.length_append, List.length_cons, List.length_nil]
          exact hown6
        · exact hne6
        · exact Grew.of ((Grew.refl _ _).alloc _) hgrow6 (by rw [World.size_alloc]; exact hat6)
  case rest =>
    obtain ⟨hcown, hcne, hcg⟩ := hcut
    have HC := hidd (And.intro hcown (And.intro hcne hcg))
    clear hcown hcne hcg x1 x2 hcv
    go_wp2_with fail
    go_loopw [3, 9] (fun ov kv wr => ∃ k : Nat, k ≤ (arcsAt S i).length ∧ kv = .int .i64 (k : Int) ∧ wr.ownsRow w0.heap.size 9 1 ov (A ++ (toldT S f i k).map (head ++ ·)).length (tCells (A ++ (toldT S f i k).map (head ++ ·))) ∧ ov ≠ .slice none 0 0 ∧ Grew wa wr v ov) (fun _ kv _ => (arcsAt S i).length - (intOf kv).toNat)
    case atStart => exact ⟨0, Nat.zero_le _, rfl, HC.out.1, HC.out.2.1, HC.out.2.2⟩
    case round =>
      obtain ⟨k, hk, rfl, hown, hne, hgr⟩ := hrel
      have hvl := HOwn.out.lt
      have hbelr : Below w0.heap.size w0 wr := HB0.out.trans (hgr.below (by omega) HO2.out)
      have hbox : wr.heap[w.heap.size]? = some (.cells #[.int .i64 c, .slice (some ⟨bS, oS, none⟩) S.length cS] 27) := (hgr.1.block _ hza (fun e => by have := (hvl _ e.symm).2; omega)).trans Hbx.out
      have hbyt : BytesAt wr bh 0 head := fun t ht => by
        have h1 := HBh.out t ht
        have h2 : wr.heap[bh]? = w.heap[bh]? := (hgr.1.block bh (by omega) (fun e => hvb e.symm)).trans (HBa.out.block bh hbl)
        rw [← h1]
        simp [World.cell?, h2]
      have hzr := hgr.1.size
      have y1 : wr.cell? ⟨w.heap.size, 1, none⟩ = some (.slice (some ⟨bS, oS, none⟩) S.length cS) := blkc hbox 1
      have y0 : wr.cell? ⟨w.heap.size, 0, none⟩ = some (.int .i64 c) := blkc hbox 0
      have y2 : wr.cell? ⟨bS, oS + i * 2 + 1, none⟩ = some (.slice ai (arcsAt S i).length ci) := (hbelr.cell (p := ⟨bS, oS + i * 2 + 1, none⟩) hbS).trans HS1.out
      have HG := hidd hgr
      have HOw := hidd hown
      have HBr := hidd hbelr
      have HBy := hidd hbyt
      have Hbox := hidd hbox
      clear hgr hown hbelr hbyt hbox hvl
      by_cases hlt : k < (arcsAt S i).length
      · have hltz : (k : Int) < ((arcsAt S i).length : Int) := by omega
        have Hst := hidd (toldT_step S f i hlt)
        have hal := HOk.out.arcs i hi hp ((arcsAt S i).getD k ar0) (by rw [List.getD_eq_getElem?_getD, List.getElem?_eq_getElem hlt]; exact List.getElem_mem _)
        obtain ⟨b', off', rfl, hb', hcell⟩ := (HAi.out.below HBr.out).resolve_left (fun h => by rw [h] at hlt; simp at hlt)
        obtain ⟨z0, z1, z2⟩ := hcell k hlt
        clear hcell
        have hl2 := toldT_len S f i (k + 1)
        rw [Hst.out, List.length_append, List.length_map] at hl2
        have hA := Hlen.out
        generalize hpk : (arcsAt S i).getD k ar0 = p at *
        obtain ⟨p0, p1, p2⟩ := p
        obtain ⟨⟨h1, h2, h3, h4⟩, h5, h6⟩ := hal
        dsimp only at z0 z1 z2 h1 h2 h3 h4 h5 h6 hl2
        obtain ⟨T, rfl⟩ : ∃ T : Nat, p1 = (T : Int) := ⟨p1.toNat, by omega⟩
        obtain ⟨b, rfl⟩ : ∃ b : Nat, p0 = (b : Int) := ⟨p0.toNat, by omega⟩
        simp only [Int.toNat_natCast] at h4 h5 h6 Hst hl2
        have hwr : IntKind.u8.wrap (b : Int) = (b : Int) := u8_in_b (by omega)
        generalize hTo : toldT S f i k = tk at *
        obtain ⟨AT, hAT⟩ : ∃ AT, A ++ tk.map (head ++ ·) = AT := ⟨_, rfl⟩
        have HAT := hidd hAT
        rw [hAT] at HOw
        have hATl : AT.length = A.length + tk.length := by rw [← hAT]; simp
        have HATl := hidd hATl
        clear hAT hATl
        rcases own_cases HOw.out with ⟨rfl, _⟩ | ⟨gv, cv, rfl, hg1, hg2⟩
        · exact absurd rfl hne
        clear hTo hpk
        go_upto_region 7 with fail
        obtain ⟨Y, hY⟩ : ∃ Y, wr.heap.size + 1 = Y := ⟨_, rfl⟩
        have hsz1 : (wr.alloc (.cells #[.int .i64 (b : Int), .int .i64 (T : Int), .int .i64 p2] 85)).heap.size = Y := by simp [hY]
        have HBu : Hid (Below wr.heap.size wr (wr.alloc (.cells #[.int .i64 (b : Int), .int .i64 (T : Int), .int .i64 p2] 85))) := (Below.refl _ _).alloc (Nat.le_refl _) _
        have Hbu := hidd (heap_alloc_new wr (.cells #[.int .i64 (b : Int), .int .i64 (T : Int), .int .i64 p2] 85))
        obtain ⟨u, hu⟩ : ∃ u, wr.alloc (.cells #[.int .i64 (b : Int), .int .i64 (T : Int), .int .i64 p2] 85) = u := ⟨_, rfl⟩
        rw [hu] at hsz1 HBu Hbu
        try rw [hu]
        clear hu z0 z1 z2
        have q0 : u.cell? ⟨wr.heap.size, 0, none⟩ = some (.int .i64 (b : Int)) := blkc Hbu.out 0
        have q1 : u.cell? ⟨wr.heap.size, 1, none⟩ = some (.int .i64 (T : Int)) := blkc Hbu.out 1
        have q2 : u.cell? ⟨w.heap.size, 0, none⟩ = some (.int .i64 c) := blkc (blko Hbox.out HBu.out) 0
        have q3 : u.cell? ⟨w.heap.size, 1, none⟩ = some (.slice (some ⟨bS, oS, none⟩) S.length cS) := blkc (blko Hbox.out HBu.out) 1
        have hzz : wr.heap.size < u.heap.size := by omega
        have HBu2 := hidd HBu.out
        have HByu := hidd (HBy.out.below HBu.out)
        have HOu : Hid (u.ownsRow w0.heap.size 9 1 (.slice (some ⟨gv, 0, none⟩) AT.length cv) AT.length (tCells AT)) := own_below HOw.out HBu.out
        clear y0 y1 y2
        have hszd : u.drew.heap.size = Y := hsz1
        have hszo : ∀ o : Obj, (u.drew.alloc o).heap.size = Y + 1 := fun o => by simp [hsz1]
        have HbR := hidd (below_drewN (Below.refl u.heap.size u) 1)
        obtain ⟨b8, hb8⟩ : ∃ b8 : UInt8, (b8.toNat : Int) = (b : Int) := ⟨UInt8.ofNat b, by rw [ofNat_toNat (by omega)]⟩
        have Hb8 := hidd hb8
        clear hb8
        have hhl : head.length ≤ 65536 := by omega
        have hwz : w.heap.size < u.heap.size := by have := HBu.out.size; omega
        have hgvY : gv < Y := by have := own_lt HOu.out; omega
        have HbC : Hid (Lib.byteCells head ++ [.int .u8 (b : Int)] = Lib.byteCells (head ++ [b8])) := by
          show _ = _
          rw [Lib.byteCells_append]
          congr 1
          simp [Lib.byteCells, Hb8.out]
        have HTo : Hid (b8 = UInt8.ofNat b) := by
          show _ = _
          have := Hb8.out
          rw [← UInt8.toNat_inj, ofNat_toNat (by omega)]
          omega
        have hgvr : wr.heap.size ≠ gv := by have := own_lt HOw.out; omega
        have hgvw : w.heap.size ≠ gv := by
          intro e
          rcases HG.out.2 with h | ⟨k', h, hk'⟩
          · have := (HOwn.out.lt gv h.symm).2
            omega
          · have h2 : k' = gv := by simpa [Value.ownBlock] using h.symm
            omega
        have HCall : Hid (∀ (g52 c52 : Nat) (W : World), Below u.heap.size u W → W.ownsRow Y 5 1 (.slice (some ⟨g52, 0, none⟩) (head.length + 1) c52) (head.length + 1) (Lib.byteCells (head ++ [b8])) →
            Calls Try.prog 63 #[.agg #[.int .i64 c, .slice (some ⟨bS, oS, none⟩) S.length cS], .int .i64 (T : Int), .slice (some ⟨g52, 0, none⟩) (head.length + 1) c52, .slice (some ⟨gv, 0, none⟩) AT.length cv] W fun e w' => ∃ v', e = .returned v' ∧ (w'.cell? ⟨wr.heap.size, 0, none⟩ = some (.int .i64 (b : Int)) ∧ w'.cell? ⟨wr.heap.size, 1, none⟩ = some (.int .i64 (T : Int)) ∧ w'.cell? ⟨w.heap.size, 0, none⟩ = some (.int .i64 c) ∧ w'.cell? ⟨w.heap.size, 1, none⟩ = some (.slice (some ⟨bS, oS, none⟩) S.length cS)) ∧ (w'.ownsRow w0.heap.size 9 1 v' (A ++ (toldT S f i (k + 1)).map (head ++ ·)).length (tCells (A ++ (toldT S f i (k + 1)).map (head ++ ·))) ∧ v' ≠ .slice none 0 0 ∧ Grew wa w' v v')) := by
          intro g52 c52 W hbW hoW
          have hgY := own_block hoW g52 rfl
          have hgW := own_lt hoW
          have hby : BytesAt W g52 0 (head ++ [b8]) := own_bytes hoW (by simp)
          have hlenH : (head ++ [b8]).length = head.length + 1 := by simp
          have hbwr : Below wr.heap.size wr W := HBu.out.trans (hbW.mono (by omega))
          have := HIh.out T g52 c52 (head ++ [b8]) AT (.slice (some ⟨gv, 0, none⟩) AT.length cv) W h4 h5 (by omega) (HBr.out.trans (hbwr.mono HBr.out.size)) hby hgW (by rw [hlenH]; omega) (own_below HOu.out hbW) hne (by simp [Value.ownBlock]; omega) (by have := HATl.out; omega)
          rw [hlenH] at this
          refine this.mono ?_
          rintro e w' ⟨v', rfl, h1', h2', h3'⟩
          have kp : ∀ x jj, x < u.heap.size → x ≠ gv → w'.cell? ⟨x, jj, none⟩ = u.cell? ⟨x, jj, none⟩ := fun x jj hx hxg =>
            (World.cell?_of_block (h3'.1.block x (Nat.lt_of_lt_of_le hx hbW.size) (by simp [Value.ownBlock]; omega))).trans (hbW.cell (p := ⟨x, jj, none⟩) hx)
          refine ⟨v', rfl, ⟨(kp _ 0 hzz hgvr).trans q0, (kp _ 1 hzz hgvr).trans q1, (kp _ 0 hwz hgvw).trans q2, (kp _ 1 hwz hgvw).trans q3⟩, ?_, h2', HG.out.trans (Grew.trans ⟨⟨hbwr.os, hbwr.tape, hbwr.output, hbwr.size, fun b hb _ => hbwr.block b hb⟩, Or.inl rfl⟩ h3')⟩
          have e1 : A ++ (toldT S f i (k + 1)).map (head ++ ·) = AT ++ (langF S f T).map (head ++ [b8] ++ ·) := by
            rw [Hst.out, ← HAT.out, List.map_append, List.map_map, List.append_assoc, HTo.out]
            congr 3
            funext t
            simp
          rw [e1]
          exact h1'
        go_region_held3 (fun W => W.cell? ⟨wr.heap.size, 0, none⟩ = some (.int .i64 (b : Int)) ∧ W.cell? ⟨wr.heap.size, 1, none⟩ = some (.int .i64 (T : Int)) ∧ W.cell? ⟨w.heap.size, 0, none⟩ = some (.int .i64 c) ∧ W.cell? ⟨w.heap.size, 1, none⟩ = some (.slice (some ⟨bS, oS, none⟩) S.length cS))
          (first | exact ⟨s0, s1, s2, s3⟩ | exact ⟨t0, t1, t2, t3⟩ | exact ⟨r0, r1, r2, r3⟩ | go_keep)
          (first
          | (refine step_append_at _ rfl (.tmp 45) (.tmp 46) 22 rfl Y 5 j0 (.int .u8 0) 1 1 Try.underlying22 hj0 hy0 hy1 hy2 rfl (by decide) (.slice (some ⟨Y, 0, none⟩) 0 0) 0 [] (by simp [Act.eval]) (ownE u.drew hszd) ⟨bh, 0, none⟩ head.length hc (Lib.byteCells head) (by simp [Act.eval]) (by simp [Lib.byteCells]) (bytes_news HByu.out (HbR.out.alloc (by simp) _)) (bytes_one head) (by simp) (by unfold maxLen; omega) (by omega) (by first | omega | (simp; done) | (simp; omega)) ?_; intro g47 c47 w47 hown47 hgrow47 hat47; simp only [Nat.zero_add, List.nil_append] at hown47; have hb47 : Below u.heap.size u w47 := (HbR.out.alloc (by simp) _).grown hgrow47 (by first | omega | (simp; done) | (simp; omega)) (fun k hk => by first | (simp [Value.ownBlock] at hk; omega) | (have := own_block HO47.out k hk; omega)); have hO51 : True := trivial; have HO47 := hidd hown47; have HB47 := hidd hb47; have r0 : w47.cell? ⟨wr.heap.size, 0, none⟩ = some (.int .i64 (b : Int)) := (hb47.cell (p := ⟨wr.heap.size, 0, none⟩) hzz).trans q0; have r1 : w47.cell? ⟨wr.heap.size, 1, none⟩ = some (.int .i64 (T : Int)) := (hb47.cell (p := ⟨wr.heap.size, 1, none⟩) hzz).trans q1; have r2 : w47.cell? ⟨w.heap.size, 0, none⟩ = some (.int .i64 c) := (hb47.cell (p := ⟨w.heap.size, 0, none⟩) hwz).trans q2; have r3 : w47.cell? ⟨w.heap.size, 1, none⟩ = some (.slice (some ⟨bS, oS, none⟩) S.length cS) := (hb47.cell (p := ⟨w.heap.size, 1, none⟩) hwz).trans q3; clear hown47 hgrow47 hat47 hb47)
          | (refine step_append_at _ rfl (.tmp 45) (.tmp 46) 22 rfl Y 5 j0 (.int .u8 0) 1 1 Try.underlying22 hj0 hy0 hy1 hy2 rfl (by decide) (.slice (some ⟨Y, 0, none⟩) 0 0) 0 [] (by simp [Act.eval]) ((ownE u.drew hszd).alloc _) ⟨bh, 0, none⟩ head.length hc (Lib.byteCells head) (by simp [Act.eval]) (by simp [Lib.byteCells]) (bytes_news HByu.out ((HbR.out.alloc (by simp) _).alloc (by simp) _)) (bytes_one head) (by simp) (by unfold maxLen; omega) (by omega) (by first | omega | (simp; done) | (simp; omega)) ?_; intro g47 c47 w47 hown47 hgrow47 hat47; simp only [Nat.zero_add, List.nil_append] at hown47; have hb47 : Below u.heap.size u w47 := ((HbR.out.alloc (by simp) _).alloc (by simp) _).grown hgrow47 (by first | omega | (simp; done) | (simp; omega)) (fun k hk => by first | (simp [Value.ownBlock] at hk; omega) | (have := own_block HO47.out k hk; omega)); have hO51 : w47.cell? ⟨Y + 1, 0, none⟩ = some (.int .u8 (b : Int)) := keep_cell hgrow47 (new_cell _ _ _ (hszo _)) (by simp [Value.ownBlock]); have HO47 := hidd hown47; have HB47 := hidd hb47; have r0 : w47.cell? ⟨wr.heap.size, 0, none⟩ = some (.int .i64 (b : Int)) := (hb47.cell (p := ⟨wr.heap.size, 0, none⟩) hzz).trans q0; have r1 : w47.cell? ⟨wr.heap.size, 1, none⟩ = some (.int .i64 (T : Int)) := (hb47.cell (p := ⟨wr.heap.size, 1, none⟩) hzz).trans q1; have r2 : w47.cell? ⟨w.heap.size, 0, none⟩ = some (.int .i64 c) := (hb47.cell (p := ⟨w.heap.size, 0, none⟩) hwz).trans q2; have r3 : w47.cell? ⟨w.heap.size, 1, none⟩ = some (.slice (some ⟨bS, oS, none⟩) S.length cS) := (hb47.cell (p := ⟨w.heap.size, 1, none⟩) hwz).trans q3; clear hown47 hgrow47 hat47 hb47)
          | (refine step_append_at _ rfl (.tmp 45) (.tmp 46) 22 rfl Y 5 j0 (.int .u8 0) 1 1 Try.underlying22 hj0 hy0 hy1 hy2 rfl (by decide) (.slice (some ⟨Y + 1, 0, none⟩) 0 0) 0 [] (by simp [Act.eval]) (own_mono (ownE _ (hszo _)) (by omega)) ⟨bh, 0, none⟩ head.length hc (Lib.byteCells head) (by simp [Act.eval]) (by simp [Lib.byteCells]) (bytes_news HByu.out ((HbR.out.alloc (by simp) _).alloc (by simp) _)) (bytes_one head) (by simp) (by unfold maxLen; omega) (by omega) (by first | omega | (simp; done) | (simp; omega)) ?_; intro g47 c47 w47 hown47 hgrow47 hat47; simp only [Nat.zero_add, List.nil_append] at hown47; have hb47 : Below u.heap.size u w47 := ((HbR.out.alloc (by simp) _).alloc (by simp) _).grown hgrow47 (by first | omega | (simp; done) | (simp; omega)) (fun k hk => by first | (simp [Value.ownBlock] at hk; omega) | (have := own_block HO47.out k hk; omega)); have hO51 : w47.cell? ⟨Y, 0, none⟩ = some (.int .u8 (b : Int)) := keep_cell hgrow47 (old_cell _ _ (new_cell _ _ _ hszd)) (by simp [Value.ownBlock]); have HO47 := hidd hown47; have HB47 := hidd hb47; have r0 : w47.cell? ⟨wr.heap.size, 0, none⟩ = some (.int .i64 (b : Int)) := (hb47.cell (p := ⟨wr.heap.size, 0, none⟩) hzz).trans q0; have r1 : w47.cell? ⟨wr.heap.size, 1, none⟩ = some (.int .i64 (T : Int)) := (hb47.cell (p := ⟨wr.heap.size, 1, none⟩) hzz).trans q1; have r2 : w47.cell? ⟨w.heap.size, 0, none⟩ = some (.int .i64 c) := (hb47.cell (p := ⟨w.heap.size, 0, none⟩) hwz).trans q2; have r3 : w47.cell? ⟨w.heap.size, 1, none⟩ = some (.slice (some ⟨bS, oS, none⟩) S.length cS) := (hb47.cell (p := ⟨w.heap.size, 1, none⟩) hwz).trans q3; clear hown47 hgrow47 hat47 hb47)
          | (refine step_append_at _ rfl (.tmp 47) (.tmp 51) 22 rfl Y 5 j0 (.int .u8 0) 1 1 Try.underlying22 hj0 hy0 hy1 hy2 rfl (by decide) (.slice (some ⟨g47, 0, none⟩) head.length c47) head.length (Lib.byteCells head) (by simp [Act.eval]) (HO47.out.alloc _) ⟨w47.heap.size, 0, none⟩ 1 1 [.int .u8 (b : Int)] (by simp [Act.eval]) rfl (one_news (by simp [Addr.add]) (new_cell _ _ _ rfl)) (by intro u' hu'; simp at hu'; subst hu'; rfl) (by simp) (by unfold maxLen; omega) (by omega) (by have := HB47.out.size; first | omega | (simp; done) | (simp; omega)) ?_; intro g52 c52 w52 hown52 hgrow52 hat52; have hb52 : Below u.heap.size u w52 := (HB47.out.alloc HB47.out.size _).grown hgrow52 (by have := HB47.out.size; first | omega | (simp; done) | (simp; omega)) (fun k hk => by have := own_block HO47.out k hk; omega); rw [HbC.out] at hown52; have t0 : w52.cell? ⟨wr.heap.size, 0, none⟩ = some (.int .i64 (b : Int)) := (hb52.cell (p := ⟨wr.heap.size, 0, none⟩) hzz).trans q0; have t1 : w52.cell? ⟨wr.heap.size, 1, none⟩ = some (.int .i64 (T : Int)) := (hb52.cell (p := ⟨wr.heap.size, 1, none⟩) hzz).trans q1; have t2 : w52.cell? ⟨w.heap.size, 0, none⟩ = some (.int .i64 c) := (hb52.cell (p := ⟨w.heap.size, 0, none⟩) hwz).trans q2; have t3 : w52.cell? ⟨w.heap.size, 1, none⟩ = some (.slice (some ⟨bS, oS, none⟩) S.length cS) := (hb52.cell (p := ⟨w.heap.size, 1, none⟩) hwz).trans q3; have HO52 := hidd hown52; have HB52 := hidd hb52; clear hown52 hgrow52 hat52 hb52)
          | (refine step_append_at _ rfl (.tmp 47) (.tmp 51) 22 rfl Y 5 j0 (.int .u8 0) 1 1 Try.underlying22 hj0 hy0 hy1 hy2 rfl (by decide) (.slice (some ⟨g47, 0, none⟩) head.length c47) head.length (Lib.byteCells head) (by simp [Act.eval]) (HO47.out) ⟨Y + 1, 0, none⟩ 1 1 [.int .u8 (b : Int)] (by simp [Act.eval]) rfl (one_news (by simp [Addr.add]) hO51) (by intro u' hu'; simp at hu'; subst hu'; rfl) (by simp) (by unfold maxLen; omega) (by omega) (by have := HB47.out.size; first | omega | (simp; done) | (simp; omega)) ?_; intro g52 c52 w52 hown52 hgrow52 hat52; have hb52 : Below u.heap.size u w52 := (HB47.out).grown hgrow52 (by have := HB47.out.size; first | omega | (simp; done) | (simp; omega)) (fun k hk => by have := own_block HO47.out k hk; omega); rw [HbC.out] at hown52; have t0 : w52.cell? ⟨wr.heap.size, 0, none⟩ = some (.int .i64 (b : Int)) := (hb52.cell (p := ⟨wr.heap.size, 0, none⟩) hzz).trans q0; have t1 : w52.cell? ⟨wr.heap.size, 1, none⟩ = some (.int .i64 (T : Int)) := (hb52.cell (p := ⟨wr.heap.size, 1, none⟩) hzz).trans q1; have t2 : w52.cell? ⟨w.heap.size, 0, none⟩ = some (.int .i64 c) := (hb52.cell (p := ⟨w.heap.size, 0, none⟩) hwz).trans q2; have t3 : w52.cell? ⟨w.heap.size, 1, none⟩ = some (.slice (some ⟨bS, oS, none⟩) S.length cS) := (hb52.cell (p := ⟨w.heap.size, 1, none⟩) hwz).trans q3; have HO52 := hidd hown52; have HB52 := hidd hb52; clear hown52 hgrow52 hat52 hb52)
          | (refine step_append_at _ rfl (.tmp 47) (.tmp 51) 22 rfl Y 5 j0 (.int .u8 0) 1 1 Try.underlying22 hj0 hy0 hy1 hy2 rfl (by decide) (.slice (some ⟨g47, 0, none⟩) head.length c47) head.length (Lib.byteCells head) (by simp [Act.eval]) (HO47.out) ⟨Y, 0, none⟩ 1 1 [.int .u8 (b : Int)] (by simp [Act.eval]) rfl (one_news (by simp [Addr.add]) hO51) (by intro u' hu'; simp at hu'; subst hu'; rfl) (by simp) (by unfold maxLen; omega) (by omega) (by have := HB47.out.size; first | omega | (simp; done) | (simp; omega)) ?_; intro g52 c52 w52 hown52 hgrow52 hat52; have hb52 : Below u.heap.size u w52 := (HB47.out).grown hgrow52 (by have := HB47.out.size; first | omega | (simp; done) | (simp; omega)) (fun k hk => by have := own_block HO47.out k hk; omega); rw [HbC.out] at hown52; have t0 : w52.cell? ⟨wr.heap.size, 0, none⟩ = some (.int .i64 (b : Int)) := (hb52.cell (p := ⟨wr.heap.size, 0, none⟩) hzz).trans q0; have t1 : w52.cell? ⟨wr.heap.size, 1, none⟩ = some (.int .i64 (T : Int)) := (hb52.cell (p := ⟨wr.heap.size, 1, none⟩) hzz).trans q1; have t2 : w52.cell? ⟨w.heap.size, 0, none⟩ = some (.int .i64 c) := (hb52.cell (p := ⟨w.heap.size, 0, none⟩) hwz).trans q2; have t3 : w52.cell? ⟨w.heap.size, 1, none⟩ = some (.slice (some ⟨bS, oS, none⟩) S.length cS) := (hb52.cell (p := ⟨w.heap.size, 1, none⟩) hwz).trans q3; have HO52 := hidd hown52; have HB52 := hidd hb52; clear hown52 hgrow52 hat52 hb52)
          | (go_at_call 63; refine (HCall.out g52 c52 w52 HB52.out HO52.out).mono ?_; rintro e wl ⟨vl, rfl, hsl, htl⟩; obtain ⟨s0, s1, s2, s3⟩ := hsl; have HTL := hidd htl; clear htl))
        all_goals
          clear s0 s1 s2 s3 t0 t1 t2 t3 r0 r1 r2 r3 hO51
          go_wp2_with fail
          go_roundw
          · exact ⟨k + 1, by omega, by go_num, HTL.out.1, HTL.out.2.1, HTL.out.2.2⟩
          · simp [intOf]; omega
      · have hltz : ¬ (k : Int) < ((arcsAt S i).length : Int) := by omega
        obtain rfl : k = (arcsAt S i).length := by omega
        have HE := hidd (toldT_all S f i)
        rw [HE.out] at HOw
        obtain ⟨AT, hAT⟩ : ∃ AT, A ++ (langF S (f + 1) i).map (head ++ ·) = AT := ⟨_, rfl⟩
        have HAT := hidd hAT
        rw [hAT] at HOw
        clear hAT
        rcases own_cases HOw.out with ⟨rfl, _⟩ | ⟨gv, cv, rfl, hg1, hg2⟩
        · exact absurd rfl hne
        go_wp2_with fail
        go_ret
        refine ⟨.slice (some ⟨gv, 0, none⟩) AT.length cv, rfl, ?_, hne, Grew.trans ⟨⟨HBa.out.os, HBa.out.tape, HBa.out.output, HBa.out.size, fun b hb _ => HBa.out.block b hb⟩, Or.inl rfl⟩ HG.out⟩
        rw [HAT.out]
        first | exact HOw.out | (have hl9 : A.length + (langF S (f + 1) i).length = AT.length := by rw [← HAT.out]; simp
                                 rw [hl9]; exact HOw.out)
end Go.Proofs.Ytbkedgpligcicaa
