import Derived.Test.YtpdiaddgialanaaGreatDoorFwR
namespace Go.Proofs.YtpdiaddgialanaaGreatDoor
open Go Go.RowKit
set_option linter.unusedVariables false
set_option linter.unusedSimpArgs false
set_option maxRecDepth 100000

/-! The parser of queries: a word, and a clause that is one. -/
/-- What a term comes to. -/
def trmV (f t : ByteArray) : Value := .iface 192 (.agg #[.string f, .string t])
set_option maxHeartbeats 4000000 in
theorem word_any (W : World) (b : Nat) (T f : ByteArray) (p : Nat) (wd rest : List UInt8) (hs : T.size ≤ 65536) (h : PsAt W b T p) (hpT : p ≤ T.size) (hT : (lst T).drop p = wd ++ rest) (hw : ∀ c ∈ wd, c ∉ sgL) (hr : ∀ c, rest.head? = some c → c ∈ sgL ∧ c ≠ 92 ∧ c ≠ 42 ∧ c ≠ 126) :
    Calls Tryz.prog 97 #[.pointer (some ⟨b, 0, none⟩), .string f] W (PsR W b T (.tuple #[trmV f (bs wd), .nilIface]) (p + wd.length)) := by
  have HR0 := hidd (run_any W b T p wd rest hs h hpT hT hw fun c hc => ⟨(hr c hc).1, (hr c hc).2.1⟩)
  have hll := lst_len T
  have hle : p + wd.length ≤ T.size := by
    have := congrArg List.length hT
    rw [List.length_drop, List.length_append, hll] at this
    omega
  have hnx : ∀ d : UInt8, d = 42 ∨ d = 126 → (lst T)[p + wd.length]? ≠ some d := fun d hd he => by
    have h1 : ((lst T).drop p)[wd.length]? = some d := by rw [List.getElem?_drop]; exact he
    rw [hT, List.getElem?_append_right (Nat.le_refl _), Nat.sub_self] at h1
    have h2 : rest.head? = some d := by
      cases rest with
      | nil => simp at h1
      | cons x r => simpa using h1
    have := hr d h2
    rcases hd with e | e
    · exact this.2.2.1 e
    · exact this.2.2.2 e
  have HT1 : Hid (∀ V, PsAt V b T (p + wd.length) → Calls Tryz.prog 81 #[.pointer (some ⟨b, 0, none⟩), .int .u8 42] V (PsR V b T (.bool false) (p + wd.length))) := fun V hV => takes_no V b T _ 42 hs hV hle (hnx _ (.inl rfl))
  have HT2 : Hid (∀ V, PsAt V b T (p + wd.length) → Calls Tryz.prog 81 #[.pointer (some ⟨b, 0, none⟩), .int .u8 126] V (PsR V b T (.bool false) (p + wd.length))) := fun V hV => takes_no V b T _ 126 hs hV hle (hnx _ (.inr rfl))
  obtain ⟨tx, htx⟩ : ∃ x, bs wd = x := ⟨_, rfl⟩
  rw [htx] at HR0
  rw [htx]
  obtain ⟨q, hq⟩ : ∃ q, p + wd.length = q := ⟨_, rfl⟩
  rw [hq] at HR0 HT1 HT2
  rw [hq]
  clear h hT hw hr hll hnx htx hq hle
  go_enter Tryz.func97, Tryz.ntmps97
  go_wp2_with fail
  refine HR0.out.mono ?_
  rintro e W1 ⟨rfl, h1, hg1⟩
  have H1 := hidd h1
  have HG1 := hidd hg1
  clear h1 hg1 HR0
  go_wp2_with fail
  refine (HT1.out _ H1.out).mono ?_
  rintro e W2 ⟨rfl, h2, hg2⟩
  have H2 := hidd h2
  have HG2 := hidd (grown_trans HG1.out hg2)
  clear h2 hg2
  go_wp2_with fail
  refine (HT2.out _ H2.out).mono ?_
  rintro e W3 ⟨rfl, h3, hg3⟩
  have H3 := hidd h3
  have HG3 := hidd (grown_trans HG2.out hg3)
  clear h3 hg3
  go_wp2
  go_ret2
  exact ⟨rfl, H3.out, HG3.out⟩
set_option maxHeartbeats 4000000 in
/-- A clause that is a word: what stands next is none of the signs that begin another. -/
theorem clause_any (W : World) (b : Nat) (T f : ByteArray) (hff : f = ⟨#[]⟩ ∨ f = ⟨#[102, 49]⟩) (p : Nat) (x : UInt8) (wd rest : List UInt8) (hs : T.size ≤ 65536) (h : PsAt W b T p) (hpT : p ≤ T.size) (hT : (lst T).drop p = (x :: wd) ++ rest) (hw : ∀ c ∈ x :: wd, c ∉ sgL) (hr : ∀ c, rest.head? = some c → c ∈ sgL ∧ c ≠ 92 ∧ c ≠ 42 ∧ c ≠ 126) :
    Calls Tryz.prog 82 #[.pointer (some ⟨b, 0, none⟩), .string f] W (PsR W b T (.tuple #[trmV f (bs (x :: wd)), .nilIface]) (p + (x :: wd).length)) := by
  have HWd : Hid (∀ V, PsAt V b T p → Calls Tryz.prog 97 #[.pointer (some ⟨b, 0, none⟩), .string f] V (PsR V b T (.tuple #[trmV f (bs (x :: wd)), .nilIface]) (p + (x :: wd).length))) := fun V hV => word_any V b T f p (x :: wd) rest hs hV hpT hT hw hr
  have hx : (lst T)[p]? = some x := by
    have h1 : ((lst T).drop p)[0]? = some x := by rw [hT]; rfl
    rwa [List.getElem?_drop] at h1
  have hxs := hw x (List.mem_cons_self ..)
  have HTk : ∀ d : UInt8, d ∈ sgL → Hid (∀ V, PsAt V b T p → Calls Tryz.prog 81 #[.pointer (some ⟨b, 0, none⟩), .int .u8 (d.toNat : Int)] V (PsR V b T (.bool false) p)) := fun d hd V hV => takes_no V b T p d hs hV hpT (by
    rw [hx]
    intro e
    exact hxs (by rw [Option.some.inj e]; exact hd))
  have HT1 : Hid (∀ V, PsAt V b T p → Calls Tryz.prog 81 #[.pointer (some ⟨b, 0, none⟩), .int .u8 34] V (PsR V b T (.bool false) p)) := HTk 34 (by decide)
  have HT2 : Hid (∀ V, PsAt V b T p → Calls Tryz.prog 81 #[.pointer (some ⟨b, 0, none⟩), .int .u8 126] V (PsR V b T (.bool false) p)) := HTk 126 (by decide)
  have HT3 : Hid (∀ V, PsAt V b T p → Calls Tryz.prog 81 #[.pointer (some ⟨b, 0, none⟩), .int .u8 91] V (PsR V b T (.bool false) p)) := HTk 91 (by decide)
  have HT4 : Hid (∀ V, PsAt V b T p → Calls Tryz.prog 81 #[.pointer (some ⟨b, 0, none⟩), .int .u8 42] V (PsR V b T (.bool false) p)) := HTk 42 (by decide)
  have HT5 : Hid (∀ V, PsAt V b T p → Calls Tryz.prog 81 #[.pointer (some ⟨b, 0, none⟩), .int .u8 40] V (PsR V b T (.bool false) p)) := HTk 40 (by decide)
  obtain ⟨tv, htv⟩ : ∃ v, trmV f (bs (x :: wd)) = v := ⟨_, rfl⟩
  rw [htv] at HWd
  rw [htv]
  obtain ⟨q, hq⟩ : ∃ q, p + (x :: wd).length = q := ⟨_, rfl⟩
  rw [hq] at HWd
  rw [hq]
  have H0 := hidd h
  clear h hT hw hr hx hxs HTk htv hq
  go_enter Tryz.func82, Tryz.ntmps82
  go_wp2_with fail
  refine (HT1.out _ H0.out).mono ?_
  rintro e W1 ⟨rfl, h1, hg1⟩
  have H1 := hidd h1
  have HG1 := hidd hg1
  clear h1 hg1 HT1 H0
  go_wp2_with fail
  refine (HT2.out _ H1.out).mono ?_
  rintro e W2 ⟨rfl, h2, hg2⟩
  have H2 := hidd h2
  have HG2 := hidd (grown_trans HG1.out hg2)
  clear h2 hg2 HT2 H1 HG1
  go_wp2_with fail
  refine (HT3.out _ H2.out).mono ?_
  rintro e W3 ⟨rfl, h3, hg3⟩
  have H3 := hidd h3
  have HG3 := hidd (grown_trans HG2.out hg3)
  clear h3 hg3 HT3 H2 HG2
  rcases hff with hf | hf
  · subst hf
    go_wp2_with fail
    refine (HT4.out _ H3.out).mono ?_
    rintro e W4 ⟨rfl, h4, hg4⟩
    have H4 := hidd h4
    have HG4 := hidd (grown_trans HG3.out hg4)
    clear h4 hg4 HT4 H3 HG3
    go_wp2_with fail
    refine (HT5.out _ H4.out).mono ?_
    rintro e W5 ⟨rfl, h5, hg5⟩
    have H5 := hidd h5
    have HG5 := hidd (grown_trans HG4.out hg5)
    clear h5 hg5 HT5 H4 HG4
    go_wp2_with fail
    refine (HWd.out _ H5.out).mono ?_
    rintro e W6 ⟨rfl, h6, hg6⟩
    have H6 := hidd h6
    have HG6 := hidd (grown_trans HG5.out hg6)
    clear h6 hg6
    go_wp2
    go_ret2
    exact ⟨rfl, H6.out, HG6.out⟩
  · clear HT4 HT5
    subst hf
    go_wp2_with fail
    refine (HWd.out _ H3.out).mono ?_
    rintro e W6 ⟨rfl, h6, hg6⟩
    have H6 := hidd h6
    have HG6 := hidd (grown_trans HG3.out hg6)
    clear h6 hg6
    go_wp2
    go_ret2
    exact ⟨rfl, H6.out, HG6.out⟩
end Go.Proofs.YtpdiaddgialanaaGreatDoor
