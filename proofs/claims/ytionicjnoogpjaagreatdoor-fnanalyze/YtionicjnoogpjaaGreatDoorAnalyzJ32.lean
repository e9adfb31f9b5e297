import Derived.Test.YtionicjnoogpjaaGreatDoorAnalyzJ31
import Derived.Deep.RegionWith
namespace Go.Proofs.YtionicjnoogpjaaGreatDoor
open Go
set_option linter.unusedVariables false

theorem map_id' (l : List (List UInt8)) : (l.map fun x => x) = l := by simp
theorem synStep_one (syns : List (List UInt8 × List UInt8)) (k : Tk) : synStep syns [k] = withT k (rawOf syns k.1) := by simp [synStep]
theorem mapTx_withT (T : List UInt8 → List UInt8) (k : Tk) (l : List (List UInt8)) : mapTx T (withT k l) = withT k (l.map T) := by simp [mapTx, withT]
theorem withT_app (k : Tk) (a b : List (List UInt8)) : withT k (a ++ b) = withT k a ++ withT k b := by simp [withT]
/-- The texts that come of the forms of a word, ahead of the last two steps. -/
def flatGo (lo hi : Int) : List (List UInt8) → List (List UInt8) → List (List UInt8) × Int
  | o, [] => (o, 0)
  | o, y :: ys => if codeOf lo hi y = 0 then flatGo lo hi (o ++ listOf lo hi y) ys else ([], codeOf lo hi y)
theorem addT_app (o a b : List (List UInt8)) : addT o (a ++ b) = addT (addT o a) b := by simp [addT, List.foldl_append]
theorem formsGo_flat (st ph : Bool) (lo hi : Int) : ∀ (xs p o : List (List UInt8)), formsGo st ph lo hi (addT o p) xs = if (flatGo lo hi p (xs.map fun x => phoneIf ph (stemIf st x))).2 = 0 then (addT o (flatGo lo hi p (xs.map fun x => phoneIf ph (stemIf st x))).1, 0) else ([], (flatGo lo hi p (xs.map fun x => phoneIf ph (stemIf st x))).2)
  | [], p, o => by simp [formsGo, flatGo]
  | x :: xs, p, o => by
    rw [formsGo, List.map_cons, flatGo]
    by_cases h : codeOf lo hi (phoneIf ph (stemIf st x)) = 0
    · rw [if_pos h, if_pos h, ← addT_app]
      exact formsGo_flat st ph lo hi xs _ o
    · rw [if_neg h, if_neg h]
      simp [h]
theorem flat_plain (hi : Int) : ∀ (ys o : List (List UInt8)), flatGo 0 hi o ys = (o ++ ys, 0)
  | [], o => by simp [flatGo]
  | y :: ys, o => by
    rw [flatGo, if_pos (by simp [codeOf]), flat_plain hi ys]
    simp [listOf]
theorem flat_grams (lo hi : Int) (hlo : 0 < lo) (k : Tk) : ∀ (ys o : List (List UInt8)), gramGo lo hi (withT k o) (withT k ys) = (withT k (flatGo lo hi o ys).1, (flatGo lo hi o ys).2)
  | [], o => by simp [flatGo, withT, gramGo]
  | y :: ys, o => by
    have e : withT k (y :: ys) = (y, k.2) :: withT k ys := rfl
    have hl : listOf lo hi y = gList (bs y) lo hi := by rw [listOf, if_pos hlo]
    have hc : codeOf lo hi y = gCode (bs y) lo hi := by rw [codeOf, if_pos hlo]
    rw [e, gramGo, flatGo, hl, hc]
    by_cases h : gCode (bs y) lo hi = 0
    · rw [if_pos h, if_pos h, ← flat_grams lo hi hlo k ys, withT_app]
      rfl
    · rw [if_neg h, if_neg h]
      rfl
theorem ded_long (k : Tk) (ys : List (List UInt8)) : dedT ((withT k ys).filter fun x => !decide (64 < x.1.length)) = withT k (addT [] ys) := by
  have key : ∀ (ys o : List (List UInt8)), ((withT k ys).filter fun x => !decide (64 < x.1.length)).foldl dedOne (withT k o) = withT k (ys.foldl addOne o) := by
    intro ys
    induction ys with
    | nil => intro o; rfl
    | cons y ys ih =>
      intro o
      have e : withT k (y :: ys) = (y, k.2) :: withT k ys := rfl
      have hm : (withT k o).map (fun x => x.1) = o := by rw [withT, List.map_map]; exact map_id' o
      rw [e, List.foldl_cons]
      by_cases h : 64 < y.length
      · rw [List.filter_cons_of_neg (by simpa using h), ih]
        have : addOne o y = o := by rw [addOne, if_neg]; simp; omega
        rw [this]
      · rw [List.filter_cons_of_pos (by simpa using h), List.foldl_cons]
        have : dedOne (withT k o) (y, k.2) = withT k (addOne o y) := by
          rw [dedOne, hm, addOne]
          cases hh : hasT o y
          · have h' : decide (y.length ≤ 64) = true := by simpa using h
            simp [h', withT]
          · simp
        rw [this, ih]
  exact key ys []
/-- The terms of a word. -/
def termsOf (st ph : Bool) (syns : List (List UInt8 × List UInt8)) (lo hi : Int) (t : List UInt8) : List (List UInt8) × Int := formsGo st ph lo hi [] (rawOf syns t)
theorem thenG_zero {G H : List Tk → List Tk × Int} {l m : List Tk} (h : G l = (m, 0)) : thenG G H l = H m := by rw [thenG, h]; simp
theorem termG_one (st ph : Bool) (syns : List (List UInt8 × List UInt8)) (lo hi : Int) (hlo : lo = 0 ∨ 0 < lo) (k : Tk) : termG st ph syns lo hi [k] = (withT k (termsOf st ph syns lo hi k.1).1, (termsOf st ph syns lo hi k.1).2) := by
  have h0 : termsOf st ph syns lo hi k.1 = if (flatGo lo hi [] ((rawOf syns k.1).map fun x => phoneIf ph (stemIf st x))).2 = 0 then (addT [] (flatGo lo hi [] ((rawOf syns k.1).map fun x => phoneIf ph (stemIf st x))).1, 0) else ([], (flatGo lo hi [] ((rawOf syns k.1).map fun x => phoneIf ph (stemIf st x))).2) := formsGo_flat st ph lo hi (rawOf syns k.1) [] []
  rw [h0, termG, thenG_zero (m := withT k (rawOf syns k.1)) (by rw [synG, synStep_one])]
  have h1 : ∀ H, optG st (mapG stemW) H (withT k (rawOf syns k.1)) = H (withT k ((rawOf syns k.1).map (stemIf st))) := by
    intro H
    cases st
    · have : (stemIf false) = fun x => x := by funext x; simp [stemIf]
      rw [this, map_id']; rfl
    · have : (stemIf true) = stemW := by funext x; simp [stemIf]
      rw [this, optG, if_pos rfl, thenG_zero (m := withT k ((rawOf syns k.1).map stemW)) (by rw [mapG, mapTx_withT])]
  rw [h1]
  have h2 : ∀ H L, optG ph (mapG (phoneIf true)) H (withT k L) = H (withT k (L.map (phoneIf ph))) := by
    intro H L
    cases ph
    · have : (phoneIf false) = fun x => x := by funext x; simp [phoneIf]
      rw [this, map_id']; rfl
    · rw [optG, if_pos rfl, thenG_zero (m := withT k (L.map (phoneIf true))) (by rw [mapG, mapTx_withT])]
  rw [h2, List.map_map]
  have h3 : ∀ L, thenG longG (thenG dedG idG) (withT k L) = (withT k (addT [] L), 0) := by
    intro L
    rw [thenG_zero (by rw [longG]), thenG_zero (by rw [dedG]), idG, ded_long]
  have he : (rawOf syns k.1).map (phoneIf ph ∘ stemIf st) = (rawOf syns k.1).map fun x => phoneIf ph (stemIf st x) := rfl
  rw [he]
  generalize (rawOf syns k.1).map (fun x => phoneIf ph (stemIf st x)) = ys
  rcases hlo with rfl | hlo
  · rw [optG, if_neg (by simp), h3, flat_plain]
    simp
  · have hb : (lo != 0) = true := by rw [bne_iff_ne]; omega
    rw [optG, if_pos hb, thenG]
    have h4 : gramGo lo hi [] (withT k ys) = (withT k (flatGo lo hi [] ys).1, (flatGo lo hi [] ys).2) := flat_grams lo hi hlo k ys []
    rw [h4]
    by_cases h : (flatGo lo hi [] ys).2 = 0
    · rw [if_pos h, if_pos h, h3]
    · rw [if_neg h, if_neg h]
      rfl
theorem wordG_is (fo : Bool) (stops : List (List UInt8)) (l : List Tk) : wordG fo stops l = ((mapTx (foldIf fo) l).filter (fun x => !hasT stops x.1), 0) := by
  rw [wordG]
  cases fo
  · have : (foldIf false) = fun x => x := by funext x; simp [foldIf]
    rw [this, optG, if_neg (by simp), thenG_zero (by rw [stopG]), idG]
    simp [mapTx]
  · have : (foldIf true) = foldL := by funext x; simp [foldIf]
    rw [this, optG, if_pos rfl, thenG_zero (by rw [mapG]), thenG_zero (by rw [stopG]), idG]
/-- The words, folded and without stop words, one behind the other: what Analyze tells. -/
theorem azGo_words (fo st ph : Bool) (stops : List (List UInt8)) (syns : List (List UInt8 × List UInt8)) (lo hi : Int) : ∀ (ks o : List Tk), o.length ≤ 8192 → azGo (formsOf fo st ph stops syns lo hi) o ks = azGo (termsOf st ph syns lo hi) o (wordG fo stops ks).1
  | [], o, _ => by rw [wordG_is]; rfl
  | k :: ks, o, ho => by
    have ih := fun o ho => azGo_words fo st ph stops syns lo hi ks o ho
    rw [wordG_is] at ih ⊢
    have e : mapTx (foldIf fo) (k :: ks) = (foldIf fo k.1, k.2) :: mapTx (foldIf fo) ks := rfl
    rw [e, azGo]
    by_cases hs : hasT stops (foldIf fo k.1) = true
    · have hf : formsOf fo st ph stops syns lo hi k.1 = ([], 0) := by rw [formsOf, if_pos hs]
      rw [hf, List.filter_cons_of_neg (by simp [hs])]
      simp only [withT, List.map_nil, List.append_nil, if_true]
      rw [if_pos ho]
      exact ih o ho
    · have hf : formsOf fo st ph stops syns lo hi k.1 = termsOf st ph syns lo hi (foldIf fo k.1) := by rw [formsOf, if_neg hs]; rfl
      rw [hf, List.filter_cons_of_pos (by simpa using hs), azGo]
      dsimp only
      by_cases hc : (termsOf st ph syns lo hi (foldIf fo k.1)).2 = 0
      · rw [if_pos hc, if_pos hc]
        have hw : withT k (termsOf st ph syns lo hi (foldIf fo k.1)).1 = withT (foldIf fo k.1, k.2) (termsOf st ph syns lo hi (foldIf fo k.1)).1 := rfl
        rw [hw]
        by_cases hl : (o ++ withT (foldIf fo k.1, k.2) (termsOf st ph syns lo hi (foldIf fo k.1)).1).length ≤ 8192
        · rw [if_pos hl, if_pos hl]
          exact ih _ hl
        · rw [if_neg hl, if_neg hl]
      · rw [if_neg hc, if_neg hc]
end Go.Proofs.YtionicjnoogpjaaGreatDoor

namespace Go.Proofs.YtionicjnoogpjaaGreatDoor
open Go Go.RowKit
set_option linter.unusedVariables false
set_option linter.unusedSimpArgs false
set_option maxRecDepth 100000

/-- What the analyser of a call is in memory. -/
structure AzAt (w : World) (aS aY : Option Addr) (stops : List (List UInt8)) (syns : List (List UInt8 × List UInt8)) (lo hi : Int) : Prop where
  tabs : Tabs w
  stp : HoldS w aS stops
  syn : HoldY w aY syns
  nS : stops.length ≤ 64
  nY : syns.length ≤ 64
  zY : ∀ k, k < syns.length → (syns.getD k ([], [])).2.length ≤ 64
theorem AzAt.below {w w' : World} {aS aY : Option Addr} {stops : List (List UInt8)} {syns : List (List UInt8 × List UInt8)} {lo hi : Int} (h : AzAt w aS aY stops syns lo hi) (hb : Below w.heap.size w w') : AzAt w' aS aY stops syns lo hi :=
  ⟨h.tabs.below hb, h.stp.below hb, h.syn.below hb, h.nS, h.nY, h.zY⟩
/-- The words that are taken. -/
def WordP (l : List Tk) : Prop := l.length ≤ 8192 ∧ ∀ k, k < l.length → decCode (bs (l.getD k tk0).1) = 0
theorem getD_mapTx (T : List UInt8 → List UInt8) (l : List Tk) (k : Nat) (h : k < l.length) : (mapTx T l).getD k tk0 = (T (l.getD k tk0).1, (l.getD k tk0).2) := by
  simp [mapTx, h]
theorem foldL_sz (t : List UInt8) (h : decCode (bs t) = 0) : (foldL t).length ≤ 262144 := by
  have h1 := foldL_len t (by have := (dec_ok _ h).2; exact this)
  rw [bs_size] at h1
  exact h1
/-- The chain of the words. -/
theorem wordChain {w0 wc : World} {X : Nat → Prop} {aS aY : Option Addr} {stops : List (List UInt8)} {syns : List (List UInt8 × List UInt8)} {lo hi : Int} (hz : AzAt w0 aS aY stops syns lo hi) (hb : Below w0.heap.size w0 wc) (hX : ∀ b, X b → w0.heap.size ≤ b)
    (fo st ph : Bool) (cS cY : Nat) (B : Nat) (hB : fo = true → wc.heap[B]? = some (.cells #[.func (.func 80) #[] #[]] 66) ∧ ¬ X B) :
    ChainC wc X ((if fo = true then [.func (.func 120) #[] #[.pointer (some ⟨B, 0, none⟩)]] else []) ++ [.func (.func 81) #[.agg #[.bool fo, .bool st, .bool ph, .slice aS stops.length cS, .slice aY syns.length cY, .int .i64 lo, .int .i64 hi]] #[]]) WordP (wordG fo stops) := by
  have hlow : ∀ b, b < w0.heap.size → ¬ X b := fun b h hx => by have := hX b hx; omega
  have hall : ∀ W, But X wc W → Below w0.heap.size w0 W := fun W hW => hb.trans (hW.below hb.size hlow)
  have hS : StepC 81 #[.agg #[.bool fo, .bool st, .bool ph, .slice aS stops.length cS, .slice aY syns.length cY, .int .i64 lo, .int .i64 hi]] #[] wc X (szT 1048576) (stopG stops) := by
    exact stopStep fo st ph aS cS _ lo hi stops (by have := hz.nS; omega) (hz.stp.below hb) (by
      rcases hz.stp with h | ⟨b', off', h1, h2, _⟩
      · exact Or.inl h
      · exact Or.inr fun b off e => by rw [e] at h1; cases h1; exact hlow _ h2)
  cases fo with
  | false =>
    show ChainC wc X [_] WordP (thenG (stopG stops) idG)
    refine ChainC.cons _ _ _ [] WordP (fun _ => True) _ _ Tryz.call81 ?_ (fun _ _ _ => trivial) (ChainC.nil _)
    intro W v l h1 h2 h3
    exact hS W v l h1 h2 ⟨by have := h3.1; omega, fun k hk => by have := (dec_ok _ (h3.2 k hk)).2; rw [bs_size] at this; omega⟩
  | true =>
    obtain ⟨hB1, hB2⟩ := hB rfl
    show ChainC wc X [_, _] WordP (thenG (mapG foldL) (thenG (stopG stops) idG))
    refine ChainC.cons _ _ _ [_] WordP (szT 1048576) _ _ Tryz.call120 ?_ ?_ (ChainC.cons _ _ _ [] (szT 1048576) (fun _ => True) _ _ Tryz.call81 hS (fun _ _ _ => trivial) (ChainC.nil _))
    · intro W v l h1 h2 h3
      exact eachStep 80 foldL (fun t => decCode (bs t) = 0) hB1 hB2 Tryz.call80 (fun W' t hW ht => foldWord_any t W' ht (hz.tabs.below (hall W' hW))) W v l h1 h2 ⟨by have := h3.1; omega, h3.2⟩
    · intro l hl _
      refine ⟨by rw [mapG, mapTx_len]; have := hl.1; omega, fun k hk => ?_⟩
      rw [mapG, mapTx_len] at hk
      rw [mapG, getD_mapTx _ _ _ hk]
      have := foldL_sz _ (hl.2 k hk)
      dsimp only
      omega
/-- The texts that the steps of a term make. -/
def TermP (n m : Nat) (l : List Tk) : Prop := l.length ≤ n ∧ ∀ x ∈ l, x.1.length ≤ m
theorem TermP.at {n m : Nat} {l : List Tk} (h : TermP n m l) (k : Nat) (hk : k < l.length) : (l.getD k tk0).1.length ≤ m := by
  rw [List.getD_eq_getElem?_getD, List.getElem?_eq_getElem hk, Option.getD_some]
  exact h.2 _ (List.getElem_mem hk)
theorem TermP.sz {n m N : Nat} {l : List Tk} (h : TermP n m l) (hn : n ≤ N) (hm : m ≤ 1048576) : szT N l := ⟨by have := h.1; omega, fun k hk => by have := h.at k hk; omega⟩
theorem gAt_sz (t : List Int) : ∀ (f n : Nat), ∀ y ∈ gAt t n f, y.length ≤ 4 * t.length
  | 0, _, y, hy => by simp [gAt] at hy
  | f + 1, n, y, hy => by
    rw [gAt] at hy
    split at hy
    · rcases List.mem_cons.1 hy with rfl | hy
      · have := encs_le (t.take n)
        rw [List.length_take] at this
        omega
      · exact gAt_sz t f (n + 1) y hy
    · simp at hy
theorem gAll_sz (lo f : Nat) : ∀ (l : List Int), ∀ y ∈ gAll lo f l, y.length ≤ 4 * l.length
  | [], y, hy => by simp [gAll] at hy
  | r :: t, y, hy => by
    rw [gAll] at hy
    rcases List.mem_append.1 hy with hy | hy
    · exact gAt_sz _ _ _ y hy
    · have := gAll_sz lo f t y hy
      rw [List.length_cons]; omega
theorem gList_sz (s : ByteArray) (lo hi : Int) (y : List UInt8) (hy : y ∈ gList s lo hi) : y.length ≤ 262144 := by
  unfold gList at hy
  split at hy
  · rename_i hc
    have hd : decCode s = 0 := by
      unfold gCode at hc
      split at hc
      · assumption
      · rename_i h; exact absurd hc h
    have h1 := gAll_sz _ _ _ y hy
    have h2 : (decList s).length ≤ 65536 := by
      have h3 := runes_le s
      have h4 := (dec_ok s hd).2
      have h5 : decList s = runes s := (dec_some s hd).1
      rw [h5]; omega
    omega
  · simp at hy
theorem gramGo_sz (lo hi : Int) (n : Nat) : ∀ (l o : List Tk), TermP n 262144 o → TermP (n + l.length * 4096) 262144 (gramGo lo hi o l).1
  | [], o, h => by rw [gramGo]; simpa using h
  | k :: ks, o, h => by
    rw [gramGo]
    split
    · have hg := gList_le (bs k.1) lo hi
      have h1 : TermP (n + 4096) 262144 (o ++ withT k (gList (bs k.1) lo hi)) := by
        refine ⟨by rw [List.length_append, withT_len]; have := h.1; omega, fun x hx => ?_⟩
        rcases List.mem_append.1 hx with hx | hx
        · exact h.2 x hx
        · obtain ⟨y, hy, rfl⟩ := List.mem_map.1 hx
          exact gList_sz _ _ _ y hy
      have h2 := gramGo_sz lo hi (n + 4096) ks _ h1
      refine ⟨?_, h2.2⟩
      have := h2.1
      rw [List.length_cons]; omega
    · exact ⟨Nat.zero_le _, fun x hx => by simp at hx⟩
theorem synStep_sz (syns : List (List UInt8 × List UInt8)) (hn : syns.length ≤ 64) (hz : ∀ k, k < syns.length → (syns.getD k ([], [])).2.length ≤ 64) (l : List Tk) (h : TermP 1 262144 l) : TermP 65 262144 (synStep syns l) := by
  match l, h with
  | [], h => exact ⟨by simp [synStep], fun x hx => by simp [synStep] at hx⟩
  | [k], h =>
    rw [synStep_one]
    refine ⟨?_, fun x hx => ?_⟩
    · rw [withT_len, rawOf, List.length_cons]
      have := synsOf_len syns k.1
      omega
    · obtain ⟨y, hy, rfl⟩ := List.mem_map.1 hx
      obtain ⟨i, hi, rfl⟩ := List.mem_iff_getElem.1 hy
      have := rawOf_sz syns k.1 (h.2 k (by simp)) hz i hi
      rw [List.getD_eq_getElem?_getD, List.getElem?_eq_getElem hi, Option.getD_some] at this
      exact this
  | a :: b :: t, h => have := h.1; simp at this
theorem mapTx_sz (T : List UInt8 → List UInt8) (hT : ∀ x, x.length ≤ 262144 → (T x).length ≤ 262144) (n : Nat) (l : List Tk) (h : TermP n 262144 l) : TermP n 262144 (mapTx T l) := by
  refine ⟨by rw [mapTx_len]; exact h.1, fun x hx => ?_⟩
  obtain ⟨y, hy, rfl⟩ := List.mem_map.1 hx
  exact hT _ (h.2 y hy)
theorem chain_opt {wc : World} {X : Nat → Prop} {P P' : List Tk → Prop} {b : Bool} {g : FuncId} {bd lb : Array Value} {fs : List Value} {G H : List Tk → List Tk × Int} (eg : ∀ args w, (callFunc g args).run Tryz.prog w = .ok (.enter g args) w)
    (hs : b = true → StepC g bd lb wc X P G) (hp : ∀ l, P l → (G l).2 = 0 → P' (G l).1) (hr : ChainC wc X fs P' H) (hr0 : b = false → ChainC wc X fs P H) :
    ChainC wc X ((if b = true then [.func (.func g) bd lb] else []) ++ fs) P (optG b G H) := by
  cases b with
  | false => exact hr0 rfl
  | true => exact ChainC.cons g bd lb fs P P' G H eg (hs rfl) hp hr
theorem ChainC.weak {wc : World} {X : Nat → Prop} {fs : List Value} {P : List Tk → Prop} {H : List Tk → List Tk × Int} (h : ChainC wc X fs P H) {Q : List Tk → Prop} (hq : ∀ l, Q l → P l) : ChainC wc X fs Q H := by
  cases h with
  | nil => exact ChainC.nil Q
  | cons g bd lb fs _ P' G H eg hs hp hr => exact ChainC.cons g bd lb fs Q P' G H eg (fun W v l h1 h2 h3 => hs W v l h1 h2 (hq l h3)) (fun l h1 h2 => hp l (hq l h1) h2) hr
/-- The row of the steps of a term. -/
def termF (fo st ph : Bool) (aS aY : Option Addr) (cS cY nS nY : Nat) (lo hi : Int) (B1 B2 : Nat) : List Value :=
  [.func (.func 82) #[.agg #[.bool fo, .bool st, .bool ph, .slice aS nS cS, .slice aY nY cY, .int .i64 lo, .int .i64 hi]] #[]] ++
  ((if st = true then [.func (.func 120) #[] #[.pointer (some ⟨B1, 0, none⟩)]] else []) ++
  ((if ph = true then [.func (.func 120) #[] #[.pointer (some ⟨B2, 0, none⟩)]] else []) ++
  ((if (lo != 0) = true then [.func (.func 85) #[.agg #[.bool fo, .bool st, .bool ph, .slice aS nS cS, .slice aY nY cY, .int .i64 lo, .int .i64 hi]] #[]] else []) ++
  [.func (.func 86) #[] #[], .func (.func 87) #[] #[]])))
theorem termChain {w0 wc : World} {aS aY : Option Addr} {stops : List (List UInt8)} {syns : List (List UInt8 × List UInt8)} {lo hi : Int} (hz : AzAt w0 aS aY stops syns lo hi) (hb : Below w0.heap.size w0 wc)
    (fo st ph : Bool) (cS cY : Nat) (B1 B2 : Nat) (hB1 : st = true → wc.heap[B1]? = some (.cells #[.func (.func 83) #[] #[]] 66)) (hB2 : ph = true → wc.heap[B2]? = some (.cells #[.func (.func 84) #[] #[]] 66)) :
    ChainC wc (fun _ => False) (termF fo st ph aS aY cS cY stops.length syns.length lo hi B1 B2) (TermP 1 262144) (termG st ph syns lo hi) := by
  have hall : ∀ W, But (fun _ => False) wc W → Below w0.heap.size w0 W := fun W hW => hb.trans (hW.below hb.size (fun _ _ h => h))
  have hlast : ChainC wc (fun _ => False) [.func (.func 86) #[] #[], .func (.func 87) #[] #[]] (TermP 1000000 262144) (thenG longG (thenG dedG idG)) := by
    refine ChainC.cons _ _ _ _ _ (szT 1048576) longG _ Tryz.call86 (fun W v l h1 h2 h3 => longStep W v l h1 h2 (h3.sz (by omega) (by omega))) ?_ (ChainC.cons _ _ _ _ _ (fun _ => True) dedG _ Tryz.call87 repStepC (fun _ _ _ => trivial) (ChainC.nil _))
    intro l hl _
    refine TermP.sz (n := 1000000) (m := 262144) ⟨?_, fun x hx => hl.2 x ((List.mem_filter.1 hx).1)⟩ (by omega) (by omega)
    have := List.length_filter_le (fun x : Tk => !decide (64 < x.1.length)) l
    have := hl.1
    show (l.filter _).length ≤ _
    omega
  have hgr : ChainC wc (fun _ => False) ((if (lo != 0) = true then [.func (.func 85) #[.agg #[.bool fo, .bool st, .bool ph, .slice aS stops.length cS, .slice aY syns.length cY, .int .i64 lo, .int .i64 hi]] #[]] else []) ++ [.func (.func 86) #[] #[], .func (.func 87) #[] #[]]) (TermP 65 262144) (optG (lo != 0) (gramGo lo hi []) (thenG longG (thenG dedG idG))) := by
    refine chain_opt Tryz.call85 (fun _ W v l h1 h2 h3 => gramStepC fo st ph _ _ lo hi (fun W hW => hz.tabs.below (hall W hW)) W v l h1 h2 (h3.sz (by omega) (by omega))) (fun l hl _ => ?_) hlast (fun _ => hlast.weak fun l hl => ⟨by have := hl.1; omega, hl.2⟩)
    have h1 := gramGo_sz lo hi 0 l [] ⟨by simp, fun x hx => by simp at hx⟩
    exact ⟨by have := h1.1; have := hl.1; omega, h1.2⟩
  have hph : ChainC wc (fun _ => False) ((if ph = true then [.func (.func 120) #[] #[.pointer (some ⟨B2, 0, none⟩)]] else []) ++ ((if (lo != 0) = true then [.func (.func 85) #[.agg #[.bool fo, .bool st, .bool ph, .slice aS stops.length cS, .slice aY syns.length cY, .int .i64 lo, .int .i64 hi]] #[]] else []) ++ [.func (.func 86) #[] #[], .func (.func 87) #[] #[]])) (TermP 65 262144) (optG ph (mapG (phoneIf true)) (optG (lo != 0) (gramGo lo hi []) (thenG longG (thenG dedG idG)))) := by
    refine chain_opt Tryz.call120 (fun h W v l h1 h2 h3 => eachStep 84 (phoneIf true) (fun t => t.length ≤ 262144) (hB2 h) (fun h => h) Tryz.call84 (fun W' t hW ht => soundSelf_any t W' (by omega) (hz.tabs.below (hall W' hW))) W v l h1 h2 ⟨by have := h3.1; omega, fun k hk => h3.at k hk⟩) (fun l hl _ => mapTx_sz _ (fun x hx => phoneIf_le true x _ (by omega) hx) _ l hl) hgr (fun _ => hgr)
  have hst : ChainC wc (fun _ => False) ((if st = true then [.func (.func 120) #[] #[.pointer (some ⟨B1, 0, none⟩)]] else []) ++ ((if ph = true then [.func (.func 120) #[] #[.pointer (some ⟨B2, 0, none⟩)]] else []) ++ ((if (lo != 0) = true then [.func (.func 85) #[.agg #[.bool fo, .bool st, .bool ph, .slice aS stops.length cS, .slice aY syns.length cY, .int .i64 lo, .int .i64 hi]] #[]] else []) ++ [.func (.func 86) #[] #[], .func (.func 87) #[] #[]]))) (TermP 65 262144) (optG st (mapG stemW) (optG ph (mapG (phoneIf true)) (optG (lo != 0) (gramGo lo hi []) (thenG longG (thenG dedG idG))))) := by
    refine chain_opt Tryz.call120 (fun h W v l h1 h2 h3 => eachStep 83 stemW (fun t => t.length ≤ 262144) (hB1 h) (fun h => h) Tryz.call83 (fun W' t hW ht => by
      have h4 := implStem_any (bs t) W' (by rw [bs_size]; omega)
      rw [show lst (bs t) = t from lst_bs t] at h4
      exact h4) W v l h1 h2 ⟨by have := h3.1; omega, fun k hk => h3.at k hk⟩) (fun l hl _ => mapTx_sz _ (fun x hx => Nat.le_trans (stemW_le x) hx) _ l hl) hph (fun _ => hph)
  exact ChainC.cons _ _ _ _ _ (TermP 65 262144) (synG syns) _ Tryz.call82 (fun W v l h1 h2 h3 => synStepC fo st ph aS aY cS cY stops.length lo hi syns (hz.syn.below hb) (Or.inr fun _ _ _ h => h) hz.nY hz.zY W v l h1 h2 (by have := h3.1; omega)) (fun l hl _ => synStep_sz syns hz.nY hz.zY l hl) hst
end Go.Proofs.YtionicjnoogpjaaGreatDoor

namespace Go.Proofs.YtionicjnoogpjaaGreatDoor
open Go Go.RowKit
set_option linter.unusedVariables false
set_option linter.unusedSimpArgs false
set_option maxRecDepth 100000

/-- The row of the steps of the words. -/
def wordF (fo st ph : Bool) (aS aY : Option Addr) (cS cY nS nY : Nat) (lo hi : Int) (B : Nat) : List Value :=
  (if fo = true then [.func (.func 120) #[] #[.pointer (some ⟨B, 0, none⟩)]] else []) ++ [.func (.func 81) #[.agg #[.bool fo, .bool st, .bool ph, .slice aS nS cS, .slice aY nY cY, .int .i64 lo, .int .i64 hi]] #[]]
set_option maxHeartbeats 4000000 in
theorem wordSteps_any (fo st ph : Bool) (aS aY : Option Addr) (cS cY nS nY : Nat) (lo hi : Int) (w : World) :
    Calls Tryz.prog 35 #[.agg #[.bool fo, .bool st, .bool ph, .slice aS nS cS, .slice aY nY cY, .int .i64 lo, .int .i64 hi]] w fun e w' => ∃ b B, e = .returned (.slice (some ⟨b, 0, none⟩) (wordF fo st ph aS aY cS cY nS nY lo hi B).length (wordF fo st ph aS aY cS cY nS nY lo hi B).length) ∧ w.heap.size ≤ b ∧ w'.heap[b]? = some (.cells (wordF fo st ph aS aY cS cY nS nY lo hi B).toArray 121) ∧ (fo = true → w'.heap[B]? = some (.cells #[.func (.func 80) #[] #[]] 66) ∧ w.heap.size ≤ B) ∧ Below w.heap.size w w' := by
  have HB : Hid (Below w.heap.size w (w.alloc (.cells #[.bool fo, .bool st, .bool ph, .slice aS nS cS, .slice aY nY cY, .int .i64 lo, .int .i64 hi] 26))) := (Below.refl _ _).alloc (Nat.le_refl _) _
  have hblk : (w.alloc (.cells #[.bool fo, .bool st, .bool ph, .slice aS nS cS, .slice aY nY cY, .int .i64 lo, .int .i64 hi] 26)).heap[w.heap.size]? = some (.cells #[.bool fo, .bool st, .bool ph, .slice aS nS cS, .slice aY nY cY, .int .i64 lo, .int .i64 hi] 26) := heap_alloc_new _ _
  have Hblk := hidd hblk
  clear hblk
  have hs1 : (w.alloc (.cells #[.bool fo, .bool st, .bool ph, .slice aS nS cS, .slice aY nY cY, .int .i64 lo, .int .i64 hi] 26)).heap.size = w.heap.size + 1 := by simp
  cases fo with
  | false =>
    go_enter Tryz.func35, Tryz.ntmps35
    go_wp2_with fail
    go_returns
    refine ⟨w.heap.size + 1, 0, rfl, by omega, ?_, (fun h => by cases h), HB.out.alloc (by omega) _⟩
    rw [← hs1]
    exact heap_alloc_new _ _
  | true =>
    go_enter Tryz.func35, Tryz.ntmps35
    go_upto_region 2 with fail
    generalize w.alloc (.cells #[.bool true, .bool st, .bool ph, .slice aS nS cS, .slice aY nY cY, .int .i64 lo, .int .i64 hi] 26) = wa at *
    have q0 : wa.cell? ⟨w.heap.size, 0, none⟩ = some (.bool true) := blkc Hblk.out 0
    have q1 : wa.cell? ⟨w.heap.size, 1, none⟩ = some (.bool st) := blkc Hblk.out 1
    have q2 : wa.cell? ⟨w.heap.size, 2, none⟩ = some (.bool ph) := blkc Hblk.out 2
    have q3 : wa.cell? ⟨w.heap.size, 3, none⟩ = some (.slice aS nS cS) := blkc Hblk.out 3
    have q4 : wa.cell? ⟨w.heap.size, 4, none⟩ = some (.slice aY nY cY) := blkc Hblk.out 4
    have q5 : wa.cell? ⟨w.heap.size, 5, none⟩ = some (.int .i64 lo) := blkc Hblk.out 5
    have q6 : wa.cell? ⟨w.heap.size, 6, none⟩ = some (.int .i64 hi) := blkc Hblk.out 6
    generalize hB : w.heap.size = B0 at *
    go_region_with (go_at_call 79; refine (eachText_any 80 _).mono ?_; rintro e w2 ⟨rfl, hw2⟩; obtain rfl := hw2.symm)
    all_goals
      go_wp2_with fail
      go_returns
      have hs2 : (wa.alloc (.cells #[.func (.func 80) #[] #[]] 66)).heap.size = B0 + 1 + 1 := by simp [hs1]
      refine ⟨B0 + 1 + 1, B0 + 1, rfl, by omega, ?_, fun _ => ⟨?_, by omega⟩, ?_⟩
      · have h3 := heap_alloc_new (wa.alloc (.cells #[.func (.func 80) #[] #[]] 66)) (.cells (wordF true st ph aS aY cS cY nS nY lo hi (B0 + 1)).toArray 121)
        rw [hs2] at h3
        exact h3
      · have h4 := heap_alloc_new wa (.cells #[.func (.func 80) #[] #[]] 66)
        rw [hs1] at h4
        exact (Below.heap_alloc _ _ _ (by rw [hs2]; omega)).trans h4
      · rw [hB]
        exact ((HB.out.alloc (by omega) _).alloc (by rw [hs2]; omega) _).drew
theorem Tryz.infoStep : (Tryz.prog.info? 121).map (fun i => (i.zero, i.size, i.bytes)) = some (some .nilFunc, 1, 8) := by kernel_rfl
end Go.Proofs.YtionicjnoogpjaaGreatDoor
