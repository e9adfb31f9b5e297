import Derived.Test.YtkbjimkngmlfcaaDoorSetsJ23
import Derived.Test.YtkbjimkngmlfcaaDoorSetsJ17
open Go renaming World→aap,Value→aah,heap_alloc_new→aax,info_parts→aaE
open Go.RowKit renaming Below→aal,intOf→aar
open Go.RowKit.Below renaming refl→aas
open Go.Value renaming slice→aat
open Go.World renaming ownsRow_nil→aaF
open List renaming take_succ_eq_append_getElem→aaU,getD_eq_getElem?_getD→aau,getElem?_eq_getElem→aaw,length_take→aa1,take_length→aaV,length_append→aav,length_singleton→aa3,mem_of_getElem?→aaY
open Nat renaming le_refl→aab,le_trans→aaQ,zero_le→aaL,lt_of_lt_of_le→aaA
open Option renaming getD_some→aaK
namespace Go.Proofs.YtkbjimkngmlfcaaDoor
open Go Go.RowKit
set_option linter.unusedVariables false
set_option linter.unusedSimpArgs false
set_option maxRecDepth 100000
set_option maxHeartbeats 8000000
theorem aaq {P:Prop}(h:P:=by obtain⟨R4,g4,c4,e1,e2,e3,e4⟩ :=HN.out;exact⟨k+1,R4,g4,c4,by omega,by go_num,e1,e2,e3,e4⟩) :P:=h
theorem ZC {P:Prop}(h:P:=by rw[hr,List.getD_eq_getElem?_getD,List.getElem?_append_left hli,HXi.out];rfl) :P:=h
def uK(P:List Int) :List Int:=P.filter fun x=>decide (0≤x)
theorem Lp(P:List Int)(x:Int) :uK (P++ [x])=if 0≤x then uK P++ [x]else uK P:=by unfold uK;rw[List.filter_append];by_cases h:0≤x<;>simp[h]
theorem Pg(P:List Int) :(uK P).length≤P.length:=List.length_filter_le _ _
def adX(P:List Int)(w:aap)(e:Ending)(w':aap) :Prop:=∃ls L,iG ls∧(∀y,y∈ls↔y∈uK P)∧ls.length≤P.length∧bS.dx ls.length ls ((wsK P (fU ls)).aW (ls.length+1) (iX P 1 P.length)) L∧aal w.heap.size w w'∧((256<L.length∧e= .returned (.tuple #[.agg #[.slice none 0 0],.int .i64 11]))∨(L.length≤256∧∃v l,l.map Prod.snd=L∧e= .returned (.tuple #[.agg #[v],.int .i64 0])∧bq w' w.heap.size v l))
theorem Qw {P:List Int} {k:Nat}(h:k<P.length) :(P.take (k+1)).count (-1)=(P.take k).count (-1)+if P.getD k 0= -1 then 1 else 0:=by rw[aaU h,List.count_append,List.count_singleton,aau,aaw h];congr 1;simp
theorem take_at {P:List Int} {k:Nat}(h:k<P.length) :P.take (k+1)=P.take k++ [P.getD k 0] :=by rw[aaU h,aau,aaw h];rfl
theorem ach(x:Nat)(h:Nat) :oK [x] h=if x %4093=h then[0]else[] :=by have:=zW [] x h;simpa[oK]using this
theorem FV(w:aap)(e:TypeId)(v:aah) :(w.alloc (.cells #[v] e)).ownsRow w.heap.size e 1 (.slice (some ⟨w.heap.size,0,none⟩) 1 1) 1 [v] :=⟨rfl,Or.inr ⟨w.heap.size,1,#[v],rfl,aab _,aax _ _,aab _,by unfold maxLen;omega,rfl,rfl⟩⟩
theorem aY.amE {W:aap} {base:Nat} {R:aU}(h:aY W base R) :aY W base (fun a=>if 4≤a∧a %2=0 then some (.slice none 0 0,[])else R a) :=by
 refine⟨fun a v zs ha=> ?_,fun a b v zs u ys hab ha hb=> ?_⟩
 ·split at ha;·cases ha;exact aaF _ _ _ _
  ·exact h.own a v zs ha
 ·split at ha;·cases ha;exact Or.inl rfl
  ·split at hb;·exact aae
   ·exact h.apart a b v zs u ys hab ha hb
theorem ZL {n:Nat} {Z:List Nat}(hn:n≤30)(hd:Z.Nodup)(hz: ∀z∈Z,z<2^(n+1)) :Z.length≤2147483648:=aaQ (iA _ Z hd hz) (tq (aab _) (by omega))
theorem Wz.setAt {w0 W:aap} {tb rb gb g c:Nat} {vl vf vn vp:aah} {P ls:List Int} {Z Zb:List Nat} {aB:List (List Nat)} {ns:List aah} {ak:List Bool} {R:aU}(h:Wz w0 W tb rb gb vl vf vn vp (.slice (some ⟨g,0,none⟩) Z.length c) P ls Z Zb aB ns ak R) {i:Nat}(hi:i<Z.length) :W.cell? ⟨g,i,none⟩=some (.int .i64 ((Z.getD i 0:Nat) :Int)) :=by have ho:=h.rows.own _ _ _ h.sets;rw[aK]at ho;rw[ho.cellAt i (by omega)];simp[zI,aH,hi]
theorem Sk (hC : iI) (s : ByteArray) (w : aap) (hs : s.size ≤ 1048576) (hD : dG s = 0) (hl : (eO s).length ≤ 30) (hany : (dn (eO s)).count (-1) ≤ 8) :
    Calls Tryd.prog 51 #[.string s] w (adX (dn (eO s)) w) := by
  obtain ⟨i0, hi, hz0, hz1, hz2⟩ := aaE Tryd.infoIntL
  obtain ⟨i1, hi1, hy0, hy1, hy2⟩ := aaE Tryd.infoSlI
  obtain ⟨ib, hib, hb0, hb1, hb2⟩ := aaE Tryd.infoBoolN
  have Sa := ah hD
  clear hD
  go_enter Tryd.func51, Tryd.ntmps51
  go_wp2_with fail
  refine (zn s _ hs).mono ?_
  rintro e w2 ⟨vw, rfl, hown, hb2⟩
  rw [Sa.out]
  clear Sa
  generalize eO s = word at *
  have hbw : aal w.heap.size w w2 := ((aas _ _).alloc (aab _) _).trans (hb2.mono (by simp))
  have hres : w2.heap[w.heap.size]? = some (.cells #[.slice none 0 0] 25) := aC (aax _ _) hb2
  have ug := ah (KI word vw w2 (by omega) (bD.own hown))
  obtain ⟨aw, cw, hvw⟩ : ∃ a c, vw = .slice a word.length c := by
    rcases bH hown with ⟨h, h0⟩ | ⟨g, c, h, _, _⟩
    · exact ⟨none, 0, by rw [h, h0]⟩
    · exact ⟨_, c, h⟩
  subst hvw
  have XX : ¬ (30 : Int) < (word.length : Int) := by omega
  have pQ := ah hbw
  have Bz := ah hres
  clear hown hb2 hbw hres
  go_wp2_with fail
  refine ug.out.mono ?_
  rintro e w3 ⟨vp, rfl, JO, hb3⟩
  have hpl := Px word
  generalize dn word = P at *
  have ZA : P.length ≤ 30 := by omega
  have hB3 := pQ.out.trans (hb3.mono pQ.out.size)
  have HR3 := ah (aC Bz.out hb3)
  have HOp : Hid (w3.ownsRow w.heap.size 3 1 vp P.length (zI P)) := jM JO pQ.out.size
  have HHp := ah (bD.own JO)
  have HB3 := ah hB3
  obtain ⟨ap, cp, hvp⟩ : ∃ a c, vp = .slice a P.length c := by
    rcases bH JO with ⟨h, h0⟩ | ⟨g, c, h, _, _⟩
    · exact ⟨none, 0, by rw [h, h0]⟩
    · exact ⟨_, c, h⟩
  subst hvp
  have Jl : Hid (∀ k, k < P.length → ∃ g off, ap = some ⟨g, off, none⟩ ∧ g < w3.heap.size ∧ w3.cell? ⟨g, off + k, none⟩ = some (.int .i64 (P.getD k 0))) := fun k hk => HHp.out.cells hk
  clear JO hb3 hB3 ug pQ Bz
  go_wp2_with fail
  go_loop [7, 8] (fun cv iv => ∃ k : Nat, k ≤ P.length ∧ iv = .int .i64 (k : Int) ∧ cv = .int .i64 (((P.take k).count (-1) : Nat) : Int)) (fun _ iv => P.length - (aar iv).toNat)
  case atStart => exact ⟨0, aaL _, rfl, by simp⟩
  case round =>
    obtain ⟨k, hk, rfl, rfl⟩ := hrel
    have hcnt : (P.take k).count (-1) ≤ 30 := aaQ List.count_le_length (by rw [aa1]; omega)
    by_cases hlt : k < P.length
    · have hkz : (k : Int) < (P.length : Int) := by omega
      obtain ⟨g, off, rfl, hg, c1⟩ := Jl.out k hlt
      have HN := ah (Qw hlt)
      generalize (P.take k).count (-1) = n at *
      generalize P.getD k 0 = z at *
      by_cases hz : z = -1
      · have hzb : (z == -1) = true := by simp [hz]
        have HE : Hid ((P.take (k + 1)).count (-1) = n + 1) := by show _ = _; rw [HN.out, if_pos hz]
        clear hz HN
        go_wp2
        exact Y9
      · have hzb : (z == -1) = false := by simp [hz]
        have HE : Hid ((P.take (k + 1)).count (-1) = n) := by show _ = _; rw [HN.out, if_neg hz]; rfl
        clear hz HN
        go_wp2
        exact ahA
    · have hkz : ¬ (k : Int) < (P.length : Int) := by omega
      obtain rfl : k = P.length := by omega
      rw [aaV]
      have anx : ¬ (8 : Int) < ((P.count (-1) : Nat) : Int) := by omega
      generalize P.count (-1) = cnt at *
      have hp1 : (1 : Nat) < 2 ^ (P.length + 1) := aaA (by omega) (Nat.pow_le_pow_right (show 0 < 2 by omega) (show 1 ≤ P.length + 1 by omega))
      have vJ := ah (Aw (.slice ap P.length cp) P 1 w3 ZA hp1 HHp.out)
      have hx0 := Hl (P := P) (k := P.length) hp1 (aab _)
      go_wp2_with fail
      refine vJ.out.mono ?_
      rintro e w3' ⟨rfl, rfl⟩
      have hx31 : iX P 1 P.length < 2147483648 := aaA hx0 (tq (aab _) (by omega))
      clear vJ hp1
      obtain ⟨x0, YB⟩ : ∃ x0, iX P 1 P.length = x0 := ⟨_, rfl⟩
      have HX0 := ah YB
      rw [YB] at hx0 hx31 ⊢
      clear YB
      go_upto_region 16 with fail
      have LP := HB3.out.size
      have eF : Hid (aal w3'.heap.size w3' (w3'.alloc (.cells #[.int .i64 (x0 : Int)] 3))) := (aas _ _).alloc (aab _) _
      have HR4 : Hid (aY (w3'.alloc (.cells #[.int .i64 (x0 : Int)] 3)) w.heap.size (upd (upd (fun _ => none) 1 (some (.slice ap P.length cp, P))) 3 (some (.slice (some ⟨w3'.heap.size, 0, none⟩) 1 1, aH [x0])))) := ((aY.empty w w.heap.size).new HB3.out (aab _) HOp.out).new eF.out LP (FV _ _ _)
      have hz4 : (w3'.alloc (.cells #[.int .i64 (x0 : Int)] 3)).heap.size = w3'.heap.size + 1 := by simp
      have hx4 := aj (aax w3' (.cells #[.int .i64 (x0 : Int)] 3)) 0
      obtain ⟨gS, hgS⟩ : ∃ gS, w3'.heap.size = gS := ⟨_, rfl⟩
      generalize w3'.alloc (.cells #[.int .i64 (x0 : Int)] 3) = W4 at *
      rw [hgS] at HR4 hz4 hx4
      simp only [hgS]
      have HZ4 := ah hz4
      clear hz4
      go_upto_region 17 with (at_make; refine wpList_make_full _ rfl _ _ 58 rfl W4.heap.size 56 i1 (.slice none 0 0) 1 Tryd.underlying58 hi1 hy0 hy1 _ _ _ _ 4093 rfl rfl (by omega) (by omega) ?b4 ?b5 (aab _) ?_)
      case b4 => rw [hy2]; omega
      case b5 => unfold maxLen; omega
      intro w5 hown5 Tp
      have hcs : ∃ bs : Array aah, w5.heap[W4.heap.size]? = some (.cells bs 56) ∧ bs.size = 4093 ∧ ∀ h, h < 4093 → bs[h]? = some (.slice none 0 0) := by
        rcases hown5.2 with ⟨h', _⟩ | ⟨g, cap, cur, h', _, hg, hc1, hc2, hc3, hc4⟩
        · simp at h'
        · simp only [Value.slice.injEq, Option.some.injEq, Addr.mk.injEq, and_true, true_and] at h'
          obtain ⟨rfl, rfl⟩ := h'
          refine ⟨cur, hg, by omega, fun h hh => ?_⟩
          have e0 : (madeCells #[aat none 0 0] 4093).toList = List.replicate 4093 (aat none 0 0) := toList_madeCells_one _ _
          exact age
      have eX : Hid (aal W4.heap.size W4 w5) := (aas _ _).grown Tp (aab _) (fun k h => by cases h)
      obtain ⟨bs, hq1, hq2, hq3⟩ := hcs
      clear hown5 Tp
      obtain ⟨gb, hgb⟩ : ∃ gb, W4.heap.size = gb := ⟨_, rfl⟩
      rw [hgb] at hq1
      simp only [hgb]
      have arM : gS < gb := by have := HZ4.out; omega
      have x5 : w5.cell? ⟨gS, 0, none⟩ = some (.int .i64 (x0 : Int)) := (eX.out.cell (p := ⟨gS, 0, none⟩) (by show gS < W4.heap.size; omega)).trans hx4
      obtain ⟨h0, hh0⟩ : ∃ h0, x0 % 4093 = h0 := ⟨_, rfl⟩
      have hmod : (x0 : Int) % 4093 = (h0 : Int) := by omega
      have agQ : h0 < 4093 := by omega
      have hb6 : aal w5.heap.size w5 (w5.alloc (.cells #[.int .i64 0] 3)) := (aas _ _).alloc (aab _) _
      have ae1 : gb < w5.heap.size := (Array.getElem?_eq_some_iff.1 hq1).1
      have NF := aC hq1 hb6
      have k6 : (w5.alloc (.cells #[.int .i64 0] 3)).cell? ⟨gb, h0, none⟩ = some (.slice none 0 0) := (aj NF h0).trans (hq3 h0 agQ)
      have fz6 := bL NF h0
      have Yh : aal w3'.heap.size w3' w5 := eF.out.trans (eX.out.mono eF.out.size)
      have Qb : aal w.heap.size w w5 := HB3.out.trans (Yh.mono LP)
      have rP : Hid (aY (w5.alloc (.cells #[.int .i64 0] 3)) w.heap.size (upd (fun a => if 4 ≤ a ∧ a % 2 = 0 then some (.slice none 0 0, []) else upd (upd (fun _ => none) 1 (some (.slice ap P.length cp, P))) 3 (some (.slice (some ⟨gS, 0, none⟩) 1 1, aH [x0])) a) (4 + 2 * h0) (some (.slice (some ⟨w5.heap.size, 0, none⟩) 1 1, aH [0])))) := ((HR4.out.below eX.out).amE).new hb6 Qb.size (FV _ _ _)
      have hcm : (w5.alloc (.cells #[.int .i64 0] 3)).setCell ⟨gb, h0, none⟩ (.slice (some ⟨w5.heap.size, 0, none⟩) 1 1) = (w5.setCell ⟨gb, h0, none⟩ (.slice (some ⟨w5.heap.size, 0, none⟩) 1 1)).alloc (.cells #[.int .i64 0] 3) := World.setCell_alloc_past _ _ _ _ ae1
      have hB2 : But (fun b => b = gb) (w5.alloc (.cells #[.int .i64 0] 3)) ((w5.alloc (.cells #[.int .i64 0] 3)).setCell ⟨gb, h0, none⟩ (.slice (some ⟨w5.heap.size, 0, none⟩) 1 1)) := (But.refl _ _).set gb h0 _ rfl
      have hR7 := rP.out.but hB2 (fun b e cur hc => by subst e; exact bU NF hc (by decide) rfl)
      have cO := Qb.trans (hb6.mono Qb.size)
      have acL : w.heap.size ≤ gb := by have := eF.out.size; omega
      have bT := cO.trans (hB2.below cO.size (fun i hi e => by omega))
      have hg7 := aL NF h0 (.slice (some ⟨w5.heap.size, 0, none⟩) 1 1)
      have FW : ((w5.alloc (.cells #[.int .i64 0] 3)).setCell ⟨gb, h0, none⟩ (.slice (some ⟨w5.heap.size, 0, none⟩) 1 1)).heap[w.heap.size]? = some (.cells #[.slice none 0 0] 25) := by
        have h1 := aC (aC HR3.out Yh) hb6
        rw [ay _ _ _ _ _ (bU h1 NF (by decide))]; exact h1
      have hBk : ∃ bs' : Array aah, ((w5.alloc (.cells #[.int .i64 0] 3)).setCell ⟨gb, h0, none⟩ (.slice (some ⟨w5.heap.size, 0, none⟩) 1 1)).heap[gb]? = some (.cells bs' 56) ∧ bs'.size = 4093 ∧ ∀ h, h < 4093 → ∃ u, bs'[h]? = some u ∧ (upd (fun a => if 4 ≤ a ∧ a % 2 = 0 then some (.slice none 0 0, []) else upd (upd (fun _ => none) 1 (some (.slice ap P.length cp, P))) 3 (some (.slice (some ⟨gS, 0, none⟩) 1 1, aH [x0])) a) (4 + 2 * h0) (some (.slice (some ⟨w5.heap.size, 0, none⟩) 1 1, aH [0]))) (4 + 2 * h) = some (u, aH (oK [x0] h)) := by
        refine ⟨_, hg7, by simpa using hq2, fun h hh => ?_⟩
        rw [ach]
        by_cases e : h = h0
        · subst e
          refine ⟨.slice (some ⟨w5.heap.size, 0, none⟩) 1 1, by simp [hq2, hh], ?_⟩
          rw [upd_same, if_pos hh0]
        · refine ⟨.slice none 0 0, by rw [Array.getElem?_setIfInBounds_ne (Ne.symm e)]; exact hq3 h hh, ?_⟩
          rw [aD _ _ (by omega), if_pos (by omega), if_neg (by rw [hh0]; exact Ne.symm e)]
          rfl
      rw [hcm] at hR7 bT FW hBk
      have Ou := ah hR7
      have zb := ah bT
      have afQ := ah FW
      have uM := ah hBk
      clear hb6 NF Yh Qb hh0 HR4 hx4 eF eX HZ4 HOp HHp Jl hcnt rP hcm hB2 hR7 cO bT hg7 FW hBk hq1 hq2 hq3 HR3 HB3
      go_upto_region 18 with fail
      generalize hW7 : (w5.setCell ⟨gb, h0, none⟩ (.slice (some ⟨w5.heap.size, 0, none⟩) 1 1)).alloc (.cells #[.int .i64 0] 3) = W7 at *
      clear hW7 x5 k6 fz6 hmod agQ
      generalize hRR : (upd (fun a => if 4 ≤ a ∧ a % 2 = 0 then some (.slice none 0 0, []) else upd (upd (fun _ => none) 1 (some (.slice ap P.length cp, P))) 3 (some (.slice (some ⟨gS, 0, none⟩) 1 1, aH [x0])) a) (4 + 2 * h0) (some (.slice (some ⟨w5.heap.size, 0, none⟩) 1 1, aH [0]))) = R7 at *
      have Mf : Hid (R7 1 = some (.slice ap P.length cp, P) ∧ R7 3 = some (.slice (some ⟨gS, 0, none⟩) 1 1, aH [x0])) := by
        rw [← hRR]
        refine ⟨?_, ?_⟩
        · rw [aD _ _ (by omega), if_neg (by omega), aD _ _ (by omega), upd_same]
        · rw [aD _ _ (by omega), if_neg (by omega), upd_same]
      clear hRR
      have HH7 := ah (Ou.out.hold Mf.out.1)
      have Jl : Hid (∀ k, k < P.length → ∃ g off, ap = some ⟨g, off, none⟩ ∧ g < W7.heap.size ∧ W7.cell? ⟨g, off + k, none⟩ = some (.int .i64 (P.getD k 0))) := fun k hk => HH7.out.cells hk
      go_upto_region 19 with fail
      have GR := ah (gF W7 3)
      have Fx : Hid (aal W7.heap.size W7 (W7.alloc (.cells #[] 3))) := (aas _ _).alloc (aab _) _
      generalize W7.alloc (.cells #[] 3) = W8 at *
      go_wp2_with fail
      go_loopw [11, 12] (fun lv iv wx => ∃ k : Nat, k ≤ P.length ∧ iv = .int .i64 (k : Int) ∧ wx.ownsRow W7.heap.size 3 1 lv (uK (P.take k)).length (zI (uK (P.take k))) ∧ aal W7.heap.size W7 wx) (fun _ iv _ => P.length - (aar iv).toNat)
      case atStart => exact ⟨0, aaL _, rfl, GR.out, Fx.out⟩
      case round =>
        clear GR Fx
        obtain ⟨k, hk2, rfl, hol, hbl⟩ := hrel
        have FJ := ah hol
        have mV := ah hbl
        have hll := aaQ (Pg (P.take k)) (by rw [aa1]; omega : (P.take k).length ≤ 30)
        have Yx := hbl.size
        clear hol hbl
        by_cases hlt2 : k < P.length
        · have Y6 : (k : Int) < (P.length : Int) := by omega
          obtain ⟨g, off, rfl, hg, c1⟩ := Jl.out k hlt2
          have c2 := (mV.out.cell (p := ⟨g, off + k, none⟩) hg).trans c1
          have HT := ah (take_at hlt2)
          clear c1
          generalize P.getD k 0 = z at *
          by_cases hz : 0 ≤ z
          · have hzz : z ≥ 0 := hz
            have HE : Hid (uK (P.take (k + 1)) = uK (P.take k) ++ [z]) := by show _ = _; rw [HT.out, Lp, if_pos hz]
            clear HT
            generalize uK (P.take k) = lt at *
            go_wp2_with (at_builtin; refine dm rfl _ _ 56 3 rfl i0 (.int .i64 0) 8 Tryd.underlying56 hi hz0 hz1 hz2 rfl W7.heap.size _ _ _ rfl FJ.out _ rfl rfl (by omega) (by decide) Yx ?_)
            intro v8 w8 xm r9 zM CK
            have HN : Hid (w8.ownsRow W7.heap.size 3 1 v8 (lt ++ [z]).length (zI (lt ++ [z])) ∧ aal W7.heap.size W7 w8) := by
              rw [aav, aa3, mh]
              exact ⟨xm, mV.out.trans (r9.below Yx (fun j hj e => by have := (aA FJ.out e).1; omega))⟩
            clear xm r9 zM CK
            go_wp2_with fail
            go_roundw
            case rel => exact ⟨k + 1, by omega, by go_num, by rw [HE.out]; exact HN.out.1, HN.out.2⟩
            case measure => simp [aar]; omega
          · have hzz : ¬ z ≥ 0 := hz
            have HE : Hid (uK (P.take (k + 1)) = uK (P.take k)) := by show _ = _; rw [HT.out, Lp, if_neg hz]
            clear HT
            go_wp2_with fail
            go_roundw
            case rel => exact ⟨k + 1, by omega, by go_num, by rw [HE.out]; exact FJ.out, mV.out⟩
            case measure => simp [aar]; omega
        · have Y6 : ¬ (k : Int) < (P.length : Int) := by omega
          obtain rfl : k = P.length := by omega
          rw [aaV] at *
          have hl1 := Pg P
          have IU := ah (yo (uK P) _ _ (by omega) (bD.own FJ.out))
          obtain ⟨al', cl', amJ⟩ : ∃ a c, u11 = .slice a (uK P).length c := iK FJ.out
          subst amJ
          go_wp2_with fail
          refine IU.out.mono ?_
          rintro e w9 ⟨vl, ls, rfl, hrise, hmem, G6, sO, oJ⟩
          have qF := ah hrise
          have kH := ah hmem
          obtain ⟨al, cl, rfl⟩ := iK sO
          have KL : aal w9.heap.size w9 (w9.alloc (.cells #[.slice al ls.length cl, .slice none 0 0, .slice none 0 0] 60)) := (aas _ _).alloc (aab _) _
          have HW0 : Hid (Wz w (w9.alloc (.cells #[.slice al ls.length cl, .slice none 0 0, .slice none 0 0] 60)) w.heap.size w9.heap.size gb (.slice al ls.length cl) (.slice none 0 0) (.slice none 0 0) (.slice ap P.length cp) (.slice (some ⟨gS, 0, none⟩) 1 1) P ls [x0] [x0] [] [] [] (upd R7 0 (some (.slice al ls.length cl, ls)))) := by
            have hB8 := zb.out.trans (mV.out.mono zb.out.size)
            have hB9 := hB8.trans (oJ.mono hB8.size)
            have anO := hB9.trans (KL.mono hB9.size)
            have jS := mV.out
            obtain ⟨bs', q1, q2, q3⟩ := uM.out
            refine ⟨anO, ⟨aab _, hB9.size, acL⟩, aC (aC (aC afQ.out jS) oJ) KL, aax _ _, ((Ou.out.below jS).new oJ hB8.size sO).below KL, upd_same _ _ _, by rw [aD _ _ (by omega)]; exact Mf.out.1, by rw [aD _ _ (by omega)]; exact Mf.out.2, ⟨bs', aC (aC (aC q1 jS) oJ) KL, q2, fun h hh => ?_⟩, aaF _ _ _ _, fun j u s h1 _ => by simp at h1, by simp [Value.ownBlock], aaF _ _ _ _⟩
            obtain ⟨u, h1, h2⟩ := q3 h hh
            exact ⟨u, h1, by rw [aD _ _ (by omega)]; exact h2⟩
          go_upto_region 25 with fail
          generalize w9.alloc (.cells #[.slice al ls.length cl, .slice none 0 0, .slice none 0 0] 60) = W10 at *
          generalize upd R7 0 (some (.slice al ls.length cl, ls)) = R10 at *
          generalize w9.heap.size = rb at *
          have ar9 : ls.length ≤ 30 := by omega
          have adW : ls.length ≤ P.length := by omega
          clear hrise hmem sO oJ KL FJ mV IU Jl HH7 Ou zb afQ uM Mf hll Yx G6 hl1 acL ae1 LP
          obtain ⟨K, hK⟩ : ∃ K, wsK P (fU ls) = K := ⟨_, rfl⟩
          have HK := ah hK
          have zg : Hid (∀ x a, K.step x a = iX P (ko P x (fU ls a) P.length) P.length) := fun x a => by rw [← hK]; rfl
          have HKf : Hid (∀ x, K.fin x = x.testBit P.length) := fun x => by rw [← hK]; rfl
          have nQ : Hid (∀ x a, K.step x a < 2 ^ (P.length + 1)) := fun x a => by rw [zg.out]; exact Hl (KQ (aab _)) (aab _)
          clear hK
          clear hl hpl XX hk hlt hk2 hlt2 hkz Y6 anx hx31
          have IE : Hid (jL K (ls.length + 1) x0 0 [x0] [] []) := jL.zero _ _ _
          have HZ0 : Hid (∀ z ∈ [x0], z < 2 ^ (P.length + 1)) := fun z hz => by rw [List.mem_singleton.1 hz]; exact hx0
          go_wp2_with fail
          go_loopw [9, 14] (fun sv iv wx => ∃ (i : Nat) (Z : List Nat) (aB : List (List Nat)) (ns : List aah) (ak : List Bool) (R : aU) (vf vn : aah) (g c : Nat), iv = .int .i64 (i : Int) ∧ sv = .slice (some ⟨g, 0, none⟩) Z.length c ∧ Wz w wx w.heap.size rb gb (.slice al ls.length cl) vf vn (.slice ap P.length cp) (.slice (some ⟨g, 0, none⟩) Z.length c) P ls Z Z aB ns ak R ∧ jL K (ls.length + 1) x0 i Z aB ak ∧ ∀ z ∈ Z, z < 2 ^ (P.length + 1)) (fun _ iv _ => 2147483649 - (aar iv).toNat)
          case atStart => exact ⟨0, [x0], [], [], [], _, _, _, gS, 1, rfl, rfl, HW0.out, IE.out, HZ0.out⟩
          case round =>
            clear HW0 IE HZ0
            obtain ⟨i, Z, aB, ns, ak, R, vf, vn, g, c, rfl, rfl, hW, hG, hZ⟩ := hrel
            have hZl := ZL ZA hG.nodup hZ
            have hiZ := hG.le
            have HW := ah hW
            have HG := ah hG
            have HZ := ah hZ
            by_cases hli : i < Z.length
            · have ang : (i : Int) < (Z.length : Int) := by omega
              obtain ⟨x, hx⟩ : ∃ x, Z[i]? = some x := ⟨_, aaw hli⟩
              have HXg : Hid (Z.getD i x0 = x) := by show _ = _; rw [aau, hx]; rfl
              have HXm := ah (hZ x (aaY hx))
              have HXi := ah hx
              have HWt := ah (hW.ajI (zs := []) ((aas _ _).alloc (aab _) _) (gF wr 3))
              clear hW hG hZ hx
              go_upto_region 29 with fail
              generalize wr.alloc (.cells #[] 3) = W1 at *
              generalize aat (some ⟨wr.heap.size, 0, none⟩) 0 0 = vt0 at *
              have xP : Hid (∃ (R1 : aU) (g1 c1 : Nat), aat (some ⟨g, 0, none⟩) Z.length c = .slice (some ⟨g1, 0, none⟩) (aS K Z x 0).length c1 ∧ R1 2 = some (vt0, aH (toN K (aS K Z x 0) x 0)) ∧ Wz w W1 w.heap.size rb gb (.slice al ls.length cl) vf vn (.slice ap P.length cp) (.slice (some ⟨g1, 0, none⟩) (aS K Z x 0).length c1) P ls (aS K Z x 0) (aS K Z x 0) aB ns ak R1 ∧ ∀ z ∈ aS K Z x 0, z < 2 ^ (P.length + 1)) := ⟨_, g, c, rfl, upd_same _ _ _, HWt.out, HZ.out⟩
              clear HWt HW
              go_wp2_with fail
              go_loopw [9, 15, 16] (fun sv tv kv wx => ∃ (k : Nat) (R1 : aU) (g1 c1 : Nat), k ≤ ls.length + 1 ∧ kv = .int .i64 (k : Int) ∧ sv = .slice (some ⟨g1, 0, none⟩) (aS K Z x k).length c1 ∧ R1 2 = some (tv, aH (toN K (aS K Z x k) x k)) ∧ Wz w wx w.heap.size rb gb (.slice al ls.length cl) vf vn (.slice ap P.length cp) (.slice (some ⟨g1, 0, none⟩) (aS K Z x k).length c1) P ls (aS K Z x k) (aS K Z x k) aB ns ak R1 ∧ ∀ z ∈ aS K Z x k, z < 2 ^ (P.length + 1)) (fun _ _ kv _ => ls.length + 1 - (aar kv).toNat)
              case atStart =>
                obtain ⟨R1, g1, c1, h1, h2, h3, h4⟩ := xP.out
                exact ⟨0, R1, g1, c1, by omega, rfl, h1, h2, h3, h4⟩
              case round =>
                clear xP
                obtain ⟨k, R1, g1, c1, hkS, rfl, rfl, hR2, hW, hZk⟩ := hrel
                have HW := ah hW
                have HR2 := ah hR2
                have HZk := ah hZk
                have D8 := aj hW.bW 0
                clear hW
                have HNd : Hid ((aS K Z x k).Nodup) := iW HG.out.nodup
                have arN := ZL ZA HNd.out hZk
                clear hR2 hZk
                by_cases hkl : k ≤ ls.length
                · have uF : (k : Int) ≤ (ls.length : Int) := by omega
                  go_upto_if 104 with fail
                  go_cut [17] (fun lv wy => lv = .int .i64 (fU ls k) ∧ wy = wr)
                  case first =>
                    -- <<
                    by_cases hjk : k < ls.length
                    · have Mc : (k : Int) < (ls.length : Int) := by omega
                      obtain ⟨gl, ol, rfl, hgl, hcl⟩ := (HW.out.rows.hold HW.out.mE).cells hjk
                      have hle : fU ls k = ls.getD k 0 := by simp [fU, hjk]
                      rw [← hle] at hcl
                      generalize fU ls k = lt at *
                      clear hle
                      exact Mj
                    · have Mc : ¬ (k : Int) < (ls.length : Int) := by omega
                      have hle : fU ls k = -9 := by simp [fU, hjk]
                      go_wp2
                      exact PS
                    -- >>
                  case rest =>
                    obtain ⟨rfl, hwc⟩ := hcut
                    obtain rfl := hwc.symm
                    clear hwc D8
                    obtain ⟨y, hy⟩ : ∃ y, K.step x k = y := ⟨_, rfl⟩
                    have HMv : Hid (Calls Tryd.prog 70 #[.slice ap P.length cp, .int .i64 (x : Int), .int .i64 (fU ls k)] wr fun e w' => e = .returned (.int .i64 (y : Int)) ∧ w' = wr) := by
                      have := LJ (.slice ap P.length cp) P x (fU ls k) wr ZA HXm.out (HW.out.rows.hold HW.out.prt)
                      rw [← zg.out, hy] at this
                      exact this
                    have hyl : y < 2147483648 := by rw [← hy]; exact aaA (nQ.out x k) (tq (aab _) (by omega))
                    have HYl : Hid (y < 2 ^ (P.length + 1)) := by rw [← hy]; exact nQ.out x k
                    have tQ := ah (nN K Z x k)
                    have AL := ah (vX K Z x k)
                    have rD := ah (rY K (aS K Z x k) x k)
                    rw [hy] at tQ AL
                    clear hy
                    obtain ⟨r, hr⟩ := wB K Z x k
                    have hiK : i < (aS K Z x k).length := by rw [hr, aav]; omega
                    have GZ : (aS K Z x k).getD i 0 = x := by
                      exact ZC
                    have c0 := HW.out.setAt hiK
                    rw [GZ] at c0
                    generalize toN K (aS K Z x k) x k = tk at *
                    generalize hZZ : aS K Z x k = Zk at *
                    clear hZZ hr GZ
                    have an6 : (i : Int) < (Zk.length : Int) := by omega
                    generalize fU ls k = lt at *
                    go_wp2_with fail
                    refine HMv.out.mono ?_
                    rintro e w' ⟨rfl, rfl⟩
                    clear c0 HMv
                    obtain ⟨h, hh⟩ : ∃ h, y % 4093 = h := ⟨_, rfl⟩
                    have hmod : (y : Int) % 4093 = (h : Int) := by omega
                    have uo : h < 4093 := by omega
                    have RJ := ah hh
                    clear hh
                    obtain ⟨bs, b1, b2, b3⟩ := HW.out.bk
                    obtain ⟨ub, hub, hRb⟩ := b3 h uo
                    have k1 : w'.cell? ⟨gb, h, none⟩ = some ub := (aj b1 h).trans hub
                    obtain ⟨ab, cb, rfl, KG⟩ := HW.out.rows.hold hRb
                    rw [aK] at k1 hRb
                    have za := ah hRb
                    have hbl := Ov Zk h
                    obtain ⟨B, hB⟩ : ∃ B, oK Zk h = B := ⟨_, rfl⟩
                    rw [hB] at k1 za hbl KG
                    have DF : Hid (∀ j, j ∈ B ↔ j < Zk.length ∧ Zk.getD j 0 % 4093 = h) := by show ∀ j, _; intro j; rw [← hB]; exact abK
                    have fP := ah hB
                    have SS := ah KG
                    clear b1 b2 b3 hRb hub hB KG
                    go_wp2_with fail
                    go_loop [20, 21] (fun av kv => ∃ k' : Nat, k' ≤ B.length ∧ kv = .int .i64 (k' : Int) ∧ ((av = .int .i64 (-1) ∧ ∀ j, j < k' → Zk.getD (B.getD j 0) 0 ≠ y) ∨ ∃ j : Nat, av = .int .i64 (j : Int) ∧ Zk[j]? = some y)) (fun _ kv => B.length - (aar kv).toNat)
                    case atStart => exact ⟨0, aaL _, rfl, Or.inl ⟨rfl, fun j hj => by omega⟩⟩
                    case round =>
                      obtain ⟨k', hk', rfl, hor⟩ := hrel
                      rcases hor with ⟨rfl, hno⟩ | ⟨j, rfl, hj⟩
                      · have Dw := ah hno
                        clear hno
                        by_cases hkb : k' < B.length
                        · have VN : (k' : Int) < (B.length : Int) := by omega
                          obtain ⟨gB, oB, rfl, hgB, hcB⟩ := SS.out.resolve_left (fun e => by
                            have := congrArg List.length e
                            rw [aK, List.length_nil] at this
                            omega)
                          have d0 : w'.cell? ⟨gB, oB + k', none⟩ = some (.int .i64 ((B.getD k' 0 : Nat) : Int)) := by
                            rw [hcB k' (by rw [aK]; exact hkb), iO _ _ hkb]
                          have hjm := (DF.out (B.getD k' 0)).1 (by rw [aau, aaw hkb, aaK]; exact List.getElem_mem hkb)
                          obtain ⟨j, hj⟩ : ∃ j, B.getD k' 0 = j := ⟨_, rfl⟩
                          rw [hj] at d0 hjm
                          have hjl := hjm.1
                          have KF : (j : Int) < (Zk.length : Int) := by omega
                          have d1 := HW.out.setAt hjl
                          obtain ⟨t, ht⟩ : ∃ t, Zk.getD j 0 = t := ⟨_, rfl⟩
                          rw [ht] at d1
                          have Hj := ah hj
                          have Ht := ah ht
                          clear hj ht hjm hcB
                          -- <<
                          by_cases hts : t = y
                          · have hd : ((t : Int) == (y : Int)) = true := by simp [hts]
                            have A7 : Hid (Zk[j]? = some y) := by
                              show _ = _
                              have := Ht.out
                              rw [aau, aaw hjl, aaK] at this
                              rw [aaw hjl, this, hts]
                            clear hts
                            go_wp2_with fail
                            exact ⟨⟨k' + 1, by omega, by go_num, Or.inr ⟨j, rfl, A7.out⟩⟩, by simp [aar]; omega⟩
                          · have hd : ((t : Int) == (y : Int)) = false := by simp; omega
                            have A7 : Hid (∀ j', j' < k' + 1 → Zk.getD (B.getD j' 0) 0 ≠ y) := by
                              show ∀ j', j' < k' + 1 → _
                              intro j' hj'
                              by_cases e : j' = k'
                              · rw [e, Hj.out, Ht.out]; exact hts
                              · exact Dw.out j' (by omega)
                            clear hts
                            go_wp2_with fail
                            exact ⟨⟨k' + 1, by omega, by go_num, Or.inl ⟨rfl, A7.out⟩⟩, by simp [aar]; omega⟩
                          -- >>
                        · have VN : ¬ (k' : Int) < (B.length : Int) := by omega
                          obtain rfl : k' = B.length := by omega
                          have GY : Hid (y ∉ Zk) := by
                            show _ ∉ _
                            intro hm
                            obtain ⟨j, hj⟩ := List.mem_iff_getElem?.1 hm
                            have hjl := (List.getElem?_eq_some_iff.1 hj).1
                            have hjd : Zk.getD j 0 = y := by rw [aau, hj]; rfl
                            obtain ⟨t, ht⟩ := List.mem_iff_getElem?.1 ((DF.out j).2 ⟨hjl, by rw [hjd]; exact RJ.out⟩)
                            have htl := (List.getElem?_eq_some_iff.1 ht).1
                            exact Dw.out t htl (by rw [aau (l := B), ht, aaK]; exact hjd)
                          have JV : Hid (meet Zk y = Zk ++ [y]) := by show _ = _; unfold meet; rw [if_neg GY.out]
                          have HIx : Hid (ix (Zk ++ [y]) y = Zk.length) := jr GY.out
                          have UD := ah (HW.out.rows.own 3 _ _ HW.out.sets)
                          have hsz := HW.out.below.size
                          clear Dw GY SS
                          go_upto_region 46 with (at_builtin; refine dm rfl _ _ 56 3 rfl i0 (.int .i64 0) 8 Tryd.underlying56 hi hz0 hz1 hz2 rfl w.heap.size _ _ _ rfl UD.out _ rfl rfl ?p1 (by decide) hsz ?_)
                          case p1 => rw [aK]; omega
                          intro v8 w8 xm r9 zM CK
                          obtain ⟨R2, XU, hW2⟩ := HW.out.acp (x := y) r9 xm zM
                          obtain ⟨g8, c8, hv8⟩ := dA xm (by omega)
                          rw [aK] at hv8
                          subst hv8
                          have HW2 := ah hW2
                          have Rl : Hid (R2 (4 + 2 * h) = some (.slice ab B.length cb, aH (oK Zk h))) := by show _ = _; rw [XU _ (by omega), fP.out]; exact za.out
                          have aiu : Hid (R2 2 = some (u15, aH tk)) := by show _ = _; rw [XU _ (by omega)]; exact HR2.out
                          obtain ⟨bs, b1, b2, b3⟩ := hW2.bk
                          have k8 : w8.cell? ⟨gb, h, none⟩ = some (.slice ab B.length cb) := by
                            obtain ⟨u, h1, h2⟩ := b3 h uo
                            rw [Rl.out] at h2
                            simp only [Option.some.injEq, Prod.mk.injEq, and_true] at h2
                            rw [h2]
                            exact (aj b1 h).trans h1
                          have HOb := ah (hW2.rows.own _ _ _ Rl.out)
                          have hsz2 := hW2.below.size
                          have arB := Ov Zk h
                          clear xm r9 zM CK XU hW2 b1 b2 b3 UD k1 HW
                          go_upto_region 47 with (at_builtin; refine dm rfl _ _ 56 3 rfl i0 (.int .i64 0) 8 Tryd.underlying56 hi hz0 hz1 hz2 rfl w.heap.size _ _ _ rfl HOb.out _ rfl rfl ?p2 (by decide) hsz2 ?_)
                          case p2 => rw [aK]; omega
                          intro v9 w9 EY qW sw anH
                          obtain ⟨⟨R3, aiL, hW3⟩, bs3, q1, q2⟩ := HW2.out.EU (y := y) uo RJ.out Rl.out qW EY sw
                          obtain ⟨g9, c9, hv9⟩ := dA EY (by omega)
                          rw [aK] at hv9
                          subst hv9
                          have k9 : w9.cell? ⟨gb, h, none⟩ = some (.slice ab B.length cb) := (aj q1 h).trans q2
                          have f9 := bL q1 h
                          have HW3 := ah hW3
                          have XE : Hid (R3 2 = some (u15, aH tk)) := by show _ = _; rw [aiL _ (by omega)]; exact aiu.out
                          have xY := ah (hW3.rows.own _ _ _ XE.out)
                          have LP := hW3.below.size
                          clear EY qW sw anH aiL hW3 q1 q2 HOb Rl aiu HW2 k8 hsz hsz2
                          have htl := rD.out
                          go_upto_region 47 with fail
                          clear k9 f9
                          generalize w9.setCell ⟨gb, h, none⟩ (.slice (some ⟨g9, 0, none⟩) ((oK Zk h).length + 1) c9) = W9 at *
                          go_upto_region 31 with (at_builtin; refine dm rfl _ _ 56 3 rfl i0 (.int .i64 0) 8 Tryd.underlying56 hi hz0 hz1 hz2 rfl w.heap.size _ _ _ rfl xY.out _ rfl rfl ?p3 (by decide) LP ?_)
                          case p3 => rw [aK]; omega
                          intro v10 lS JZ FT xh PL
                          have Kq := HW3.out.TE (ys := aH (tk ++ [Zk.length])) XE.out FT (by rw [iL, nD, aav]; exact JZ) xh
                          have E9 : Hid (aS K Z x (k + 1) = Zk ++ [y]) := tQ.out.trans JV.out
                          have HN : Hid (∃ (R4 : aU) (g4 c4 : Nat), aat (some ⟨g8, 0, none⟩) (Zk.length + 1) c8 = .slice (some ⟨g4, 0, none⟩) (aS K Z x (k + 1)).length c4 ∧ R4 2 = some (v10, aH (toN K (aS K Z x (k + 1)) x (k + 1))) ∧ Wz w lS w.heap.size rb gb (.slice al ls.length cl) vf vn (.slice ap P.length cp) (.slice (some ⟨g4, 0, none⟩) (aS K Z x (k + 1)).length c4) P ls (aS K Z x (k + 1)) (aS K Z x (k + 1)) aB ns ak R4 ∧ ∀ z ∈ aS K Z x (k + 1), z < 2 ^ (P.length + 1)) := by
                            have hL : (aS K Z x (k + 1)).length = Zk.length + 1 := by rw [E9.out, aav, aa3]
                            refine ⟨upd R3 2 (some (v10, aH (tk ++ [Zk.length]))), g8, c8, by rw [hL], by rw [upd_same, AL.out, E9.out, HIx.out], by rw [hL, E9.out]; exact Kq, fun z hz => ?_⟩
                            rw [E9.out] at hz
                            rcases List.mem_append.1 hz with h1 | h1
                            · exact HZk.out z h1
                            · rw [List.mem_singleton.1 h1]; exact HYl.out
                          clear JZ FT xh PL Kq HW3 XE xY
                          go_wp2_with fail
                          go_roundw
                          case rel =>
                            exact aaq
                          case measure => simp [aar]; omega
                      · -- <<
                        have JV : Hid (meet Zk y = Zk) := by show _ = _; unfold meet; rw [if_pos (aaY hj)]
                        have HIx : Hid (ix Zk y = j) := uP HNd.out hj
                        have hjl := (List.getElem?_eq_some_iff.1 hj).1
                        have xY := ah (HW.out.rows.own _ _ _ HR2.out)
                        have hsz := HW.out.below.size
                        have htl := rD.out
                        clear hj SS
                        have hj0 : ¬ (j : Int) < 0 := by omega
                        by_cases hkb : k' < B.length
                        case' pos =>
                          have VN : (k' : Int) < (B.length : Int) := by omega
                        case' neg =>
                          have VN : ¬ (k' : Int) < (B.length : Int) := by omega
                        all_goals
                          go_wp2_with (at_builtin; refine dm rfl _ _ 56 3 rfl i0 (.int .i64 0) 8 Tryd.underlying56 hi hz0 hz1 hz2 rfl w.heap.size _ _ _ rfl xY.out _ rfl rfl (by rw [aK]; omega) (by decide) hsz ?_)
                          intro v10 lS JZ FT xh PL
                          have Kq := HW.out.TE (ys := aH (tk ++ [j])) HR2.out FT (by rw [iL, nD, aav]; exact JZ) xh
                          have E9 : Hid (aS K Z x (k + 1) = Zk) := tQ.out.trans JV.out
                          have HN : Hid (∃ (R4 : aU) (g4 c4 : Nat), aat (some ⟨g1, 0, none⟩) Zk.length c1 = .slice (some ⟨g4, 0, none⟩) (aS K Z x (k + 1)).length c4 ∧ R4 2 = some (v10, aH (toN K (aS K Z x (k + 1)) x (k + 1))) ∧ Wz w lS w.heap.size rb gb (.slice al ls.length cl) vf vn (.slice ap P.length cp) (.slice (some ⟨g4, 0, none⟩) (aS K Z x (k + 1)).length c4) P ls (aS K Z x (k + 1)) (aS K Z x (k + 1)) aB ns ak R4 ∧ ∀ z ∈ aS K Z x (k + 1), z < 2 ^ (P.length + 1)) := by
                            refine ⟨upd R1 2 (some (v10, aH (tk ++ [j]))), g1, c1, by rw [E9.out], by rw [upd_same, AL.out, E9.out, HIx.out], by rw [E9.out]; exact Kq, fun z hz => ?_⟩
                            rw [E9.out] at hz
                            exact HZk.out z hz
                          clear JZ FT xh PL Kq HW xY k1
                          go_wp2_with fail
                          go_roundw
                          case rel =>
                            exact aaq
                          case measure => simp [aar]; omega
                        -- >>
                · have uF : ¬ (k : Int) ≤ (ls.length : Int) := by omega
                  have SA : Hid (k = ls.length + 1) := by show _ = _; omega
                  obtain ⟨adn, cpn, rfl⟩ := iK HW.out.nx
                  obtain ⟨gM, nS, rfl⟩ := iK HW.out.fin
                  obtain ⟨adt, cpt, rfl⟩ := iK (HW.out.rows.own _ _ _ HR2.out)
                  have Fj : Hid (aB.length = i) := HG.out.uE
                  have TQ : Hid (ak.length = i) := HG.out.mH
                  have t2 := aj HW.out.bW 2
                  have kS := ah HW.out.nx
                  have hsz := HW.out.below.size
                  go_upto_region 48 with fail
                  go_upto_region 49 with (at_builtin; refine dm rfl _ _ 58 56 rfl i1 (.slice none 0 0) 24 Tryd.underlying58 hi1 hy0 hy1 hy2 rfl w.heap.size _ _ _ rfl kS.out _ rfl rfl ?p5 (by decide) hsz ?_)
                  case p5 => have := Fj.out; omega
                  intro v8 w8 xm r9 zM CK
                  obtain ⟨g8, c8, rfl⟩ := dA xm (by omega)
                  obtain ⟨⟨R8, hW8⟩, LU⟩ := HW.out.zy HR2.out r9 xm zM
                  have t8 := aj LU 2
                  have fz8 := frozen_of_row _ _ 2 _ _ LU
                  have HW8 := ah hW8
                  clear xm r9 zM CK LU t2 kS HW hW8 D8
                  go_upto_region 49 with fail
                  clear t8 fz8
                  generalize w8.setCell ⟨rb, 2, none⟩ (.slice (some ⟨g8, 0, none⟩) (aB.length + 1) c8) = W8 at *
                  obtain rfl := SA.out
                  obtain ⟨r, hr⟩ := wB K Z x (ls.length + 1)
                  have hiK : i < (aS K Z x (ls.length + 1)).length := by rw [hr, aav]; omega
                  have GZ : (aS K Z x (ls.length + 1)).getD i 0 = x := by
                    exact ZC
                  have AX : Hid (∀ (W : aap) (ff : aah) {fs : List Bool} {RR : aU} {nx' : List (List Nat)} {ns' : List aah} {pI : aah}, Wz w W w.heap.size rb gb (.slice al ls.length cl) ff pI (.slice ap P.length cp) (.slice (some ⟨g1, 0, none⟩) (aS K Z x (ls.length + 1)).length c1) P ls (aS K Z x (ls.length + 1)) (aS K Z x (ls.length + 1)) nx' ns' fs RR → W.cell? ⟨g1, i, none⟩ = some (.int .i64 (x : Int))) := fun W ff _ _ _ _ _ hh => by have := hh.setAt hiK; rw [GZ] at this; exact this
                  have HCy : Hid (∀ (W W9 : aap) {ad : Option Addr} {c n : Nat} {fs : List Bool} {RR : aU} {nx' : List (List Nat)} {ns' : List aah} {pI : aah}, Wz w W w.heap.size rb gb (.slice al ls.length cl) (.slice ad n c) pI (.slice ap P.length cp) (.slice (some ⟨g1, 0, none⟩) (aS K Z x (ls.length + 1)).length c1) P ls (aS K Z x (ls.length + 1)) (aS K Z x (ls.length + 1)) nx' ns' fs RR → But (fun b => (aat ad n c).ownBlock = some b) W W9 → W9.cell? ⟨g1, i, none⟩ = some (.int .i64 (x : Int))) := fun W W9 ad c n _ _ _ _ _ hh hb => by
                    have h1 := hh.setAt hiK
                    rw [GZ] at h1
                    obtain ⟨_, cur, h2⟩ := aA (hh.rows.own _ _ _ hh.sets) (b := g1) rfl
                    have h3 : W9.heap[g1]? = W.heap[g1]? := hb.block g1 (Array.getElem?_eq_some_iff.1 h2).1 (fun e => by
                      obtain ⟨_, c2, k2⟩ := aA hh.fin e
                      exact bU h2 k2 (by decide) rfl)
                    rw [← h1]
                    exact (aj (h3.trans h2) i).trans (aj h2 i).symm
                  have an6 : (i : Int) < ((aS K Z x (ls.length + 1)).length : Int) := by omega
                  have hxl : x < 2147483648 := aaA HXm.out (tq (aab _) (by omega))
                  clear hr GZ
                  refine wp_region_held (S := fun u => u.cell? ⟨g1, i, none⟩ = some (.int .i64 (x : Int))) (by kernel_rfl) ?_
                  have hbd : aal W8.heap.size W8 ({ heap := W8.heap, tape := W8.tape, drawn := W8.drawn + 1, os := W8.os, output := W8.output } : aap) := (aas _ _).drew
                  generalize ({ heap := W8.heap, tape := W8.tape, drawn := W8.drawn + 1, os := W8.os, output := W8.output } : aap) = Wd at *
                  have hWd := HW8.out.keep hbd
                  have dD : aal Wd.heap.size Wd (Wd.alloc (.cells #[.bool (x.testBit P.length)] 4)) := (aas _ _).alloc (aab _) _
                  have hWA := hWd.keep dD
                  have hSd : (fun u : aap => u.cell? ⟨g1, i, none⟩ = some (.int .i64 (x : Int))) Wd := AX.out _ _ hWd
                  have qG : (fun u : aap => u.cell? ⟨g1, i, none⟩ = some (.int .i64 (x : Int))) (Wd.alloc (.cells #[.bool (x.testBit P.length)] 4)) := AX.out _ _ hWA
                  try refine tn ?_
                  refine tx 0 ?_ (hS := hSd)
                  refine tx 2 ?_ (hS := hSd)
                  refine tx 3 ?_ (hS := hSd)
                  refine tx 4 ?_ (v := .pointer (some ⟨g1, i, none⟩)) (hS := hSd)
                  refine tx 5 ?_ (v := .int .i64 (x : Int)) (hS := hSd)
                  refine tx 6 ?_ (hS := hSd)
                  refine tx 7 ?_ (v := .int .i64 (P.length : Int)) (hS := hSd)
                  refine bX 1 8 (by kernel_rfl) ?ga ?gb
                  case' ga =>
                    refine aP _ _ rfl (by kernel_rfl) (og _ _ _ _ rfl rb 1 ak.length nS gM (by kernel_rfl) (aj (hWd).bW 1)) ?_
                    refine ⟨hSd, ?_⟩
                    try refine tn ?_
                    refine aF 8 (by kernel_rfl) ?_
                    refine bQ 71 #[.int .i64 (x : Int), .int .i64 (P.length : Int)] rfl (by kernel_rfl) (eT _ _ _ _ _ _ _ _ rfl _ _ (by kernel_rfl) (by kernel_rfl) (Tryd.call71 _ _)) ?_
                    refine (pz x P.length Wd (by omega) (by omega)).mono ?_
                    rintro e' we ⟨rfl, rfl⟩
                    refine ⟨hSd, ?_⟩
                    try refine tn ?_
                    refine aF 9 (by kernel_rfl) ?_
                    refine aP _ _ rfl (by kernel_rfl) (l9 _ _ _ _ rfl (x.testBit P.length) (by kernel_rfl)) ?_
                    refine ⟨qG, ?_⟩
                    try refine tn ?_
                  case' gb =>
                    refine bQ 71 #[.int .i64 (x : Int), .int .i64 (P.length : Int)] rfl (by kernel_rfl) (eT _ _ _ _ _ _ _ _ rfl _ _ (by kernel_rfl) (by kernel_rfl) (Tryd.call71 _ _)) ?_
                    refine (pz x P.length Wd (by omega) (by omega)).mono ?_
                    rintro e' we ⟨rfl, rfl⟩
                    refine ⟨hSd, ?_⟩
                    try refine tn ?_
                    refine bX 1 9 (by kernel_rfl) ?gc ?gd
                  case' gc =>
                    refine aP _ _ rfl (by kernel_rfl) (og _ _ _ _ rfl rb 1 ak.length nS gM (by kernel_rfl) (aj (hWd).bW 1)) ?_
                    refine ⟨hSd, ?_⟩
                    try refine tn ?_
                    refine aF 9 (by kernel_rfl) ?_
                    refine aP _ _ rfl (by kernel_rfl) (l9 _ _ _ _ rfl (x.testBit P.length) (by kernel_rfl)) ?_
                    refine ⟨qG, ?_⟩
                    try refine tn ?_
                  case' gd =>
                    refine aP _ _ rfl (by kernel_rfl) (l9 _ _ _ _ rfl (x.testBit P.length) (by kernel_rfl)) ?_
                    refine ⟨qG, ?_⟩
                    try refine tn ?_
                    refine aF 1 (by kernel_rfl) ?_
                    refine aP _ _ rfl (by kernel_rfl) (og _ _ _ _ rfl rb 1 ak.length nS gM (by kernel_rfl) (aj (hWA).bW 1)) ?_
                    refine ⟨qG, ?_⟩
                    try refine tn ?_
                  all_goals
                    refine aF 10 (by kernel_rfl) ?_
                    refine GH rfl (by kernel_rfl) rfl _ _ rfl ib hib hb0 hb1 hb2 w.heap.size _ ak.length (ak.map Value.bool) (by kernel_rfl) hWd.fin (x.testBit P.length) we.heap.size rfl (by kernel_rfl) (by have := TQ.out; omega) hWd.below.size ?_
                    intro g9 c9 W9 EY qW sw
                    have xR := hWd.sH qW EY
                    have pR : (fun u : aap => u.cell? ⟨g1, i, none⟩ = some (.int .i64 (x : Int))) W9 := HCy.out _ _ hWd qW
                    refine ⟨pR, ?_⟩
                    try refine tn ?_
                    refine tx 11 ?_ (hS := pR)
                    refine aF 12 (by kernel_rfl) ?_
                    refine bI _ rfl (by kernel_rfl) (D5 _ _ _ _ _ rfl rb 1 g9 (ak.length + 1) c9 _ (by kernel_rfl) (by kernel_rfl) (aj xR.2 1) (frozen_of_row _ _ 1 _ _ xR.2)) ?_
                    refine ⟨AX.out _ _ xR.1, ?_⟩
                    try refine tn ?_
                    refine wpAnyH_done (by kernel_rfl) ?_ _
                    have HWn := ah xR.1
                    have S9 : Hid (jL K (ls.length + 1) x0 (i + 1) (aS K Z x (ls.length + 1)) (aB ++ [toN K (aS K Z x (ls.length + 1)) x (ls.length + 1)]) (ak ++ [x.testBit P.length])) := by
                      have := HG.out.step hli
                      rw [HXg.out, HKf.out] at this
                      exact this
                    clear EY qW sw xR hWd hWA hbd dD hSd qG pR AX HCy HW8
                    go_wp2_with fail
                    go_roundw
                    case rel => exact ⟨i + 1, _, _, _, _, _, _, _, g1, c1, by go_num, rfl, HWn.out, S9.out, HZk.out⟩
                    case measure => simp [aar]; omega
            · -- <<
              have ang : ¬ (i : Int) < (Z.length : Int) := by omega
              obtain rfl : i = Z.length := by omega
              have Tx : 0 < Z.length := by
                exact aeH
              obtain ⟨hbf, iw, hrows⟩ := HG.out.done Tx
              have hfl : ak.length = Z.length := HG.out.mH
              have hnl : aB.length = ak.length := HG.out.uE.trans HG.out.mH.symm
              obtain ⟨uo, hraw⟩ := HW.out.raw hnl (by omega) (by omega) (by omega) hrows
              have qU := ah iw
              have HHl := ah uo
              have Gm := ah hraw
              obtain ⟨af, cf, tL⟩ : ∃ a c, vf = .slice a ak.length c := by obtain ⟨a, c, h, _⟩ := hraw.fin; exact ⟨a, c, h⟩
              obtain ⟨an, cn, CS⟩ : ∃ a c, vn = .slice a aB.length c := by obtain ⟨a, c, h, _⟩ := hraw.nx; exact ⟨a, c, h⟩
              subst tL CS
              have r0 : wr.cell? ⟨rb, 0, none⟩ = some (.slice al ls.length cl) := aj HW.out.bW 0
              have r1 : wr.cell? ⟨rb, 1, none⟩ = some (.slice af ak.length cf) := aj HW.out.bW 1
              have r2 : wr.cell? ⟨rb, 2, none⟩ = some (.slice an aB.length cn) := aj HW.out.bW 2
              clear hbf iw hrows hfl hnl uo hraw Tx hW hG hZ
              go_wp2_with fail
              refine (zL hC _ _ _ ls ak aB _ HHl.out Gm.out).mono ?_
              rintro e AR ⟨L, hL, Ef, hcase⟩
              have HL : Hid (bS.dx ls.length ls ((wsK P (fU ls)).aW (ls.length + 1) (iX P 1 P.length)) L) := by
                show Sys.dx _ _ _ _ _
                rw [HK.out, HX0.out, ← qU.out]; exact hL
              have hres := aC HW.out.res Ef
              have HRs := ah hres
              have Ki := ah (HW.out.below.trans (Ef.mono HW.out.below.size))
              have t0 : AR.cell? ⟨w.heap.size, 0, none⟩ = some (.slice none 0 0) := aj hres 0
              have f0 := bL hres 0
              have hset : ∀ v : aah, (AR.setCell ⟨w.heap.size, 0, none⟩ v).cell? ⟨w.heap.size, 0, none⟩ = some v := by
                intro v
                have := aL HRs.out 0 v
                rw [aj this 0]
                simp
              have fB := ah hset
              have hbs : ∀ v : aah, aal w.heap.size w (AR.setCell ⟨w.heap.size, 0, none⟩ v) := fun v => Ki.out.trans (((But.refl (fun b => b = w.heap.size) AR).set (w.heap.size) 0 _ rfl).below Ki.out.size (fun j hj e => by omega))
              have jF := ah hbs
              have hwz : w.heap.size ≤ wr.heap.size := HW.out.below.size
              clear hL Ef hres hset hbs
              rcases hcase with ⟨hgt, rfl⟩ | ⟨hle, v, l, hvl, rfl, Sw⟩
              · go_wp2
                refine bodyPost_ret (v := .tuple #[.agg #[.slice none 0 0], .int .i64 11]) (by simp [results, Tryd.results51, go_sem, fB.out]) rfl ?_
                exact ⟨ls, L, qF.out, kH.out, adW, HL.out, jF.out _, Or.inl ⟨hgt, rfl⟩⟩
              · have Sd : Hid (∀ u : aah, bq (AR.setCell ⟨w.heap.size, 0, none⟩ u) w.heap.size v l) := by
                  exact aeW
                obtain ⟨av, cv, hvv⟩ : ∃ a c, v = .slice a l.length c := by
                  exact ain
                subst hvv
                clear Sw
                go_wp2
                refine bodyPost_ret (v := .tuple #[.agg #[.slice av l.length cv], .int .i64 0]) (by simp [results, Tryd.results51, go_sem, fB.out]) rfl ?_
                exact ⟨ls, L, qF.out, kH.out, adW, HL.out, jF.out _, Or.inr ⟨hle, _, l, hvl, rfl, Sd.out _⟩⟩
end Go.Proofs.YtkbjimkngmlfcaaDoor
