import Derived.Test.YtcjiphknpagenaaGreatDoorDocsJ25
namespace Go.Proofs.YtcjiphknpagenaaGreatDoor
open Go Go.RowKit
set_option linter.unusedVariables false
set_option linter.unusedSimpArgs false
set_option maxRecDepth 100000
set_option maxHeartbeats 16000000
theorem Lh {V:List Vl} {n:List UInt8} {k:Nat}(hk:k<V.length)(h:((V.getD k aQ).1==n)=true)(hno: ∀j,j<k→((V.getD j aQ).1==n)=false) :iq V n=V.getD k aQ:=by
 have h2:(V.findIdx fun v=>v.1==n)=k:=by
  rw[List.findIdx_eq hk];have e: ∀j(hj:j<V.length),V.getD j aQ=V[j] :=fun j hj=>by simp[hj]
  refine⟨by rw[←e k hk];exact h,fun j hj=> ?_⟩;rw[←e j (by omega)];exact hno j hj
 rw[iq,h2]
theorem IE {V:List Vl} {n:List UInt8}(hno: ∀j,j<V.length→((V.getD j aQ).1==n)=false) :iq V n=aQ:=by
 have h2:(V.findIdx fun v=>v.1==n)=V.length:=by rw[List.findIdx_eq_length];intro v hv;obtain⟨j,hj,rfl⟩ :=List.getElem_of_mem hv;have:=hno j hj;simpa[hj]using this
 rw[iq,h2,List.getD_eq_getElem?_getD,List.getElem?_eq_none (by omega)];rfl
def yR(V:List Vl)(n:List UInt8)(w:World)(e:Ending)(w':World) :Prop:=∃at_ ct an cn,e= .returned (.agg #[.string ⟨(iq V n).1.toArray⟩,.slice at_ (iq V n).2.1.length ct,.slice an (iq V n).2.2.length cn])∧gN w at_ (iq V n).2.1∧Below w.heap.size w w'
theorem Jo (id : List UInt8) (av : Option Addr) (cv : Nat) (V : List Vl) (n : List UInt8) (w : World) (hn : V.length ≤ 1048576) (hH : gK w av V) :
    Calls Tryz.prog 61 #[.agg #[.string ⟨id.toArray⟩, .slice av V.length cv], .string (bs n)] w (yR V n w) := by
  have HH := aa hH
  clear hH
  have ax := aa (((Below.refl w.heap.size w).alloc (Nat.le_refl _) (.cells #[.string ⟨id.toArray⟩, .slice av V.length cv] 28)).alloc (by simp) (.cells #[.string ⟨#[]⟩, .slice none 0 0, .slice none 0 0] 43))
  have HX := aa (gm w (.cells #[.string ⟨id.toArray⟩, .slice av V.length cv] 28) (.cells #[.string ⟨#[]⟩, .slice none 0 0, .slice none 0 0] 43))
  go_enter Tryz.func61, Tryz.ntmps61
  go_upto_region 1 with fail
  obtain ⟨wa, bN⟩ : ∃ wa, (w.alloc (.cells #[.string ⟨id.toArray⟩, .slice av V.length cv] 28)).alloc (.cells #[.string ⟨#[]⟩, .slice none 0 0, .slice none 0 0] 43) = wa := ⟨_, rfl⟩
  rw [bN] at ax HX
  try rw [bN]
  clear bN
  have x1 : wa.cell? ⟨w.heap.size, 1, none⟩ = some (.slice av V.length cv) := ah HX.out.1 1
  go_wp2_with fail
  go_loopw [10] (fun iv wr => ∃ i : Nat, i ≤ V.length ∧ iv = .int .i64 (i : Int) ∧ (∀ j, j < i → ((V.getD j aQ).1 == n) = false) ∧ Below wa.heap.size wa wr) (fun iv _ => V.length - (intOf iv).toNat)
  case atStart => exact ⟨0, Nat.zero_le _, rfl, fun j hj => absurd hj (by omega), Below.refl _ _⟩
  case round =>
    clear x1
    obtain ⟨k, hk, rfl, hno, hbel⟩ := hrel
    have HN := aa hno
    have oO := aa hbel
    have HB := aa (ax.out.trans (hbel.mono ax.out.size))
    have rP := aa (aD HX.out.2 hbel)
    have HDr := aa (aD HX.out.1 hbel)
    clear hno hbel
    have x1 : wr.cell? ⟨w.heap.size, 1, none⟩ = some (.slice av V.length cv) := ah HDr.out 1
    have sG : w.heap.size + 1 < wr.heap.size := (Array.getElem?_eq_some_iff.1 rP.out).1
    by_cases hlt : k < V.length
    · have hkz : (k : Int) < (V.length : Int) := by omega
      obtain ⟨b, off, rfl, hbl, hc⟩ := HH.out.resolve_left (fun h => by rw [h] at hlt; simp at hlt)
      obtain ⟨o0, ⟨at_, ct, o1, hTx⟩, an, cn, o2, hZ⟩ := hc k hlt
      have up : ∀ o u, w.cell? ⟨b, o, none⟩ = some u → wr.cell? ⟨b, o, none⟩ = some u := fun o u h => (HB.out.cell (p := ⟨b, o, none⟩) hbl).trans h
      have q0 := up _ _ o0
      have q1 := up _ _ o1
      have q2 := up _ _ o2
      have gP := aa hTx
      have Va := aa (fun h => Lh (n := n) hlt h HN.out)
      clear hc hTx hZ up o0 o1 o2
      obtain ⟨s, hs⟩ : ∃ s, V.getD k aQ = s := ⟨_, rfl⟩
      rw [hs] at q0 q1 q2 gP Va
      have Hs := aa hs
      clear hs
      obtain ⟨f, tx, nz⟩ := s
      dsimp only at q0 q1 q2 gP
      cases hp : (f == n) with
      | false =>
        have hpb : ((bs f).toList == (bs n).toList) = false := by rw [eT, eT]; exact hp
        have sK : Hid (∀ j, j < k + 1 → ((V.getD j aQ).1 == n) = false) := fun j hj => by
          by_cases h : j < k
          · exact HN.out j h
          · have : j = k := by omega
            subst this
            rw [Hs.out]; exact hp
        clear hp
        go_upto_region 4 with fail
        obtain ⟨wv, hwv⟩ : ∃ wv, wr.alloc (.cells #[.string ⟨f.toArray⟩, .slice at_ tx.length ct, .slice an nz.length cn] 43) = wv := ⟨_, rfl⟩
        have jw := aa ((Below.refl wr.heap.size wr).alloc (Nat.le_refl _) (.cells #[.string ⟨f.toArray⟩, .slice at_ tx.length ct, .slice an nz.length cn] 43))
        have kW := aa (heap_alloc_new wr (.cells #[.string ⟨f.toArray⟩, .slice at_ tx.length ct, .slice an nz.length cn] 43))
        rw [hwv] at jw kW
        try rw [hwv]
        clear hwv q0 q1 q2
        have HB2 := aa (oO.out.trans (jw.out.mono oO.out.size))
        have HR2 := aa (aD rP.out jw.out)
        have q0 : wv.cell? ⟨wr.heap.size, 0, none⟩ = some (.string (bs f)) := ah kW.out 0
        have q1 : wv.cell? ⟨wr.heap.size, 1, none⟩ = some (.slice at_ tx.length ct) := ah kW.out 1
        have q2 : wv.cell? ⟨wr.heap.size, 2, none⟩ = some (.slice an nz.length cn) := ah kW.out 2
        have hzv : w.heap.size + 1 < wv.heap.size := (Array.getElem?_eq_some_iff.1 HR2.out).1
        have q0b : wv.cell? ⟨wr.heap.size, 0, none⟩ = some (.string (bs f)) := q0
        clear q0
        go_wp2_with fail
        go_roundw
        case rel => exact ⟨k + 1, by omega, by go_num, sK.out, HB2.out⟩
        case measure => simp [intOf]; omega
      | true =>
        have hpb : ((bs f).toList == (bs n).toList) = true := by rw [eT, eT]; exact hp
        have HV : Hid (iq V n = (f, tx, nz)) := Va.out hp
        clear hp
        go_upto_region 4 with fail
        obtain ⟨wv, hwv⟩ : ∃ wv, wr.alloc (.cells #[.string ⟨f.toArray⟩, .slice at_ tx.length ct, .slice an nz.length cn] 43) = wv := ⟨_, rfl⟩
        have jw := aa ((Below.refl wr.heap.size wr).alloc (Nat.le_refl _) (.cells #[.string ⟨f.toArray⟩, .slice at_ tx.length ct, .slice an nz.length cn] 43))
        have kW := aa (heap_alloc_new wr (.cells #[.string ⟨f.toArray⟩, .slice at_ tx.length ct, .slice an nz.length cn] 43))
        rw [hwv] at jw kW
        try rw [hwv]
        clear hwv q0 q1 q2
        have HB2 := aa (oO.out.trans (jw.out.mono oO.out.size))
        have HR2 := aa (aD rP.out jw.out)
        have q0 : wv.cell? ⟨wr.heap.size, 0, none⟩ = some (.string (bs f)) := ah kW.out 0
        have q1 : wv.cell? ⟨wr.heap.size, 1, none⟩ = some (.slice at_ tx.length ct) := ah kW.out 1
        have q2 : wv.cell? ⟨wr.heap.size, 2, none⟩ = some (.slice an nz.length cn) := ah kW.out 2
        have hzv : w.heap.size + 1 < wv.heap.size := (Array.getElem?_eq_some_iff.1 HR2.out).1
        have q0b : wv.cell? ⟨wr.heap.size, 0, none⟩ = some (.string (bs f)) := q0
        clear q0
        have d0 := ah HR2.out 0
        have z0 := aC HR2.out 0
        have d1 := ah HR2.out 1
        have z1 := aC HR2.out 1
        have d2 := ah HR2.out 2
        have z2 := aC HR2.out 2
        simp only [List.getElem?_toArray, List.getElem?_cons_zero, List.getElem?_cons_succ] at d0 d1 d2
        go_wp2_with fail
        refine bodyPost_ret (v := .agg #[.string (bs f), .slice at_ tx.length ct, .slice an nz.length cn]) (by simp [results, Tryz.results61, go_sem, *]) rfl ?_
        have dm : Below w.heap.size w (((wv.setCell ⟨w.heap.size + 1, 0, none⟩ (.string (bs f))).setCell ⟨w.heap.size + 1, 1, none⟩ (.slice at_ tx.length ct)).setCell ⟨w.heap.size + 1, 2, none⟩ (.slice an nz.length cn)) := by
          iterate 3 refine Below.setCell ?_ (by dsimp only; omega) _
          exact ax.out.trans (HB2.out.mono ax.out.size)
        rw [yR, HV.out]
        exact ⟨at_, ct, an, cn, rfl, gP.out, dm⟩
    · have hkz : ¬ (k : Int) < (V.length : Int) := by omega
      have HV : Hid (iq V n = aQ) := IE (fun j hj => HN.out j (by omega))
      have d0 := ah rP.out 0
      have z0 := aC rP.out 0
      have d1 := ah rP.out 1
      have z1 := aC rP.out 1
      have d2 := ah rP.out 2
      have z2 := aC rP.out 2
      simp only [List.getElem?_toArray, List.getElem?_cons_zero, List.getElem?_cons_succ] at d0 d1 d2
      go_wp2_with fail
      refine bodyPost_ret (v := .agg #[.string ⟨#[]⟩, .slice none 0 0, .slice none 0 0]) (by simp [results, Tryz.results61, go_sem, *]) rfl ?_
      have dm : Below w.heap.size w (((wr.setCell ⟨w.heap.size + 1, 0, none⟩ (.string ⟨#[]⟩)).setCell ⟨w.heap.size + 1, 1, none⟩ (.slice none 0 0)).setCell ⟨w.heap.size + 1, 2, none⟩ (.slice none 0 0)) := by
        iterate 3 refine Below.setCell ?_ (by dsimp only; omega) _
        exact HB.out
      rw [yR, HV.out]
      exact ⟨none, 0, none, 0, rfl, Or.inl rfl, dm⟩
theorem zZ (id : List UInt8) (av : Option Addr) (cv : Nat) (V : List Vl) (n : List UInt8) (w : World) (hn : V.length ≤ 1048576) (hH : gK w av V) :
    Calls Tryz.prog 64 #[.agg #[.string ⟨id.toArray⟩, .slice av V.length cv], .string (bs n)] w (yR V n w) := by
  have HH := aa hH
  clear hH
  have ax := aa (((Below.refl w.heap.size w).alloc (Nat.le_refl _) (.cells #[.string ⟨id.toArray⟩, .slice av V.length cv] 28)).alloc (by simp) (.cells #[.string ⟨#[]⟩, .slice none 0 0, .slice none 0 0] 43))
  have HX := aa (gm w (.cells #[.string ⟨id.toArray⟩, .slice av V.length cv] 28) (.cells #[.string ⟨#[]⟩, .slice none 0 0, .slice none 0 0] 43))
  go_enter Tryz.func64, Tryz.ntmps64
  go_upto_region 1 with fail
  obtain ⟨wa, bN⟩ : ∃ wa, (w.alloc (.cells #[.string ⟨id.toArray⟩, .slice av V.length cv] 28)).alloc (.cells #[.string ⟨#[]⟩, .slice none 0 0, .slice none 0 0] 43) = wa := ⟨_, rfl⟩
  rw [bN] at ax HX
  try rw [bN]
  clear bN
  have x1 : wa.cell? ⟨w.heap.size, 1, none⟩ = some (.slice av V.length cv) := ah HX.out.1 1
  go_wp2_with fail
  go_loopw [5] (fun iv wr => ∃ i : Nat, i ≤ V.length ∧ iv = .int .i64 (i : Int) ∧ (∀ j, j < i → ((V.getD j aQ).1 == n) = false) ∧ Below wa.heap.size wa wr) (fun iv _ => V.length - (intOf iv).toNat)
  case atStart => exact ⟨0, Nat.zero_le _, rfl, fun j hj => absurd hj (by omega), Below.refl _ _⟩
  case round =>
    clear x1
    obtain ⟨k, hk, rfl, hno, hbel⟩ := hrel
    have HN := aa hno
    have oO := aa hbel
    have HB := aa (ax.out.trans (hbel.mono ax.out.size))
    have rP := aa (aD HX.out.2 hbel)
    have HDr := aa (aD HX.out.1 hbel)
    clear hno hbel
    have x1 : wr.cell? ⟨w.heap.size, 1, none⟩ = some (.slice av V.length cv) := ah HDr.out 1
    have sG : w.heap.size + 1 < wr.heap.size := (Array.getElem?_eq_some_iff.1 rP.out).1
    by_cases hlt : k < V.length
    · have hkz : (k : Int) < (V.length : Int) := by omega
      obtain ⟨b, off, rfl, hbl, hc⟩ := HH.out.resolve_left (fun h => by rw [h] at hlt; simp at hlt)
      obtain ⟨o0, ⟨at_, ct, o1, hTx⟩, an, cn, o2, hZ⟩ := hc k hlt
      have up : ∀ o u, w.cell? ⟨b, o, none⟩ = some u → wr.cell? ⟨b, o, none⟩ = some u := fun o u h => (HB.out.cell (p := ⟨b, o, none⟩) hbl).trans h
      have q0 := up _ _ o0
      have q1 := up _ _ o1
      have q2 := up _ _ o2
      have gP := aa hTx
      have Va := aa (fun h => Lh (n := n) hlt h HN.out)
      clear hc hTx hZ up o0 o1 o2
      obtain ⟨s, hs⟩ : ∃ s, V.getD k aQ = s := ⟨_, rfl⟩
      rw [hs] at q0 q1 q2 gP Va
      have Hs := aa hs
      clear hs
      obtain ⟨f, tx, nz⟩ := s
      dsimp only at q0 q1 q2 gP
      cases hp : (f == n) with
      | false =>
        have hpb : ((bs f).toList == (bs n).toList) = false := by rw [eT, eT]; exact hp
        have sK : Hid (∀ j, j < k + 1 → ((V.getD j aQ).1 == n) = false) := fun j hj => by
          by_cases h : j < k
          · exact HN.out j h
          · have : j = k := by omega
            subst this
            rw [Hs.out]; exact hp
        clear hp
        have HB2 := oO
        have HR2 := rP
        have q0b : wr.cell? ⟨b, off + k * 3, none⟩ = some (.string (bs f)) := q0
        clear q0
        go_wp2_with fail
        go_roundw
        case rel => exact ⟨k + 1, by omega, by go_num, sK.out, HB2.out⟩
        case measure => simp [intOf]; omega
      | true =>
        have hpb : ((bs f).toList == (bs n).toList) = true := by rw [eT, eT]; exact hp
        have HV : Hid (iq V n = (f, tx, nz)) := Va.out hp
        clear hp
        have HB2 := oO
        have HR2 := rP
        have q0b : wr.cell? ⟨b, off + k * 3, none⟩ = some (.string (bs f)) := q0
        clear q0
        have d0 := ah HR2.out 0
        have z0 := aC HR2.out 0
        have d1 := ah HR2.out 1
        have z1 := aC HR2.out 1
        have d2 := ah HR2.out 2
        have z2 := aC HR2.out 2
        simp only [List.getElem?_toArray, List.getElem?_cons_zero, List.getElem?_cons_succ] at d0 d1 d2
        go_wp2_with fail
        refine bodyPost_ret (v := .agg #[.string (bs f), .slice at_ tx.length ct, .slice an nz.length cn]) (by simp [results, Tryz.results64, go_sem, *]) rfl ?_
        have dm : Below w.heap.size w (((wr.setCell ⟨w.heap.size + 1, 0, none⟩ (.string (bs f))).setCell ⟨w.heap.size + 1, 1, none⟩ (.slice at_ tx.length ct)).setCell ⟨w.heap.size + 1, 2, none⟩ (.slice an nz.length cn)) := by
          iterate 3 refine Below.setCell ?_ (by dsimp only; omega) _
          exact ax.out.trans (HB2.out.mono ax.out.size)
        rw [yR, HV.out]
        exact ⟨at_, ct, an, cn, rfl, gP.out, dm⟩
    · have hkz : ¬ (k : Int) < (V.length : Int) := by omega
      have HV : Hid (iq V n = aQ) := IE (fun j hj => HN.out j (by omega))
      have d0 := ah rP.out 0
      have z0 := aC rP.out 0
      have d1 := ah rP.out 1
      have z1 := aC rP.out 1
      have d2 := ah rP.out 2
      have z2 := aC rP.out 2
      simp only [List.getElem?_toArray, List.getElem?_cons_zero, List.getElem?_cons_succ] at d0 d1 d2
      go_wp2_with fail
      refine bodyPost_ret (v := .agg #[.string ⟨#[]⟩, .slice none 0 0, .slice none 0 0]) (by simp [results, Tryz.results64, go_sem, *]) rfl ?_
      have dm : Below w.heap.size w (((wr.setCell ⟨w.heap.size + 1, 0, none⟩ (.string ⟨#[]⟩)).setCell ⟨w.heap.size + 1, 1, none⟩ (.slice none 0 0)).setCell ⟨w.heap.size + 1, 2, none⟩ (.slice none 0 0)) := by
        iterate 3 refine Below.setCell ?_ (by dsimp only; omega) _
        exact HB.out
      rw [yR, HV.out]
      exact ⟨none, 0, none, 0, rfl, Or.inl rfl, dm⟩
theorem Jy(at_:Option Addr)(ct:Nat)(tx:List (List UInt8))(w:World)(hn:tx.length≤16)(hsz: ∀k,k<tx.length→(tx.getD k []).length≤4000)(hT:gN w at_ tx) :Calls Tryz.prog 62 #[.slice at_ tx.length ct] w fun e w'=>∃v,e= .returned v∧w'.ownsRow w.heap.size 46 4 v (fH tx tx.length).length (ak (fH tx tx.length))∧Below w.heap.size w w':=by
 obtain⟨i0,hi0,hz0,hz1,hz2⟩ :=info_parts Tryz.infoTok;have HT:=aa hT;have FH:=aa hsz;clear hT hsz;go_enter Tryz.func62,Tryz.ntmps62;go_wp2_with fail;go_loopw [3,8](fun v iv wr=>∃k:Nat,k≤tx.length∧iv= .int .i64 (k:Int)∧wr.ownsRow w.heap.size 46 4 v (fH tx k).length (ak (fH tx k))∧Below w.heap.size w wr)(fun _ iv _=>tx.length-(intOf iv).toNat);case atStart=>exact⟨0,Nat.zero_le _,rfl,World.ownsRow_nil _ _ _ _,Below.refl _ _⟩
 case round=>
  obtain⟨k,hk,rfl,hown,hbel⟩ :=hrel;have HO:=aa hown;have HB:=aa hbel;clear hown hbel;by_cases hlt:k<tx.length
  ·have hkz:(k:Int)<(tx.length:Int) :=by omega
   obtain⟨b,off,rfl,hbl,hc⟩ :=(HT.out.below HB.out).resolve_left (fun h=>by rw[h]at hlt;simp at hlt);have q0:wr.cell? ⟨b,off+k,none⟩=some (.string (bs (tx.getD k []))) :=hc k hlt;have Cc:=FH.out k hlt;have HE:=aa (Dj tx k);clear hc;generalize tx.getD k []=t at*;have hfl:(bs t).size=t.length:=aK t;have HC:=aa (fun W=>nH (bs t) W (by rw[aK];omega));have hlA:(fH tx k).length=k:=EX tx k;generalize fH tx k=A at*;go_wp2_with fail;refine(HC.out _).mono ?_;rintro e w2⟨rfl,hb2⟩;have HB2:=aa (HB.out.trans (hb2.mono HB.out.size));have cu:=aa (bJ HO.out hb2);have hz2':=HB2.out.size;clear hb2 HO HC q0;dsimp only;go_wp2_with(at_builtin;refine wpList_append_own_at _ rfl _ _ 37 rfl w.heap.size 46 i0 (.agg #[.string ⟨#[]⟩,.int .i64 0,.int .i64 0,.int .i64 0]) 4 40 Tryz.underlying37 hi0 hz0 hz1 hz2 rfl (by decide) _ _ _ rfl (cu.out.alloc _) ⟨w2.heap.size,0,none⟩ 1 1 [.string (bs t),.int .i64 k,.int .i64 0,.int .i64 t.length] rfl rfl ?c1 ?c2 ?c3 ?c4 ?c5 ?_)
   case c1=>
    intro q u hq;match q,hq with
    |0,hq=>simp at hq;subst hq;simp[Addr.add]
    |1,hq=>simp at hq;subst hq;simp[Addr.add]
    |2,hq=>simp at hq;subst hq;simp[Addr.add]
    |3,hq=>simp at hq;subst hq;simp[Addr.add]
    |q+4,hq=>simp at hq
   case c2=>intro u hu;simp at hu;rcases hu with rfl|rfl|rfl|rfl<;>rfl
   case c3=>unfold maxLen;omega
   case c4=>omega
   case c5=>simp;omega
   intro v' w3 hown' hgrow hne hat;have RR:Hid (w3.ownsRow w.heap.size 46 4 v' (fH tx (k+1)).length (ak (fH tx (k+1)))∧Below w.heap.size w w3) :=by rw[HE.out];refine⟨?_,(HB2.out.alloc hz2' _).grown hgrow (by simp;omega) (bW cu.out)⟩;rw[cK,List.length_append,hlA];exact hown'
   clear hown' hgrow hne hat cu HB2;go_wp2_with fail;go_roundw;case rel=>exact⟨k+1,by omega,by go_num,RR.out⟩
   case measure=>simp[intOf];omega
  ·have hkz: ¬(k:Int)<(tx.length:Int) :=by omega
   have e:k=tx.length:=by omega
   subst e;go_wp2_with fail;go_ret;exact⟨_,rfl,HO.out,HB.out⟩
theorem Dl(f:Fd)(l:List (List UInt8))(k:Nat) :fC f l (k+1)=((fC f l k).1++cZ (fC f l k).2 (yl f (l.getD k [])),(fC f l k).2+(100+Dw (l.getD k []))) :=rfl
theorem JD(f:Fd)(aS aY:Option Addr)(cS cY:Nat)(at_:Option Addr)(ct:Nat)(tx:List (List UInt8))(w:World)(Ag:Tabs w)(hz:kz f)(hS:bE w aS f.stops)(hY:dB w aY f.af)(hn:tx.length≤16)(hsz: ∀k,k<tx.length→(tx.getD k []).length≤4000)(hT:gN w at_ tx) :Calls Tryz.prog 63 #[.agg #[.bool f.bf,.bool f.bA,.bool f.bp,.slice aS f.stops.length cS,.slice aY f.af.length cY,.int .i64 f.lo,.int .i64 f.hi],.slice at_ tx.length ct] w fun e w'=>∃v,e= .returned v∧w'.ownsRow w.heap.size 46 4 v (fC f tx tx.length).1.length (ak (fC f tx tx.length).1)∧Below w.heap.size w w':=by
 obtain⟨i0,hi0,hz0,hz1,hz2⟩ :=info_parts Tryz.infoTok;have HT:=aa hT;have FH:=aa hsz;have ax:=aa ((Below.refl w.heap.size w).alloc (Nat.le_refl _) (.cells #[.bool f.bf,.bool f.bA,.bool f.bp,.slice aS f.stops.length cS,.slice aY f.af.length cY,.int .i64 f.lo,.int .i64 f.hi] 73));have HX:=aa (heap_alloc_new w (.cells #[.bool f.bf,.bool f.bA,.bool f.bp,.slice aS f.stops.length cS,.slice aY f.af.length cY,.int .i64 f.lo,.int .i64 f.hi] 73));have uo:Hid (∀t W,Below w.heap.size w W→t.length≤4000→Calls Tryz.prog 84 #[.agg #[.bool f.bf,.bool f.bA,.bool f.bp,.slice aS f.stops.length cS,.slice aY f.af.length cY,.int .i64 f.lo,.int .i64 f.hi],.string (bs t)] W fun e w'=>∃v,e= .returned (.tuple #[v,.int .i64 (xZ f t)])∧w'.ownsRow W.heap.size 46 4 v (yl f t).length (ak (yl f t))∧Below W.heap.size W w') :=fun t W hW ht=>xD f.bf f.bA f.bp aS aY cS cY f.stops f.af f.lo f.hi (bs t) W (Ag.below hW) (hS.below hW) (hY.below hW) hz.2.2.2.1 hz.2.2.2.2 hz.2.1 hz.2.2.1 (by rw[aK];omega)
 have Aa:Hid (∀t W,Below w.heap.size w W→t.length≤4000→Calls Tryz.prog 85 #[.string (bs t)] W fun e w'=>∃v,e= .returned (.tuple #[v,.int .i64 (dI (bs t))])∧w'.ownsRow W.heap.size 46 4 v (Dw t) (ak (bY (bs t)))∧Below W.heap.size W w') :=fun t W hW ht=>Ab (bs t) W (by rw[aK];omega) (Ag.below hW);clear hT hsz Ag hS hY hz;go_enter Tryz.func63,Tryz.ntmps63;go_wp2_with fail;obtain⟨wa,bN⟩ : ∃wa,w.alloc (.cells #[.bool f.bf,.bool f.bA,.bool f.bp,.slice aS f.stops.length cS,.slice aY f.af.length cY,.int .i64 f.lo,.int .i64 f.hi] 73)=wa:=⟨_,rfl⟩;rw[bN]at ax HX;try rw[bN]
 clear bN;have aiJ:w.heap.size<wa.heap.size:=(Array.getElem?_eq_some_iff.1 HX.out).1;go_loopw [5,6,17](fun v bv iv wr=>∃k:Nat,k≤tx.length∧iv= .int .i64 (k:Int)∧bv= .int .i64 ((fC f tx k).2:Int)∧wr.ownsRow wa.heap.size 46 4 v (fC f tx k).1.length (ak (fC f tx k).1)∧Below wa.heap.size wa wr)(fun _ _ iv _=>tx.length-(intOf iv).toNat);case atStart=>exact⟨0,Nat.zero_le _,rfl,rfl,World.ownsRow_nil _ _ _ _,Below.refl _ _⟩
 case round=>
  obtain⟨k,hk,rfl,rfl,hown,hbel⟩ :=hrel;have HO:=aa hown;have oO:=aa hbel;have HB:=aa (ax.out.trans (hbel.mono ax.out.size));have jI:=aa (aD HX.out hbel);have hbz:=hbel.size;clear hown hbel;by_cases hlt:k<tx.length
  ·have hkz:(k:Int)<(tx.length:Int) :=by omega
   obtain⟨b,off,rfl,hbl,hc⟩ :=(HT.out.below HB.out).resolve_left (fun h=>by rw[h]at hlt;simp at hlt);have q0:wr.cell? ⟨b,off+k,none⟩=some (.string (bs (tx.getD k []))) :=hc k hlt;have Cc:=FH.out k hlt;have HE:=aa (Dl f tx k);have hsm:=vG f tx k;have hbn:=yO (tx.getD k []);have hln:=(wS f (tx.getD k [])).1;have HPs:=aa (fun j=>Ri f (tx.getD k []) j);have D7:=aa (fun W(hW:Below w.heap.size w W)=>uo.out (tx.getD k []) W hW Cc);have Vy:=aa (fun W(hW:Below w.heap.size w W)=>Aa.out (tx.getD k []) W hW Cc);clear hc;generalize tx.getD k []=t at*;generalize xZ f t=cod at*;generalize dI (bs t)=ae9 at*;generalize ak (bY (bs t))=aa3 at*;generalize yl f t=L at*;generalize Dw t=BN at*;generalize(fC f tx k).1=A at*;generalize(fC f tx k).2=B at*;have x0:wr.cell? ⟨w.heap.size,0,none⟩=some (.bool f.bf) :=ah jI.out 0;have x1:wr.cell? ⟨w.heap.size,1,none⟩=some (.bool f.bA) :=ah jI.out 1
   have x2:wr.cell? ⟨w.heap.size,2,none⟩=some (.bool f.bp) :=ah jI.out 2;have x3:wr.cell? ⟨w.heap.size,3,none⟩=some (.slice aS f.stops.length cS) :=ah jI.out 3;have x4:wr.cell? ⟨w.heap.size,4,none⟩=some (.slice aY f.af.length cY) :=ah jI.out 4;have x5:wr.cell? ⟨w.heap.size,5,none⟩=some (.int .i64 f.lo) :=ah jI.out 5;have x6:wr.cell? ⟨w.heap.size,6,none⟩=some (.int .i64 f.hi) :=ah jI.out 6;go_wp2_with fail;refine(D7.out _ HB.out).mono ?_;rintro e w2⟨v2,rfl,hown2,hb2⟩;obtain⟨aF,cF,rfl,Rh,Rz⟩ :=kJ hown2;have Tn:=aa Rh;have qP:=aa (sQ HO.out (fun b off e=>(Rz b off e).1));have cu:=aa (bJ HO.out hb2);have HB2:=aa (oO.out.trans (hb2.mono oO.out.size));clear hown2 hb2 Rh Rz HO q0 x0 x1 x2 x3 x4 x5 x6 D7;dsimp only;go_wp2_with fail;go_loopw [5,29](fun v jv wx=>∃j:Nat,j≤L.length∧jv= .int .i64 (j:Int)∧wx.ownsRow wa.heap.size 46 4 v (A++cZ B (L.take j)).length (ak (A++cZ B (L.take j)))∧jr wx aF L∧(∀b off,aF=some ⟨b,off,none⟩→some b≠v.ownBlock)∧Below wa.heap.size wa wx)(fun _ jv _=>L.length-(intOf jv).toNat)
   case atStart=>exact⟨0,Nat.zero_le _,rfl,by rw[show A++cZ B (L.take 0)=A from List.append_nil A];exact cu.out,Tn.out,qP.out,HB2.out⟩
   case round=>
    obtain⟨j,hj,rfl,hown,hh,hne,hby⟩ :=hrel;have iF:=aa hown;have si:=aa hh;have uI:=aa hne;have jX:=aa hby;have h2r:=hby.size;clear hown hh hne hby cu Tn qP HB2;by_cases hjl:j<L.length
    ·have hjz:(j:Int)<(L.length:Int) :=by omega
     obtain⟨bF,oF,rfl,af9,U0⟩ :=si.out.resolve_left (fun h=>by rw[h]at hjl;simp at hjl);obtain⟨t0,t1,t2,t3⟩ :=U0 j hjl;have hps:=HPs.out j;have HAD:Hid (A++cZ B (L.take (j+1))=(A++cZ B (L.take j))++ [((L.getD j bS).1,(L.getD j bS).2.1+B,(L.getD j bS).2.2)]) :=by show _=_;rw[Ca _ _ hjl,List.append_assoc]
     have hal:(A++cZ B (L.take j)).length≤139264:=by rw[List.length_append,oq,List.length_take];omega
     clear U0;generalize L.getD j bS=y at*;obtain⟨ty,p0,p1,p2⟩ :=y;dsimp only at t0 t1 t2 t3 hps HAD;generalize A++cZ B (L.take j)=A1 at*;go_wp2_with(at_builtin;refine wpList_append_own_at _ rfl _ _ 37 rfl wa.heap.size 46 i0 (.agg #[.string ⟨#[]⟩,.int .i64 0,.int .i64 0,.int .i64 0]) 4 40 Tryz.underlying37 hi0 hz0 hz1 hz2 rfl (by decide) _ _ _ rfl ((iF.out.alloc _).alloc _) ⟨wr.heap.size+1,0,none⟩ 1 1 [.string (bs ty),.int .i64 ((p0+B:Nat) :Int),.int .i64 p1,.int .i64 p2] rfl rfl ?c1 ?c2 ?c3 ?c4 ?c5 ?_);case c1=>
      intro q u hq;match q,hq with
      |0,hq=>simp at hq;subst hq;simp[Addr.add]
      |1,hq=>simp at hq;subst hq;simp[Addr.add]
      |2,hq=>simp at hq;subst hq;simp[Addr.add]
      |3,hq=>simp at hq;subst hq;simp[Addr.add]
      |q+4,hq=>simp at hq
     case c2=>intro u hu;simp at hu;rcases hu with rfl|rfl|rfl|rfl<;>rfl
     case c3=>unfold maxLen;omega
     case c4=>omega
     case c5=>simp;omega
     intro v' w6 hown' hgrow hne hat;have RR:Hid (w6.ownsRow wa.heap.size 46 4 v' (A1++ [(ty,p0+B,p1,p2)]).length (ak (A1++ [(ty,p0+B,p1,p2)]))∧jr w6 (some ⟨bF,oF,none⟩) L∧(∀b' off',some (⟨bF,oF,none⟩ :Addr)=some ⟨b',off',none⟩→some b'≠v'.ownBlock)∧Below wa.heap.size wa w6) :=by
      refine⟨?_,(si.out.below (((Below.refl _ _).alloc (Nat.le_refl _) _).alloc (by simp) _)).grown hgrow uI.out,?_,((jX.out.alloc h2r _).alloc (by simp;omega) _).grown hgrow (by simp;omega) (bW iF.out)⟩;·rw[cK,List.length_append];exact hown'
      ·intro b1 off1 e1;rcases hat with h|h;·rw[h];exact uI.out b1 off1 e1
       ·rw[h];cases e1;intro e2;have e3:=Option.some.inj e2;try simp at e3
        omega
     clear hown' hgrow hne hat iF si uI jX;go_wp2_with fail;go_roundw;case rel=>exact⟨j+1,by omega,by go_num,by rw[HAD.out];exact RR.out.1,RR.out.2.1,RR.out.2.2.1,RR.out.2.2.2⟩
     case measure=>simp[intOf];omega
    ·have hjz: ¬(j:Int)<(L.length:Int) :=by omega
     have wH:=iF.out;rw[List.take_of_length_le (by omega)]at wH;have jH:=aa wH;have bq:=aa (ax.out.trans (jX.out.mono ax.out.size));clear wH iF si uI;generalize A++cZ B L=A1 at*;go_wp2_with fail;refine(Vy.out _ bq.out).mono ?_;rintro e w7⟨v7,rfl,fJ,iV⟩;obtain⟨a7,c7,rfl⟩ :=kr fJ;have jy:=aa (bJ jH.out iV);have gF:=aa (jX.out.trans (iV.mono jX.out.size));clear fJ iV jH jX bq;dsimp only;go_wp2_with fail;go_roundw;case rel=>exact⟨k+1,by omega,by go_num,by rw[HE.out];go_num,by rw[HE.out];exact jy.out,gF.out⟩
     case measure=>simp[intOf];omega
  ·have hkz: ¬(k:Int)<(tx.length:Int) :=by omega
   have e:k=tx.length:=by omega
   subst e;go_wp2_with fail;go_ret;exact⟨_,rfl,kM HO.out (by omega),HB.out⟩
theorem Ns(f:Fd)(aS aY:Option Addr)(cS cY:Nat)(w:World)(hT:Tabs w)(hal:kz f)(hS:bE w aS f.stops)(hY:dB w aY f.af) :Calls Tryz.prog 46 #[.agg #[.string (bs f.name),.int .i64 f.kind,.bool f.bf,.bool f.bA,.bool f.bp,.slice aS f.stops.length cS,.slice aY f.af.length cY,.int .i64 f.lo,.int .i64 f.hi]] w fun e w'=>e= .returned (.bool (vQ f))∧Below w.heap.size w w':=by
 have ax:=aa ((Below.refl w.heap.size w).alloc (Nat.le_refl _) (.cells #[.string (bs f.name),.int .i64 f.kind,.bool f.bf,.bool f.bA,.bool f.bp,.slice aS f.stops.length cS,.slice aY f.af.length cY,.int .i64 f.lo,.int .i64 f.hi] 75));have HX:=aa (heap_alloc_new w (.cells #[.string (bs f.name),.int .i64 f.kind,.bool f.bf,.bool f.bA,.bool f.bp,.slice aS f.stops.length cS,.slice aY f.af.length cY,.int .i64 f.lo,.int .i64 f.hi] 75));have qc:Hid (∀W,Calls Tryz.prog 69 #[.string (bs f.name)] W fun e w'=>e= .returned (.bool (je f.name))∧w'=W) :=fun W=>by have:=Pf (bs f.name) W (by rw[aK];exact hal.1);rwa [bH]at this
 have uo:Hid (∀W,Below w.heap.size w W→Calls Tryz.prog 70 #[.agg #[.bool f.bf,.bool f.bA,.bool f.bp,.slice aS f.stops.length cS,.slice aY f.af.length cY,.int .i64 f.lo,.int .i64 f.hi]] W fun e w'=>e= .returned (.bool (mq f.stops f.af f.lo f.hi))∧Below W.heap.size W w') :=fun W hW=>vU f.bf f.bA f.bp aS aY cS cY f.stops f.af f.lo f.hi W (hT.below hW) (hS.below hW) (hY.below hW) hal.2.2.2.1 hal.2.2.2.2 hal.2.1 hal.2.2.1;have EA:Hid (∀W,Calls Tryz.prog 71 #[.agg #[.bool f.bf,.bool f.bA,.bool f.bp,.slice aS f.stops.length cS,.slice aY f.af.length cY,.int .i64 f.lo,.int .i64 f.hi]] W fun e w'=>e= .returned (.bool (qF f))∧Below W.heap.size W w') :=fun W=>Qy f aS aY cS cY W hal.2.1 hal.2.2.1;obtain⟨R,hR⟩ : ∃R,vQ f=R:=⟨_,rfl⟩;rw[hR];rw[vQ]at hR;have HR:=aa hR;clear hR hT hS hY hal;go_enter Tryz.func46,Tryz.ntmps46;by_cases h1:f.kind=1
 ·rw[if_pos h1]at HR;go_wp2_with fail;refine(qc.out _).mono ?_;rintro e w'⟨rfl,hw⟩;subst hw;cases hnm:je f.name with
  |false=>rw[hnm]at HR;go_wp2_with fail;go_ret;rw[←HR.out];exact⟨rfl,(Below.refl _ _).alloc (Nat.le_refl _) _⟩
  |true=>rw[hnm]at HR;go_wp2_with fail;refine(uo.out _ ((Below.refl _ _).alloc (Nat.le_refl _) _)).mono ?_;rintro e w3⟨rfl,hb3⟩;go_wp2_with fail;go_ret;rw[←HR.out];exact⟨by simp,((Below.refl _ _).alloc (Nat.le_refl _) _).trans (hb3.mono (by simp))⟩
 ·rw[if_neg h1]at HR;by_cases h23:f.kind=2∨f.kind=3
  ·rw[if_pos h23]at HR;rcases h23 with h2|h2;all_goals
    go_wp2_with fail;refine(qc.out _).mono ?_;rintro e w'⟨rfl,hw⟩;subst hw;cases hnm:je f.name with
    |false=>rw[hnm]at HR;go_wp2_with fail;go_ret;rw[←HR.out];exact⟨rfl,(Below.refl _ _).alloc (Nat.le_refl _) _⟩
    |true=>rw[hnm]at HR;go_wp2_with fail;refine(EA.out _).mono ?_;rintro e w3⟨rfl,hb3⟩;go_wp2_with fail;go_ret;rw[←HR.out];exact⟨by simp,((Below.refl _ _).alloc (Nat.le_refl _) _).trans (hb3.mono (by simp))⟩
  ·have h2: ¬f.kind=2:=fun h=>h23 (Or.inl h);have h3: ¬f.kind=3:=fun h=>h23 (Or.inr h);rw[if_neg h23,Bool.and_false]at HR;clear h23;go_wp2_with fail;go_ret;rw[←HR.out];exact⟨rfl,(Below.refl _ _).alloc (Nat.le_refl _) _⟩
theorem Gv(a:Option Addr)(cap:Nat)(l:List Fd)(w:World)(hT:Tabs w)(hn:l.length≤1048576)(hA: ∀i,kz (l.getD i fd0))(hS:jK w a l) :Calls Tryz.prog 27 #[.agg #[.slice a l.length cap]] w fun e w'=>e= .returned (.bool (jW l))∧Below w.heap.size w w':=by
 have HS:=aa hS;have HA:=aa hA;have HT:=aa hT;clear hS hA hT;have ax:=aa ((Below.refl w.heap.size w).alloc (Nat.le_refl _) (.cells #[.slice a l.length cap] 25));have HX:=aa (heap_alloc_new w (.cells #[.slice a l.length cap] 25));go_enter Tryz.func27,Tryz.ntmps27;by_cases hin: ¬(1≤l.length∧l.length≤16)
 ·have HR:=aa (DX (l:=l) (by omega));have HW:Hid ((decide ((1:Int)≤(l.length:Int)) &&decide ((l.length:Int)≤16))=false) :=by
   show _=_;by_cases h1:1≤l.length;·rw[decide_eq_false (p:=(l.length:Int)≤16) (by omega),Bool.and_false]
   ·rw[decide_eq_false (p:=(1:Int)≤(l.length:Int)) (by omega),Bool.false_and]
  clear hin;go_wp2_with fail;refine(dA _ _ _ _).mono ?_;rintro e w'⟨rfl,hw⟩;subst hw;rw[HW.out];clear HW;go_wp2_with fail;go_ret;rw[HR.out];exact⟨rfl,ax.out⟩
 have h1:1≤l.length:=by omega
 have h16:l.length≤16:=by omega
 have HW:Hid ((decide ((1:Int)≤(l.length:Int)) &&decide ((l.length:Int)≤16))=true) :=by show _=_;rw[decide_eq_true (by omega),decide_eq_true (by omega)];rfl
 clear hin;go_wp2_with fail;refine(dA _ _ _ _).mono ?_;rintro e w'⟨rfl,hw⟩;subst hw;rw[HW.out];clear HW;go_wp2_with fail;obtain⟨wa,bN⟩ : ∃wa,w.alloc (.cells #[.slice a l.length cap] 25)=wa:=⟨_,rfl⟩;rw[bN]at ax HX;try rw[bN]
 clear bN;go_loopw [13](fun iv wr=>∃i:Nat,i≤l.length∧iv= .int .i64 (i:Int)∧(List.range i).all (jm l)=true∧Below wa.heap.size wa wr)(fun iv _=>l.length-(intOf iv).toNat);case atStart=>exact⟨0,Nat.zero_le _,rfl,by simp,Below.refl _ _⟩
 case round=>
  obtain⟨k,hk,rfl,hall,hbel⟩ :=hrel;have oQ:=aa hall;have jI:=aa (sV HX.out hbel);have x0:=dX jI.out 0;have HB:=aa hbel;clear hall hbel;by_cases hlt:k<l.length
  ·have hkz:(k:Int)<(l.length:Int) :=by omega
   obtain⟨b,off,rfl,hbl,hc⟩ :=((HS.out.below ax.out).below HB.out).resolve_left (fun h=>by rw[h]at hlt;simp at hlt);obtain⟨q0,q1,q2,q3,q4,⟨aS,cS,q5,hSt⟩,⟨aY,cY,q6,rQ⟩,q7,q8⟩ :=hc k hlt;have hpv:0<k→wr.cell? ⟨b,off+(k-1)*9,none⟩=some (.string (bs (l.getD (k-1) fd0).name)) :=fun h=>(hc (k-1) (by omega)).1;have hal:=HA.out k;have gQ:Hid (jm l k=(vQ (l.getD k fd0) && !(decide (0<k) &&kI (l.getD k fd0).name (l.getD (k-1) fd0).name))) :=rfl;obtain⟨f,hf⟩ : ∃f,l.getD k fd0=f:=⟨_,rfl⟩;obtain⟨pn,hpn⟩ : ∃pn,(l.getD (k-1) fd0).name=pn:=⟨_,rfl⟩;rw[hf]at q0 q1 q2 q3 q4 q5 q6 q7 q8 hSt rQ hal gQ;rw[hpn]at hpv gQ;clear hf hpn hc;go_upto_region 6 with fail;have fZ:=aa ((Below.refl wr.heap.size wr).alloc (Nat.le_refl _) (.cells #[.string (bs f.name),.int .i64 f.kind,.bool f.bf,.bool f.bA,.bool f.bp,.slice aS f.stops.length cS,.slice aY f.af.length cY,.int .i64 f.lo,.int .i64 f.hi] 75))
   have kN:=aa (heap_alloc_new wr (.cells #[.string (bs f.name),.int .i64 f.kind,.bool f.bf,.bool f.bA,.bool f.bp,.slice aS f.stops.length cS,.slice aY f.af.length cY,.int .i64 f.lo,.int .i64 f.hi] 75));obtain⟨wb,hwb⟩ : ∃wb,wr.alloc (.cells #[.string (bs f.name),.int .i64 f.kind,.bool f.bf,.bool f.bA,.bool f.bp,.slice aS f.stops.length cS,.slice aY f.af.length cY,.int .i64 f.lo,.int .i64 f.hi] 75)=wb:=⟨_,rfl⟩;rw[hwb]at fZ kN;try rw[hwb]
   clear hwb;have IC:=aa (hSt.below fZ.out);have Ve:=aa (rQ.below fZ.out);have xm:Hid (∀W,Below wb.heap.size wb W→Calls Tryz.prog 46 #[.agg #[.string (bs f.name),.int .i64 f.kind,.bool f.bf,.bool f.bA,.bool f.bp,.slice aS f.stops.length cS,.slice aY f.af.length cY,.int .i64 f.lo,.int .i64 f.hi]] W fun e w'=>e= .returned (.bool (vQ f))∧Below W.heap.size W w') :=fun W hW=>Ns f aS aY cS cY W ((((HT.out.below ax.out).below HB.out).below fZ.out).below hW) hal (IC.out.below hW) (Ve.out.below hW);have jl:=aa (sV jI.out fZ.out);have x1:=dX jl.out 0;have Es:Hid (0<k→wb.cell? ⟨b,off+(k-1)*9,none⟩=some (.string (bs pn))) :=fun h=>(fZ.out.cell (p:=⟨b,off+(k-1)*9,none⟩) hbl).trans (hpv h);have hP:wr.heap.size<wb.heap.size:=(Array.getElem?_eq_some_iff.1 kN.out).1;have hQ:w.heap.size<wb.heap.size:=(Array.getElem?_eq_some_iff.1 jl.out).1;have hbb:b<wb.heap.size:=by have:=fZ.out.size;omega
   have bg:Hid (Below w.heap.size w wb) :=(ax.out.trans (HB.out.mono ax.out.size)).trans (fZ.out.mono (by have:=ax.out.size;have:=HB.out.size;omega));have KP:Hid (Below wa.heap.size wa wb) :=HB.out.trans (fZ.out.mono HB.out.size);clear q0 q1 q2 q3 q4 q5 q6 q7 q8 hSt rQ hal IC Ve hpv x0;have p0:=dX kN.out 0;have p1:=dX kN.out 1;have p2:=dX kN.out 2;have p3:=dX kN.out 3;have p4:=dX kN.out 4;have p5:=dX kN.out 5;have p6:=dX kN.out 6;have p7:=dX kN.out 7;have p8:=dX kN.out 8;simp only[List.getElem?_toArray,List.getElem?_cons_zero,List.getElem?_cons_succ]at p0 p1 p2 p3 p4 p5 p6 p7 p8 x1;go_cut [36](fun cv wy=>∃B:Bool,cv= .bool B∧B= !(jm l k)∧Below wb.heap.size wb wy);case first=>
    by_cases h0:0<k
    ·have Wq:(1:Int)≤(k:Int) :=by omega
     have Vv:((k:Int)-1).toNat=k-1:=by omega
     have Xq: ¬((k:Int)-1<0) :=by omega
     have VN:(k:Int)-1<(l.length:Int) :=by omega
     have VW:(0:Int)≤(k:Int)-1:=by omega
     have hwr:IntKind.i64.wrap ((k:Int)-1)=(k:Int)-1:=IntWalk.i64_in _ (by omega);have hkd:decide ((k:Int)>0)=true:=decide_eq_true (by omega);have KC:decide ((0:Int)<(k:Int))=true:=decide_eq_true (by omega);have pv:=Es.out h0;cases hl:kI f.name pn with
     |true=>
      have hle:(Op.bytesLess (bs f.name).toList (bs pn).toList || (bs f.name).toList==(bs pn).toList)=true:=by rw[Lib.toList_data,Lib.toList_data,show(bs f.name).data.toList=f.name from bH f.name,show(bs pn).data.toList=pn from bH pn];exact hl
      have jh:Hid (true= !(jm l k)) :=by show _=_;rw[gQ.out,hl,decide_eq_true h0];simp
      clear hl;refine wp_region_held_drew (S:=(fun w'=>w'.cell? ⟨wr.heap.size,0,none⟩=some (.string (bs f.name))∧w'.cell? ⟨wr.heap.size,1,none⟩=some (.int .i64 f.kind)∧w'.cell? ⟨wr.heap.size,2,none⟩=some (.bool f.bf)∧w'.cell? ⟨wr.heap.size,3,none⟩=some (.bool f.bA)∧w'.cell? ⟨wr.heap.size,4,none⟩=some (.bool f.bp)∧w'.cell? ⟨wr.heap.size,5,none⟩=some (.slice aS f.stops.length cS)∧w'.cell? ⟨wr.heap.size,6,none⟩=some (.slice aY f.af.length cY)∧w'.cell? ⟨wr.heap.size,7,none⟩=some (.int .i64 f.lo)∧w'.cell? ⟨wr.heap.size,8,none⟩=some (.int .i64 f.hi)∧w'.cell? ⟨w.heap.size,0,none⟩=some (.slice (some ⟨b,off,none⟩) l.length cap)∧w'.cell? ⟨b,off+(k-1)*9,none⟩=some (.string (bs pn)))) (by kernel_rfl) ?_ (fun hHeld=> ?_);·exact⟨p0,p1,p2,p3,p4,p5,p6,p7,p8,x1,pv⟩
      refine tx 0 ?_;refine tx 1 ?_;refine tx 2 ?_;refine tx 3 ?_;refine tx 4 ?_;refine tx 5 ?_;refine tx 6 ?_;refine tx 7 ?_;refine tx 8 ?_;refine tx 9 ?_;refine tx 10 ?_;refine tx 11 ?_;refine tx 12 ?_;refine tx 13 ?_;refine tx 14 ?_;refine ty 15 ?_;refine ty 16 ?_;refine ty 17 ?_;refine tx 18 ?_;refine wpAnyH_done (by kernel_rfl) ?_ _;clear hHeld;go_wp2_with fail;go_meet;exact⟨_,rfl,jh.out,below_drewN (Below.refl _ _) 1⟩
     |false=>
      have hle:(Op.bytesLess (bs f.name).toList (bs pn).toList || (bs f.name).toList==(bs pn).toList)=false:=by rw[Lib.toList_data,Lib.toList_data,show(bs f.name).data.toList=f.name from bH f.name,show(bs pn).data.toList=pn from bH pn];exact hl
      have jh:Hid ((!vQ f)= !(jm l k)) :=by show _=_;rw[gQ.out,hl];simp
      clear hl;refine wp_region_held_drew (S:=(fun w'=>w'.cell? ⟨wr.heap.size,0,none⟩=some (.string (bs f.name))∧w'.cell? ⟨wr.heap.size,1,none⟩=some (.int .i64 f.kind)∧w'.cell? ⟨wr.heap.size,2,none⟩=some (.bool f.bf)∧w'.cell? ⟨wr.heap.size,3,none⟩=some (.bool f.bA)∧w'.cell? ⟨wr.heap.size,4,none⟩=some (.bool f.bp)∧w'.cell? ⟨wr.heap.size,5,none⟩=some (.slice aS f.stops.length cS)∧w'.cell? ⟨wr.heap.size,6,none⟩=some (.slice aY f.af.length cY)∧w'.cell? ⟨wr.heap.size,7,none⟩=some (.int .i64 f.lo)∧w'.cell? ⟨wr.heap.size,8,none⟩=some (.int .i64 f.hi)∧w'.cell? ⟨w.heap.size,0,none⟩=some (.slice (some ⟨b,off,none⟩) l.length cap)∧w'.cell? ⟨b,off+(k-1)*9,none⟩=some (.string (bs pn)))) (by kernel_rfl) ?_ (fun hHeld=> ?_);·exact⟨p0,p1,p2,p3,p4,p5,p6,p7,p8,x1,pv⟩
      refine tx 0 ?_;refine tx 1 ?_;refine tx 2 ?_;refine tx 3 ?_;refine tx 4 ?_;refine tx 5 ?_;refine tx 6 ?_;refine tx 7 ?_;refine tx 8 ?_;refine tx 9 ?_;refine tx 10 ?_;refine tx 11 ?_;refine tx 12 ?_;refine tx 13 ?_;refine tx 14 ?_;refine tx 15 ?_;refine wpAnyH_ready (rs:=[16]) (by kernel_rfl) (by simp) ?_;refine AllReadyH.cons rfl (fun K hK=> ?_) AllReadyH.nil;go_simp;refine(xm.out _ (below_drewN (Below.refl wb.heap.size wb) 1)).mono ?_;rintro e' wv1⟨rfl,dD⟩;have aI:Hid (Below wb.heap.size wb wv1) :=Below.trans (below_drewN (Below.refl wb.heap.size wb) 1) (dD.mono (Below.size (below_drewN (Below.refl wb.heap.size wb) 1)));clear dD;go_wp2_with fail;refine hK.out _ _ ?_ (fun dn=> ?_);·exact⟨(aI.out.cell (p:=⟨wr.heap.size,0,none⟩) hP).trans p0,(aI.out.cell (p:=⟨wr.heap.size,1,none⟩) hP).trans p1,(aI.out.cell (p:=⟨wr.heap.size,2,none⟩) hP).trans p2,(aI.out.cell (p:=⟨wr.heap.size,3,none⟩) hP).trans p3,(aI.out.cell (p:=⟨wr.heap.size,4,none⟩) hP).trans p4,(aI.out.cell (p:=⟨wr.heap.size,5,none⟩) hP).trans p5,(aI.out.cell (p:=⟨wr.heap.size,6,none⟩) hP).trans p6,(aI.out.cell (p:=⟨wr.heap.size,7,none⟩) hP).trans p7,(aI.out.cell (p:=⟨wr.heap.size,8,none⟩) hP).trans p8,(aI.out.cell (p:=⟨w.heap.size,0,none⟩)
         hQ).trans x1,(aI.out.cell (p:=⟨b,off+(k-1)*9,none⟩) hbb).trans pv⟩
      clear hK K;try refine tn ?_
      refine tx 17 ?_;refine tx 18 ?_;refine wpAnyH_done (by kernel_rfl) ?_ _;clear hHeld dn;go_wp2_with fail;go_meet;exact⟨_,rfl,jh.out,aI.out⟩
    ·obtain rfl:k=0:=by omega
     have jh:Hid ((!vQ f)= !(jm l 0)) :=by show _=_;rw[gQ.out];simp
     have hkd:decide ((0:Int)>0)=false:=rfl;refine wp_region_held_drew (S:=(fun w'=>w'.cell? ⟨wr.heap.size,0,none⟩=some (.string (bs f.name))∧w'.cell? ⟨wr.heap.size,1,none⟩=some (.int .i64 f.kind)∧w'.cell? ⟨wr.heap.size,2,none⟩=some (.bool f.bf)∧w'.cell? ⟨wr.heap.size,3,none⟩=some (.bool f.bA)∧w'.cell? ⟨wr.heap.size,4,none⟩=some (.bool f.bp)∧w'.cell? ⟨wr.heap.size,5,none⟩=some (.slice aS f.stops.length cS)∧w'.cell? ⟨wr.heap.size,6,none⟩=some (.slice aY f.af.length cY)∧w'.cell? ⟨wr.heap.size,7,none⟩=some (.int .i64 f.lo)∧w'.cell? ⟨wr.heap.size,8,none⟩=some (.int .i64 f.hi)∧w'.cell? ⟨w.heap.size,0,none⟩=some (.slice (some ⟨b,off,none⟩) l.length cap))) (by kernel_rfl) ?_ (fun hHeld=> ?_);·exact⟨p0,p1,p2,p3,p4,p5,p6,p7,p8,x1⟩
     refine tx 0 ?_;refine tx 1 ?_;refine tx 2 ?_;refine ty 3 ?_;refine ty 4 ?_;refine ty 5 ?_;refine ty 6 ?_;refine ty 7 ?_;refine ty 8 ?_;refine ty 9 ?_;refine ty 10 ?_;refine ty 11 ?_;refine ty 12 ?_;refine tx 13 ?_;refine tx 14 ?_;refine tx 15 ?_;refine wpAnyH_ready (rs:=[16]) (by kernel_rfl) (by simp) ?_;refine AllReadyH.cons rfl (fun K hK=> ?_) AllReadyH.nil;go_simp;refine(xm.out _ (below_drewN (Below.refl wb.heap.size wb) 1)).mono ?_;rintro e' wv1⟨rfl,dD⟩;have aI:Hid (Below wb.heap.size wb wv1) :=Below.trans (below_drewN (Below.refl wb.heap.size wb) 1) (dD.mono (Below.size (below_drewN (Below.refl wb.heap.size wb) 1)));clear dD;go_wp2_with fail;refine hK.out _ _ ?_ (fun dn=> ?_);·exact⟨(aI.out.cell (p:=⟨wr.heap.size,0,none⟩) hP).trans p0,(aI.out.cell (p:=⟨wr.heap.size,1,none⟩) hP).trans p1,(aI.out.cell (p:=⟨wr.heap.size,2,none⟩) hP).trans p2,(aI.out.cell (p:=⟨wr.heap.size,3,none⟩) hP).trans p3,(aI.out.cell (p:=⟨wr.heap.size,4,none⟩) hP).trans p4,(aI.out.cell (p:=⟨wr.heap.size,5,none⟩) hP).trans p5,(aI.out.cell (p:=⟨wr.heap.size,6,none⟩) hP).trans p6,(aI.out.cell (p:=⟨wr.heap.size,7,none⟩) hP).trans p7,(aI.out.cell (p:=⟨wr.heap.size,8,none⟩) hP).trans p8,(aI.out.cell (p:=⟨w.heap.size,0,none⟩)
        hQ).trans x1⟩
     clear hK K;try refine tn ?_
     refine tx 17 ?_;refine tx 18 ?_;refine wpAnyH_done (by kernel_rfl) ?_ _;clear hHeld dn;go_wp2_with fail;go_meet;exact⟨_,rfl,jh.out,aI.out⟩
   case rest=>
    obtain⟨B,rfl,hB,hby⟩ :=hcut;have iO:=aa hby;clear hby;cases B with
    |true=>have HR:=aa (OU hlt (by simpa using hB.symm));clear hB;go_wp2_with fail;go_ret;rw[HR.out];exact⟨rfl,bg.out.trans (iO.out.mono bg.out.size)⟩
    |false=>
     have HN:=aa (pR (jm l) l.length k oQ.out (by simpa using hB.symm));clear hB;go_wp2_with fail;go_roundw;case rel=>exact⟨k+1,by omega,by go_num,HN.out,KP.out.trans (iO.out.mono KP.out.size)⟩
     case measure=>simp[intOf];omega
  ·have hkz: ¬(k:Int)<(l.length:Int) :=by omega
   obtain rfl:k=l.length:=by omega
   have HR:=aa (J7 (l:=l) (by omega) (by omega) oQ.out);go_wp2_with fail;go_ret;rw[HR.out];exact⟨rfl,ax.out.trans (HB.out.mono ax.out.size)⟩
theorem Ar(a:Option Addr)(cap:Nat)(l:List Fd)(id:List UInt8)(av:Option Addr)(cv:Nat)(V:List Vl)(w:World)(hT:Tabs w)(hn:l.length≤1048576)(hA: ∀i,kz (l.getD i fd0))(hS:jK w a l)(hid:id.length≤1048576)(hV:y9 V)(hH:gK w av V) :Calls Tryz.prog 7 #[.agg #[.slice a l.length cap],.agg #[.string ⟨id.toArray⟩,.slice av V.length cv]] w fun e w'=>e= .returned (.bool (jW l&&jG l id V))∧Below w.heap.size w w':=by
 have ax:=aa (((Below.refl w.heap.size w).alloc (Nat.le_refl _) (.cells #[.slice a l.length cap] 25)).alloc (by simp) (.cells #[.string ⟨id.toArray⟩,.slice av V.length cv] 28));have HX:=aa (gm w (.cells #[.slice a l.length cap] 25) (.cells #[.string ⟨id.toArray⟩,.slice av V.length cv] 28));have Nw:Hid (∀W,Below w.heap.size w W→Calls Tryz.prog 27 #[.agg #[.slice a l.length cap]] W fun e w'=>e= .returned (.bool (jW l))∧Below W.heap.size W w') :=fun W hW=>Gv a cap l W (hT.below hW) hn hA (hS.below hW);have ZM:Hid (∀W,Below w.heap.size w W→Calls Tryz.prog 28 #[.agg #[.slice a l.length cap],.agg #[.string ⟨id.toArray⟩,.slice av V.length cv]] W fun e w'=>e= .returned (.bool (jG l id V))∧Below W.heap.size W w') :=fun W hW=>WS a cap l id av cv V W (hT.below hW) hn hA (hS.below hW) hid hV (hH.below hW);clear hT hA hS hV hH;generalize jW l=S1 at*
 generalize jG l id V=S2 at*;go_enter Tryz.func7,Tryz.ntmps7;go_upto_region 1 with fail;obtain⟨wa,bN⟩ : ∃wa,(w.alloc (.cells #[.slice a l.length cap] 25)).alloc (.cells #[.string ⟨id.toArray⟩,.slice av V.length cv] 28)=wa:=⟨_,rfl⟩;rw[bN]at ax HX;try rw[bN]
 clear bN;have x0:wa.cell? ⟨w.heap.size,0,none⟩=some (.slice a l.length cap) :=ah HX.out.1 0;go_wp2_with fail;refine(Nw.out _ ax.out).mono ?_;rintro e wb⟨rfl,hbb⟩;have lX:=aa (ax.out.trans (hbb.mono ax.out.size));have mR:=aa (aD HX.out.1 hbb);have iw:=aa (aD HX.out.2 hbb);clear hbb x0;cases S1 with
 |false=>go_wp2_with fail;go_ret;exact⟨rfl,lX.out⟩
 |true=>have x0:wb.cell? ⟨w.heap.size,0,none⟩=some (.slice a l.length cap) :=ah mR.out 0;have x1:wb.cell? ⟨w.heap.size+1,0,none⟩=some (.string ⟨id.toArray⟩) :=ah iw.out 0;have x2:wb.cell? ⟨w.heap.size+1,1,none⟩=some (.slice av V.length cv) :=ah iw.out 1;go_wp2_with fail;refine(ZM.out _ lX.out).mono ?_;rintro e wd⟨rfl,hbd⟩;go_wp2_with fail;go_ret;exact⟨rfl,lX.out.trans (hbd.mono lX.out.size)⟩
def uk(V:List Vl)(n:List UInt8) :Prop:=(iq V n).2.1.length≤16∧∀k,k<(iq V n).2.1.length→((iq V n).2.1.getD k []).length≤4000
theorem Mw {l:List Fd} {id:List UInt8} {V:List Vl}(h:jG l id V=true)(n:List UInt8) :uk V n:=by
 unfold jG at h;simp only[Bool.and_eq_true,decide_eq_true_eq,List.all_eq_true,List.mem_range]at h;obtain⟨⟨_,hb⟩,hv⟩ :=h;unfold uk iq;by_cases hk:(V.findIdx fun v=>v.1==n)<V.length
 ·have h1:=hv _ hk;unfold kS at h1;simp only[Bool.and_eq_true]at h1;have h2:=h1.1;generalize(V.findIdx fun v=>v.1==n)=k at*;have hm:=BS (getD_in (d:=aQ) hk);refine⟨?_,fun j hj=> ?_⟩
  ·unfold qB at h2;simp only[Bool.and_eq_true]at h2;have h3:=h2.2;unfold mX at h3;split at h3;·unfold wZ at h3;simp only[Bool.and_eq_true,decide_eq_true_eq]at h3;omega
   ·unfold rM at h3;simp only[Bool.and_eq_true,decide_eq_true_eq]at h3;omega
  ·have:=AA (getD_in (d:=[]) hj);omega
 ·rw[List.getD_eq_getElem?_getD,List.getElem?_eq_none (by omega)];exact⟨by simp[aQ],fun j hj=>by simp[aQ]at hj⟩
theorem Vj(s:ByteArray)(a b:Option Addr)(n c m d:Nat)(w:World) :(Instr.field 43 (.agg #[.string s,.slice a n c,.slice b m d]) 1).run Tryz.prog w= .ok (.slice a n c) w:=by kernel_rfl
def GQ(L:List Tk)(w:World)(e:Ending)(w':World) :Prop:=∃v,e= .returned v∧w'.ownsRow w.heap.size 46 4 v L.length (ak L)∧Below w.heap.size w w'
def IA(r:List Tk×Int)(w:World)(e:Ending)(w':World) :Prop:=∃v,e= .returned (.tuple #[v,.int .i64 r.2])∧w'.ownsRow w.heap.size 46 4 v r.1.length (ak r.1)∧Below w.heap.size w w'
theorem TH(f:Fd)(aS aY:Option Addr)(cS cY:Nat)(id:List UInt8)(av:Option Addr)(cv:Nat)(V:List Vl)(w:World)(Ag:Tabs w)(hz:kz f)(hS:bE w aS f.stops)(hY:dB w aY f.af)(hn:V.length≤1048576)(hH:gK w av V)(hsh:uk V f.name) :Calls Tryz.prog 34 #[.agg #[.string (bs f.name),.int .i64 f.kind,.bool f.bf,.bool f.bA,.bool f.bp,.slice aS f.stops.length cS,.slice aY f.af.length cY,.int .i64 f.lo,.int .i64 f.hi],.agg #[.string ⟨id.toArray⟩,.slice av V.length cv]] w (GQ (jQ f (iq V f.name).2.1) w) :=by
 have ax:=aa (((Below.refl w.heap.size w).alloc (Nat.le_refl _) (.cells #[.string (bs f.name),.int .i64 f.kind,.bool f.bf,.bool f.bA,.bool f.bp,.slice aS f.stops.length cS,.slice aY f.af.length cY,.int .i64 f.lo,.int .i64 f.hi] 75)).alloc (by simp) (.cells #[.string ⟨id.toArray⟩,.slice av V.length cv] 28));have HX:=aa (gm w (.cells #[.string (bs f.name),.int .i64 f.kind,.bool f.bf,.bool f.bA,.bool f.bp,.slice aS f.stops.length cS,.slice aY f.af.length cY,.int .i64 f.lo,.int .i64 f.hi] 75) (.cells #[.string ⟨id.toArray⟩,.slice av V.length cv] 28));obtain⟨s,hs⟩ : ∃s,iq V f.name=s:=⟨_,rfl⟩;have xm:Hid (∀W,Below w.heap.size w W→Calls Tryz.prog 61 #[.agg #[.string ⟨id.toArray⟩,.slice av V.length cv],.string (bs f.name)] W fun e w'=>∃at_ ct an cn,e= .returned (.agg #[.string ⟨s.1.toArray⟩,.slice at_ s.2.1.length ct,.slice an s.2.2.length cn])∧gN W at_ s.2.1∧Below W.heap.size W w') :=fun W hW=>(Jo id av cv V f.name W hn (hH.below hW)).mono fun e w' h=>by rw[yR,hs]at h;exact h
 have HCw:=aa (fun at_ ct W(h:gN W at_ s.2.1)=>Jy at_ ct s.2.1 W (by rw[←hs];exact hsh.1) (by rw[←hs];exact hsh.2) h);have uA:=aa (fun at_ ct W(hW:Below w.heap.size w W)(h:gN W at_ s.2.1)=>JD f aS aY cS cY at_ ct s.2.1 W (Ag.below hW) hz (hS.below hW) (hY.below hW) (by rw[←hs];exact hsh.1) (by rw[←hs];exact hsh.2) h);rw[hs];clear Ag hz hS hY hH hsh hs;obtain⟨fn,tx,nz⟩ :=s;dsimp only at xm HCw uA⊢;have m1:=Vj;go_enter Tryz.func34,Tryz.ntmps34;go_upto_region 1 with fail;obtain⟨wa,bN⟩ : ∃wa,(w.alloc (.cells #[.string (bs f.name),.int .i64 f.kind,.bool f.bf,.bool f.bA,.bool f.bp,.slice aS f.stops.length cS,.slice aY f.af.length cY,.int .i64 f.lo,.int .i64 f.hi] 75)).alloc (.cells #[.string ⟨id.toArray⟩,.slice av V.length cv] 28)=wa:=⟨_,rfl⟩;rw[bN]at ax HX;try rw[bN]
 clear bN;have y0:wa.cell? ⟨w.heap.size+1,0,none⟩=some (.string ⟨id.toArray⟩) :=ah HX.out.2 0;have y1:wa.cell? ⟨w.heap.size+1,1,none⟩=some (.slice av V.length cv) :=ah HX.out.2 1;have x0:wa.cell? ⟨w.heap.size,0,none⟩=some (.string (bs f.name)) :=ah HX.out.1 0;go_wp2_with fail;refine(xm.out _ ax.out).mono ?_;rintro e w2⟨at_,ct,an,cn,rfl,hTx,hb2⟩;have gP:=aa (hTx.below hb2);have HB2:=aa (ax.out.trans (hb2.mono ax.out.size));have iw:=aa (aD HX.out.1 hb2);clear hTx hb2 x0 y0 y1 xm;dsimp only;have x0:w2.cell? ⟨w.heap.size,0,none⟩=some (.string (bs f.name)) :=ah iw.out 0;have x1:w2.cell? ⟨w.heap.size,1,none⟩=some (.int .i64 f.kind) :=ah iw.out 1;have x2:w2.cell? ⟨w.heap.size,2,none⟩=some (.bool f.bf) :=ah iw.out 2;have x3:w2.cell? ⟨w.heap.size,3,none⟩=some (.bool f.bA) :=ah iw.out 3;have x4:w2.cell? ⟨w.heap.size,4,none⟩=some (.bool f.bp) :=ah iw.out 4
 have x5:w2.cell? ⟨w.heap.size,5,none⟩=some (.slice aS f.stops.length cS) :=ah iw.out 5;have x6:w2.cell? ⟨w.heap.size,6,none⟩=some (.slice aY f.af.length cY) :=ah iw.out 6;have x7:w2.cell? ⟨w.heap.size,7,none⟩=some (.int .i64 f.lo) :=ah iw.out 7;have x8:w2.cell? ⟨w.heap.size,8,none⟩=some (.int .i64 f.hi) :=ah iw.out 8;by_cases h2:f.kind=2
 ·have HE:Hid (jQ f tx=fH tx tx.length) :=by show _=_;rw[jQ,if_pos h2]
  go_wp2_with fail;refine(HCw.out at_ ct _ gP.out).mono ?_;rintro e w3⟨v3,rfl,hown3,hb3⟩;dsimp only;go_wp2_with fail;go_ret;rw[GQ,HE.out];have hz:=HB2.out.size;exact⟨_,rfl,kM hown3 hz,HB2.out.trans (hb3.mono hz)⟩
 ·have HE:Hid (jQ f tx=(fC f tx tx.length).1) :=by show _=_;rw[jQ,if_neg h2]
  go_wp2_with fail;refine(uA.out at_ ct _ HB2.out gP.out).mono ?_;rintro e w3⟨v3,rfl,hown3,hb3⟩;dsimp only;go_wp2_with fail;go_ret;rw[GQ,HE.out];have hz:=HB2.out.size;exact⟨_,rfl,kM hown3 hz,HB2.out.trans (hb3.mono hz)⟩
theorem CL {r:List Tk×Int} {w w':World} {c:Int}(hr:r=([],c))(hb:Below w.heap.size w w') :IA r w (.returned (.tuple #[.slice none 0 0,.int .i64 c])) w':=by subst hr;exact⟨_,rfl,World.ownsRow_nil _ _ _ _,hb⟩
theorem Jk(a:Option Addr)(cap:Nat)(l:List Fd)(id:List UInt8)(av:Option Addr)(cv:Nat)(V:List Vl)(n:List UInt8)(w:World)(hT:Tabs w)(hn:l.length≤1048576)(hA: ∀i,kz (l.getD i fd0))(hS:jK w a l)(hid:id.length≤1048576)(hV:y9 V)(hH:gK w av V)(hf:n.length≤1048576) :Calls Tryz.prog 11 #[.agg #[.slice a l.length cap],.agg #[.string ⟨id.toArray⟩,.slice av V.length cv],.string (bs n)] w (IA (og l id V n) w) :=by
 have ax:=aa (((Below.refl w.heap.size w).alloc (Nat.le_refl _) (.cells #[.slice a l.length cap] 25)).alloc (by simp) (.cells #[.string ⟨id.toArray⟩,.slice av V.length cv] 28));have HX:=aa (gm w (.cells #[.slice a l.length cap] 25) (.cells #[.string ⟨id.toArray⟩,.slice av V.length cv] 28));have HT:=aa hT;have HA:=aa hA;have HS:=aa hS;have HV:=aa hV;have HH:=aa hH;have Ml:=aa (fun W(hW:Below w.heap.size w W)=>Ar a cap l id av cv V W (hT.below hW) hn hA (hS.below hW) hid hV (hH.below hW));have Br:=aa (fun(h:(jW l&&jG l id V)=true)=>Mw (l:=l) (id:=id) (V:=V) (by simp only[Bool.and_eq_true]at h;exact h.2) n);clear hT hA hS hV hH;obtain⟨O,hO⟩ : ∃O,og l id V n=O:=⟨_,rfl⟩;rw[hO];rw[og]at hO;have HO:=aa hO;clear hO;have hfl:(bs n).size=n.length:=aK n;go_enter Tryz.func11,Tryz.ntmps11;go_upto_region 1 with fail;obtain⟨wa,bN⟩ : ∃wa,(w.alloc (.cells #[.slice a l.length cap] 25)).alloc (.cells #[.string ⟨id.toArray⟩,.slice av V.length cv] 28)=wa:=⟨_,rfl⟩
 rw[bN]at ax HX;try rw[bN]
 clear bN;by_cases hlong:65536<n.length
 ·rw[if_pos hlong]at HO;have zl:(65536:Int)<(n.length:Int) :=by omega
  go_wp2_with fail;go_ret2;exact CL HO.out.symm ax.out
 have zl: ¬(65536:Int)<(n.length:Int) :=by omega
 rw[if_neg hlong]at HO;have s0:wa.cell? ⟨w.heap.size,0,none⟩=some (.slice a l.length cap) :=ah HX.out.1 0;have y0:wa.cell? ⟨w.heap.size+1,0,none⟩=some (.string ⟨id.toArray⟩) :=ah HX.out.2 0;have y1:wa.cell? ⟨w.heap.size+1,1,none⟩=some (.slice av V.length cv) :=ah HX.out.2 1;go_wp2_with fail;refine(Ml.out _ ax.out).mono ?_;rintro e w2⟨rfl,hb2⟩;have HB2:=aa (ax.out.trans (hb2.mono ax.out.size));have iw:=aa (And.intro (aD HX.out.1 hb2) (aD HX.out.2 hb2));clear hb2 s0 y0 y1 Ml HX ax;cases hok:(jW l&&jG l id V)with
 |false=>rw[if_pos hok]at HO;go_wp2_with fail;go_ret2;exact CL HO.out.symm HB2.out
 |true=>
  rw[if_neg (by rw[hok];simp)]at HO;have Vt:=aa (Br.out hok);clear Br hok;have s0:w2.cell? ⟨w.heap.size,0,none⟩=some (.slice a l.length cap) :=ah iw.out.1 0;by_cases hit:dL l n<l.length
  ·rw[if_neg (fun h=>h hit)]at HO;obtain⟨g,hg⟩ : ∃g,l.getD (dL l n) fd0=g:=⟨_,rfl⟩;have xH:=aa (BP a cap l n w2 hn (HS.out.below HB2.out) hit g hg);have hgn:g.name=n:=by rw[←hg];exact uf hit
   have hgz:kz g:=by rw[←hg];exact HA.out _
   rw[hg]at HO;have G8:=aa hgz;have Da:=aa hgn;clear hg hgz hgn;go_wp2_with fail;refine xH.out.mono ?_;rintro e w8⟨aS,cS,aY,cY,rfl,Rn,RS,dY⟩;have Lu:=aa Rn;have K7:=aa RS;have jJ:=aa (HB2.out.trans (dY.mono HB2.out.size));have Ce:=aa (aD iw.out.2 dY);clear Rn RS dY s0 xH;dsimp only;go_upto_region 6 with fail;have MG:=aa ((Below.refl w8.heap.size w8).alloc (Nat.le_refl _) (.cells #[.string (bs g.name),.int .i64 g.kind,.bool g.bf,.bool g.bA,.bool g.bp,.slice aS g.stops.length cS,.slice aY g.af.length cY,.int .i64 g.lo,.int .i64 g.hi] 75));have pW:=aa (heap_alloc_new w8 (.cells #[.string (bs g.name),.int .i64 g.kind,.bool g.bf,.bool g.bA,.bool g.bp,.slice aS g.stops.length cS,.slice aY g.af.length cY,.int .i64 g.lo,.int .i64 g.hi] 75));obtain⟨w9,Lc⟩ : ∃w9,w8.alloc (.cells #[.string (bs g.name),.int .i64 g.kind,.bool g.bf,.bool g.bA,.bool g.bp,.slice aS g.stops.length cS,.slice aY g.af.length cY,.int .i64 g.lo,.int .i64 g.hi] 75)=w9:=⟨_,rfl⟩
   rw[Lc]at MG pW;try rw[Lc]
   clear Lc;have gY:=aa (jJ.out.trans (MG.out.mono jJ.out.size));have LG:=aa (aD Ce.out MG.out);have x0:w9.cell? ⟨w8.heap.size,0,none⟩=some (.string (bs g.name)) :=ah pW.out 0;have x1:w9.cell? ⟨w8.heap.size,1,none⟩=some (.int .i64 g.kind) :=ah pW.out 1;have x2:w9.cell? ⟨w8.heap.size,2,none⟩=some (.bool g.bf) :=ah pW.out 2;have x3:w9.cell? ⟨w8.heap.size,3,none⟩=some (.bool g.bA) :=ah pW.out 3;have x4:w9.cell? ⟨w8.heap.size,4,none⟩=some (.bool g.bp) :=ah pW.out 4;have x5:w9.cell? ⟨w8.heap.size,5,none⟩=some (.slice aS g.stops.length cS) :=ah pW.out 5;have x6:w9.cell? ⟨w8.heap.size,6,none⟩=some (.slice aY g.af.length cY) :=ah pW.out 6;have x7:w9.cell? ⟨w8.heap.size,7,none⟩=some (.int .i64 g.lo) :=ah pW.out 7;have x8:w9.cell? ⟨w8.heap.size,8,none⟩=some (.int .i64 g.hi) :=ah pW.out 8;by_cases h3:g.kind=3;·rw[if_pos h3]at HO;go_wp2_with fail;go_ret2;exact CL HO.out.symm gY.out
   ·rw[if_neg h3]at HO;have y0:w9.cell? ⟨w.heap.size+1,0,none⟩=some (.string ⟨id.toArray⟩) :=ah LG.out 0;have y1:w9.cell? ⟨w.heap.size+1,1,none⟩=some (.slice av V.length cv) :=ah LG.out 1;have uA:Hid (Calls Tryz.prog 34 #[.agg #[.string (bs g.name),.int .i64 g.kind,.bool g.bf,.bool g.bA,.bool g.bp,.slice aS g.stops.length cS,.slice aY g.af.length cY,.int .i64 g.lo,.int .i64 g.hi],.agg #[.string ⟨id.toArray⟩,.slice av V.length cv]] w9 (GQ (jQ g (iq V n).2.1) w9)) :=by have h:=TH g aS aY cS cY id av cv V w9 (HT.out.below gY.out) G8.out (Lu.out.below MG.out) (K7.out.below MG.out) HV.out.1 (HH.out.below gY.out) (by rw[Da.out];exact Vt.out);rw[show iq V g.name=iq V n by rw[Da.out]]at h;exact h
    go_wp2_with fail;refine uA.out.mono ?_;rintro e w3⟨v3,rfl,hown3,hb3⟩;dsimp only;go_wp2_with fail;go_ret2;rw[IA,←HO.out];have hz:=gY.out.size;exact⟨_,rfl,kM hown3 hz,gY.out.trans (hb3.mono hz)⟩
  ·rw[if_pos hit]at HO;have xH:=aa (zN a cap l n w2 hn (HS.out.below HB2.out) hit);go_wp2_with fail;refine xH.out.mono ?_;rintro e w8⟨rfl,dY⟩;have jJ:=aa (HB2.out.trans (dY.mono HB2.out.size));clear dY s0 xH;dsimp only;go_wp2_with fail;go_ret2;exact CL HO.out.symm (jJ.out.alloc jJ.out.size _)
end Go.Proofs.YtcjiphknpagenaaGreatDoor
