import Derived.Test.YtjndogajdlophaaMkP
import Derived.Test.YtjndogajdlophaaDcC
namespace Go.Proofs.Ytjndogajdlophaa
open Go
set_option linter.unusedVariables false

/-! The states of a maker, numbered anew in the order in which they are met. -/
def renum (order : List Nat) (s : St) : St := (s.1, s.2.map fun a => (a.1, ((order.idxOf a.2.1.toNat : Nat) : Int), a.2.2))
def setAt (O : List (List Tx)) (x : Nat) : List Tx := O.getD x []
theorem setAt_idx {O : List (List Tx)} {L : List Tx} (h : L ∈ O) : setAt O (O.idxOf L) = L := by
  rw [setAt, List.getD_eq_getElem?_getD, idxOf_at h]; rfl
theorem setAt_mem {O : List (List Tx)} {x : Nat} (h : x < O.length) : setAt O x ∈ O := by
  rw [setAt, List.getD_eq_getElem?_getD, List.getElem?_eq_getElem h]; exact List.getElem_mem _
theorem setAt_inj {O : List (List Tx)} (hn : O.Nodup) {x y : Nat} (hx : x < O.length) (hy : y < O.length) (h : setAt O x = setAt O y) : x = y := by
  rw [setAt, setAt, List.getD_eq_getElem?_getD, List.getD_eq_getElem?_getD, List.getElem?_eq_getElem hx, List.getElem?_eq_getElem hy] at h
  exact (List.getElem_inj hn).1 h
theorem stM_set {O : List (List Tx)} {x : Nat} (h : x < O.length) : (stM O).getD x st0 = stOf O (setAt O x) := by
  refine stM_at ?_
  rw [setAt, List.getD_eq_getElem?_getD, List.getElem?_eq_getElem h]; rfl
theorem toAt_stM {O : List (List Tx)} (hok : OkO O) {x : Nat} (h : x < O.length) : toAt (stM O) x = (labelsT (setAt O x)).map fun n => O.idxOf (subT n (setAt O x)) := by
  rw [toAt, arcsAt, stM_set h, stOf, List.map_map]
  exact List.map_congr_left fun n _ => by simp
theorem nextT_set {O : List (List Tx)} (hok : OkO O) {x : Nat} (h : x < O.length) : nextT (setAt O x) = (toAt (stM O) x).map (setAt O) := by
  rw [toAt_stM hok h, nextT, List.map_map]
  refine List.map_congr_left fun n hn => ?_
  rw [Function.comp, setAt_idx (hok.closed _ (setAt_mem h) n hn)]
theorem toAt_lt {O : List (List Tx)} (hok : OkO O) {x : Nat} (h : x < O.length) : ∀ y ∈ toAt (stM O) x, y < O.length := by
  rw [toAt_stM hok h]
  intro y hy
  obtain ⟨n, hn, rfl⟩ := List.mem_map.1 hy
  exact List.idxOf_lt_length_of_mem (hok.closed _ (setAt_mem h) n hn)
theorem idxOf_map {O : List (List Tx)} (hn : O.Nodup) : ∀ (order : List Nat) (x : Nat), (∀ y ∈ order, y < O.length) → x < O.length → (order.map (setAt O)).idxOf (setAt O x) = order.idxOf x
  | [], x, _, _ => rfl
  | y :: t, x, h, hx => by
    rw [List.map_cons, List.idxOf_cons, List.idxOf_cons]
    by_cases e : y = x
    · subst e; simp
    · have e2 : ¬ setAt O y = setAt O x := fun e3 => e (setAt_inj hn (h y (by simp)) hx e3)
      have h1 : (setAt O y == setAt O x) = false := beq_false_of_ne e2
      have h2 : (y == x) = false := beq_false_of_ne e
      rw [idxOf_map hn t x (fun z hz => h z (by simp [hz])) hx, h1, h2]
theorem build_plain {O : List (List Tx)} {ts : List Tx} {root : Nat} {order : List Nat} (hok : OkO O) (hrl : root < O.length) (hr : setAt O root = ts) (hb : IsBfs (toAt (stM O)) root order) :
    IsBfs nextT ts (order.map (setAt O)) ∧ order.map (fun x => renum order ((stM O).getD x st0)) = (order.map (setAt O)).map (stOf (order.map (setAt O))) := by
  have hlt : ∀ x ∈ order, x < O.length := hb.all (fun x => x < O.length) hrl (fun x hx y hy => toAt_lt hok hx y hy)
  refine ⟨?_, ?_⟩
  · rw [← hr]
    exact hb.map nextT (setAt O) (fun x => x < O.length) hrl (fun x y hx hy e => setAt_inj hok.nodup hx hy e) (fun x hx y hy => toAt_lt hok hx y hy) (fun x hx => nextT_set hok hx)
  · rw [List.map_map]
    refine List.map_congr_left fun x hx => ?_
    have hxl := hlt x hx
    rw [Function.comp, stM_set hxl, renum, stOf, stOf]
    congr 1
    rw [List.map_map]
    refine List.map_congr_left fun n hn => ?_
    have hm := hok.closed _ (setAt_mem hxl) n hn
    have e := idxOf_map hok.nodup order (O.idxOf (subT n (setAt O x))) hlt (List.idxOf_lt_length_of_mem hm)
    rw [setAt_idx hm] at e
    simp only [Function.comp, Int.toNat_natCast, e]
end Go.Proofs.Ytjndogajdlophaa
