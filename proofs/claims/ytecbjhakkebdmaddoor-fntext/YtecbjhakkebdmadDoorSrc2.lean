import Derived.Test.YtecbjhakkebdmadDoorSrc
namespace Go.Proofs.YtecbjhakkebdmadDoor
open Go Go.RowKit
set_option linter.unusedVariables false

def strB (m : Nat) : Value → Bool
  | .string s => decide (s.size ≤ m)
  | _ => false
theorem strB_ok {m : Nat} {v : Value} (h : strB m v = true) : ∃ t, v = .string t ∧ t.size ≤ m := by
  cases v with
  | string s => exact ⟨s, rfl, by simpa [strB] using h⟩
  | _ => cases h
theorem table_str {w w1 : World} {C : Array Value} {t : TypeId} {b : Nat} (hg : (w.alloc (.cells C t)).grownBy w1 (some b)) (hb : b < w.heap.size) (m : Nat) (hC : C.all (strB m) = true) (j : Nat) (hj : j < C.size) :
    ∃ t, w1.cell? ⟨w.heap.size, j, none⟩ = some (.string t) ∧ t.size ≤ m := by
  have h1 : (w.alloc (.cells C t)).cell? ⟨w.heap.size, j, none⟩ = some C[j] := by
    rw [World.cell?_alloc_at (hn := rfl)]
    exact Array.getElem?_eq_getElem hj
  have h2 := hg.cell h1 (by simp; omega)
  rw [Array.all_eq_true] at hC
  obtain ⟨s, hs, hm⟩ := strB_ok (hC j hj)
  rw [hs] at h2
  exact ⟨s, h2, hm⟩

/-- A text of at most m bytes was drawn, by at most k bytes of the source. -/
def DrawnT (w : World) (b : Nat) (cv : Value) (a k : Int) (m : Nat) (e : Ending) (w' : World) : Prop :=
  ∃ (t : ByteArray) (a' sd' : Int), e = .returned (.string t) ∧ t.size ≤ m ∧ a ≤ a' ∧ a' ≤ a + k ∧ 0 ≤ sd' ∧ sd' < 2147483648 ∧ SrcAt w' b cv a' sd' ∧ w.grownBy w' (some b)

theorem SrcAt.alloc {w : World} {b : Nat} {cv : Value} {a sd : Int} (h : SrcAt w b cv a sd) (o : Obj) : SrcAt (w.alloc o) b cv a sd := by
  unfold SrcAt at *
  rw [Below.heap_alloc w o b (Array.getElem?_eq_some_iff.1 h).1]
  exact h
theorem Code.alloc {w : World} {b : Nat} {ao : Option Addr} {n : Nat} (h : Code w b ao n) (o : Obj) : Code (w.alloc o) b ao n := h.kept (World.grownBy_alloc w o (some b))

set_option maxHeartbeats 1000000 in
set_option maxRecDepth 100000 in
theorem word_any (b : Nat) (ao : Option Addr) (n cap : Nat) (a sd : Int) (w : World) (hn : n ≤ 1048576) (ha0 : 0 ≤ a) (ha2 : a ≤ 549755813888) (hs0 : 0 ≤ sd) (hs1 : sd < 2147483648)
    (hs : SrcAt w b (.slice ao n cap) a sd) (hc : Code w b ao n) :
    Calls Tryd.prog 46 #[.pointer (some ⟨b, 0, none⟩)] w fun e w' => DrawnT w b (.slice ao n cap) a 3 16 e w' := by
  have HS := hidd hs
  have HC := hidd hc
  have hb := hs.lt
  clear hs hc
  go_enter Tryd.func46, Tryd.ntmps46
  go_wp2_with fail
  refine (next_any b ao n cap a sd 25 _ hn (by omega) (by omega) ha0 ha2 hs0 hs1 (by exact HS.out.alloc _) (by exact HC.out.alloc _)).mono ?_
  rintro e w1 ⟨x, a1, sd1, rfl, hx0, hx1, ha3, ha4, hsd0, hsd1, hs1', hg1⟩
  obtain ⟨X, rfl⟩ := Int.eq_ofNat_of_zero_le hx0
  obtain ⟨t, ht, htm⟩ := table_str hg1 hb 16 (by decide +kernel) X (by show X < 25; omega)
  have HR := hidd (And.intro hs1' (grown_trans (World.grownBy_alloc w _ (some b)) hg1))
  clear hs1' hg1
  have hxz : (X : Int) < 25 := by omega
  go_wp2
  go_ret
  unfold DrawnT
  exact ⟨t, a1, sd1, rfl, htm, by omega, by omega, hsd0, hsd1, HR.out.1, HR.out.2⟩

set_option maxHeartbeats 2000000 in
set_option maxRecDepth 100000 in
theorem prose_any (b : Nat) (ao : Option Addr) (n cap : Nat) (a sd : Int) (N : Nat) (w : World) (hn : n ≤ 1048576) (hN : N ≤ 1000) (ha0 : 0 ≤ a) (ha2 : a ≤ 274877906944) (hs0 : 0 ≤ sd) (hs1 : sd < 2147483648)
    (hs : SrcAt w b (.slice ao n cap) a sd) (hc : Code w b ao n) :
    Calls Tryd.prog 34 #[.pointer (some ⟨b, 0, none⟩), .int .i64 (N : Int)] w fun e w' => DrawnT w b (.slice ao n cap) a (6 * (N : Int)) (32 * N) e w' := by
  have HS := hidd hs
  have HC := hidd hc
  have hb := hs.lt
  clear hs hc
  go_enter Tryd.func34, Tryd.ntmps34
  go_wp2
  go_loopw [1, 5] (fun kv ov wr => ∃ (k : Nat) (t : ByteArray) (a1 sd1 : Int), k ≤ N ∧ kv = .int .i64 (k : Int) ∧ ov = .string t ∧ t.size + 32 * k ≤ 32 * N ∧ a ≤ a1 ∧ a1 + 6 * (k : Int) ≤ a + 6 * (N : Int) ∧ 0 ≤ sd1 ∧ sd1 < 2147483648 ∧ SrcAt wr b (.slice ao n cap) a1 sd1 ∧ w.grownBy wr (some b)) (fun kv _ _ => (intOf kv).toNat)
  case atStart => exact ⟨N, ⟨#[]⟩, a, sd, Nat.le_refl _, rfl, rfl, by show 0 + 32 * N ≤ 32 * N; omega, by omega, by omega, hs0, hs1, HS.out, grown_refl _ _⟩
  case round =>
    obtain ⟨k, t, a1, sd1, hkN, rfl, rfl, htk, ha3, ha4, hd0, hd1, hsr, hgr⟩ := hrel
    have HSr := hidd hsr
    have HGr := hidd hgr
    have hbr := hsr.lt
    clear hsr hgr
    by_cases hk : 0 < k
    · have hkz : (0 : Int) < (k : Int) := by omega
      go_wp2_with fail
      refine (word_any b ao n cap a1 sd1 _ hn (by omega) (by omega) hd0 hd1 HSr.out (HC.out.kept HGr.out)).mono ?_
      rintro e w1 ⟨u, a2, sd2, rfl, hum, ha5, ha6, hd2, hd3, hs2, hg2⟩
      have HS2 := hidd hs2
      have HG2 := hidd (grown_trans HGr.out hg2)
      have hb2 := hs2.lt
      clear hs2 hg2 HSr HGr
      go_wp2_with fail
      refine (next_any b ao n cap a2 sd2 10 _ hn (by omega) (by omega) (by omega) (by omega) hd2 hd3 (by exact HS2.out.alloc _) (by exact (HC.out.kept HG2.out).alloc _)).mono ?_
      rintro e w3 ⟨x, a3, sd3, rfl, hx0, hx1, ha7, ha8, hd4, hd5, hs3, hg3⟩
      obtain ⟨X, rfl⟩ := Int.eq_ofNat_of_zero_le hx0
      obtain ⟨v, hv, hvm⟩ := table_str hg3 hb2 16 (by decide +kernel) X (by show X < 10; omega)
      have HR := hidd (And.intro hs3 (grown_trans HG2.out (grown_trans (World.grownBy_alloc w1 _ (some b)) hg3)))
      clear hs3 hg3 HS2 HG2
      have hxz : (X : Int) < 10 := by omega
      go_wp2
      go_roundw
      case rel => exact ⟨k - 1, t ++ u ++ v, a3, sd3, by omega, by go_num, rfl, by rw [ByteArray.size_append, ByteArray.size_append]; omega, by omega, by omega, hd4, hd5, HR.out.1, HR.out.2⟩
      case measure => simp [intOf]; omega
    · have HK : Hid (k = 0) := by show k = 0; omega
      go_wp2
      go_ret
      unfold DrawnT
      exact ⟨t, a1, sd1, rfl, by omega, by omega, by omega, hd0, hd1, HSr.out, HGr.out⟩
end Go.Proofs.YtecbjhakkebdmadDoor
