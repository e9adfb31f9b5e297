import Derived.Test.YtefhmbnhhkgifaaHpA
import Derived.Test.YtefhmbnhhkgifaaPkB1
import Derived.Test.YtefhmbnhhkgifaaSumA
import Derived.Deep.AppendLies
import Derived.Deep.RegionLaw
import Derived.Deep.CutBlock
import Derived.Deep.RegionHeld3
import Derived.Deep.DeepCutAuto
namespace Go.Proofs.Ytefhmbnhhkgifaa
open Go Go.RowKit
set_option linter.unusedVariables false
set_option linter.unusedSimpArgs false
set_option maxRecDepth 100000

/-! What a record's bytes want of memory: cut off the dictionaries' texts. -/
theorem bytes_news {W W' : World} {bh : Nat} {l : List UInt8} (h : BytesAt W bh 0 l) (hb : Below W.heap.size W W') : ∀ j u, (Lib.byteCells l)[j]? = some u → W'.cell? ((⟨bh, 0, none⟩ : Addr).add j) = some u := by
  intro j u hu
  have hj : j < l.length := by have := (List.getElem?_eq_some_iff.1 hu).1; simpa [Lib.byteCells] using this
  rw [byteCells_at l j hj] at hu
  have := h.below hb j hj
  rw [show (⟨bh, 0, none⟩ : Addr).add j = ⟨bh, 0 + j, none⟩ from by simp only [Addr.add]; split <;> simp_all, this]
  exact hu
theorem bytes_one (l : List UInt8) : ∀ u ∈ Lib.byteCells l, u.oneCell' = true := by
  intro u hu
  simp only [Lib.byteCells, List.mem_map] at hu
  obtain ⟨x, _, rfl⟩ := hu
  rfl
theorem own_form {w : World} {base e size n : Nat} {v : Value} {zs : List Value} (h : w.ownsRow base e size v n zs) : ∃ a c, v = .slice a n c := by
  rcases h.2 with ⟨rfl, h0⟩ | ⟨g, cap, cur, rfl, _⟩
  · exact ⟨none, 0, by rw [h0]⟩
  · exact ⟨_, _, rfl⟩
def four (n : Nat) : List UInt8 := [UInt8.ofNat (n / 16777216), UInt8.ofNat (n / 65536 % 256), UInt8.ofNat (n / 256 % 256), UInt8.ofNat (n % 256)]
theorem sumL_lt (bs : List UInt8) : sumL bs < 4294967296 := by
  unfold sumL
  split
  · omega
  · exact sumG_lt bs
theorem u8wrap (n : Nat) : IntKind.u8.wrap (n : Int) = ((n % 256 : Nat) : Int) := by
  simp [IntKind.wrap, IntKind.bits, IntKind.signed]
set_option maxHeartbeats 2000000 in
theorem sumBytes_any (b off cap : Nat) (bs : List UInt8) (w : World) (hc : BytesAt w b off bs) (hb : b < w.heap.size) :
    Calls Try.prog 20 #[.slice (some ⟨b, off, none⟩) bs.length cap] w fun e w' => e = .returned (.agg #[.int .u8 ((sumL bs / 16777216 : Nat) : Int), .int .u8 ((sumL bs / 65536 % 256 : Nat) : Int), .int .u8 ((sumL bs / 256 % 256 : Nat) : Int), .int .u8 ((sumL bs % 256 : Nat) : Int)]) ∧ Below w.heap.size w w' := by
  have HBa := hidd ((Below.refl w.heap.size w).alloc (Nat.le_refl _) (.cells #[.int .u8 0, .int .u8 0, .int .u8 0, .int .u8 0] 49))
  have HS := hidd (fun (W : World) (hW : Below w.heap.size w W) => implSum_any b off cap bs W (hc.below hW))
  have hlt := sumL_lt bs
  obtain ⟨n, hn⟩ : ∃ n, sumL bs = n := ⟨_, rfl⟩
  rw [hn] at HS hlt
  have Hn := hidd hn
  clear hc hn
  go_enter Try.func20, Try.ntmps20
  go_wp2_with fail
  refine (HS.out _ HBa.out).mono ?_
  rintro e w1 ⟨rfl, rfl⟩
  dsimp only
  go_wp2_with fail
  refine bodyPost_ret (v := .agg #[.int .u8 ((n : Int) / 16777216), .int .u8 ((n : Int) / 65536 % 256), .int .u8 ((n : Int) / 256 % 256), .int .u8 ((n : Int) % 256)]) (by simp [results, Try.results20, go_sem, *]) rfl ?_
  refine ⟨?_, (Below.refl w.heap.size w).alloc (Nat.le_refl _) _⟩
  rw [Hn.out]
  congr 4
theorem four_cells {M : List UInt8} (n : Nat) (h : n < 4294967296) : Lib.byteCells (M ++ four n) = Lib.byteCells M ++ [.int .u8 ((n : Int) / 16777216), .int .u8 ((n : Int) / 65536 % 256), .int .u8 ((n : Int) / 256 % 256), .int .u8 ((n : Int) % 256)] := by
  have e1 : (UInt8.ofNat (n / 16777216)).toNat = n / 16777216 := by rw [UInt8.toNat_ofNat']; omega
  have e2 : (UInt8.ofNat (n / 65536 % 256)).toNat = n / 65536 % 256 := by rw [UInt8.toNat_ofNat']; omega
  have e3 : (UInt8.ofNat (n / 256 % 256)).toNat = n / 256 % 256 := by rw [UInt8.toNat_ofNat']; omega
  have e4 : (UInt8.ofNat (n % 256)).toNat = n % 256 := by rw [UInt8.toNat_ofNat']; omega
  simp only [Lib.byteCells, four, List.map_append, List.map_cons, List.map_nil, e1, e2, e3, e4]
  congr 1
theorem specFour_any (n : Nat) (h : n < 4294967296) (w : World) : Calls Try.prog 30 #[.int .i64 (n : Int)] w fun e w' => e = .returned (.slice (some ⟨w.heap.size, 0, none⟩) 4 4) ∧ w' = w.alloc (.cells #[.int .u8 ((n : Int) / 16777216), .int .u8 ((n : Int) / 65536 % 256), .int .u8 ((n : Int) / 256 % 256), .int .u8 ((n : Int) % 256)] 5) := by
  go_enter Try.func30, Try.ntmps30
  go_wp2
  go_ret
  exact ⟨rfl, rfl⟩
end Go.Proofs.Ytefhmbnhhkgifaa
