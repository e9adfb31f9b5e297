import Derived.Test.YtionicjnoogpjaaGreatDoorProg
import Derived.Test.YtionicjnoogpjaaGreatDoorAnalyzJ02
import Derived.Test.YtionicjnoogpjaaGreatDoorAnalyzJ01
import Derived.Test.YtionicjnoogpjaaGreatDoorAnalyzJ00
import Derived.WalkLawsBesides
import Derived.Test.YtionicjnoogpjaaGreatDoorAnalyzJ03
namespace Go.Proofs.YtionicjnoogpjaaGreatDoor
open Go Go.RowKit
set_option linter.unusedVariables false

def sdig (r : Int) : Int :=
  if r = 98 ∨ r = 102 ∨ r = 112 ∨ r = 118 then 1
  else if r = 99 ∨ r = 103 ∨ r = 106 ∨ r = 107 ∨ r = 113 ∨ r = 115 ∨ r = 120 ∨ r = 122 then 2
  else if r = 100 ∨ r = 116 then 3 else if r = 108 then 4 else if r = 109 ∨ r = 110 then 5 else if r = 114 then 6 else 0
theorem sdig_bd (r : Int) : 0 ≤ sdig r ∧ sdig r ≤ 6 := by
  unfold sdig
  repeat' split
  all_goals decide
theorem sound_97 (w : World) : Calls Tryz.prog 118 #[.int .i64 97] w fun e w' => e = .returned (.int .i64 (sdig 97)) ∧ w' = w := by
  go_enter Tryz.func118, Tryz.ntmps118
  go_wp2
  go_ret
  exact ⟨rfl, rfl⟩
theorem digit_97 (w : World) : Calls Tryz.prog 155 #[.int .i64 97] w fun e w' => e = .returned (.int .u8 (48 + sdig 97)) ∧ w' = w := by
  go_enter Tryz.func155, Tryz.ntmps155
  go_wp2
  go_ret
  exact ⟨rfl, rfl⟩
theorem sound_98 (w : World) : Calls Tryz.prog 118 #[.int .i64 98] w fun e w' => e = .returned (.int .i64 (sdig 98)) ∧ w' = w := by
  go_enter Tryz.func118, Tryz.ntmps118
  go_wp2
  go_ret
  exact ⟨rfl, rfl⟩
theorem digit_98 (w : World) : Calls Tryz.prog 155 #[.int .i64 98] w fun e w' => e = .returned (.int .u8 (48 + sdig 98)) ∧ w' = w := by
  go_enter Tryz.func155, Tryz.ntmps155
  go_wp2
  go_ret
  exact ⟨rfl, rfl⟩
theorem sound_99 (w : World) : Calls Tryz.prog 118 #[.int .i64 99] w fun e w' => e = .returned (.int .i64 (sdig 99)) ∧ w' = w := by
  go_enter Tryz.func118, Tryz.ntmps118
  go_wp2
  go_ret
  exact ⟨rfl, rfl⟩
theorem digit_99 (w : World) : Calls Tryz.prog 155 #[.int .i64 99] w fun e w' => e = .returned (.int .u8 (48 + sdig 99)) ∧ w' = w := by
  go_enter Tryz.func155, Tryz.ntmps155
  go_wp2
  go_ret
  exact ⟨rfl, rfl⟩
theorem sound_100 (w : World) : Calls Tryz.prog 118 #[.int .i64 100] w fun e w' => e = .returned (.int .i64 (sdig 100)) ∧ w' = w := by
  go_enter Tryz.func118, Tryz.ntmps118
  go_wp2
  go_ret
  exact ⟨rfl, rfl⟩
theorem digit_100 (w : World) : Calls Tryz.prog 155 #[.int .i64 100] w fun e w' => e = .returned (.int .u8 (48 + sdig 100)) ∧ w' = w := by
  go_enter Tryz.func155, Tryz.ntmps155
  go_wp2
  go_ret
  exact ⟨rfl, rfl⟩
theorem sound_101 (w : World) : Calls Tryz.prog 118 #[.int .i64 101] w fun e w' => e = .returned (.int .i64 (sdig 101)) ∧ w' = w := by
  go_enter Tryz.func118, Tryz.ntmps118
  go_wp2
  go_ret
  exact ⟨rfl, rfl⟩
theorem digit_101 (w : World) : Calls Tryz.prog 155 #[.int .i64 101] w fun e w' => e = .returned (.int .u8 (48 + sdig 101)) ∧ w' = w := by
  go_enter Tryz.func155, Tryz.ntmps155
  go_wp2
  go_ret
  exact ⟨rfl, rfl⟩
theorem sound_102 (w : World) : Calls Tryz.prog 118 #[.int .i64 102] w fun e w' => e = .returned (.int .i64 (sdig 102)) ∧ w' = w := by
  go_enter Tryz.func118, Tryz.ntmps118
  go_wp2
  go_ret
  exact ⟨rfl, rfl⟩
theorem digit_102 (w : World) : Calls Tryz.prog 155 #[.int .i64 102] w fun e w' => e = .returned (.int .u8 (48 + sdig 102)) ∧ w' = w := by
  go_enter Tryz.func155, Tryz.ntmps155
  go_wp2
  go_ret
  exact ⟨rfl, rfl⟩
theorem sound_103 (w : World) : Calls Tryz.prog 118 #[.int .i64 103] w fun e w' => e = .returned (.int .i64 (sdig 103)) ∧ w' = w := by
  go_enter Tryz.func118, Tryz.ntmps118
  go_wp2
  go_ret
  exact ⟨rfl, rfl⟩
theorem digit_103 (w : World) : Calls Tryz.prog 155 #[.int .i64 103] w fun e w' => e = .returned (.int .u8 (48 + sdig 103)) ∧ w' = w := by
  go_enter Tryz.func155, Tryz.ntmps155
  go_wp2
  go_ret
  exact ⟨rfl, rfl⟩
theorem sound_104 (w : World) : Calls Tryz.prog 118 #[.int .i64 104] w fun e w' => e = .returned (.int .i64 (sdig 104)) ∧ w' = w := by
  go_enter Tryz.func118, Tryz.ntmps118
  go_wp2
  go_ret
  exact ⟨rfl, rfl⟩
theorem digit_104 (w : World) : Calls Tryz.prog 155 #[.int .i64 104] w fun e w' => e = .returned (.int .u8 (48 + sdig 104)) ∧ w' = w := by
  go_enter Tryz.func155, Tryz.ntmps155
  go_wp2
  go_ret
  exact ⟨rfl, rfl⟩
theorem sound_105 (w : World) : Calls Tryz.prog 118 #[.int .i64 105] w fun e w' => e = .returned (.int .i64 (sdig 105)) ∧ w' = w := by
  go_enter Tryz.func118, Tryz.ntmps118
  go_wp2
  go_ret
  exact ⟨rfl, rfl⟩
theorem digit_105 (w : World) : Calls Tryz.prog 155 #[.int .i64 105] w fun e w' => e = .returned (.int .u8 (48 + sdig 105)) ∧ w' = w := by
  go_enter Tryz.func155, Tryz.ntmps155
  go_wp2
  go_ret
  exact ⟨rfl, rfl⟩
theorem sound_106 (w : World) : Calls Tryz.prog 118 #[.int .i64 106] w fun e w' => e = .returned (.int .i64 (sdig 106)) ∧ w' = w := by
  go_enter Tryz.func118, Tryz.ntmps118
  go_wp2
  go_ret
  exact ⟨rfl, rfl⟩
theorem digit_106 (w : World) : Calls Tryz.prog 155 #[.int .i64 106] w fun e w' => e = .returned (.int .u8 (48 + sdig 106)) ∧ w' = w := by
  go_enter Tryz.func155, Tryz.ntmps155
  go_wp2
  go_ret
  exact ⟨rfl, rfl⟩
theorem sound_107 (w : World) : Calls Tryz.prog 118 #[.int .i64 107] w fun e w' => e = .returned (.int .i64 (sdig 107)) ∧ w' = w := by
  go_enter Tryz.func118, Tryz.ntmps118
  go_wp2
  go_ret
  exact ⟨rfl, rfl⟩
theorem digit_107 (w : World) : Calls Tryz.prog 155 #[.int .i64 107] w fun e w' => e = .returned (.int .u8 (48 + sdig 107)) ∧ w' = w := by
  go_enter Tryz.func155, Tryz.ntmps155
  go_wp2
  go_ret
  exact ⟨rfl, rfl⟩
theorem sound_108 (w : World) : Calls Tryz.prog 118 #[.int .i64 108] w fun e w' => e = .returned (.int .i64 (sdig 108)) ∧ w' = w := by
  go_enter Tryz.func118, Tryz.ntmps118
  go_wp2
  go_ret
  exact ⟨rfl, rfl⟩
theorem digit_108 (w : World) : Calls Tryz.prog 155 #[.int .i64 108] w fun e w' => e = .returned (.int .u8 (48 + sdig 108)) ∧ w' = w := by
  go_enter Tryz.func155, Tryz.ntmps155
  go_wp2
  go_ret
  exact ⟨rfl, rfl⟩
theorem sound_109 (w : World) : Calls Tryz.prog 118 #[.int .i64 109] w fun e w' => e = .returned (.int .i64 (sdig 109)) ∧ w' = w := by
  go_enter Tryz.func118, Tryz.ntmps118
  go_wp2
  go_ret
  exact ⟨rfl, rfl⟩
theorem digit_109 (w : World) : Calls Tryz.prog 155 #[.int .i64 109] w fun e w' => e = .returned (.int .u8 (48 + sdig 109)) ∧ w' = w := by
  go_enter Tryz.func155, Tryz.ntmps155
  go_wp2
  go_ret
  exact ⟨rfl, rfl⟩
theorem sound_110 (w : World) : Calls Tryz.prog 118 #[.int .i64 110] w fun e w' => e = .returned (.int .i64 (sdig 110)) ∧ w' = w := by
  go_enter Tryz.func118, Tryz.ntmps118
  go_wp2
  go_ret
  exact ⟨rfl, rfl⟩
theorem digit_110 (w : World) : Calls Tryz.prog 155 #[.int .i64 110] w fun e w' => e = .returned (.int .u8 (48 + sdig 110)) ∧ w' = w := by
  go_enter Tryz.func155, Tryz.ntmps155
  go_wp2
  go_ret
  exact ⟨rfl, rfl⟩
theorem sound_111 (w : World) : Calls Tryz.prog 118 #[.int .i64 111] w fun e w' => e = .returned (.int .i64 (sdig 111)) ∧ w' = w := by
  go_enter Tryz.func118, Tryz.ntmps118
  go_wp2
  go_ret
  exact ⟨rfl, rfl⟩
theorem digit_111 (w : World) : Calls Tryz.prog 155 #[.int .i64 111] w fun e w' => e = .returned (.int .u8 (48 + sdig 111)) ∧ w' = w := by
  go_enter Tryz.func155, Tryz.ntmps155
  go_wp2
  go_ret
  exact ⟨rfl, rfl⟩
theorem sound_112 (w : World) : Calls Tryz.prog 118 #[.int .i64 112] w fun e w' => e = .returned (.int .i64 (sdig 112)) ∧ w' = w := by
  go_enter Tryz.func118, Tryz.ntmps118
  go_wp2
  go_ret
  exact ⟨rfl, rfl⟩
theorem digit_112 (w : World) : Calls Tryz.prog 155 #[.int .i64 112] w fun e w' => e = .returned (.int .u8 (48 + sdig 112)) ∧ w' = w := by
  go_enter Tryz.func155, Tryz.ntmps155
  go_wp2
  go_ret
  exact ⟨rfl, rfl⟩
theorem sound_113 (w : World) : Calls Tryz.prog 118 #[.int .i64 113] w fun e w' => e = .returned (.int .i64 (sdig 113)) ∧ w' = w := by
  go_enter Tryz.func118, Tryz.ntmps118
  go_wp2
  go_ret
  exact ⟨rfl, rfl⟩
theorem digit_113 (w : World) : Calls Tryz.prog 155 #[.int .i64 113] w fun e w' => e = .returned (.int .u8 (48 + sdig 113)) ∧ w' = w := by
  go_enter Tryz.func155, Tryz.ntmps155
  go_wp2
  go_ret
  exact ⟨rfl, rfl⟩
theorem sound_114 (w : World) : Calls Tryz.prog 118 #[.int .i64 114] w fun e w' => e = .returned (.int .i64 (sdig 114)) ∧ w' = w := by
  go_enter Tryz.func118, Tryz.ntmps118
  go_wp2
  go_ret
  exact ⟨rfl, rfl⟩
theorem digit_114 (w : World) : Calls Tryz.prog 155 #[.int .i64 114] w fun e w' => e = .returned (.int .u8 (48 + sdig 114)) ∧ w' = w := by
  go_enter Tryz.func155, Tryz.ntmps155
  go_wp2
  go_ret
  exact ⟨rfl, rfl⟩
theorem sound_115 (w : World) : Calls Tryz.prog 118 #[.int .i64 115] w fun e w' => e = .returned (.int .i64 (sdig 115)) ∧ w' = w := by
  go_enter Tryz.func118, Tryz.ntmps118
  go_wp2
  go_ret
  exact ⟨rfl, rfl⟩
theorem digit_115 (w : World) : Calls Tryz.prog 155 #[.int .i64 115] w fun e w' => e = .returned (.int .u8 (48 + sdig 115)) ∧ w' = w := by
  go_enter Tryz.func155, Tryz.ntmps155
  go_wp2
  go_ret
  exact ⟨rfl, rfl⟩
theorem sound_116 (w : World) : Calls Tryz.prog 118 #[.int .i64 116] w fun e w' => e = .returned (.int .i64 (sdig 116)) ∧ w' = w := by
  go_enter Tryz.func118, Tryz.ntmps118
  go_wp2
  go_ret
  exact ⟨rfl, rfl⟩
theorem digit_116 (w : World) : Calls Tryz.prog 155 #[.int .i64 116] w fun e w' => e = .returned (.int .u8 (48 + sdig 116)) ∧ w' = w := by
  go_enter Tryz.func155, Tryz.ntmps155
  go_wp2
  go_ret
  exact ⟨rfl, rfl⟩
theorem sound_117 (w : World) : Calls Tryz.prog 118 #[.int .i64 117] w fun e w' => e = .returned (.int .i64 (sdig 117)) ∧ w' = w := by
  go_enter Tryz.func118, Tryz.ntmps118
  go_wp2
  go_ret
  exact ⟨rfl, rfl⟩
theorem digit_117 (w : World) : Calls Tryz.prog 155 #[.int .i64 117] w fun e w' => e = .returned (.int .u8 (48 + sdig 117)) ∧ w' = w := by
  go_enter Tryz.func155, Tryz.ntmps155
  go_wp2
  go_ret
  exact ⟨rfl, rfl⟩
theorem sound_118 (w : World) : Calls Tryz.prog 118 #[.int .i64 118] w fun e w' => e = .returned (.int .i64 (sdig 118)) ∧ w' = w := by
  go_enter Tryz.func118, Tryz.ntmps118
  go_wp2
  go_ret
  exact ⟨rfl, rfl⟩
theorem digit_118 (w : World) : Calls Tryz.prog 155 #[.int .i64 118] w fun e w' => e = .returned (.int .u8 (48 + sdig 118)) ∧ w' = w := by
  go_enter Tryz.func155, Tryz.ntmps155
  go_wp2
  go_ret
  exact ⟨rfl, rfl⟩
theorem sound_119 (w : World) : Calls Tryz.prog 118 #[.int .i64 119] w fun e w' => e = .returned (.int .i64 (sdig 119)) ∧ w' = w := by
  go_enter Tryz.func118, Tryz.ntmps118
  go_wp2
  go_ret
  exact ⟨rfl, rfl⟩
theorem digit_119 (w : World) : Calls Tryz.prog 155 #[.int .i64 119] w fun e w' => e = .returned (.int .u8 (48 + sdig 119)) ∧ w' = w := by
  go_enter Tryz.func155, Tryz.ntmps155
  go_wp2
  go_ret
  exact ⟨rfl, rfl⟩
theorem sound_120 (w : World) : Calls Tryz.prog 118 #[.int .i64 120] w fun e w' => e = .returned (.int .i64 (sdig 120)) ∧ w' = w := by
  go_enter Tryz.func118, Tryz.ntmps118
  go_wp2
  go_ret
  exact ⟨rfl, rfl⟩
theorem digit_120 (w : World) : Calls Tryz.prog 155 #[.int .i64 120] w fun e w' => e = .returned (.int .u8 (48 + sdig 120)) ∧ w' = w := by
  go_enter Tryz.func155, Tryz.ntmps155
  go_wp2
  go_ret
  exact ⟨rfl, rfl⟩
theorem sound_121 (w : World) : Calls Tryz.prog 118 #[.int .i64 121] w fun e w' => e = .returned (.int .i64 (sdig 121)) ∧ w' = w := by
  go_enter Tryz.func118, Tryz.ntmps118
  go_wp2
  go_ret
  exact ⟨rfl, rfl⟩
theorem digit_121 (w : World) : Calls Tryz.prog 155 #[.int .i64 121] w fun e w' => e = .returned (.int .u8 (48 + sdig 121)) ∧ w' = w := by
  go_enter Tryz.func155, Tryz.ntmps155
  go_wp2
  go_ret
  exact ⟨rfl, rfl⟩
theorem sound_122 (w : World) : Calls Tryz.prog 118 #[.int .i64 122] w fun e w' => e = .returned (.int .i64 (sdig 122)) ∧ w' = w := by
  go_enter Tryz.func118, Tryz.ntmps118
  go_wp2
  go_ret
  exact ⟨rfl, rfl⟩
theorem digit_122 (w : World) : Calls Tryz.prog 155 #[.int .i64 122] w fun e w' => e = .returned (.int .u8 (48 + sdig 122)) ∧ w' = w := by
  go_enter Tryz.func155, Tryz.ntmps155
  go_wp2
  go_ret
  exact ⟨rfl, rfl⟩
theorem sound_any (r : Int) (w : World) (h1 : 97 ≤ r) (h2 : r ≤ 122) : Calls Tryz.prog 118 #[.int .i64 r] w fun e w' => e = .returned (.int .i64 (sdig r)) ∧ w' = w := by
  by_cases c0 : r = 97
  · subst c0; exact sound_97 w
  by_cases c1 : r = 98
  · subst c1; exact sound_98 w
  by_cases c2 : r = 99
  · subst c2; exact sound_99 w
  by_cases c3 : r = 100
  · subst c3; exact sound_100 w
  by_cases c4 : r = 101
  · subst c4; exact sound_101 w
  by_cases c5 : r = 102
  · subst c5; exact sound_102 w
  by_cases c6 : r = 103
  · subst c6; exact sound_103 w
  by_cases c7 : r = 104
  · subst c7; exact sound_104 w
  by_cases c8 : r = 105
  · subst c8; exact sound_105 w
  by_cases c9 : r = 106
  · subst c9; exact sound_106 w
  by_cases c10 : r = 107
  · subst c10; exact sound_107 w
  by_cases c11 : r = 108
  · subst c11; exact sound_108 w
  by_cases c12 : r = 109
  · subst c12; exact sound_109 w
  by_cases c13 : r = 110
  · subst c13; exact sound_110 w
  by_cases c14 : r = 111
  · subst c14; exact sound_111 w
  by_cases c15 : r = 112
  · subst c15; exact sound_112 w
  by_cases c16 : r = 113
  · subst c16; exact sound_113 w
  by_cases c17 : r = 114
  · subst c17; exact sound_114 w
  by_cases c18 : r = 115
  · subst c18; exact sound_115 w
  by_cases c19 : r = 116
  · subst c19; exact sound_116 w
  by_cases c20 : r = 117
  · subst c20; exact sound_117 w
  by_cases c21 : r = 118
  · subst c21; exact sound_118 w
  by_cases c22 : r = 119
  · subst c22; exact sound_119 w
  by_cases c23 : r = 120
  · subst c23; exact sound_120 w
  by_cases c24 : r = 121
  · subst c24; exact sound_121 w
  by_cases c25 : r = 122
  · subst c25; exact sound_122 w
  omega
theorem digit_any (r : Int) (w : World) (h1 : 97 ≤ r) (h2 : r ≤ 122) : Calls Tryz.prog 155 #[.int .i64 r] w fun e w' => e = .returned (.int .u8 (48 + sdig r)) ∧ w' = w := by
  by_cases c0 : r = 97
  · subst c0; exact digit_97 w
  by_cases c1 : r = 98
  · subst c1; exact digit_98 w
  by_cases c2 : r = 99
  · subst c2; exact digit_99 w
  by_cases c3 : r = 100
  · subst c3; exact digit_100 w
  by_cases c4 : r = 101
  · subst c4; exact digit_101 w
  by_cases c5 : r = 102
  · subst c5; exact digit_102 w
  by_cases c6 : r = 103
  · subst c6; exact digit_103 w
  by_cases c7 : r = 104
  · subst c7; exact digit_104 w
  by_cases c8 : r = 105
  · subst c8; exact digit_105 w
  by_cases c9 : r = 106
  · subst c9; exact digit_106 w
  by_cases c10 : r = 107
  · subst c10; exact digit_107 w
  by_cases c11 : r = 108
  · subst c11; exact digit_108 w
  by_cases c12 : r = 109
  · subst c12; exact digit_109 w
  by_cases c13 : r = 110
  · subst c13; exact digit_110 w
  by_cases c14 : r = 111
  · subst c14; exact digit_111 w
  by_cases c15 : r = 112
  · subst c15; exact digit_112 w
  by_cases c16 : r = 113
  · subst c16; exact digit_113 w
  by_cases c17 : r = 114
  · subst c17; exact digit_114 w
  by_cases c18 : r = 115
  · subst c18; exact digit_115 w
  by_cases c19 : r = 116
  · subst c19; exact digit_116 w
  by_cases c20 : r = 117
  · subst c20; exact digit_117 w
  by_cases c21 : r = 118
  · subst c21; exact digit_118 w
  by_cases c22 : r = 119
  · subst c22; exact digit_119 w
  by_cases c23 : r = 120
  · subst c23; exact digit_120 w
  by_cases c24 : r = 121
  · subst c24; exact digit_121 w
  by_cases c25 : r = 122
  · subst c25; exact digit_122 w
  omega
end Go.Proofs.YtionicjnoogpjaaGreatDoor

namespace Go.Proofs.YtionicjnoogpjaaGreatDoor
open Go

theorem dec_none (s : ByteArray) (h : ¬ decCode s = 0) : decList s = [] := by
  unfold decCode at h
  unfold decList decL
  by_cases h1 : 65536 < s.size
  · rw [if_pos h1]
  · rw [if_neg h1] at h ⊢
    by_cases h2 : validB s = true
    · rw [if_pos h2] at h; exact absurd rfl h
    · rw [if_neg h2]
theorem dec_some (s : ByteArray) (h : decCode s = 0) : decList s = runes s ∧ s.size ≤ 65536 := by
  unfold decCode at h
  unfold decList decL
  by_cases h1 : 65536 < s.size
  · rw [if_pos h1] at h; omega
  · rw [if_neg h1] at h ⊢
    by_cases h2 : validB s = true
    · rw [if_pos h2]; exact ⟨rfl, by omega⟩
    · rw [if_neg h2] at h; omega
def pstep (st : List UInt8 × Int) (r : Int) : List UInt8 × Int :=
  if r < 97 ∨ 122 < r then st
  else if st.1 = [] then ([UInt8.ofNat r.toNat], sdig r)
  else if r = 104 ∨ r = 119 then st
  else if sdig r ≠ 0 ∧ sdig r ≠ st.2 then (st.1 ++ [UInt8.ofNat (48 + sdig r).toNat], sdig r)
  else (st.1, sdig r)
def pst (l : List Int) : List UInt8 × Int := l.foldl (fun st r => pstep st (foldZ r)) ([], 0)
def phoneL (l : List Int) : List UInt8 := if (pst l).1 = [] then [] else ((pst l).1 ++ [48, 48, 48]).take 4
theorem pst_snoc (l : List Int) (r : Int) : pst (l ++ [r]) = pstep (pst l) (foldZ r) := by
  unfold pst
  rw [List.foldl_append]
  rfl
theorem pstep_len (st : List UInt8 × Int) (r : Int) : (pstep st r).1.length ≤ st.1.length + 1 := by
  unfold pstep
  repeat' split
  all_goals simp
theorem pst_len (l : List Int) : (pst l).1.length ≤ l.length := by
  have key : ∀ (l : List Int) (st : List UInt8 × Int), (l.foldl (fun st r => pstep st (foldZ r)) st).1.length ≤ st.1.length + l.length := by
    intro l
    induction l with
    | nil => intro st; simp
    | cons a t ih =>
      intro st
      have h1 := ih (pstep st (foldZ a))
      have h2 := pstep_len st (foldZ a)
      simp only [List.foldl_cons, List.length_cons] at *
      omega
  have := key l ([], 0)
  simpa [pst] using this
theorem pstep_last (st : List UInt8 × Int) (r : Int) (h : 0 ≤ st.2 ∧ st.2 ≤ 6) : 0 ≤ (pstep st r).2 ∧ (pstep st r).2 ≤ 6 := by
  have := sdig_bd r
  unfold pstep
  repeat' split
  all_goals (first | omega | (simp only; omega))
theorem pst_last (l : List Int) : 0 ≤ (pst l).2 ∧ (pst l).2 ≤ 6 := by
  have key : ∀ (l : List Int) (st : List UInt8 × Int), (0 ≤ st.2 ∧ st.2 ≤ 6) → 0 ≤ (l.foldl (fun st r => pstep st (foldZ r)) st).2 ∧ (l.foldl (fun st r => pstep st (foldZ r)) st).2 ≤ 6 := by
    intro l
    induction l with
    | nil => intro st h; exact h
    | cons a t ih => intro st h; exact ih _ (pstep_last st _ h)
  exact key l _ (by decide)
/-- The state as it stands: the sound so far, the digit of the letter that counted last. -/
def PAt (l : List Int) (k : Nat) (q : List UInt8) (d : Int) : Prop := pst (l.take k) = (q, d)
theorem PAt.zero (l : List Int) : PAt l 0 [] 0 := rfl
theorem PAt.step {l : List Int} {k : Nat} {q : List UInt8} {d : Int} (h : PAt l k q d) (hk : k < l.length) {q' : List UInt8} {d' : Int} (he : pstep (q, d) (foldZ (l.getD k 0)) = (q', d')) : PAt l (k + 1) q' d' := by
  unfold PAt at *
  rw [take_snoc l k hk, pst_snoc, h]
  exact he
theorem PAt.len {l : List Int} {k : Nat} {q : List UInt8} {d : Int} (h : PAt l k q d) : q.length ≤ k := by
  have := pst_len (l.take k)
  rw [h, List.length_take] at this
  simp only at this
  omega
theorem PAt.last {l : List Int} {k : Nat} {q : List UInt8} {d : Int} (h : PAt l k q d) : 0 ≤ d ∧ d ≤ 6 := by
  have := pst_last (l.take k)
  rw [h] at this
  exact this
theorem PAt.done {l : List Int} {k : Nat} {q : List UInt8} {d : Int} (h : PAt l k q d) (hk : ¬ k < l.length) : phoneL l = if q = [] then [] else (q ++ [48, 48, 48]).take 4 := by
  unfold PAt at h
  rw [List.take_of_length_le (by omega)] at h
  rw [phoneL, h]
theorem ps_out (q : List UInt8) (d r : Int) (h : r < 97 ∨ 122 < r) : pstep (q, d) r = (q, d) := by rw [pstep, if_pos h]
theorem ps_first (d r : Int) (h1 : 97 ≤ r) (h2 : r ≤ 122) : pstep ([], d) r = ([UInt8.ofNat r.toNat], sdig r) := by rw [pstep, if_neg (by omega), if_pos rfl]
theorem ps_mute (q : List UInt8) (d r : Int) (h1 : 97 ≤ r) (h2 : r ≤ 122) (hq : q ≠ []) (h : r = 104 ∨ r = 119) : pstep (q, d) r = (q, d) := by rw [pstep, if_neg (by omega), if_neg hq, if_pos h]
theorem ps_new (q : List UInt8) (d r : Int) (h1 : 97 ≤ r) (h2 : r ≤ 122) (hq : q ≠ []) (h : ¬ (r = 104 ∨ r = 119)) (hn : sdig r ≠ 0) (hd : sdig r ≠ d) : pstep (q, d) r = (q ++ [UInt8.ofNat (48 + sdig r).toNat], sdig r) := by
  rw [pstep, if_neg (by omega), if_neg hq, if_neg h, if_pos ⟨hn, hd⟩]
theorem ps_same (q : List UInt8) (d r : Int) (h1 : 97 ≤ r) (h2 : r ≤ 122) (hq : q ≠ []) (h : ¬ (r = 104 ∨ r = 119)) (hn : sdig r = 0 ∨ sdig r = d) : pstep (q, d) r = (q, sdig r) := by
  rw [pstep, if_neg (by omega), if_neg hq, if_neg h, if_neg (by simp only; omega)]
theorem byte_back (r : Int) (h0 : 0 ≤ r) (h1 : r ≤ 255) : ((UInt8.ofNat r.toNat).toNat : Int) = r := by
  rw [UInt8.toNat_ofNat']
  omega
theorem drop_consP {l : List Int} {k : Nat} {a : Int} {t : List Int} (h : l.drop k = a :: t) : l.drop (k + 1) = t ∧ k < l.length ∧ l.getD k 0 = a := by
  have hk : k < l.length := by
    by_cases hk : k < l.length
    · exact hk
    · rw [List.drop_of_length_le (by omega)] at h; cases h
  rw [List.drop_eq_getElem_cons hk] at h
  injection h with h1 h2
  exact ⟨h2, hk, by simp [hk, h1]⟩
end Go.Proofs.YtionicjnoogpjaaGreatDoor

namespace Go.Proofs.YtionicjnoogpjaaGreatDoor
open Go
def foldR (s : ByteArray) : List Int := (runes s).map foldZ
def foldText (s : ByteArray) : List UInt8 := if decCode s = 0 then encs (foldR s) else []
theorem dec_ok (s : ByteArray) (h : decCode s = 0) : validB s = true ∧ s.size ≤ 65536 := by
  unfold decCode at h
  by_cases h1 : 65536 < s.size
  · rw [if_pos h1] at h; omega
  · rw [if_neg h1] at h
    by_cases h2 : validB s = true
    · exact ⟨h2, by omega⟩
    · rw [if_neg h2] at h; omega
theorem foldR_chr (s : ByteArray) (hv : validB s = true) : ∀ r ∈ foldR s, chr r = true := by
  intro r hr
  simp only [foldR, List.mem_map] at hr
  obtain ⟨x, hx, rfl⟩ := hr
  exact (foldZ_bd x (runes_chr s hv x hx)).2.2
end Go.Proofs.YtionicjnoogpjaaGreatDoor

namespace Go.Proofs.YtionicjnoogpjaaGreatDoor
open Go
set_option linter.unusedVariables false

/-- Whether a text stands among others. -/
def hasT (l : List (List UInt8)) (t : List UInt8) : Bool := l.any fun x => x == t
theorem hasT_snoc (l : List (List UInt8)) (k : Nat) (t : List UInt8) (h : k < l.length) : hasT (l.take (k + 1)) t = (hasT (l.take k) t || (l.getD k [] == t)) := by
  rw [hasT, List.take_succ_eq_append_getElem h, List.any_append, List.getD_eq_getElem?_getD, List.getElem?_eq_getElem h]
  simp only [List.any_cons, List.any_nil, Bool.or_false, Option.getD_some]
  rfl
theorem hasT_yes {l : List (List UInt8)} {k : Nat} {t : List UInt8} (h : k < l.length) (he : (l.getD k [] == t) = true) : hasT l t = true := by
  rw [hasT, List.any_eq_true]
  refine ⟨l.getD k [], ?_, he⟩
  rw [List.getD_eq_getElem?_getD, List.getElem?_eq_getElem h, Option.getD_some]
  exact List.getElem_mem _
def synsOf (syns : List (List UInt8 × List UInt8)) (t : List UInt8) : List (List UInt8) := (syns.filter fun y => y.1 == t).map fun y => y.2
def rawOf (syns : List (List UInt8 × List UInt8)) (t : List UInt8) : List (List UInt8) := t :: synsOf syns t
theorem synsOf_snoc (l : List (List UInt8 × List UInt8)) (k : Nat) (t : List UInt8) (h : k < l.length) : synsOf (l.take (k + 1)) t = if (l.getD k ([], [])).1 == t then synsOf (l.take k) t ++ [(l.getD k ([], [])).2] else synsOf (l.take k) t := by
  rw [synsOf, List.take_succ_eq_append_getElem h, List.filter_append, List.map_append, List.getD_eq_getElem?_getD, List.getElem?_eq_getElem h, Option.getD_some]
  by_cases hc : (l[k].1 == t) = true
  · simp [hc, synsOf]
  · have hc' : (l[k].1 == t) = false := by simpa using hc
    simp [hc', synsOf]
theorem synsOf_len (l : List (List UInt8 × List UInt8)) (t : List UInt8) : (synsOf l t).length ≤ l.length := by
  rw [synsOf, List.length_map]; exact List.length_filter_le _ _
def stemIf (b : Bool) (x : List UInt8) : List UInt8 := if b = true then stemW x else x
def phoneT (x : List UInt8) : List UInt8 := phoneL (decList (bs x))
def phoneIf (b : Bool) (x : List UInt8) : List UInt8 := if (b && !(phoneT x == [])) = true then phoneT x else x
def listOf (lo hi : Int) (x : List UInt8) : List (List UInt8) := if 0 < lo then gList (bs x) lo hi else [x]
def codeOf (lo hi : Int) (x : List UInt8) : Int := if 0 < lo then gCode (bs x) lo hi else 0
def addOne (o : List (List UInt8)) (t : List UInt8) : List (List UInt8) := if (decide (t.length ≤ 64) && !hasT o t) = true then o ++ [t] else o
def addT (o : List (List UInt8)) (l : List (List UInt8)) : List (List UInt8) := l.foldl addOne o
theorem addT_snoc (o l : List (List UInt8)) (k : Nat) (h : k < l.length) : addT o (l.take (k + 1)) = addOne (addT o (l.take k)) (l.getD k []) := by
  rw [addT, List.take_succ_eq_append_getElem h, List.foldl_append, List.getD_eq_getElem?_getD, List.getElem?_eq_getElem h]
  rfl
theorem addOne_len (o : List (List UInt8)) (t : List UInt8) : (addOne o t).length ≤ o.length + 1 := by
  rw [addOne]; split <;> simp
theorem addT_len : ∀ (l o : List (List UInt8)), (addT o l).length ≤ o.length + l.length
  | [], o => by simp [addT]
  | t :: l, o => by
    have h1 := addT_len l (addOne o t)
    have h2 := addOne_len o t
    have e : addT o (t :: l) = addT (addOne o t) l := rfl
    rw [e, List.length_cons]
    omega
/-- What comes of the texts that stand for a word: the terms, a code. -/
def formsGo (st ph : Bool) (lo hi : Int) : List (List UInt8) → List (List UInt8) → List (List UInt8) × Int
  | o, [] => (o, 0)
  | o, x :: xs => if codeOf lo hi (phoneIf ph (stemIf st x)) = 0 then formsGo st ph lo hi (addT o (listOf lo hi (phoneIf ph (stemIf st x)))) xs else ([], codeOf lo hi (phoneIf ph (stemIf st x)))
def foldL (t : List UInt8) : List UInt8 := encs (foldR (bs t))
def foldIf (b : Bool) (t : List UInt8) : List UInt8 := if b = true then foldL t else t
def formsOf (fo st ph : Bool) (stops : List (List UInt8)) (syns : List (List UInt8 × List UInt8)) (lo hi : Int) (t : List UInt8) : List (List UInt8) × Int :=
  if hasT stops (foldIf fo t) = true then ([], 0) else formsGo st ph lo hi [] (rawOf syns (foldIf fo t))
theorem formsGo_drop (st ph : Bool) (lo hi : Int) (o l : List (List UInt8)) (k : Nat) (h : k < l.length) : formsGo st ph lo hi o (l.drop k) = if codeOf lo hi (phoneIf ph (stemIf st (l.getD k []))) = 0 then formsGo st ph lo hi (addT o (listOf lo hi (phoneIf ph (stemIf st (l.getD k []))))) (l.drop (k + 1)) else ([], codeOf lo hi (phoneIf ph (stemIf st (l.getD k [])))) := by
  rw [List.drop_eq_getElem_cons h, formsGo]
  simp [h]
end Go.Proofs.YtionicjnoogpjaaGreatDoor

namespace Go.Proofs.YtionicjnoogpjaaGreatDoor
open Go
end Go.Proofs.YtionicjnoogpjaaGreatDoor
