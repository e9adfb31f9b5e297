import Derived.Test.YteedakkclppipajDoorProg
import Derived.Test.YteedakkclppipajDoorFoldP
import Derived.Test.YteedakkclppipajDoorStemP
import Derived.Test.YteedakkclppipajDoorAid
import Derived.WalkLawsBesides
namespace Go.Proofs.YteedakkclppipajDoor
open Go Go.RowKit
set_option linter.unusedVariables false

def sdig (r : Int) : Int :=
  if r = 98 ∨ r = 102 ∨ r = 112 ∨ r = 118 then 1
  else if r = 99 ∨ r = 103 ∨ r = 106 ∨ r = 107 ∨ r = 113 ∨ r = 115 ∨ r = 120 ∨ r = 122 then 2
  else if r = 100 ∨ r = 116 then 3 else if r = 108 then 4 else if r = 109 ∨ r = 110 then 5 else if r = 114 then 6 else 0
theorem sdig_bd (r : Int) : 0 ≤ sdig r ∧ sdig r ≤ 6 := by
  unfold sdig
  repeat' split
  all_goals decide
theorem sound_97 (w : World) : Calls Tryd.prog 20 #[.int .i64 97] w fun e w' => e = .returned (.int .i64 (sdig 97)) ∧ w' = w := by
  go_enter Tryd.func20, Tryd.ntmps20
  go_wp2
  go_ret
  exact ⟨rfl, rfl⟩
theorem digit_97 (w : World) : Calls Tryd.prog 24 #[.int .i64 97] w fun e w' => e = .returned (.int .u8 (48 + sdig 97)) ∧ w' = w := by
  go_enter Tryd.func24, Tryd.ntmps24
  go_wp2
  go_ret
  exact ⟨rfl, rfl⟩
theorem sound_98 (w : World) : Calls Tryd.prog 20 #[.int .i64 98] w fun e w' => e = .returned (.int .i64 (sdig 98)) ∧ w' = w := by
  go_enter Tryd.func20, Tryd.ntmps20
  go_wp2
  go_ret
  exact ⟨rfl, rfl⟩
theorem digit_98 (w : World) : Calls Tryd.prog 24 #[.int .i64 98] w fun e w' => e = .returned (.int .u8 (48 + sdig 98)) ∧ w' = w := by
  go_enter Tryd.func24, Tryd.ntmps24
  go_wp2
  go_ret
  exact ⟨rfl, rfl⟩
theorem sound_99 (w : World) : Calls Tryd.prog 20 #[.int .i64 99] w fun e w' => e = .returned (.int .i64 (sdig 99)) ∧ w' = w := by
  go_enter Tryd.func20, Tryd.ntmps20
  go_wp2
  go_ret
  exact ⟨rfl, rfl⟩
theorem digit_99 (w : World) : Calls Tryd.prog 24 #[.int .i64 99] w fun e w' => e = .returned (.int .u8 (48 + sdig 99)) ∧ w' = w := by
  go_enter Tryd.func24, Tryd.ntmps24
  go_wp2
  go_ret
  exact ⟨rfl, rfl⟩
theorem sound_100 (w : World) : Calls Tryd.prog 20 #[.int .i64 100] w fun e w' => e = .returned (.int .i64 (sdig 100)) ∧ w' = w := by
  go_enter Tryd.func20, Tryd.ntmps20
  go_wp2
  go_ret
  exact ⟨rfl, rfl⟩
theorem digit_100 (w : World) : Calls Tryd.prog 24 #[.int .i64 100] w fun e w' => e = .returned (.int .u8 (48 + sdig 100)) ∧ w' = w := by
  go_enter Tryd.func24, Tryd.ntmps24
  go_wp2
  go_ret
  exact ⟨rfl, rfl⟩
theorem sound_101 (w : World) : Calls Tryd.prog 20 #[.int .i64 101] w fun e w' => e = .returned (.int .i64 (sdig 101)) ∧ w' = w := by
  go_enter Tryd.func20, Tryd.ntmps20
  go_wp2
  go_ret
  exact ⟨rfl, rfl⟩
theorem digit_101 (w : World) : Calls Tryd.prog 24 #[.int .i64 101] w fun e w' => e = .returned (.int .u8 (48 + sdig 101)) ∧ w' = w := by
  go_enter Tryd.func24, Tryd.ntmps24
  go_wp2
  go_ret
  exact ⟨rfl, rfl⟩
theorem sound_102 (w : World) : Calls Tryd.prog 20 #[.int .i64 102] w fun e w' => e = .returned (.int .i64 (sdig 102)) ∧ w' = w := by
  go_enter Tryd.func20, Tryd.ntmps20
  go_wp2
  go_ret
  exact ⟨rfl, rfl⟩
theorem digit_102 (w : World) : Calls Tryd.prog 24 #[.int .i64 102] w fun e w' => e = .returned (.int .u8 (48 + sdig 102)) ∧ w' = w := by
  go_enter Tryd.func24, Tryd.ntmps24
  go_wp2
  go_ret
  exact ⟨rfl, rfl⟩
theorem sound_103 (w : World) : Calls Tryd.prog 20 #[.int .i64 103] w fun e w' => e = .returned (.int .i64 (sdig 103)) ∧ w' = w := by
  go_enter Tryd.func20, Tryd.ntmps20
  go_wp2
  go_ret
  exact ⟨rfl, rfl⟩
theorem digit_103 (w : World) : Calls Tryd.prog 24 #[.int .i64 103] w fun e w' => e = .returned (.int .u8 (48 + sdig 103)) ∧ w' = w := by
  go_enter Tryd.func24, Tryd.ntmps24
  go_wp2
  go_ret
  exact ⟨rfl, rfl⟩
theorem sound_104 (w : World) : Calls Tryd.prog 20 #[.int .i64 104] w fun e w' => e = .returned (.int .i64 (sdig 104)) ∧ w' = w := by
  go_enter Tryd.func20, Tryd.ntmps20
  go_wp2
  go_ret
  exact ⟨rfl, rfl⟩
theorem digit_104 (w : World) : Calls Tryd.prog 24 #[.int .i64 104] w fun e w' => e = .returned (.int .u8 (48 + sdig 104)) ∧ w' = w := by
  go_enter Tryd.func24, Tryd.ntmps24
  go_wp2
  go_ret
  exact ⟨rfl, rfl⟩
theorem sound_105 (w : World) : Calls Tryd.prog 20 #[.int .i64 105] w fun e w' => e = .returned (.int .i64 (sdig 105)) ∧ w' = w := by
  go_enter Tryd.func20, Tryd.ntmps20
  go_wp2
  go_ret
  exact ⟨rfl, rfl⟩
theorem digit_105 (w : World) : Calls Tryd.prog 24 #[.int .i64 105] w fun e w' => e = .returned (.int .u8 (48 + sdig 105)) ∧ w' = w := by
  go_enter Tryd.func24, Tryd.ntmps24
  go_wp2
  go_ret
  exact ⟨rfl, rfl⟩
theorem sound_106 (w : World) : Calls Tryd.prog 20 #[.int .i64 106] w fun e w' => e = .returned (.int .i64 (sdig 106)) ∧ w' = w := by
  go_enter Tryd.func20, Tryd.ntmps20
  go_wp2
  go_ret
  exact ⟨rfl, rfl⟩
theorem digit_106 (w : World) : Calls Tryd.prog 24 #[.int .i64 106] w fun e w' => e = .returned (.int .u8 (48 + sdig 106)) ∧ w' = w := by
  go_enter Tryd.func24, Tryd.ntmps24
  go_wp2
  go_ret
  exact ⟨rfl, rfl⟩
theorem sound_107 (w : World) : Calls Tryd.prog 20 #[.int .i64 107] w fun e w' => e = .returned (.int .i64 (sdig 107)) ∧ w' = w := by
  go_enter Tryd.func20, Tryd.ntmps20
  go_wp2
  go_ret
  exact ⟨rfl, rfl⟩
theorem digit_107 (w : World) : Calls Tryd.prog 24 #[.int .i64 107] w fun e w' => e = .returned (.int .u8 (48 + sdig 107)) ∧ w' = w := by
  go_enter Tryd.func24, Tryd.ntmps24
  go_wp2
  go_ret
  exact ⟨rfl, rfl⟩
theorem sound_108 (w : World) : Calls Tryd.prog 20 #[.int .i64 108] w fun e w' => e = .returned (.int .i64 (sdig 108)) ∧ w' = w := by
  go_enter Tryd.func20, Tryd.ntmps20
  go_wp2
  go_ret
  exact ⟨rfl, rfl⟩
theorem digit_108 (w : World) : Calls Tryd.prog 24 #[.int .i64 108] w fun e w' => e = .returned (.int .u8 (48 + sdig 108)) ∧ w' = w := by
  go_enter Tryd.func24, Tryd.ntmps24
  go_wp2
  go_ret
  exact ⟨rfl, rfl⟩
theorem sound_109 (w : World) : Calls Tryd.prog 20 #[.int .i64 109] w fun e w' => e = .returned (.int .i64 (sdig 109)) ∧ w' = w := by
  go_enter Tryd.func20, Tryd.ntmps20
  go_wp2
  go_ret
  exact ⟨rfl, rfl⟩
theorem digit_109 (w : World) : Calls Tryd.prog 24 #[.int .i64 109] w fun e w' => e = .returned (.int .u8 (48 + sdig 109)) ∧ w' = w := by
  go_enter Tryd.func24, Tryd.ntmps24
  go_wp2
  go_ret
  exact ⟨rfl, rfl⟩
theorem sound_110 (w : World) : Calls Tryd.prog 20 #[.int .i64 110] w fun e w' => e = .returned (.int .i64 (sdig 110)) ∧ w' = w := by
  go_enter Tryd.func20, Tryd.ntmps20
  go_wp2
  go_ret
  exact ⟨rfl, rfl⟩
theorem digit_110 (w : World) : Calls Tryd.prog 24 #[.int .i64 110] w fun e w' => e = .returned (.int .u8 (48 + sdig 110)) ∧ w' = w := by
  go_enter Tryd.func24, Tryd.ntmps24
  go_wp2
  go_ret
  exact ⟨rfl, rfl⟩
theorem sound_111 (w : World) : Calls Tryd.prog 20 #[.int .i64 111] w fun e w' => e = .returned (.int .i64 (sdig 111)) ∧ w' = w := by
  go_enter Tryd.func20, Tryd.ntmps20
  go_wp2
  go_ret
  exact ⟨rfl, rfl⟩
theorem digit_111 (w : World) : Calls Tryd.prog 24 #[.int .i64 111] w fun e w' => e = .returned (.int .u8 (48 + sdig 111)) ∧ w' = w := by
  go_enter Tryd.func24, Tryd.ntmps24
  go_wp2
  go_ret
  exact ⟨rfl, rfl⟩
theorem sound_112 (w : World) : Calls Tryd.prog 20 #[.int .i64 112] w fun e w' => e = .returned (.int .i64 (sdig 112)) ∧ w' = w := by
  go_enter Tryd.func20, Tryd.ntmps20
  go_wp2
  go_ret
  exact ⟨rfl, rfl⟩
theorem digit_112 (w : World) : Calls Tryd.prog 24 #[.int .i64 112] w fun e w' => e = .returned (.int .u8 (48 + sdig 112)) ∧ w' = w := by
  go_enter Tryd.func24, Tryd.ntmps24
  go_wp2
  go_ret
  exact ⟨rfl, rfl⟩
theorem sound_113 (w : World) : Calls Tryd.prog 20 #[.int .i64 113] w fun e w' => e = .returned (.int .i64 (sdig 113)) ∧ w' = w := by
  go_enter Tryd.func20, Tryd.ntmps20
  go_wp2
  go_ret
  exact ⟨rfl, rfl⟩
theorem digit_113 (w : World) : Calls Tryd.prog 24 #[.int .i64 113] w fun e w' => e = .returned (.int .u8 (48 + sdig 113)) ∧ w' = w := by
  go_enter Tryd.func24, Tryd.ntmps24
  go_wp2
  go_ret
  exact ⟨rfl, rfl⟩
theorem sound_114 (w : World) : Calls Tryd.prog 20 #[.int .i64 114] w fun e w' => e = .returned (.int .i64 (sdig 114)) ∧ w' = w := by
  go_enter Tryd.func20, Tryd.ntmps20
  go_wp2
  go_ret
  exact ⟨rfl, rfl⟩
theorem digit_114 (w : World) : Calls Tryd.prog 24 #[.int .i64 114] w fun e w' => e = .returned (.int .u8 (48 + sdig 114)) ∧ w' = w := by
  go_enter Tryd.func24, Tryd.ntmps24
  go_wp2
  go_ret
  exact ⟨rfl, rfl⟩
theorem sound_115 (w : World) : Calls Tryd.prog 20 #[.int .i64 115] w fun e w' => e = .returned (.int .i64 (sdig 115)) ∧ w' = w := by
  go_enter Tryd.func20, Tryd.ntmps20
  go_wp2
  go_ret
  exact ⟨rfl, rfl⟩
theorem digit_115 (w : World) : Calls Tryd.prog 24 #[.int .i64 115] w fun e w' => e = .returned (.int .u8 (48 + sdig 115)) ∧ w' = w := by
  go_enter Tryd.func24, Tryd.ntmps24
  go_wp2
  go_ret
  exact ⟨rfl, rfl⟩
theorem sound_116 (w : World) : Calls Tryd.prog 20 #[.int .i64 116] w fun e w' => e = .returned (.int .i64 (sdig 116)) ∧ w' = w := by
  go_enter Tryd.func20, Tryd.ntmps20
  go_wp2
  go_ret
  exact ⟨rfl, rfl⟩
theorem digit_116 (w : World) : Calls Tryd.prog 24 #[.int .i64 116] w fun e w' => e = .returned (.int .u8 (48 + sdig 116)) ∧ w' = w := by
  go_enter Tryd.func24, Tryd.ntmps24
  go_wp2
  go_ret
  exact ⟨rfl, rfl⟩
theorem sound_117 (w : World) : Calls Tryd.prog 20 #[.int .i64 117] w fun e w' => e = .returned (.int .i64 (sdig 117)) ∧ w' = w := by
  go_enter Tryd.func20, Tryd.ntmps20
  go_wp2
  go_ret
  exact ⟨rfl, rfl⟩
theorem digit_117 (w : World) : Calls Tryd.prog 24 #[.int .i64 117] w fun e w' => e = .returned (.int .u8 (48 + sdig 117)) ∧ w' = w := by
  go_enter Tryd.func24, Tryd.ntmps24
  go_wp2
  go_ret
  exact ⟨rfl, rfl⟩
theorem sound_118 (w : World) : Calls Tryd.prog 20 #[.int .i64 118] w fun e w' => e = .returned (.int .i64 (sdig 118)) ∧ w' = w := by
  go_enter Tryd.func20, Tryd.ntmps20
  go_wp2
  go_ret
  exact ⟨rfl, rfl⟩
theorem digit_118 (w : World) : Calls Tryd.prog 24 #[.int .i64 118] w fun e w' => e = .returned (.int .u8 (48 + sdig 118)) ∧ w' = w := by
  go_enter Tryd.func24, Tryd.ntmps24
  go_wp2
  go_ret
  exact ⟨rfl, rfl⟩
theorem sound_119 (w : World) : Calls Tryd.prog 20 #[.int .i64 119] w fun e w' => e = .returned (.int .i64 (sdig 119)) ∧ w' = w := by
  go_enter Tryd.func20, Tryd.ntmps20
  go_wp2
  go_ret
  exact ⟨rfl, rfl⟩
theorem digit_119 (w : World) : Calls Tryd.prog 24 #[.int .i64 119] w fun e w' => e = .returned (.int .u8 (48 + sdig 119)) ∧ w' = w := by
  go_enter Tryd.func24, Tryd.ntmps24
  go_wp2
  go_ret
  exact ⟨rfl, rfl⟩
theorem sound_120 (w : World) : Calls Tryd.prog 20 #[.int .i64 120] w fun e w' => e = .returned (.int .i64 (sdig 120)) ∧ w' = w := by
  go_enter Tryd.func20, Tryd.ntmps20
  go_wp2
  go_ret
  exact ⟨rfl, rfl⟩
theorem digit_120 (w : World) : Calls Tryd.prog 24 #[.int .i64 120] w fun e w' => e = .returned (.int .u8 (48 + sdig 120)) ∧ w' = w := by
  go_enter Tryd.func24, Tryd.ntmps24
  go_wp2
  go_ret
  exact ⟨rfl, rfl⟩
theorem sound_121 (w : World) : Calls Tryd.prog 20 #[.int .i64 121] w fun e w' => e = .returned (.int .i64 (sdig 121)) ∧ w' = w := by
  go_enter Tryd.func20, Tryd.ntmps20
  go_wp2
  go_ret
  exact ⟨rfl, rfl⟩
theorem digit_121 (w : World) : Calls Tryd.prog 24 #[.int .i64 121] w fun e w' => e = .returned (.int .u8 (48 + sdig 121)) ∧ w' = w := by
  go_enter Tryd.func24, Tryd.ntmps24
  go_wp2
  go_ret
  exact ⟨rfl, rfl⟩
theorem sound_122 (w : World) : Calls Tryd.prog 20 #[.int .i64 122] w fun e w' => e = .returned (.int .i64 (sdig 122)) ∧ w' = w := by
  go_enter Tryd.func20, Tryd.ntmps20
  go_wp2
  go_ret
  exact ⟨rfl, rfl⟩
theorem digit_122 (w : World) : Calls Tryd.prog 24 #[.int .i64 122] w fun e w' => e = .returned (.int .u8 (48 + sdig 122)) ∧ w' = w := by
  go_enter Tryd.func24, Tryd.ntmps24
  go_wp2
  go_ret
  exact ⟨rfl, rfl⟩
theorem sound_any (r : Int) (w : World) (h1 : 97 ≤ r) (h2 : r ≤ 122) : Calls Tryd.prog 20 #[.int .i64 r] w fun e w' => e = .returned (.int .i64 (sdig r)) ∧ w' = w := by
  by_cases c0 : r = 97
  · subst c0; exact sound_97 w
  by_cases c1 : r = 98
  · subst c1; exact sound_98 w
  by_cases c2 : r = 99
  · subst c2; exact sound_99 w
  by_cases c3 : r = 100
  · subst c3; exact sound_100 w
  by_cases c4 : r = 101
  · subst c4; exact sound_101 w
  by_cases c5 : r = 102
  · subst c5; exact sound_102 w
  by_cases c6 : r = 103
  · subst c6; exact sound_103 w
  by_cases c7 : r = 104
  · subst c7; exact sound_104 w
  by_cases c8 : r = 105
  · subst c8; exact sound_105 w
  by_cases c9 : r = 106
  · subst c9; exact sound_106 w
  by_cases c10 : r = 107
  · subst c10; exact sound_107 w
  by_cases c11 : r = 108
  · subst c11; exact sound_108 w
  by_cases c12 : r = 109
  · subst c12; exact sound_109 w
  by_cases c13 : r = 110
  · subst c13; exact sound_110 w
  by_cases c14 : r = 111
  · subst c14; exact sound_111 w
  by_cases c15 : r = 112
  · subst c15; exact sound_112 w
  by_cases c16 : r = 113
  · subst c16; exact sound_113 w
  by_cases c17 : r = 114
  · subst c17; exact sound_114 w
  by_cases c18 : r = 115
  · subst c18; exact sound_115 w
  by_cases c19 : r = 116
  · subst c19; exact sound_116 w
  by_cases c20 : r = 117
  · subst c20; exact sound_117 w
  by_cases c21 : r = 118
  · subst c21; exact sound_118 w
  by_cases c22 : r = 119
  · subst c22; exact sound_119 w
  by_cases c23 : r = 120
  · subst c23; exact sound_120 w
  by_cases c24 : r = 121
  · subst c24; exact sound_121 w
  by_cases c25 : r = 122
  · subst c25; exact sound_122 w
  omega
theorem digit_any (r : Int) (w : World) (h1 : 97 ≤ r) (h2 : r ≤ 122) : Calls Tryd.prog 24 #[.int .i64 r] w fun e w' => e = .returned (.int .u8 (48 + sdig r)) ∧ w' = w := by
  by_cases c0 : r = 97
  · subst c0; exact digit_97 w
  by_cases c1 : r = 98
  · subst c1; exact digit_98 w
  by_cases c2 : r = 99
  · subst c2; exact digit_99 w
  by_cases c3 : r = 100
  · subst c3; exact digit_100 w
  by_cases c4 : r = 101
  · subst c4; exact digit_101 w
  by_cases c5 : r = 102
  · subst c5; exact digit_102 w
  by_cases c6 : r = 103
  · subst c6; exact digit_103 w
  by_cases c7 : r = 104
  · subst c7; exact digit_104 w
  by_cases c8 : r = 105
  · subst c8; exact digit_105 w
  by_cases c9 : r = 106
  · subst c9; exact digit_106 w
  by_cases c10 : r = 107
  · subst c10; exact digit_107 w
  by_cases c11 : r = 108
  · subst c11; exact digit_108 w
  by_cases c12 : r = 109
  · subst c12; exact digit_109 w
  by_cases c13 : r = 110
  · subst c13; exact digit_110 w
  by_cases c14 : r = 111
  · subst c14; exact digit_111 w
  by_cases c15 : r = 112
  · subst c15; exact digit_112 w
  by_cases c16 : r = 113
  · subst c16; exact digit_113 w
  by_cases c17 : r = 114
  · subst c17; exact digit_114 w
  by_cases c18 : r = 115
  · subst c18; exact digit_115 w
  by_cases c19 : r = 116
  · subst c19; exact digit_116 w
  by_cases c20 : r = 117
  · subst c20; exact digit_117 w
  by_cases c21 : r = 118
  · subst c21; exact digit_118 w
  by_cases c22 : r = 119
  · subst c22; exact digit_119 w
  by_cases c23 : r = 120
  · subst c23; exact digit_120 w
  by_cases c24 : r = 121
  · subst c24; exact digit_121 w
  by_cases c25 : r = 122
  · subst c25; exact digit_122 w
  omega
end Go.Proofs.YteedakkclppipajDoor
