import Derived.Test.YtcjiphknpagenaaGreatDoorProg
import Derived.Test.YtcjiphknpagenaaGreatDoorDocsJ00
import Derived.WalkLawsBesides
import Derived.Test.YtcjiphknpagenaaGreatDoorDocsJ13
import Derived.Test.YtcjiphknpagenaaGreatDoorDocsJ12
import Derived.Test.YtcjiphknpagenaaGreatDoorDocsJ14
import Derived.BigCall
import Derived.Shelf.Abstract
import Derived.Deep.CutBlock
import Derived.Deep.RegionHeld3
import Derived.WalkKit
import Derived.BigQuiet
namespace Go.Proofs.YtcjiphknpagenaaGreatDoor
open Go Go.RowKit
set_option linter.unusedVariables false
set_option maxHeartbeats 400000 in theorem V8(a:Int)(w:World)(u:a≤64) :Calls Tryz.prog 163 #[.int .i64 a] w fun e w'=>e= .returned (.int .i64 (dN a))∧w'=w:=by
 have HV:Hid (dN a=a) :=by show _=_;unfold dN;repeat(first|rw[if_pos (by omega)]|rw[if_neg (by omega)])
 have e215:(a==215)=false:=beq_eq_false_iff_ne.2 (by omega);have uz:(a==930)=false:=beq_eq_false_iff_ne.2 (by omega);go_enter Tryz.func163,Tryz.ntmps163;go_wp2;go_ret;rw[HV.out];exact⟨rfl,rfl⟩
set_option maxHeartbeats 400000 in theorem XB(a:Int)(w:World)(l:65≤a)(u:a≤90) :Calls Tryz.prog 163 #[.int .i64 a] w fun e w'=>e= .returned (.int .i64 (dN a))∧w'=w:=by
 have HV:Hid (dN a=a+32) :=by show _=_;unfold dN;repeat(first|rw[if_pos (by omega)]|rw[if_neg (by omega)])
 have e215:(a==215)=false:=beq_eq_false_iff_ne.2 (by omega);have uz:(a==930)=false:=beq_eq_false_iff_ne.2 (by omega);go_enter Tryz.func163,Tryz.ntmps163;go_wp2;go_ret;rw[HV.out];exact⟨rfl,rfl⟩
set_option maxHeartbeats 400000 in theorem Xu(a:Int)(w:World)(l:91≤a)(u:a≤191) :Calls Tryz.prog 163 #[.int .i64 a] w fun e w'=>e= .returned (.int .i64 (dN a))∧w'=w:=by
 have HV:Hid (dN a=a) :=by show _=_;unfold dN;repeat(first|rw[if_pos (by omega)]|rw[if_neg (by omega)])
 have e215:(a==215)=false:=beq_eq_false_iff_ne.2 (by omega);have uz:(a==930)=false:=beq_eq_false_iff_ne.2 (by omega);go_enter Tryz.func163,Tryz.ntmps163;go_wp2;go_ret;rw[HV.out];exact⟨rfl,rfl⟩
set_option maxHeartbeats 400000 in theorem WB(a:Int)(w:World)(l:192≤a)(u:a≤214) :Calls Tryz.prog 163 #[.int .i64 a] w fun e w'=>e= .returned (.int .i64 (dN a))∧w'=w:=by
 have HV:Hid (dN a=a+32) :=by show _=_;unfold dN;repeat(first|rw[if_pos (by omega)]|rw[if_neg (by omega)])
 have e215:(a==215)=false:=beq_eq_false_iff_ne.2 (by omega);have uz:(a==930)=false:=beq_eq_false_iff_ne.2 (by omega);go_enter Tryz.func163,Tryz.ntmps163;go_wp2;go_ret;rw[HV.out];exact⟨rfl,rfl⟩
set_option maxHeartbeats 400000 in theorem Vi(w:World) :Calls Tryz.prog 163 #[.int .i64 215] w fun e w'=>e= .returned (.int .i64 (dN 215))∧w'=w:=by
 have HV:Hid (dN 215=215) :=by show _=_;decide
 go_enter Tryz.func163,Tryz.ntmps163;go_wp2;go_ret;rw[HV.out];exact⟨rfl,rfl⟩
set_option maxHeartbeats 400000 in theorem Wt(a:Int)(w:World)(l:216≤a)(u:a≤222) :Calls Tryz.prog 163 #[.int .i64 a] w fun e w'=>e= .returned (.int .i64 (dN a))∧w'=w:=by
 have HV:Hid (dN a=a+32) :=by show _=_;unfold dN;repeat(first|rw[if_pos (by omega)]|rw[if_neg (by omega)])
 have e215:(a==215)=false:=beq_eq_false_iff_ne.2 (by omega);have uz:(a==930)=false:=beq_eq_false_iff_ne.2 (by omega);go_enter Tryz.func163,Tryz.ntmps163;go_wp2;go_ret;rw[HV.out];exact⟨rfl,rfl⟩
set_option maxHeartbeats 400000 in theorem Vo(a:Int)(w:World)(l:223≤a)(u:a≤912) :Calls Tryz.prog 163 #[.int .i64 a] w fun e w'=>e= .returned (.int .i64 (dN a))∧w'=w:=by
 have HV:Hid (dN a=a) :=by show _=_;unfold dN;repeat(first|rw[if_pos (by omega)]|rw[if_neg (by omega)])
 have e215:(a==215)=false:=beq_eq_false_iff_ne.2 (by omega);have uz:(a==930)=false:=beq_eq_false_iff_ne.2 (by omega);go_enter Tryz.func163,Tryz.ntmps163;go_wp2;go_ret;rw[HV.out];exact⟨rfl,rfl⟩
set_option maxHeartbeats 400000 in theorem VX(a:Int)(w:World)(l:913≤a)(u:a≤929) :Calls Tryz.prog 163 #[.int .i64 a] w fun e w'=>e= .returned (.int .i64 (dN a))∧w'=w:=by
 have HV:Hid (dN a=a+32) :=by show _=_;unfold dN;repeat(first|rw[if_pos (by omega)]|rw[if_neg (by omega)])
 have e215:(a==215)=false:=beq_eq_false_iff_ne.2 (by omega);have uz:(a==930)=false:=beq_eq_false_iff_ne.2 (by omega);go_enter Tryz.func163,Tryz.ntmps163;go_wp2;go_ret;rw[HV.out];exact⟨rfl,rfl⟩
set_option maxHeartbeats 400000 in theorem Xp(w:World) :Calls Tryz.prog 163 #[.int .i64 930] w fun e w'=>e= .returned (.int .i64 (dN 930))∧w'=w:=by
 have HV:Hid (dN 930=930) :=by show _=_;decide
 go_enter Tryz.func163,Tryz.ntmps163;go_wp2;go_ret;rw[HV.out];exact⟨rfl,rfl⟩
set_option maxHeartbeats 400000 in theorem Xy(a:Int)(w:World)(l:931≤a)(u:a≤939) :Calls Tryz.prog 163 #[.int .i64 a] w fun e w'=>e= .returned (.int .i64 (dN a))∧w'=w:=by
 have HV:Hid (dN a=a+32) :=by show _=_;unfold dN;repeat(first|rw[if_pos (by omega)]|rw[if_neg (by omega)])
 have e215:(a==215)=false:=beq_eq_false_iff_ne.2 (by omega);have uz:(a==930)=false:=beq_eq_false_iff_ne.2 (by omega);go_enter Tryz.func163,Tryz.ntmps163;go_wp2;go_ret;rw[HV.out];exact⟨rfl,rfl⟩
set_option maxHeartbeats 400000 in theorem Sz(a:Int)(w:World)(l:940≤a)(u:a≤1023) :Calls Tryz.prog 163 #[.int .i64 a] w fun e w'=>e= .returned (.int .i64 (dN a))∧w'=w:=by
 have HV:Hid (dN a=a) :=by show _=_;unfold dN;repeat(first|rw[if_pos (by omega)]|rw[if_neg (by omega)])
 have e215:(a==215)=false:=beq_eq_false_iff_ne.2 (by omega);have uz:(a==930)=false:=beq_eq_false_iff_ne.2 (by omega);go_enter Tryz.func163,Tryz.ntmps163;go_wp2;go_ret;rw[HV.out];exact⟨rfl,rfl⟩
set_option maxHeartbeats 400000 in theorem UD(a:Int)(w:World)(l:1024≤a)(u:a≤1039) :Calls Tryz.prog 163 #[.int .i64 a] w fun e w'=>e= .returned (.int .i64 (dN a))∧w'=w:=by
 have HV:Hid (dN a=a+80) :=by show _=_;unfold dN;repeat(first|rw[if_pos (by omega)]|rw[if_neg (by omega)])
 have e215:(a==215)=false:=beq_eq_false_iff_ne.2 (by omega);have uz:(a==930)=false:=beq_eq_false_iff_ne.2 (by omega);go_enter Tryz.func163,Tryz.ntmps163;go_wp2;go_ret;rw[HV.out];exact⟨rfl,rfl⟩
set_option maxHeartbeats 400000 in theorem Uz(a:Int)(w:World)(l:1040≤a)(u:a≤1071) :Calls Tryz.prog 163 #[.int .i64 a] w fun e w'=>e= .returned (.int .i64 (dN a))∧w'=w:=by
 have HV:Hid (dN a=a+32) :=by show _=_;unfold dN;repeat(first|rw[if_pos (by omega)]|rw[if_neg (by omega)])
 have e215:(a==215)=false:=beq_eq_false_iff_ne.2 (by omega);have uz:(a==930)=false:=beq_eq_false_iff_ne.2 (by omega);go_enter Tryz.func163,Tryz.ntmps163;go_wp2;go_ret;rw[HV.out];exact⟨rfl,rfl⟩
set_option maxHeartbeats 400000 in theorem Re(a:Int)(w:World)(l:1072≤a) :Calls Tryz.prog 163 #[.int .i64 a] w fun e w'=>e= .returned (.int .i64 (dN a))∧w'=w:=by
 have HV:Hid (dN a=a) :=by show _=_;unfold dN;repeat(first|rw[if_pos (by omega)]|rw[if_neg (by omega)])
 have e215:(a==215)=false:=beq_eq_false_iff_ne.2 (by omega);have uz:(a==930)=false:=beq_eq_false_iff_ne.2 (by omega);go_enter Tryz.func163,Tryz.ntmps163;go_wp2;go_ret;rw[HV.out];exact⟨rfl,rfl⟩
theorem Ul(a:Int)(w:World) :Calls Tryz.prog 163 #[.int .i64 a] w fun e w'=>e= .returned (.int .i64 (dN a))∧w'=w:=by
 by_cases c0:a<65;·exact V8 a w (by omega)
 by_cases c1:a<91;·exact XB a w (by omega) (by omega)
 by_cases c2:a<192;·exact Xu a w (by omega) (by omega)
 by_cases c3:a<215;·exact WB a w (by omega) (by omega)
 by_cases c4:a<216
 ·obtain rfl:a=215:=by omega
  exact Vi w
 by_cases c5:a<223;·exact Wt a w (by omega) (by omega)
 by_cases c6:a<913;·exact Vo a w (by omega) (by omega)
 by_cases c7:a<930;·exact VX a w (by omega) (by omega)
 by_cases c8:a<931
 ·obtain rfl:a=930:=by omega
  exact Xp w
 by_cases c9:a<940;·exact Xy a w (by omega) (by omega)
 by_cases c10:a<1024;·exact Sz a w (by omega) (by omega)
 by_cases c11:a<1040;·exact UD a w (by omega) (by omega)
 by_cases c12:a<1072;·exact Uz a w (by omega) (by omega)
 exact Re a w (by omega)
end Go.Proofs.YtcjiphknpagenaaGreatDoor
namespace Go.Proofs.YtcjiphknpagenaaGreatDoor
open Go Go.RowKit
set_option linter.unusedVariables false
set_option maxHeartbeats 400000 in theorem UA(a:Int)(w:World)(u:a≤223) :Calls Tryz.prog 162 #[.int .i64 a] w fun e w'=>e= .returned (.int .i64 (dV a))∧w'=w:=by
 have HV:Hid (dV a=a) :=by show _=_;unfold dV;repeat(first|rw[if_pos (by omega)]|rw[if_neg (by omega)])
 have e231:(a==231)=false:=beq_eq_false_iff_ne.2 (by omega);have e241:(a==241)=false:=beq_eq_false_iff_ne.2 (by omega);have e248:(a==248)=false:=beq_eq_false_iff_ne.2 (by omega);have Ec:(a==253)=false:=beq_eq_false_iff_ne.2 (by omega);have DZ:(a==255)=false:=beq_eq_false_iff_ne.2 (by omega);go_enter Tryz.func162,Tryz.ntmps162;go_wp2;go_ret;rw[HV.out];exact⟨rfl,rfl⟩
set_option maxHeartbeats 400000 in theorem Rk(a:Int)(w:World)(l:224≤a)(u:a≤229) :Calls Tryz.prog 162 #[.int .i64 a] w fun e w'=>e= .returned (.int .i64 (dV a))∧w'=w:=by
 have HV:Hid (dV a=97) :=by show _=_;unfold dV;repeat(first|rw[if_pos (by omega)]|rw[if_neg (by omega)])
 have e231:(a==231)=false:=beq_eq_false_iff_ne.2 (by omega);have e241:(a==241)=false:=beq_eq_false_iff_ne.2 (by omega);have e248:(a==248)=false:=beq_eq_false_iff_ne.2 (by omega);have Ec:(a==253)=false:=beq_eq_false_iff_ne.2 (by omega);have DZ:(a==255)=false:=beq_eq_false_iff_ne.2 (by omega);go_enter Tryz.func162,Tryz.ntmps162;go_wp2;go_ret;rw[HV.out];exact⟨rfl,rfl⟩
set_option maxHeartbeats 400000 in theorem Tu(w:World) :Calls Tryz.prog 162 #[.int .i64 230] w fun e w'=>e= .returned (.int .i64 (dV 230))∧w'=w:=by
 have HV:Hid (dV 230=230) :=by show _=_;decide
 go_enter Tryz.func162,Tryz.ntmps162;go_wp2;go_ret;rw[HV.out];exact⟨rfl,rfl⟩
set_option maxHeartbeats 400000 in theorem Su(w:World) :Calls Tryz.prog 162 #[.int .i64 231] w fun e w'=>e= .returned (.int .i64 (dV 231))∧w'=w:=by
 have HV:Hid (dV 231=99) :=by show _=_;decide
 go_enter Tryz.func162,Tryz.ntmps162;go_wp2;go_ret;rw[HV.out];exact⟨rfl,rfl⟩
set_option maxHeartbeats 400000 in theorem Tc(a:Int)(w:World)(l:232≤a)(u:a≤235) :Calls Tryz.prog 162 #[.int .i64 a] w fun e w'=>e= .returned (.int .i64 (dV a))∧w'=w:=by
 have HV:Hid (dV a=101) :=by show _=_;unfold dV;repeat(first|rw[if_pos (by omega)]|rw[if_neg (by omega)])
 have e231:(a==231)=false:=beq_eq_false_iff_ne.2 (by omega);have e241:(a==241)=false:=beq_eq_false_iff_ne.2 (by omega);have e248:(a==248)=false:=beq_eq_false_iff_ne.2 (by omega);have Ec:(a==253)=false:=beq_eq_false_iff_ne.2 (by omega);have DZ:(a==255)=false:=beq_eq_false_iff_ne.2 (by omega);go_enter Tryz.func162,Tryz.ntmps162;go_wp2;go_ret;rw[HV.out];exact⟨rfl,rfl⟩
set_option maxHeartbeats 400000 in theorem Ug(a:Int)(w:World)(l:236≤a)(u:a≤239) :Calls Tryz.prog 162 #[.int .i64 a] w fun e w'=>e= .returned (.int .i64 (dV a))∧w'=w:=by
 have HV:Hid (dV a=105) :=by show _=_;unfold dV;repeat(first|rw[if_pos (by omega)]|rw[if_neg (by omega)])
 have e231:(a==231)=false:=beq_eq_false_iff_ne.2 (by omega);have e241:(a==241)=false:=beq_eq_false_iff_ne.2 (by omega);have e248:(a==248)=false:=beq_eq_false_iff_ne.2 (by omega);have Ec:(a==253)=false:=beq_eq_false_iff_ne.2 (by omega);have DZ:(a==255)=false:=beq_eq_false_iff_ne.2 (by omega);go_enter Tryz.func162,Tryz.ntmps162;go_wp2;go_ret;rw[HV.out];exact⟨rfl,rfl⟩
set_option maxHeartbeats 400000 in theorem U2(w:World) :Calls Tryz.prog 162 #[.int .i64 240] w fun e w'=>e= .returned (.int .i64 (dV 240))∧w'=w:=by
 have HV:Hid (dV 240=240) :=by show _=_;decide
 go_enter Tryz.func162,Tryz.ntmps162;go_wp2;go_ret;rw[HV.out];exact⟨rfl,rfl⟩
set_option maxHeartbeats 400000 in theorem U4(w:World) :Calls Tryz.prog 162 #[.int .i64 241] w fun e w'=>e= .returned (.int .i64 (dV 241))∧w'=w:=by
 have HV:Hid (dV 241=110) :=by show _=_;decide
 go_enter Tryz.func162,Tryz.ntmps162;go_wp2;go_ret;rw[HV.out];exact⟨rfl,rfl⟩
set_option maxHeartbeats 400000 in theorem UW(a:Int)(w:World)(l:242≤a)(u:a≤246) :Calls Tryz.prog 162 #[.int .i64 a] w fun e w'=>e= .returned (.int .i64 (dV a))∧w'=w:=by
 have HV:Hid (dV a=111) :=by show _=_;unfold dV;repeat(first|rw[if_pos (by omega)]|rw[if_neg (by omega)])
 have e231:(a==231)=false:=beq_eq_false_iff_ne.2 (by omega);have e241:(a==241)=false:=beq_eq_false_iff_ne.2 (by omega);have e248:(a==248)=false:=beq_eq_false_iff_ne.2 (by omega);have Ec:(a==253)=false:=beq_eq_false_iff_ne.2 (by omega);have DZ:(a==255)=false:=beq_eq_false_iff_ne.2 (by omega);go_enter Tryz.func162,Tryz.ntmps162;go_wp2;go_ret;rw[HV.out];exact⟨rfl,rfl⟩
set_option maxHeartbeats 400000 in theorem Sj(w:World) :Calls Tryz.prog 162 #[.int .i64 247] w fun e w'=>e= .returned (.int .i64 (dV 247))∧w'=w:=by
 have HV:Hid (dV 247=247) :=by show _=_;decide
 go_enter Tryz.func162,Tryz.ntmps162;go_wp2;go_ret;rw[HV.out];exact⟨rfl,rfl⟩
set_option maxHeartbeats 400000 in theorem Ph(w:World) :Calls Tryz.prog 162 #[.int .i64 248] w fun e w'=>e= .returned (.int .i64 (dV 248))∧w'=w:=by
 have HV:Hid (dV 248=111) :=by show _=_;decide
 go_enter Tryz.func162,Tryz.ntmps162;go_wp2;go_ret;rw[HV.out];exact⟨rfl,rfl⟩
set_option maxHeartbeats 400000 in theorem Qu(a:Int)(w:World)(l:249≤a)(u:a≤252) :Calls Tryz.prog 162 #[.int .i64 a] w fun e w'=>e= .returned (.int .i64 (dV a))∧w'=w:=by
 have HV:Hid (dV a=117) :=by show _=_;unfold dV;repeat(first|rw[if_pos (by omega)]|rw[if_neg (by omega)])
 have e231:(a==231)=false:=beq_eq_false_iff_ne.2 (by omega);have e241:(a==241)=false:=beq_eq_false_iff_ne.2 (by omega);have e248:(a==248)=false:=beq_eq_false_iff_ne.2 (by omega);have Ec:(a==253)=false:=beq_eq_false_iff_ne.2 (by omega);have DZ:(a==255)=false:=beq_eq_false_iff_ne.2 (by omega);go_enter Tryz.func162,Tryz.ntmps162;go_wp2;go_ret;rw[HV.out];exact⟨rfl,rfl⟩
set_option maxHeartbeats 400000 in theorem PL(w:World) :Calls Tryz.prog 162 #[.int .i64 253] w fun e w'=>e= .returned (.int .i64 (dV 253))∧w'=w:=by
 have HV:Hid (dV 253=121) :=by show _=_;decide
 go_enter Tryz.func162,Tryz.ntmps162;go_wp2;go_ret;rw[HV.out];exact⟨rfl,rfl⟩
set_option maxHeartbeats 400000 in theorem QI(w:World) :Calls Tryz.prog 162 #[.int .i64 254] w fun e w'=>e= .returned (.int .i64 (dV 254))∧w'=w:=by
 have HV:Hid (dV 254=254) :=by show _=_;decide
 go_enter Tryz.func162,Tryz.ntmps162;go_wp2;go_ret;rw[HV.out];exact⟨rfl,rfl⟩
set_option maxHeartbeats 400000 in theorem Pj(w:World) :Calls Tryz.prog 162 #[.int .i64 255] w fun e w'=>e= .returned (.int .i64 (dV 255))∧w'=w:=by
 have HV:Hid (dV 255=121) :=by show _=_;decide
 go_enter Tryz.func162,Tryz.ntmps162;go_wp2;go_ret;rw[HV.out];exact⟨rfl,rfl⟩
set_option maxHeartbeats 400000 in theorem Pq(a:Int)(w:World)(l:256≤a) :Calls Tryz.prog 162 #[.int .i64 a] w fun e w'=>e= .returned (.int .i64 (dV a))∧w'=w:=by
 have HV:Hid (dV a=a) :=by show _=_;unfold dV;repeat(first|rw[if_pos (by omega)]|rw[if_neg (by omega)])
 have e231:(a==231)=false:=beq_eq_false_iff_ne.2 (by omega);have e241:(a==241)=false:=beq_eq_false_iff_ne.2 (by omega);have e248:(a==248)=false:=beq_eq_false_iff_ne.2 (by omega);have Ec:(a==253)=false:=beq_eq_false_iff_ne.2 (by omega);have DZ:(a==255)=false:=beq_eq_false_iff_ne.2 (by omega);go_enter Tryz.func162,Tryz.ntmps162;go_wp2;go_ret;rw[HV.out];exact⟨rfl,rfl⟩
theorem O7(a:Int)(w:World) :Calls Tryz.prog 162 #[.int .i64 a] w fun e w'=>e= .returned (.int .i64 (dV a))∧w'=w:=by
 by_cases c0:a<224;·exact UA a w (by omega)
 by_cases c1:a<230;·exact Rk a w (by omega) (by omega)
 by_cases c2:a<231
 ·obtain rfl:a=230:=by omega
  exact Tu w
 by_cases c3:a<232
 ·obtain rfl:a=231:=by omega
  exact Su w
 by_cases c4:a<236;·exact Tc a w (by omega) (by omega)
 by_cases c5:a<240;·exact Ug a w (by omega) (by omega)
 by_cases c6:a<241
 ·obtain rfl:a=240:=by omega
  exact U2 w
 by_cases c7:a<242
 ·obtain rfl:a=241:=by omega
  exact U4 w
 by_cases c8:a<247;·exact UW a w (by omega) (by omega)
 by_cases c9:a<248
 ·obtain rfl:a=247:=by omega
  exact Sj w
 by_cases c10:a<249
 ·obtain rfl:a=248:=by omega
  exact Ph w
 by_cases c11:a<253;·exact Qu a w (by omega) (by omega)
 by_cases c12:a<254
 ·obtain rfl:a=253:=by omega
  exact PL w
 by_cases c13:a<255
 ·obtain rfl:a=254:=by omega
  exact QI w
 by_cases c14:a<256
 ·obtain rfl:a=255:=by omega
  exact Pj w
 exact Pq a w (by omega)
end Go.Proofs.YtcjiphknpagenaaGreatDoor
namespace Go.Proofs.YtcjiphknpagenaaGreatDoor
open Go Go.RowKit
set_option maxHeartbeats 400000 in theorem AP(a:Int)(w:World) :Calls Tryz.prog 147 #[.int .i64 a] w fun e w'=>e= .returned (.int .i64 (dG a))∧w'=w:=by unfold dG;go_enter Tryz.func147,Tryz.ntmps147;go_wp2_with fail;refine(Ul _ _).mono ?_;rintro e w1⟨rfl,rfl⟩;go_wp2_with fail;refine(O7 _ _).mono ?_;rintro e w1⟨rfl,rfl⟩;go_wp2;go_ret;exact⟨rfl,rfl⟩
end Go.Proofs.YtcjiphknpagenaaGreatDoor
namespace Go.Proofs
open Go.Shelf
def Tryz.lays168_ren:Go.Shelf.Ren:=⟨fun|168=>146|240=>159|242=>161|276=>167|278=>169|n=>n,fun|0=>0|3=>3|4=>4|5=>5|9=>9|20=>20|21=>21|37=>22|46=>89|51=>186|70=>171|72=>173|75=>131|80=>115|164=>184|n=>n,fun|n=>n⟩
theorem Tryz.lays168:Go.Proofs.Lays.n168 Tryz.prog Tryz.lays168_ren:={
  mixed:=by kernel_rfl
  f168:=Tryz.func146.trans (congrArg some (by kernel_rfl))
  f240:=Tryz.func159.trans (congrArg some (by kernel_rfl))
  f242:=Tryz.func161.trans (congrArg some (by kernel_rfl))
  f276:=Tryz.func167.trans (congrArg some (by kernel_rfl))
  f278:=Tryz.func169.trans (congrArg some (by kernel_rfl))
  t0:=Tryz.underlying0
  a0:=Tryz.isAgg0
  z0:=Tryz.sizeOf0
  v0:=Tryz.zeroValue0
  t3:=Tryz.underlying3
  a3:=Tryz.isAgg3
  z3:=Tryz.sizeOf3
  v3:=Tryz.zeroValue3
  t4:=Tryz.underlying4
  a4:=Tryz.isAgg4
  z4:=Tryz.sizeOf4
  v4:=Tryz.zeroValue4
  t5:=Tryz.underlying5
  a5:=Tryz.isAgg5
  z5:=Tryz.sizeOf5
  v5:=Tryz.zeroValue5
  t9:=Tryz.underlying9
  a9:=Tryz.isAgg9
  z9:=Tryz.sizeOf9
  v9:=Tryz.zeroValue9
  t20:=Tryz.underlying20
  a20:=Tryz.isAgg20
  z20:=Tryz.sizeOf20
  v20:=Tryz.zeroValue20
  t21:=Tryz.underlying21
  a21:=Tryz.isAgg21
  z21:=Tryz.sizeOf21
  v21:=Tryz.zeroValue21
  t37:=Tryz.underlying22
  a37:=Tryz.isAgg22
  z37:=Tryz.sizeOf22
  v37:=Tryz.zeroValue22
  t46:=Tryz.underlying89
  a46:=Tryz.isAgg89
  z46:=Tryz.sizeOf89
  v46:=Tryz.zeroValue89
  t51:=Tryz.underlying186
  a51:=Tryz.isAgg186
  z51:=Tryz.sizeOf186
  v51:=Tryz.zeroValue186
  t70:=Tryz.underlying171
  a70:=Tryz.isAgg171
  z70:=Tryz.sizeOf171
  v70:=Tryz.zeroValue171
  t72:=Tryz.underlying173
  a72:=Tryz.isAgg173
  z72:=Tryz.sizeOf173
  v72:=Tryz.zeroValue173
  t75:=Tryz.underlying131
  a75:=Tryz.isAgg131
  z75:=Tryz.sizeOf131
  v75:=Tryz.zeroValue131
  t164:=Tryz.underlying184
  a164:=Tryz.isAgg184
  z164:=Tryz.sizeOf184
  v164:=Tryz.zeroValue184}
theorem Tryz.Builder_Extra_168:Builder.Extra Tryz.prog Tryz.lays168_ren:={
  sizeBuilder:=by kernel_rfl
  liesBuilder:=by kernel_rfl
  t5:=Tryz.underlying5
  a5:=Tryz.isAgg5
  z5:=Tryz.sizeOf5
  v5:=Tryz.zeroValue5
  infoByte:=by kernel_rfl
  cellsByte:=by kernel_rfl
  sizeByte:=by kernel_rfl
  neB5:=by decide}
theorem Tryz.Builder_WriteRune_k(B b:Nat)(bs:List Value)(r:Int)(hr0: -2147483648≤r)(hr1:r≤2147483647)(w:World)(h:Lib.IsBuilderF 173 5 B b bs w)(hlen:bs.length+4≤140737488355328)(hBw:B≤w.heap.size) :Calls Tryz.prog 146 #[.pointer (some ⟨b,0,none⟩),.int .i32 r] w fun e w'=>e= .returned (.tuple #[.int .i64 (Lib.runeCells r).length,.nilIface])∧(Lib.BuilderAtF 173 5 B b (.pointer (some ⟨b,0,none⟩)) (bs++Lib.runeCells r) w'∧Go.RowKit.Below B w w'∧Lib.OthersKept 5 (some b) w w') :=Any.Builder_WriteRune_k Tryz.lays168 Tryz.Builder_Extra_168 B b bs r hr0 hr1 w h hlen hBw
end Go.Proofs
namespace Go.Proofs.YtcjiphknpagenaaGreatDoor
open Go Go.RowKit
set_option linter.unusedVariables false
set_option maxHeartbeats 4000000 in set_option maxRecDepth 1000000 in theorem D8(s:ByteArray)(w:World)(hs:s.size≤1048576)(hT:Tabs w) :Calls Tryz.prog 136 #[.string s] w fun e w'=>e= .returned (.tuple #[.string ⟨(qH s).toArray⟩,.int .i64 (aJ s)])∧Below w.heap.size w w':=by
 have HT:=aa hT;clear hT;by_cases hc:aJ s=0
 ·have HD:=aa (vZ s hc);have hsz:=(vZ s hc).2;have HC:=aa hc;have HX:Hid (qH s=encs ((runes s).map dG)) :=by show _=_;rw[qH,if_pos hc];rfl
  clear hc;go_enter Tryz.func136,Tryz.ntmps136;go_wp2_with fail;refine(iZ s _ hs HT.out).mono ?_;rintro e w1⟨rfl,hb1⟩;rw[HC.out];go_wp2_with fail;have hz1:=hb1.size;refine(Tryz.Builder_Grow_fresh w1.heap.size w1.heap.size s.size _ (Nat.le_refl _) (by exact heap_alloc_new _ _) (by simp) (by omega)).mono ?_;rintro e w2⟨rfl,hB2,hb2⟩;have eY:Below w.heap.size w w2:=(hb1.alloc hb1.size _).trans (hb2.mono hz1);have hI2:Lib.IsBuilderF 173 5 w1.heap.size w1.heap.size [] w2:=Lib.IsBuilderF.of (Or.inr hB2);have hz2:w1.heap.size<w2.heap.size:=hB2.lt;clear hB2 hb2 hb1;generalize w1.heap.size=B at*;have kY:=aa (World.iter_heap w2 s 0);have hb3:Below w.heap.size w (w2.iter s 0) :=eY.alloc eY.size _;have Ew:Lib.IsBuilderF 173 5 B B [] (w2.iter s 0) :=hI2.alloc _;have hz3:w.heap.size≤w2.heap.size:=eY.size;go_wp2;generalize w2.iter s 0=w3 at kY hb3 Ew⊢
  generalize w2.heap.size=I at*;clear eY hI2;go_loopw [](fun wr=>∃(p f:Nat)(acc:List Int),Lib.IsBuilderF 173 5 B B (Lib.byteCells (encs (acc.map dG))) wr∧wr.heap[I]?=some (.stringIter s p)∧Below w.heap.size w wr∧acc++runesFrom s f p=runes s∧s.size≤p+f∧dW s p=true)(fun wr=>s.size-wr.iterPos I);case atStart=>exact⟨0,s.size,[],Ew,kY.out,hb3,rfl,by omega,by rw[lS];exact HD.out.1⟩
  case round=>
   obtain⟨p,f,acc,hI,hit,hbel,hacc,hf,hv⟩ :=hrel;have hlen:acc.length≤s.size:=by have:=congrArg List.length hacc;rw[List.length_append]at this;have:=mG s;omega
   have hel:=ym (acc.map dG);rw[List.length_map]at hel;clear Ew kY hb3;have aaL:I<wr.heap.size:=(Array.getElem?_eq_some_iff.1 hit).1;by_cases hlt:p<s.size
   ·have hnx: ∀ty,(Instr.next (.pointer (some ⟨I,0,none⟩)) true ty).run Tryz.prog wr=_:=fun ty=>Lib.run_next_any_at wr I s p ty hit hlt;have hw:=width_le s p hlt;have hr:=rune_le s p;have hg:=pM s p hlt hv;obtain⟨hf0,hf1,_⟩ :=JK _ (vW s p hg);have hI2:=hI.iterAt hit (p+(Utf8.decode s p).2);have hit2:=Lib.iterAt_heap wr I s p (p+(Utf8.decode s p).2) hit;have eY:=Lib.below_iterAt hbel (k:=I) hz3 s (p+(Utf8.decode s p).2);have lC:B≤(wr.iterAt I s (p+(Utf8.decode s p).2)).heap.size:=by rw[Lib.iterAt_size];omega
    have jS:Hid (acc++ [((Utf8.decode s p).1:Int)]++runesFrom s (f-1) (p+(Utf8.decode s p).2)=runes s) :=by show _=_;obtain⟨g,rfl⟩ : ∃g,f=g+1:=⟨f-1,by omega⟩;rw[eU s g p hlt]at hacc;rw[←hacc];simp
    have Ba:Hid (dW s (p+(Utf8.decode s p).2)=true) :=by show _=_;rw[lZ s p hlt hg];exact hv
    have Hpos:=aa (iterPos_of hit);have HI2:=aa hI2;have iH:=aa hit2;have HB2:=aa eY;clear hacc hI hit2 eY hbel hI2 hv hg;generalize(Utf8.decode s p).1=r at*;generalize(Utf8.decode s p).2=n at*;generalize wr.iterAt I s (p+n)=wi at*;go_wp2_with fail;refine(AP _ _).mono ?_;rintro e w4⟨rfl,rfl⟩;generalize hfz:dG (r:Int)=fz at*;have YD:=aa hfz;clear hfz;go_wp2_with fail;refine(Tryz.Builder_WriteRune_k B B _ _ (by omega) (by omega) _ HI2.out (by rw[Lib.byteCells_length];omega) lC).mono ?_;rintro e w5⟨rfl,h1,b1,k1⟩;have R:Hid (Lib.IsBuilderF 173 5 B B (Lib.byteCells (encs ((acc++ [(r:Int)]).map dG))) w5∧w5.heap[I]?=some (.stringIter s (p+n))∧Below w.heap.size w w5) :=by refine⟨?_,k1.iter iH.out (by omega),HB2.out.trans (b1.mono hz1)⟩;rw[List.map_append,List.map_cons,List.map_nil,YD.out,Ch,Lib.byteCells_append,Lib.byteCells_encodeRune];exact Or.inr h1
    clear h1 b1 k1 HI2 iH HB2;go_wp2;go_roundw;case rel=>exact⟨p+n,f-1,acc++ [(r:Int)],R.out.1,R.out.2.1,R.out.2.2,jS.out,by omega,Ba.out⟩
    case measure=>rw[iterPos_of R.out.2.1,Hpos.out];omega
   ·have hnx: ∀ty,(Instr.next (.pointer (some ⟨I,0,none⟩)) true ty).run Tryz.prog wr=_:=fun ty=>Lib.run_next_end_at wr I s p ty hit hlt;have HL2:Hid (runes s=acc) :=by show _=_;rw[←hacc,runesFrom_end s f p hlt,List.append_nil]
    have HI:=aa hI;clear hacc hit hI;go_wp2_with fail;refine(Tryz.Builder_String_any_k B B (encs (acc.map dG)) _ HI.out (by omega)).mono ?_;rintro e w5⟨rfl,_,b1,_⟩;go_wp2;go_ret2;rw[HX.out,HL2.out,HC.out];exact⟨rfl,hbel.trans (b1.mono hz1)⟩
 ·have hcn:(aJ s !=0)=true:=by rw[bne_iff_ne];exact hc
  have HX:Hid (qH s= []) :=by show _=_;rw[qH,if_neg hc]
  clear hc;go_enter Tryz.func136,Tryz.ntmps136;go_wp2_with fail;refine(iZ s _ hs HT.out).mono ?_;rintro e w1⟨rfl,hb1⟩;go_wp2;go_ret2;rw[HX.out];exact⟨rfl,hb1⟩
end Go.Proofs.YtcjiphknpagenaaGreatDoor
namespace Go.Proofs.YtcjiphknpagenaaGreatDoor
open Go Go.RowKit
set_option linter.unusedVariables false
def Gf(x:Tk) :Value:= .agg #[.string (bs x.1),.int .i64 x.2.1,.int .i64 x.2.2.1,.int .i64 x.2.2.2]
def Yh(g:FuncId)(lb:Array Value)(p:Tk→Bool)(wb:World)(X:Nat→Prop) :Prop:=∀(W:World)(x:Tk),But X wb W→x.1.length≤1048576→Calls Tryz.prog g (#[Gf x]++lb) W fun e w'=>e= .returned (.bool (p x))∧Below W.heap.size W w'
theorem KI(a:Option Addr)(c:Nat)(l:List (List UInt8))(x:List UInt8)(w:World)(hn:l.length≤1048576)(h:bE w a l) :Calls Tryz.prog 138 #[.slice a l.length c,.string (bs x)] w fun e w'=>e= .returned (.bool (iR l x))∧w'=w:=by
 rcases h with h| ⟨b,off,rfl,hb,hc⟩;·subst h;exact(Tryz.slices_Contains_string_empty a c (bs x) w).mono fun e w' h=>by obtain⟨rfl,rfl⟩ :=h;exact⟨rfl,rfl⟩
 ·have hcell: ∀j,j<(l.map fun t=>bs t).length→w.cell? ⟨b,off+j,none⟩=some (.string ((l.map fun t=>bs t).getD j ByteArray.empty)) :=by intro j hj;rw[List.length_map]at hj;rw[hc j hj];simp[hj]
  refine(Tryz.slices_Contains_string b off l.length c (l.map fun t=>bs t) (bs x) w (by simp) (by omega) hcell).mono fun e w' h=> ?_;obtain⟨rfl,rfl⟩ :=h;refine⟨?_,rfl⟩;have e1:(l.map fun t=>bs t).take l.length=l.map fun t=>bs t:=List.take_of_length_le (by simp);rw[e1];congr 2;rw[Bool.eq_iff_iff,Lib.containsS_iff,iR,List.any_eq_true];constructor;·intro h;obtain⟨t,ht,e⟩ :=List.mem_map.1 h;exact⟨t,ht,by rw[beq_iff_eq];exact(by simpa[bs]using congrArg (fun z=>z.data.toList) e)⟩
  ·rintro⟨t,ht,e⟩;rw[beq_iff_eq]at e;exact List.mem_map.2 ⟨t,ht,by rw[e]⟩
set_option maxHeartbeats 4000000 in theorem QK(x:Tk)(w:World)(hx:x.1.length≤1048576) :Calls Tryz.prog 144 #[Gf x] w fun e w'=>e= .returned (.bool (decide (64<x.1.length)))∧Below w.heap.size w w':=by obtain⟨t,p0,p1,p2⟩ :=x;have hz:(bs t).size=t.length:=aK t;show Calls Tryz.prog 144 #[.agg #[.string (bs t),.int .i64 p0,.int .i64 p1,.int .i64 p2]] w _;go_enter Tryz.func144,Tryz.ntmps144;go_wp2_with fail;go_returns;refine⟨?_,(Below.refl _ _).alloc (Nat.le_refl _) _⟩;show Ending.returned (Value.bool (decide (64<(t.length:Int))))=_;congr 2;rw[decide_eq_decide];omega
set_option maxHeartbeats 4000000 in theorem PT(fo st ph:Bool)(aS:Option Addr)(cS:Nat)(vY:Value)(lo hi:Int)(stops:List (List UInt8))(B:Nat)(x:Tk)(w:World)(hn:stops.length≤1048576)(hS:bE w aS stops)(hB:w.heap[B]?=some (.cells #[.bool fo,.bool st,.bool ph,.slice aS stops.length cS,vY,.int .i64 lo,.int .i64 hi] 73)) :Calls Tryz.prog 137 #[Gf x,.pointer (some ⟨B,0,none⟩)] w fun e w'=>e= .returned (.bool (iR stops x.1))∧Below w.heap.size w w':=by obtain⟨t,p0,p1,p2⟩ :=x;have HS:=aa hS;have hbl:B<w.heap.size:=(Array.getElem?_eq_some_iff.1 hB).1;have HB:Hid (Below w.heap.size w (w.alloc (.cells #[.string (bs t),.int .i64 p0,.int .i64 p1,.int .i64 p2] 46))) :=(Below.refl _ _).alloc (Nat.le_refl _) _;have q3:(w.alloc (.cells #[.string (bs t),.int .i64 p0,.int .i64 p1,.int .i64 p2] 46)).cell? ⟨B,3,none⟩=some (.slice aS stops.length cS) :=ah (aD hB HB.out) 3;clear hS hB;show Calls Tryz.prog 137 #[.agg #[.string (bs t),.int .i64 p0,.int .i64 p1,.int .i64 p2],.pointer (some ⟨B,0,none⟩)] w _;go_enter Tryz.func137,Tryz.ntmps137;go_wp2_with fail;refine(KI aS cS stops t _ hn (HS.out.below HB.out)).mono ?_;rintro e w'⟨rfl,hw⟩;obtain rfl:=hw.symm;go_wp2_with fail;go_returns;exact⟨rfl,HB.out⟩
set_option maxHeartbeats 4000000 in theorem J4(t:List UInt8)(w:World)(hd:aJ (bs t)=0)(hT:Tabs w) :Calls Tryz.prog 119 #[.string (bs t)] w fun e w'=>e= .returned (.string (bs (tH t)))∧Below w.heap.size w w':=by
 go_enter Tryz.func119,Tryz.ntmps119;go_wp2_with fail;refine(D8 (bs t) _ (by have:=(vZ _ hd).2;omega) hT).mono ?_;rintro e w1⟨rfl,hb1⟩;have HF:Hid ((⟨(qH (bs t)).toArray⟩ :ByteArray)=bs (tH t)) :=by show _=_;rw[qH,if_pos hd];rfl
 rw[HF.out];clear HF;go_wp2_with fail;go_returns;exact⟨rfl,hb1⟩
end Go.Proofs.YtcjiphknpagenaaGreatDoor
namespace Go.Proofs.YtcjiphknpagenaaGreatDoor
open Go Go.RowKit
set_option linter.unusedVariables false
set_option maxRecDepth 100000
def BM(p:Tk→Bool)(l:List Tk) :Int:=if l.any p then((l.findIdx p:Nat) :Int)else-1
set_option maxHeartbeats 8000000 in theorem Jw(g:FuncId)(lb:Array Value)(p:Tk→Bool)(base:Nat)(v:Value)(l:List Tk)(w:World)(hown:w.ownsRow base 46 4 v l.length (ak l))(hn:l.length≤1048576)(hsz: ∀k,k<l.length→(l.getD k bS).1.length≤1048576)(eg: ∀args w,(callFunc g args).run Tryz.prog w= .ok (.enter g args) w)(hP:Yh g lb p w (fun b=>v.ownBlock=some b)) :Calls Tryz.prog 150 #[v,.func (.func g) #[] lb] w fun e w'=>e= .returned (.int .i64 (BM p l))∧Below w.heap.size w w':=by
 obtain⟨a,c,rfl,hH,_⟩ :=kJ hown;have HH:=aa hH;have HP:=aa hP;have HZ:=aa hsz;clear hH hP hsz hown;go_enter Tryz.func150,Tryz.ntmps150;go_wp2_with fail;go_loopw [8](fun i wx=>∃k:Nat,k≤l.length∧i= .int .i64 k∧(∀j,j<k→p (l.getD j bS)=false)∧Below w.heap.size w wx)(fun i _=>l.length-(intOf i).toNat);case atStart=>exact⟨0,by omega,rfl,fun j hj=>absurd hj (by omega),Below.refl _ _⟩
 case round=>
  obtain⟨k,hk,rfl,hno,hbx⟩ :=hrel;have HN:=aa hno;have HB:=aa hbx;clear hno hbx;by_cases hlt:k<l.length
  ·have wm:=HZ.out k hlt;have om:=aa (HP.out wr (l.getD k bS) (But.of_below HB.out) wm);have hany: ∀j(hj:j<l.length),l.getD j bS=l[j] :=fun j hj=>by simp[hj]
   have HA:=aa hany;obtain⟨b,off,rfl,hbl,hc⟩ :=(HH.out.below HB.out).resolve_left (fun h=>by rw[h]at hlt;simp at hlt);obtain⟨t0,t1,t2,t3⟩ :=hc k hlt;clear hc hany;obtain⟨tk,htk⟩ : ∃tk,l.getD k bS=tk:=⟨_,rfl⟩;have zX:=aa htk;rw[htk]at t0 t1 t2 t3 om wm;clear htk;obtain⟨tx,p0,p1,p2⟩ :=tk;dsimp only at t0 t1 t2 t3;unfold Gf at om;dsimp only at om;cases hp:p (tx,p0,p1,p2)
   ·have sK:Hid (∀j,j<k+1→p (l.getD j bS)=false) :=fun j hj=>by
     by_cases h:j<k;·exact HN.out j h
     ·have:j=k:=by omega
      subst this;rw[zX.out];exact hp
    rw[hp]at om;clear hp;go_wp2_with(go_at_fn g;refine om.out.mono ?_;rintro e w2⟨rfl,hb2⟩);go_roundw;case rel=>exact⟨k+1,by omega,by go_num,sK.out,HB.out.trans (hb2.mono HB.out.size)⟩
    case measure=>simp[intOf];omega
   ·have HR:Hid (BM p l=(k:Int)) :=by
     show _=_;have h1:l.any p=true:=List.any_eq_true.2 ⟨l[k],List.getElem_mem hlt,by rw[←HA.out k hlt,zX.out];exact hp⟩;have h2:l.findIdx p=k:=by rw[List.findIdx_eq hlt];refine⟨by rw[←HA.out k hlt,zX.out];exact hp,fun j hj=> ?_⟩;rw[←HA.out j (by omega)];exact HN.out j hj
     rw[BM,if_pos h1,h2]
    rw[hp]at om;clear hp;go_wp2_with(go_at_fn g;refine om.out.mono ?_;rintro e w2⟨rfl,hb2⟩);go_ret;rw[HR.out];exact⟨rfl,HB.out.trans (hb2.mono HB.out.size)⟩
  ·have HR:Hid (BM p l= -1) :=by
    show _=_;have h1: ¬l.any p=true:=by intro h;obtain⟨x,hx,hp⟩ :=List.any_eq_true.1 h;obtain⟨j,hj,e⟩ :=List.mem_iff_getElem.1 hx;have:=HN.out j (by omega);rw[List.getD_eq_getElem?_getD,List.getElem?_eq_getElem hj,Option.getD_some,e,hp]at this;cases this
    rw[BM,if_neg h1]
   go_wp2_with fail;go_ret;rw[HR.out];exact⟨rfl,HB.out⟩
theorem Jn(w:World)(t e ty:TypeId)(z:Value)(ht:Tryz.prog.underlying t=some (.slice e))(hv: ∀w,(zeroValue e).run Tryz.prog w= .ok z w)(h1: ∀u∈z.cells,u.oneCell'=true)(b o n c:Nat)(hn:0<n)(hz:0<z.cells.size)(hc: ∀j,j<n*z.cells.size→(w.cell? ⟨b,o+j,none⟩).isSome=true)(hf: ∀j,j<n*z.cells.size→w.frozen? ⟨b,o+j,none⟩=false) :(Builtin.clear_ #[t] ty #[.slice (some ⟨b,o,none⟩) n c]).run Tryz.prog w= .ok (.tuple #[]) (w.setCells b o (Builtin.zeroCells z.cells n).toList) :=by
 have hl:(Builtin.zeroCells z.cells n).toList.length=n*z.cells.size:=by simp[Builtin.zeroCells]
 have hst:=run_storeCells_cells (P:=Tryz.prog) b o (Builtin.zeroCells z.cells n).toList 0 w (by rw[hl];simpa using hc) (by rw[hl];simpa using hf) (by intro v hv';simp only[Builtin.zeroCells,Array.toList_map,List.mem_map]at hv';obtain⟨i,_,rfl⟩ :=hv';have hlt:i %z.cells.size<z.cells.size:=Nat.mod_lt _ hz;rw[getElem!_pos z.cells _ hlt];exact h1 _ (Array.getElem_mem hlt));simp only[Nat.add_zero]at hst;obtain⟨m,rfl⟩ : ∃m,n=m+1:=⟨n-1,by omega⟩;simp[Builtin.clear_,run_underlying ht,hv,hst]
theorem yB {base e g cap n i:Nat} {xs:List Value} : ∀(vs:List Value)(o:Nat)(w:World),i*4≤o→w.ownsRow base e 4 (.slice (some ⟨g,0,none⟩) i cap) i xs→(w.setCells g o vs).ownsRow base e 4 (.slice (some ⟨g,0,none⟩) i cap) i xs
 | [],_,_,_,h=>h
 |v::r,o,w,ho,h=>by
  rw[World.setCells];refine yB (n:=n) r (o+1) _ (by omega) ?_;refine⟨h.1,?_⟩;rcases h.2 with⟨h',_⟩| ⟨g',cap',cur,h1,h2,h3,h4,h5,h6,h7⟩;·cases h'
  ·simp only[Value.slice.injEq,Option.some.injEq,Addr.mk.injEq,and_true,true_and]at h1;obtain⟨rfl,rfl⟩ :=h1;refine Or.inr ⟨g,cap,cur.setIfInBounds o v,rfl,h2,aV h3 o v,h4,h5,by rw[Array.size_setIfInBounds];exact h6,?_⟩;rw[Array.toList_setIfInBounds,List.take_set_of_le ho,h7]
theorem BZ {X:Nat→Prop} {a:World}(g:Nat)(hg:X g) : ∀(vs:List Value)(o:Nat)(w:World),But X a w→But X a (w.setCells g o vs)
 | [],_,_,h=>h
 |v::r,o,w,h=>by rw[World.setCells];exact BZ g hg r (o+1) _ (h.set g o v hg)
end Go.Proofs.YtcjiphknpagenaaGreatDoor
namespace Go.Proofs.YtcjiphknpagenaaGreatDoor
open Go Go.RowKit
set_option linter.unusedVariables false
set_option maxRecDepth 100000
theorem Ib(p:Tk→Bool)(l:List Tk)(j:Nat)(h:j<l.length) :(l.take (j+1)).filter (fun x=> !p x)=(l.take j).filter (fun x=> !p x)++(if p (l.getD j bS)then[]else[l.getD j bS]) :=by rw[List.take_succ_eq_append_getElem h,List.filter_append,List.getD_eq_getElem?_getD,List.getElem?_eq_getElem h,Option.getD_some];cases hp:p l[j]<;>simp[hp]
theorem Rm(p:Tk→Bool)(l:List Tk) :(BM p l= -1∧l.filter (fun x=> !p x)=l)∨∃i:Nat,i<l.length∧BM p l=(i:Int)∧(l.take (i+1)).filter (fun x=> !p x)=l.take i:=by
 unfold BM;by_cases h:l.any p=true
 ·rw[if_pos h];refine Or.inr ⟨l.findIdx p,List.findIdx_lt_length.2 (by simpa using h),rfl,?_⟩;have hlt:l.findIdx p<l.length:=List.findIdx_lt_length.2 (by simpa using h);rw[Ib p l _ hlt];have h1:p (l.getD (l.findIdx p) bS)=true:=by rw[List.getD_eq_getElem?_getD,List.getElem?_eq_getElem hlt,Option.getD_some];exact List.findIdx_getElem (w:=hlt)
  rw[h1,if_pos rfl,List.append_nil,List.filter_eq_self];intro x hx;obtain⟨j,hj,e⟩ :=List.mem_iff_getElem.1 hx;rw[List.length_take]at hj;rw[List.getElem_take]at e;have:=List.not_of_lt_findIdx (p:=p) (xs:=l) (i:=j) (by omega);rw[←e];simpa using this
 ·rw[if_neg h];refine Or.inl ⟨rfl,List.filter_eq_self.2 fun x hx=> ?_⟩;cases hp:p x;·rfl
  ·exact absurd (List.any_eq_true.2 ⟨x,hx,hp⟩) h
set_option maxHeartbeats 16000000 in theorem yh(g:FuncId)(lb:Array Value)(p:Tk→Bool)(base:Nat)(v:Value)(l:List Tk)(w:World)(hown:w.ownsRow base 46 4 v l.length (ak l))(hn:l.length≤1048576)(hsz: ∀k,k<l.length→(l.getD k bS).1.length≤1048576)(eg: ∀args w,(callFunc g args).run Tryz.prog w= .ok (.enter g args) w)(hP:Yh g lb p w (fun b=>v.ownBlock=some b)) :Calls Tryz.prog 139 #[v,.func (.func g) #[] lb] w fun e w'=>∃v',e= .returned v'∧w'.ownsRow base 46 4 v' (l.filter fun x=> !p x).length (ak (l.filter fun x=> !p x))∧v'.ownBlock=v.ownBlock∧But (fun b=>v.ownBlock=some b) w w':=by
 have HI:=aa (Jw g lb p base v l w hown hn hsz eg hP);rcases Rm p l with⟨h1,h2⟩| ⟨i0,hi0,h1,h2⟩;·rw[h1]at HI;have HO:=aa hown;have H2:=aa h2;clear hown hP hsz h1 h2;go_enter Tryz.func139,Tryz.ntmps139;go_wp2_with fail;refine HI.out.mono ?_;rintro e w1⟨rfl,hb1⟩;go_wp2_with fail;go_ret;rw[H2.out];exact⟨_,rfl,bJ HO.out hb1,rfl,But.of_below hb1⟩
 ·rw[h1]at HI;rcases jd hown with⟨_,hz⟩| ⟨G,cap,rfl,hbG,hGl⟩;·omega
  have HX:Hid ((fun b=>(Value.slice (some ⟨G,0,none⟩) l.length cap).ownBlock=some b)=fun b=>G=b) :=by show _=_;funext b;simp[Value.ownBlock]
  rw[HX.out]at hP⊢;clear HX;have HO:=aa hown;have H2:=aa h2;have HP:=aa hP;have HZ:=aa hsz;clear hown hP hsz h1 h2;go_enter Tryz.func139,Tryz.ntmps139;go_wp2_with fail;refine HI.out.mono ?_;rintro e w1⟨rfl,hb1⟩;have HB1:=aa hb1;clear hb1 HI;have hne:((i0:Int)== -1)=false:=by rw[beq_eq_false_iff_ne];omega
  go_wp2_with fail;go_loopw [5,6](fun vi vj wx=>∃(i j:Nat)(m:List Tk),i<j∧j≤l.length∧vi= .int .i64 i∧vj= .int .i64 j∧m.length=l.length∧m.take i=(l.take j).filter (fun x=> !p x)∧m.drop j=l.drop j∧wx.ownsRow base 46 4 (.slice (some ⟨G,0,none⟩) m.length cap) m.length (ak m)∧But (fun b=>G=b) w wx)(fun _ vj _=>l.length-(intOf vj).toNat);case atStart=>exact⟨i0,i0+1,l,by omega,by omega,rfl,by go_num,rfl,H2.out.symm,rfl,bJ HO.out HB1.out,But.of_below HB1.out⟩
  case round=>
   obtain⟨i,j,m,hij,hj,rfl,rfl,hml,hmt,hmd,hown,hbt⟩ :=hrel;have Nu:=aa hown;have Cs:=aa hbt;have Ue:=aa hmt;have HMd:=aa hmd;have NP:=aa hml;clear hown hbt hmt hmd hml;by_cases hlt:j<l.length
   ·have hjm:j<m.length:=by have:=NP.out;omega
    obtain⟨t0,t1,t2,t3⟩ :=zw Nu.out j hjm;have HJ:Hid (m.getD j bS=l.getD j bS) :=by show _=_;have:=congrArg (fun x=>x.getD 0 bS) HMd.out;simpa using this
    have wm:=HZ.out j hlt;have HF:=aa (Ib p l j hlt);rw[HJ.out]at t0 t1 t2 t3;obtain⟨tk,htk⟩ : ∃tk,l.getD j bS=tk:=⟨_,rfl⟩;have zX:=aa htk;rw[htk]at t0 t1 t2 t3 wm HF;clear htk;obtain⟨tx,p0,p1,p2⟩ :=tk;dsimp only at t0 t1 t2 t3 wm;have om:=aa (HP.out (wr.alloc (.cells #[.string (bs tx),.int .i64 p0,.int .i64 p1,.int .i64 p2] 46)) (tx,p0,p1,p2) (Cs.out.alloc _) wm);unfold Gf at om;dsimp only at om;cases hp:p (tx,p0,p1,p2)
    ·rw[hp]at om HF;clear hp;go_upto_region 9 with(go_at_fn g;refine om.out.mono ?_;rintro e w2⟨rfl,hb2⟩);have HB2:=aa hb2;have cu:Hid (w2.ownsRow base 46 4 (.slice (some ⟨G,0,none⟩) m.length cap) m.length (ak m)) :=bJ (Nu.out.alloc _) hb2;have gZ:w2.heap[wr.heap.size]?=some (.cells #[.string (bs tx),.int .i64 p0,.int .i64 p1,.int .i64 p2] 46) :=aD (heap_alloc_new wr _) hb2;have g0:w2.cell? ⟨wr.heap.size,0,none⟩=some (.string (bs tx)) :=ah gZ 0;have g1:w2.cell? ⟨wr.heap.size,1,none⟩=some (.int .i64 p0) :=ah gZ 1;have g2:w2.cell? ⟨wr.heap.size,2,none⟩=some (.int .i64 p1) :=ah gZ 2;have g3:w2.cell? ⟨wr.heap.size,3,none⟩=some (.int .i64 p2) :=ah gZ 3;have him:i<m.length:=by omega
     obtain⟨s0,s1,s2,s3⟩ :=zw cu.out i him;have f0:=mo cu.out (i*4);have f1:=mo cu.out (i*4+1);have f2:=mo cu.out (i*4+2);have f3:=mo cu.out (i*4+3);clear t0 t1 t2 t3 hb2 gZ;go_wp2_with fail;go_roundw;case rel=>
      refine⟨i+1,j+1,m.set i (tx,p0,p1,p2),by omega,by omega,by go_num,by go_num,by rw[List.length_set];exact NP.out,?_,?_,?_,?_⟩;·rw[HF.out,←Ue.out,List.take_succ_eq_append_getElem (by rw[List.length_set];exact him),List.take_set_of_le (Nat.le_refl _),List.getElem_set_self];rfl
      ·rw[List.drop_set_of_lt (by omega)];have:=congrArg (List.drop 1) HMd.out;simpa[List.drop_drop]using this
      ·rw[List.length_set];exact Nc cu.out i (tx,p0,p1,p2) him
      ·exact(((((Cs.out.alloc _).trans (But.of_below (X:=fun b=>G=b) HB2.out) (fun _ _ h=>h) (fun _ _ h=>h)).set G _ _ rfl).set G _ _ rfl).set G _ _ rfl).set G _ _ rfl
     case measure=>simp[intOf];omega
    ·rw[hp]at om HF;clear hp;go_wp2_with(go_at_fn g;refine om.out.mono ?_;rintro e w2⟨rfl,hb2⟩);go_roundw;case rel=>
      refine⟨i,j+1,m,by omega,by omega,rfl,by go_num,NP.out,?_,?_,bJ (Nu.out.alloc _) hb2,(Cs.out.alloc _).trans (But.of_below (X:=fun b=>G=b) hb2) (fun _ _ h=>h) (fun _ _ h=>h)⟩;·rw[HF.out,Ue.out];simp
      ·have:=congrArg (List.drop 1) HMd.out;simpa[List.drop_drop]using this
     case measure=>simp[intOf];omega
   ·have hjn:j=l.length:=by omega
    have hcap:=VS HO.out;have HR:Hid (m.take i=l.filter fun x=> !p x) :=by show _=_;rw[Ue.out,List.take_of_length_le (by omega)]
    go_upto_region 11 with fail;have HC:Hid ((Builtin.clear_ #[37] 0 #[.slice (some ⟨G,i*4,none⟩) (l.length-i) (cap-i)]).run Tryz.prog wr= .ok (.tuple #[]) (wr.setCells G (i*4) (Builtin.zeroCells (Value.agg #[.string ⟨#[]⟩,.int .i64 0,.int .i64 0,.int .i64 0]).cells (l.length-i)).toList)) :=by
     have hs4:(Value.agg #[.string ⟨#[]⟩,.int .i64 0,.int .i64 0,.int .i64 0]).cells.size=4:=rfl;refine Jn wr _ 46 _ _ Tryz.underlying37 Tryz.zeroValue46 ?_ G (i*4) (l.length-i) (cap-i) (by omega) (by rw[hs4];omega) ?_ ?_;·intro u hu;have hu':u∈ #[Value.string ⟨#[]⟩,.int .i64 0,.int .i64 0,.int .i64 0] :=hu;simp at hu';rcases hu' with rfl|rfl|rfl|rfl<;>rfl
     ·intro q hq;rw[hs4]at hq;have hml:=NP.out;rw[Nu.out.cellAt (i*4+q) (by omega),List.getElem?_eq_getElem (by rw[uw];omega)];rfl
     ·intro q hq;exact mo Nu.out _
    go_wp2_with(rw[HC.out];dsimp only[Result.andThen]);go_ret;have hlen:(l.filter fun x=> !p x).length=i:=by rw[←HR.out,List.length_take];have:=NP.out;omega
    refine⟨_,rfl,?_,rfl,BZ G rfl _ _ _ Cs.out⟩;rw[hlen,←HR.out,←Gm];exact yB (n:=0) _ _ _ (Nat.le_refl _) (VC Nu.out (by have:=NP.out;omega))
end Go.Proofs.YtcjiphknpagenaaGreatDoor
namespace Go.Proofs.YtcjiphknpagenaaGreatDoor
open Go Go.RowKit
set_option linter.unusedVariables false
set_option linter.unusedSimpArgs false
set_option maxRecDepth 100000
def fK(T:List UInt8→List UInt8)(l:List Tk) :List Tk:=l.map fun x=>(T x.1,x.2)
theorem nA(T:List UInt8→List UInt8)(l:List Tk) :(fK T l).length=l.length:=by simp[fK]
theorem OZ(T:List UInt8→List UInt8)(l:List Tk)(k:Nat)(h:k<l.length) :(fK T (l.take k)++l.drop k).set k (T (l.getD k bS).1,(l.getD k bS).2)=fK T (l.take (k+1))++l.drop (k+1) :=by
 have hl:(fK T (l.take k)).length=k:=by rw[nA,List.length_take];omega
 rw[List.set_append_right _ _ (by omega),hl,Nat.sub_self,List.drop_eq_getElem_cons h,List.set_cons_zero,List.take_succ_eq_append_getElem h,List.getD_eq_getElem?_getD,List.getElem?_eq_getElem h,Option.getD_some];simp only[fK,List.map_append,List.map_cons,List.map_nil,List.append_assoc,List.singleton_append]
theorem KU(T:List UInt8→List UInt8)(l:List Tk)(k:Nat)(h:k<l.length) :(fK T (l.take k)++l.drop k).getD k bS=l.getD k bS:=by
 have hl:(fK T (l.take k)).length=k:=by rw[nA,List.length_take];omega
 rw[List.getD_eq_getElem?_getD,List.getElem?_append_right (by omega),hl,Nat.sub_self,List.getElem?_drop,Nat.add_zero,←List.getD_eq_getElem?_getD]
set_option maxHeartbeats 8000000 in theorem Js(h:FuncId)(T:List UInt8→List UInt8)(Q:List UInt8→Prop)(base B:Nat)(v:Value)(l:List Tk)(w:World)(hown:w.ownsRow base 46 4 v l.length (ak l))(hn:l.length≤1048576)(hq: ∀k,k<l.length→Q (l.getD k bS).1)(hB:w.heap[B]?=some (.cells #[.func (.func h) #[] #[]] 120))(hBv:v.ownBlock≠some B)(eg: ∀args w,(callFunc h args).run Tryz.prog w= .ok (.enter h args) w)(hC: ∀(W:World)(t:List UInt8),But (fun b=>v.ownBlock=some b) w W→Q t→Calls Tryz.prog h #[.string (bs t)] W fun e w'=>e= .returned (.string (bs (T t)))∧Below W.heap.size W w') :Calls Tryz.prog 135 #[v,.pointer (some ⟨B,0,none⟩)] w fun e w'=>e= .returned (.tuple #[v,.int .i64 0])∧w'.ownsRow base 46 4 v (fK T l).length (ak (fK T l))∧But (fun b=>v.ownBlock=some b) w w':=by
 have HC:=aa hC;have HO:=aa hown;have HQ:=aa hq;have HB:=aa hB;have hBl:B<w.heap.size:=(Array.getElem?_eq_some_iff.1 hB).1;clear hC hq hB;rcases jd hown with⟨rfl,hz⟩| ⟨G,cap,rfl,hbG,hGl⟩
 ·have HL:Hid (fK T l= []∧l= []) :=by have:l= [] :=List.length_eq_zero_iff.1 hz;show _∧_;rw[this];exact⟨rfl,rfl⟩
  clear hown;go_enter Tryz.func135,Tryz.ntmps135;go_wp2_with fail;go_loopw [8](fun i wx=>i= .int .i64 0∧wx=w)(fun _ _=>0);case atStart=>exact⟨rfl,rfl⟩
  case round=>obtain⟨rfl,rfl⟩ :=hrel;go_wp2_with fail;go_ret2;rw[HL.out.1];exact⟨rfl,World.ownsRow_nil _ _ _ _,But.refl _ _⟩
 have hne:G≠B:=fun e=>hBv (by rw[e];rfl);clear hBv hown;have HX:Hid ((fun b=>(Value.slice (some ⟨G,0,none⟩) l.length cap).ownBlock=some b)=fun b=>G=b) :=by show _=_;funext b;simp[Value.ownBlock]
 rw[HX.out]at HC⊢;clear HX;go_enter Tryz.func135,Tryz.ntmps135;go_wp2_with fail;go_loopw [8](fun i wx=>∃k:Nat,k≤l.length∧i= .int .i64 k∧wx.ownsRow base 46 4 (.slice (some ⟨G,0,none⟩) l.length cap) l.length (ak (fK T (l.take k)++l.drop k))∧But (fun b=>G=b) w wx)(fun i _=>l.length-(intOf i).toNat);case atStart=>exact⟨0,by omega,rfl,HO.out,But.refl _ _⟩
 case round=>
  obtain⟨k,hk,rfl,hown,hbt⟩ :=hrel;have uq:=aa hown;have Cs:=aa hbt;clear hown hbt;by_cases hlt:k<l.length
  ·have hml:(fK T (l.take k)++l.drop k).length=l.length:=by rw[List.length_append,nA,List.length_take,List.length_drop];omega
   have YY:Hid (wr.ownsRow base 46 4 (.slice (some ⟨G,0,none⟩) (fK T (l.take k)++l.drop k).length cap) (fK T (l.take k)++l.drop k).length (ak (fK T (l.take k)++l.drop k))) :=by rw[hml];exact uq.out
   obtain⟨t0,_,_,_⟩ :=zw YY.out k (by omega);have hf:=mo YY.out (k*4);rw[KU T l k hlt]at t0;have HS:=aa (OZ T l k hlt);have gQ:=aa (KU T l k hlt);have HQk:=aa (HQ.out k hlt);have HML:=aa hml;clear hml;obtain⟨tk,htk⟩ : ∃tk,l.getD k bS=tk:=⟨_,rfl⟩;rw[htk]at t0 HS HQk gQ;clear htk;obtain⟨tx,pl⟩ :=tk;dsimp only at t0 HS HQk gQ;have b0:wr.cell? ⟨B,0,none⟩=some (.func (.func h) #[] #[]) :=ah ((Cs.out.block B hBl hne).trans HB.out) 0;have hBr:B<wr.heap.size:=Nat.lt_of_lt_of_le hBl Cs.out.size;have hGr:G<wr.heap.size:=Nat.lt_of_lt_of_le hGl Cs.out.size;have HCk:=aa (HC.out wr.drew tx (Cs.out.trans (But.of_below (X:=fun b=>G=b) (below_drewN (Below.refl _ wr) 1)) (fun _ _ h=>h) (fun _ _ h=>h)) HQk.out);go_upto_region 4 with fail;go_region_with(go_at_fn h;refine HCk.out.mono ?_;rintro e w2⟨rfl,hb2⟩;have HB2:Hid (Below wr.heap.size wr w2) :=Below.trans (below_drewN (Below.refl _ wr) 1) hb2;have s0:=(HB2.out.cell (p:=⟨G,k*4,none⟩) hGr).trans t0;have s1:=(HB2.out.cell (p:=⟨B,0,none⟩) hBr).trans b0;have s2:=mo (bJ YY.out HB2.out) (k*4);clear hb2)
   all_goals
    go_wp2_with fail;go_roundw;case rel=>refine⟨k+1,by omega,by go_num,?_,(Cs.out.trans (But.of_below (X:=fun b=>G=b) HB2.out) (fun _ _ h=>h) (fun _ _ h=>h)).set G _ _ rfl⟩;have h9:=Rq (bJ YY.out HB2.out) k (T tx) (by rw[HML.out];exact hlt);rw[gQ.out,HS.out,HML.out]at h9;exact h9
    case measure=>simp[intOf];omega
  ·have HL:Hid (fK T (l.take k)++l.drop k=fK T l) :=by show _=_;rw[List.take_of_length_le (by omega),List.drop_of_length_le (by omega),List.append_nil]
   go_wp2_with fail;go_ret2;rw[nA,←HL.out];exact⟨rfl,uq.out,Cs.out⟩
end Go.Proofs.YtcjiphknpagenaaGreatDoor
namespace Go.Proofs.YtcjiphknpagenaaGreatDoor
open Go Go.RowKit
set_option linter.unusedVariables false
set_option maxRecDepth 100000
def vK(wc:World)(X:Nat→Prop)(W:World)(v:Value)(l:List Tk) :Prop:=W.ownsRow 0 46 4 v l.length (ak l)∧∀b,v.ownBlock=some b→X b∨wc.heap.size≤b
def vv(g:FuncId)(bd lb:Array Value)(wc:World)(X:Nat→Prop)(P:List Tk→Prop)(G:List Tk→List Tk×Int) :Prop:=∀(W:World)(v:Value)(l:List Tk),But X wc W→vK wc X W v l→P l→Calls Tryz.prog g (bd++ #[v]++lb) W fun e w'=>∃v',e= .returned (.tuple #[v',.int .i64 (G l).2])∧vK wc X w' v' (G l).1∧But X wc w'
def iC(G H:List Tk→List Tk×Int)(l:List Tk) :List Tk×Int:=if(G l).2=0 then H (G l).1 else([],(G l).2)
inductive dP(wc:World)(X:Nat→Prop) :List Value→(List Tk→Prop)→(List Tk→List Tk×Int)→Prop
 |nil(P:List Tk→Prop) :dP wc X [] P fun l=>(l,0)
 |cons(g:FuncId)(bd lb:Array Value)(fs:List Value)(P P':List Tk→Prop)(G H:List Tk→List Tk×Int)(eg: ∀args w,(callFunc g args).run Tryz.prog w= .ok (.enter g args) w)(hs:vv g bd lb wc X P G)(hp: ∀l,P l→(G l).2=0→P' (G l).1)(hr:dP wc X fs P' H) :dP wc X (.func (.func g) bd lb::fs) P (iC G H)
def Mo(wc:World)(X:Nat→Prop)(a:Option Addr)(fs:List Value) :Prop:=fs= []∨∃b,a=some ⟨b,0,none⟩∧b<wc.heap.size∧¬X b∧∀k,k<fs.length→wc.cell? ⟨b,k,none⟩=some (fs.getD k (.bool false))
set_option maxHeartbeats 8000000 in theorem AU(wc:World)(X:Nat→Prop)(fs:List Value)(P:List Tk→Prop)(H:List Tk→List Tk×Int)(a:Option Addr)(c:Nat)(hF:Mo wc X a fs)(hn:fs.length≤1000)(hC:dP wc X fs P H)(v:Value)(l:List Tk)(w:World)(hb:But X wc w)(ho:vK wc X w v l)(hP:P l) :Calls Tryz.prog 100 #[.slice a fs.length c,v] w fun e w'=>∃v',e= .returned (.tuple #[v',.int .i64 (H l).2])∧vK wc X w' v' (H l).1∧But X wc w':=by
 have HF:=aa hF;have HS:Hid (∃(P':List Tk→Prop)(H':List Tk→List Tk×Int),dP wc X (fs.drop 0) P' H'∧P' l∧H' l=H l) :=⟨P,H,hC,hP,rfl⟩;have HB:=aa hb;have HO:=aa ho;clear hF hC hb ho hP;go_enter Tryz.func100,Tryz.ntmps100;go_wp2_with fail;go_loopw [1,6,11](fun v' cd i wx=>∃(k:Nat)(l':List Tk),k≤fs.length∧i= .int .i64 k∧cd= .int .i64 0∧(∃(P':List Tk→Prop)(H':List Tk→List Tk×Int),dP wc X (fs.drop k) P' H'∧P' l'∧H' l'=H l)∧vK wc X wx v' l'∧But X wc wx)(fun _ _ i _=>fs.length-(intOf i).toNat);case atStart=>exact⟨0,l,by omega,rfl,rfl,HS.out,HO.out,HB.out⟩
 case round=>
  obtain⟨k,l',hk,rfl,rfl,hs,ho,hb⟩ :=hrel;obtain⟨P',H',hC,hP,hH⟩ :=hs;have HCx:=aa hC;have HPx:=aa hP;have HHx:=aa hH;have oM:=aa ho;have bq:=aa hb;clear hC hP hH ho hb HS;by_cases hlt:k<fs.length
  ·obtain⟨b,rfl,hbl,hXb,hcell⟩ :=HF.out.resolve_left (fun h=>by rw[h]at hlt;simp at hlt);have q0:=(bq.out.cell (p:=⟨b,k,none⟩) hbl hXb).trans (hcell k hlt);clear hcell;have hd:=HCx.out;rw[List.drop_eq_getElem_cons hlt]at hd;have he:fs.getD k (.bool false)=fs[k] :=by simp[hlt]
   rw[he]at q0;clear he;generalize fs[k]=f at*;cases hd with
   |cons g bd lb _ _ P2 G H2 eg hs hp hr=>
    have pY:=aa (hs wr u1 l' bq.out oM.out HPx.out);have sK:=aa (hp l' HPx.out);have HRn:=aa hr;have YF:Hid (iC G H2 l'=H l) :=HHx.out;clear hs hp hr HCx HHx;by_cases hc:(G l').2=0
    ·have HC0:=aa hc;have HHm:Hid (H2 (G l').1=H l) :=by show _=_;rw[←YF.out,iC,if_pos hc]
     rw[hc]at pY;clear hc YF;generalize(G l').1=m at*;go_wp2_with(go_at_fn g;refine pY.out.mono ?_;rintro e w2⟨v2,rfl,ho2,hb2⟩);go_roundw;case rel=>exact⟨k+1,m,by omega,by go_num,rfl,⟨P2,H2,HRn.out,sK.out HC0.out,HHm.out⟩,ho2,hb2⟩
     case measure=>simp[intOf];omega
    ·have HR:Hid (H l=([],(G l').2)) :=by show _=_;rw[←YF.out,iC,if_neg hc]
     have hcn:((G l').2 !=0)=true:=by rw[bne_iff_ne];exact hc
     clear hc YF sK;generalize(G l').2=cd at*;go_wp2_with(go_at_fn g;refine pY.out.mono ?_;rintro e w2⟨v2,rfl,ho2,hb2⟩);go_ret2;rw[HR.out];exact⟨_,rfl,⟨World.ownsRow_nil _ _ _ _,fun b e=>by cases e⟩,hb2⟩
  ·have HE:Hid (H l=(l',0)) :=by show _=_;have hd:=HCx.out;rw[List.drop_of_length_le (by omega)]at hd;rw[←HHx.out];cases hd;rfl
   go_wp2_with fail;go_ret2;rw[HE.out];exact⟨_,rfl,oM.out,bq.out⟩
end Go.Proofs.YtcjiphknpagenaaGreatDoor
namespace Go.Proofs.YtcjiphknpagenaaGreatDoor
open Go Go.RowKit
set_option maxHeartbeats 400000 in theorem lM(r:Int)(w:World) :Calls Tryz.prog 115 #[.int .i64 r] w fun e w'=>e= .returned (.bool (fT r))∧w'=w:=by
 have hc:fT r=decide (0≤r∧r≤1114111∧(r<55296∨57343<r)) :=rfl;by_cases h1:0≤r
 ·by_cases h2:r≤1114111
  ·by_cases h3:r<55296
   ·have H:Hid (fT r=true) :=by show _=_;rw[j4];omega
    clear hc;go_enter Tryz.func115,Tryz.ntmps115;go_wp2;go_ret;rw[H.out];exact⟨rfl,rfl⟩
   ·by_cases h4:57343<r
    ·have H:Hid (fT r=true) :=by show _=_;rw[j4];omega
     clear hc;go_enter Tryz.func115,Tryz.ntmps115;go_wp2;go_ret;rw[H.out];exact⟨rfl,rfl⟩
    ·have H:Hid (fT r=false) :=by show _=_;rw[Gt];omega
     clear hc;go_enter Tryz.func115,Tryz.ntmps115;go_wp2;go_ret;rw[H.out];exact⟨rfl,rfl⟩
  ·have H:Hid (fT r=false) :=by show _=_;rw[Gt];omega
   clear hc;go_enter Tryz.func115,Tryz.ntmps115;go_wp2;go_ret;rw[H.out];exact⟨rfl,rfl⟩
 ·have H:Hid (fT r=false) :=by show _=_;rw[Gt];omega
  clear hc;go_enter Tryz.func115,Tryz.ntmps115;go_wp2;go_ret;rw[H.out];exact⟨rfl,rfl⟩
set_option maxHeartbeats 400000 in theorem Vh(r:Int)(w:World)(h0:0≤r)(h1:r<128) :Calls Tryz.prog 90 #[.int .i64 r] w fun e w'=>e= .returned (.slice (some ⟨w.heap.size,0,none⟩) 1 1)∧w'=w.alloc (.cells #[.int .u8 r] 5) :=by go_enter Tryz.func90,Tryz.ntmps90;go_wp2;go_ret;exact⟨rfl,rfl⟩
set_option maxHeartbeats 400000 in theorem Us(r:Int)(w:World)(h0:128≤r)(h1:r<2048) :Calls Tryz.prog 90 #[.int .i64 r] w fun e w'=>e= .returned (.slice (some ⟨w.heap.size,0,none⟩) 2 2)∧w'=w.alloc (.cells #[.int .u8 (192+r/64),.int .u8 (128+r %64)] 5) :=by go_enter Tryz.func90,Tryz.ntmps90;go_wp2;go_ret;exact⟨rfl,rfl⟩
set_option maxHeartbeats 400000 in theorem MR(r:Int)(w:World)(h0:2048≤r)(h1:r<65536) :Calls Tryz.prog 90 #[.int .i64 r] w fun e w'=>e= .returned (.slice (some ⟨w.heap.size,0,none⟩) 3 3)∧w'=w.alloc (.cells #[.int .u8 (224+r/4096),.int .u8 (128+r/64 %64),.int .u8 (128+r %64)] 5) :=by go_enter Tryz.func90,Tryz.ntmps90;go_wp2;go_ret;exact⟨rfl,rfl⟩
set_option maxHeartbeats 400000 in theorem O5(r:Int)(w:World)(h0:65536≤r)(h1:r≤1114111) :Calls Tryz.prog 90 #[.int .i64 r] w fun e w'=>e= .returned (.slice (some ⟨w.heap.size,0,none⟩) 4 4)∧w'=w.alloc (.cells #[.int .u8 (240+r/262144),.int .u8 (128+r/4096 %64),.int .u8 (128+r/64 %64),.int .u8 (128+r %64)] 5) :=by go_enter Tryz.func90,Tryz.ntmps90;go_wp2;go_ret;exact⟨rfl,rfl⟩
theorem nD(r:Int)(w:World)(h:fT r=true) :Calls Tryz.prog 90 #[.int .i64 r] w fun e w'=>e= .returned (.slice (some ⟨w.heap.size,0,none⟩) (Lib.runeCells r).length (Lib.runeCells r).length)∧w'=w.alloc (.cells (Lib.runeCells r).toArray 5) :=by
 rw[j4]at h;unfold Lib.runeCells;by_cases h1:r<128;·rw[Lib.encodeRuneZ_one h.1 (by omega)];exact Vh r w h.1 h1
 ·by_cases h2:r<2048;·rw[Lib.encodeRuneZ_two (by omega) (by omega)];exact Us r w (by omega) h2
  ·by_cases h3:r<65536;·rw[Lib.encodeRuneZ_three (by omega)];exact MR r w (by omega) h3
   ·rw[Lib.encodeRuneZ_four (by omega) (by omega)];exact O5 r w (by omega) (by omega)
end Go.Proofs.YtcjiphknpagenaaGreatDoor
