/- The parts of some kinds. -/
import Derived.Test.YtajaijilfclhpaaGreatDoorGLaidM
namespace Go.Proofs.YtajaijilfclhpaaGreatDoor
open Go.RowKit

set_option maxRecDepth 100000 in
set_option maxHeartbeats 1000000 in
theorem parts_1 (nm : ByteArray) (pa : Option Addr) (pl pc : Nat) (r : Int) (va : Option Addr) (n vc : Nat) (aa : Option Addr) (al ac : Nat) (ba : Option Addr) (bl bc : Nat) (op dst : Int) (xa : Option Addr) (m xc : Nat) (bits ref : Int) (args : List Int) (hm : m = args.length) (w : World) (hP : PartsAt w) (hA : IntsAt w (.slice xa m xc) args) (hml : m ≤ 140737488355328) :
  Calls Tryz.prog 192 #[.agg #[.string nm, .slice pa pl pc, .int .u8 r, .slice va n vc, .slice aa al ac, .slice ba bl bc], .agg #[.int .u8 1, .int .u8 op, .int .i64 dst, .slice xa m xc, .int .u64 bits, .int .i64 ref]] w fun e w' => e = .returned (.bool (hasB ⟨false, true, false, false, 0, 9223372036854775807⟩ n ⟨1, op, dst, args, bits, ref⟩)) ∧ Below w.heap.size w w' := by
 obtain ⟨c0, c1, c2, c3, c4, c5⟩ := hP.2 1 ⟨false, true, false, false, 0, 9223372036854775807⟩ rfl
 simp only [Nat.reduceMul, Nat.reduceAdd] at c0 c1 c2 c3 c4 c5
 have h0 := hP.1
 have HB : Hid (Below w.heap.size w (((w.alloc (.cells #[.string nm, .slice pa pl pc, .int .u8 r, .slice va n vc, .slice aa al ac, .slice ba bl bc] 28)).alloc (.cells #[.int .u8 1, .int .u8 op, .int .i64 dst, .slice xa m xc, .int .u64 bits, .int .i64 ref] 55)).alloc (.cells #[.bool false, .bool true, .bool false, .bool false, .int .i64 0, .int .i64 9223372036854775807] 277)) ∧ Trio w.heap.size [.string nm, .slice pa pl pc, .int .u8 r, .slice va n vc, .slice aa al ac, .slice ba bl bc] [.int .u8 1, .int .u8 op, .int .i64 dst, .slice xa m xc, .int .u64 bits, .int .i64 ref] [.bool false, .bool true, .bool false, .bool false, .int .i64 0, .int .i64 9223372036854775807] (((w.alloc (.cells #[.string nm, .slice pa pl pc, .int .u8 r, .slice va n vc, .slice aa al ac, .slice ba bl bc] 28)).alloc (.cells #[.int .u8 1, .int .u8 op, .int .i64 dst, .slice xa m xc, .int .u64 bits, .int .i64 ref] 55)).alloc (.cells #[.bool false, .bool true, .bool false, .bool false, .int .i64 0, .int .i64 9223372036854775807] 277))) := ⟨below_alloc (below_alloc (below_alloc (Below.refl _ _) _) _) _, Trio.new w [.string nm, .slice pa pl pc, .int .u8 r, .slice va n vc, .slice aa al ac, .slice ba bl bc] [.int .u8 1, .int .u8 op, .int .i64 dst, .slice xa m xc, .int .u64 bits, .int .i64 ref] [.bool false, .bool true, .bool false, .bool false, .int .i64 0, .int .i64 9223372036854775807] 28 55 277⟩
 have HA2 : Hid (∀ i, i < args.length → _) := fun i hi => hA.get (i := i) hi
 have HPL : Hid (∀ v W, Calls Tryz.prog 178 #[.int .i64 v, .int .i64 (n : Int)] W fun e w' => e = .returned (.bool (inB v n)) ∧ w' = W) := fun v W => isPlace_any v _ W
 have HM : Hid (m = args.length) := hm
 clear hP hA hm
 obtain ⟨R, hR⟩ : ∃ R, R = hasB ⟨false, true, false, false, 0, 9223372036854775807⟩ n ⟨1, op, dst, args, bits, ref⟩ := ⟨_, rfl⟩
 rw [← hR]
 unfold hasB at hR
 by_cases hop : op = 0
 ·subst hop
  by_cases hbits : bits = 0
  ·subst hbits
   by_cases href : ref = 0
   ·subst href
    cases hd : inB dst n with
    | true =>
     have HPD : Hid (∀ W, Calls Tryz.prog 178 #[.int .i64 dst, .int .i64 (n : Int)] W fun e w' => e = .returned (.bool true) ∧ w' = W) := by intro W; rw [← hd]; exact HPL.out dst W
     have HR : Hid (R = ((args.drop 0).all (inB · n) && (decide ((0 : Int) ≤ (args.length : Int)) && decide ((args.length : Int) ≤ 9223372036854775807)))) := by show _ = _; rw [hR]; simp [hd]
     clear hR hd
     have T1 : True := trivial
     go_enter Tryz.func192, Tryz.ntmps192
     go_wp2_with (go_at_call 178; clear T1; refine Calls.mono (HPD.out _) ?_; rintro e wx ⟨rfl, hwx⟩; subst wx)
     go_loopw [72] (fun vi wr => ∃ i : Nat, vi = .int .i64 i ∧ i ≤ m ∧ Hid (R = ((args.drop i).all (inB · n) && (decide ((0 : Int) ≤ (args.length : Int)) && decide ((args.length : Int) ≤ 9223372036854775807))) ∧ Below w.heap.size w wr ∧ Trio w.heap.size [.string nm, .slice pa pl pc, .int .u8 r, .slice va n vc, .slice aa al ac, .slice ba bl bc] [.int .u8 1, .int .u8 0, .int .i64 dst, .slice xa m xc, .int .u64 0, .int .i64 0] [.bool false, .bool true, .bool false, .bool false, .int .i64 0, .int .i64 9223372036854775807] wr)) (fun vi _ => m - (intOf vi).toNat)
     case atStart => exact ⟨0, rfl, by omega, HR.out, HB.out.1, HB.out.2⟩
     case round =>
      obtain ⟨i, rfl, hi, hr⟩ := hrel
      clear HR HB c0 c1 c2 c3 c4 c5
      obtain ⟨e0, e1, e2, e3, e4, e5⟩ := box6 hr.out.2.2.g
      obtain ⟨x0, x1, x2, x3, x4, x5⟩ := box6 hr.out.2.2.t
      obtain ⟨o0, o1, o2, o3, o4, o5⟩ := box6 hr.out.2.2.o
      by_cases hin : i < m
      ·obtain ⟨g, o, rfl, hg, cv⟩ := HA2.out i (by rw [← HM.out]; exact hin)
       have hin' : (i : Int) < m := by omega
       have cv' := (hr.out.2.1.cell (p := ⟨g, o + i, none⟩) hg).trans cv
       have hd : R = (inB (args.getD i 0) n && (args.drop (i + 1)).all (inB · n) && (decide ((0 : Int) ≤ (args.length : Int)) && decide ((args.length : Int) ≤ 9223372036854775807))) := by rw [hr.out.1, all_drop (d := 0) (by rw [← HM.out]; exact hin)]
       have HPI := HPL.out (args.getD i 0)
       generalize args.getD i 0 = tv at *
       clear cv
       cases htb : inB tv n with
       | true =>
        rw [htb] at hd HPI
        simp only [Bool.true_and] at hd
        have HD : Hid _ := hd
        have HPJ : Hid _ := HPI
        clear hd HPI htb
        go_wp2_with (go_at_call 178; refine Calls.mono (HPJ.out _) ?_; rintro e wx ⟨rfl, hwx⟩; subst wx)
        go_roundw
        case rel => exact ⟨i + 1, by first | rfl | (congr 1; omega), by omega, HD.out, hr.out.2⟩
        case measure => simp [intOf]; omega
       | false =>
        rw [htb] at hd HPI
        simp only [Bool.false_and] at hd
        have HD : Hid _ := hd
        have HPJ : Hid _ := HPI
        clear hd HPI htb
        go_wp2_with (go_at_call 178; refine Calls.mono (HPJ.out _) ?_; rintro e wx ⟨rfl, hwx⟩; subst wx)
        go_ret
        exact ⟨ret_bool HD.out.symm, hr.out.2.1⟩
      ·obtain rfl : i = m := by omega
       have hd : R = (decide ((0 : Int) ≤ (args.length : Int)) && decide ((args.length : Int) ≤ 9223372036854775807)) := by rw [hr.out.1, HM.out, List.drop_length]; simp
       rw [← HM.out] at hd
       have HD : Hid _ := hd
       clear hd HA2
       have hle : (0 : Int) ≤ i := by omega
       go_wp2
       go_ret
       exact ⟨ret_bool (by rw [HD.out]; simp; try omega), hr.out.2.1⟩
    | false =>
     have HPD : Hid (∀ W, Calls Tryz.prog 178 #[.int .i64 dst, .int .i64 (n : Int)] W fun e w' => e = .returned (.bool false) ∧ w' = W) := by intro W; rw [← hd]; exact HPL.out dst W
     have HR : Hid (R = false) := by show _ = _; rw [hR]; simp [hd]
     clear hR hd
     go_enter Tryz.func192, Tryz.ntmps192
     go_wp2_with (go_at_call 178; refine Calls.mono (HPD.out _) ?_; rintro e wx ⟨rfl, hwx⟩; subst wx)
     go_ret
     exact ⟨ret_bool HR.out.symm, HB.out.1⟩
   ·have HR : Hid (R = false) := by show _ = _; rw [hR]; simp [href]
    have hx : (ref != 0) = true := by simpa using href
    clear hR
    go_enter Tryz.func192, Tryz.ntmps192
    go_wp2
    go_ret
    exact ⟨ret_bool HR.out.symm, HB.out.1⟩
  ·have HR : Hid (R = false) := by show _ = _; rw [hR]; simp [hbits]
   have hx : (bits != 0) = true := by simpa using hbits
   clear hR
   go_enter Tryz.func192, Tryz.ntmps192
   go_wp2
   go_ret
   exact ⟨ret_bool HR.out.symm, HB.out.1⟩
 ·have HR : Hid (R = false) := by show _ = _; rw [hR]; simp [hop]
  have hx : (op != 0) = true := by simpa using hop
  clear hR
  go_enter Tryz.func192, Tryz.ntmps192
  go_wp2
  go_ret
  exact ⟨ret_bool HR.out.symm, HB.out.1⟩
set_option maxRecDepth 100000 in
set_option maxHeartbeats 1000000 in
theorem parts_2 (nm : ByteArray) (pa : Option Addr) (pl pc : Nat) (r : Int) (va : Option Addr) (n vc : Nat) (aa : Option Addr) (al ac : Nat) (ba : Option Addr) (bl bc : Nat) (op dst : Int) (xa : Option Addr) (m xc : Nat) (bits ref : Int) (args : List Int) (hm : m = args.length) (w : World) (hP : PartsAt w) (hA : IntsAt w (.slice xa m xc) args) (hml : m ≤ 140737488355328) :
  Calls Tryz.prog 192 #[.agg #[.string nm, .slice pa pl pc, .int .u8 r, .slice va n vc, .slice aa al ac, .slice ba bl bc], .agg #[.int .u8 2, .int .u8 op, .int .i64 dst, .slice xa m xc, .int .u64 bits, .int .i64 ref]] w fun e w' => e = .returned (.bool (hasB ⟨false, true, true, false, 0, 0⟩ n ⟨2, op, dst, args, bits, ref⟩)) ∧ Below w.heap.size w w' := by
 obtain ⟨c0, c1, c2, c3, c4, c5⟩ := hP.2 2 ⟨false, true, true, false, 0, 0⟩ rfl
 simp only [Nat.reduceMul, Nat.reduceAdd] at c0 c1 c2 c3 c4 c5
 have h0 := hP.1
 have HB : Hid (Below w.heap.size w (((w.alloc (.cells #[.string nm, .slice pa pl pc, .int .u8 r, .slice va n vc, .slice aa al ac, .slice ba bl bc] 28)).alloc (.cells #[.int .u8 2, .int .u8 op, .int .i64 dst, .slice xa m xc, .int .u64 bits, .int .i64 ref] 55)).alloc (.cells #[.bool false, .bool true, .bool true, .bool false, .int .i64 0, .int .i64 0] 277)) ∧ Trio w.heap.size [.string nm, .slice pa pl pc, .int .u8 r, .slice va n vc, .slice aa al ac, .slice ba bl bc] [.int .u8 2, .int .u8 op, .int .i64 dst, .slice xa m xc, .int .u64 bits, .int .i64 ref] [.bool false, .bool true, .bool true, .bool false, .int .i64 0, .int .i64 0] (((w.alloc (.cells #[.string nm, .slice pa pl pc, .int .u8 r, .slice va n vc, .slice aa al ac, .slice ba bl bc] 28)).alloc (.cells #[.int .u8 2, .int .u8 op, .int .i64 dst, .slice xa m xc, .int .u64 bits, .int .i64 ref] 55)).alloc (.cells #[.bool false, .bool true, .bool true, .bool false, .int .i64 0, .int .i64 0] 277))) := ⟨below_alloc (below_alloc (below_alloc (Below.refl _ _) _) _) _, Trio.new w [.string nm, .slice pa pl pc, .int .u8 r, .slice va n vc, .slice aa al ac, .slice ba bl bc] [.int .u8 2, .int .u8 op, .int .i64 dst, .slice xa m xc, .int .u64 bits, .int .i64 ref] [.bool false, .bool true, .bool true, .bool false, .int .i64 0, .int .i64 0] 28 55 277⟩
 have HA2 : Hid (∀ i, i < args.length → _) := fun i hi => hA.get (i := i) hi
 have HPL : Hid (∀ v W, Calls Tryz.prog 178 #[.int .i64 v, .int .i64 (n : Int)] W fun e w' => e = .returned (.bool (inB v n)) ∧ w' = W) := fun v W => isPlace_any v _ W
 have HM : Hid (m = args.length) := hm
 clear hP hA hm
 obtain ⟨R, hR⟩ : ∃ R, R = hasB ⟨false, true, true, false, 0, 0⟩ n ⟨2, op, dst, args, bits, ref⟩ := ⟨_, rfl⟩
 rw [← hR]
 unfold hasB at hR
 by_cases hop : op = 0
 ·subst hop
  by_cases href : ref = 0
  ·subst href
   cases hd : inB dst n with
   | true =>
    have HPD : Hid (∀ W, Calls Tryz.prog 178 #[.int .i64 dst, .int .i64 (n : Int)] W fun e w' => e = .returned (.bool true) ∧ w' = W) := by intro W; rw [← hd]; exact HPL.out dst W
    have HR : Hid (R = ((args.drop 0).all (inB · n) && (decide ((0 : Int) ≤ (args.length : Int)) && decide ((args.length : Int) ≤ 0)))) := by show _ = _; rw [hR]; simp [hd]
    clear hR hd
    have T1 : True := trivial
    go_enter Tryz.func192, Tryz.ntmps192
    go_wp2_with (go_at_call 178; clear T1; refine Calls.mono (HPD.out _) ?_; rintro e wx ⟨rfl, hwx⟩; subst wx)
    go_loopw [72] (fun vi wr => ∃ i : Nat, vi = .int .i64 i ∧ i ≤ m ∧ Hid (R = ((args.drop i).all (inB · n) && (decide ((0 : Int) ≤ (args.length : Int)) && decide ((args.length : Int) ≤ 0))) ∧ Below w.heap.size w wr ∧ Trio w.heap.size [.string nm, .slice pa pl pc, .int .u8 r, .slice va n vc, .slice aa al ac, .slice ba bl bc] [.int .u8 2, .int .u8 0, .int .i64 dst, .slice xa m xc, .int .u64 bits, .int .i64 0] [.bool false, .bool true, .bool true, .bool false, .int .i64 0, .int .i64 0] wr)) (fun vi _ => m - (intOf vi).toNat)
    case atStart => exact ⟨0, rfl, by omega, HR.out, HB.out.1, HB.out.2⟩
    case round =>
     obtain ⟨i, rfl, hi, hr⟩ := hrel
     clear HR HB c0 c1 c2 c3 c4 c5
     obtain ⟨e0, e1, e2, e3, e4, e5⟩ := box6 hr.out.2.2.g
     obtain ⟨x0, x1, x2, x3, x4, x5⟩ := box6 hr.out.2.2.t
     obtain ⟨o0, o1, o2, o3, o4, o5⟩ := box6 hr.out.2.2.o
     by_cases hin : i < m
     ·obtain ⟨g, o, rfl, hg, cv⟩ := HA2.out i (by rw [← HM.out]; exact hin)
      have hin' : (i : Int) < m := by omega
      have cv' := (hr.out.2.1.cell (p := ⟨g, o + i, none⟩) hg).trans cv
      have hd : R = (inB (args.getD i 0) n && (args.drop (i + 1)).all (inB · n) && (decide ((0 : Int) ≤ (args.length : Int)) && decide ((args.length : Int) ≤ 0))) := by rw [hr.out.1, all_drop (d := 0) (by rw [← HM.out]; exact hin)]
      have HPI := HPL.out (args.getD i 0)
      generalize args.getD i 0 = tv at *
      clear cv
      cases htb : inB tv n with
      | true =>
       rw [htb] at hd HPI
       simp only [Bool.true_and] at hd
       have HD : Hid _ := hd
       have HPJ : Hid _ := HPI
       clear hd HPI htb
       go_wp2_with (go_at_call 178; refine Calls.mono (HPJ.out _) ?_; rintro e wx ⟨rfl, hwx⟩; subst wx)
       go_roundw
       case rel => exact ⟨i + 1, by first | rfl | (congr 1; omega), by omega, HD.out, hr.out.2⟩
       case measure => simp [intOf]; omega
      | false =>
       rw [htb] at hd HPI
       simp only [Bool.false_and] at hd
       have HD : Hid _ := hd
       have HPJ : Hid _ := HPI
       clear hd HPI htb
       go_wp2_with (go_at_call 178; refine Calls.mono (HPJ.out _) ?_; rintro e wx ⟨rfl, hwx⟩; subst wx)
       go_ret
       exact ⟨ret_bool HD.out.symm, hr.out.2.1⟩
     ·obtain rfl : i = m := by omega
      have hd : R = (decide ((0 : Int) ≤ (args.length : Int)) && decide ((args.length : Int) ≤ 0)) := by rw [hr.out.1, HM.out, List.drop_length]; simp
      rw [← HM.out] at hd
      have HD : Hid _ := hd
      clear hd HA2
      have hle : (0 : Int) ≤ i := by omega
      go_wp2
      go_ret
      exact ⟨ret_bool (by rw [HD.out]; simp; try omega), hr.out.2.1⟩
   | false =>
    have HPD : Hid (∀ W, Calls Tryz.prog 178 #[.int .i64 dst, .int .i64 (n : Int)] W fun e w' => e = .returned (.bool false) ∧ w' = W) := by intro W; rw [← hd]; exact HPL.out dst W
    have HR : Hid (R = false) := by show _ = _; rw [hR]; simp [hd]
    clear hR hd
    go_enter Tryz.func192, Tryz.ntmps192
    go_wp2_with (go_at_call 178; refine Calls.mono (HPD.out _) ?_; rintro e wx ⟨rfl, hwx⟩; subst wx)
    go_ret
    exact ⟨ret_bool HR.out.symm, HB.out.1⟩
  ·have HR : Hid (R = false) := by show _ = _; rw [hR]; simp [href]
   have hx : (ref != 0) = true := by simpa using href
   clear hR
   go_enter Tryz.func192, Tryz.ntmps192
   go_wp2
   go_ret
   exact ⟨ret_bool HR.out.symm, HB.out.1⟩
 ·have HR : Hid (R = false) := by show _ = _; rw [hR]; simp [hop]
  have hx : (op != 0) = true := by simpa using hop
  clear hR
  go_enter Tryz.func192, Tryz.ntmps192
  go_wp2
  go_ret
  exact ⟨ret_bool HR.out.symm, HB.out.1⟩
set_option maxRecDepth 100000 in
set_option maxHeartbeats 1000000 in
theorem parts_3 (nm : ByteArray) (pa : Option Addr) (pl pc : Nat) (r : Int) (va : Option Addr) (n vc : Nat) (aa : Option Addr) (al ac : Nat) (ba : Option Addr) (bl bc : Nat) (op dst : Int) (xa : Option Addr) (m xc : Nat) (bits ref : Int) (args : List Int) (hm : m = args.length) (w : World) (hP : PartsAt w) (hA : IntsAt w (.slice xa m xc) args) (hml : m ≤ 140737488355328) :
  Calls Tryz.prog 192 #[.agg #[.string nm, .slice pa pl pc, .int .u8 r, .slice va n vc, .slice aa al ac, .slice ba bl bc], .agg #[.int .u8 3, .int .u8 op, .int .i64 dst, .slice xa m xc, .int .u64 bits, .int .i64 ref]] w fun e w' => e = .returned (.bool (hasB ⟨false, true, false, false, 1, 1⟩ n ⟨3, op, dst, args, bits, ref⟩)) ∧ Below w.heap.size w w' := by
 obtain ⟨c0, c1, c2, c3, c4, c5⟩ := hP.2 3 ⟨false, true, false, false, 1, 1⟩ rfl
 simp only [Nat.reduceMul, Nat.reduceAdd] at c0 c1 c2 c3 c4 c5
 have h0 := hP.1
 have HB : Hid (Below w.heap.size w (((w.alloc (.cells #[.string nm, .slice pa pl pc, .int .u8 r, .slice va n vc, .slice aa al ac, .slice ba bl bc] 28)).alloc (.cells #[.int .u8 3, .int .u8 op, .int .i64 dst, .slice xa m xc, .int .u64 bits, .int .i64 ref] 55)).alloc (.cells #[.bool false, .bool true, .bool false, .bool false, .int .i64 1, .int .i64 1] 277)) ∧ Trio w.heap.size [.string nm, .slice pa pl pc, .int .u8 r, .slice va n vc, .slice aa al ac, .slice ba bl bc] [.int .u8 3, .int .u8 op, .int .i64 dst, .slice xa m xc, .int .u64 bits, .int .i64 ref] [.bool false, .bool true, .bool false, .bool false, .int .i64 1, .int .i64 1] (((w.alloc (.cells #[.string nm, .slice pa pl pc, .int .u8 r, .slice va n vc, .slice aa al ac, .slice ba bl bc] 28)).alloc (.cells #[.int .u8 3, .int .u8 op, .int .i64 dst, .slice xa m xc, .int .u64 bits, .int .i64 ref] 55)).alloc (.cells #[.bool false, .bool true, .bool false, .bool false, .int .i64 1, .int .i64 1] 277))) := ⟨below_alloc (below_alloc (below_alloc (Below.refl _ _) _) _) _, Trio.new w [.string nm, .slice pa pl pc, .int .u8 r, .slice va n vc, .slice aa al ac, .slice ba bl bc] [.int .u8 3, .int .u8 op, .int .i64 dst, .slice xa m xc, .int .u64 bits, .int .i64 ref] [.bool false, .bool true, .bool false, .bool false, .int .i64 1, .int .i64 1] 28 55 277⟩
 have HA2 : Hid (∀ i, i < args.length → _) := fun i hi => hA.get (i := i) hi
 have HPL : Hid (∀ v W, Calls Tryz.prog 178 #[.int .i64 v, .int .i64 (n : Int)] W fun e w' => e = .returned (.bool (inB v n)) ∧ w' = W) := fun v W => isPlace_any v _ W
 have HM : Hid (m = args.length) := hm
 clear hP hA hm
 obtain ⟨R, hR⟩ : ∃ R, R = hasB ⟨false, true, false, false, 1, 1⟩ n ⟨3, op, dst, args, bits, ref⟩ := ⟨_, rfl⟩
 rw [← hR]
 unfold hasB at hR
 by_cases hop : op = 0
 ·subst hop
  by_cases hbits : bits = 0
  ·subst hbits
   by_cases href : ref = 0
   ·subst href
    cases hd : inB dst n with
    | true =>
     have HPD : Hid (∀ W, Calls Tryz.prog 178 #[.int .i64 dst, .int .i64 (n : Int)] W fun e w' => e = .returned (.bool true) ∧ w' = W) := by intro W; rw [← hd]; exact HPL.out dst W
     have HR : Hid (R = ((args.drop 0).all (inB · n) && (decide ((1 : Int) ≤ (args.length : Int)) && decide ((args.length : Int) ≤ 1)))) := by show _ = _; rw [hR]; simp [hd]
     clear hR hd
     have T1 : True := trivial
     go_enter Tryz.func192, Tryz.ntmps192
     go_wp2_with (go_at_call 178; clear T1; refine Calls.mono (HPD.out _) ?_; rintro e wx ⟨rfl, hwx⟩; subst wx)
     go_loopw [72] (fun vi wr => ∃ i : Nat, vi = .int .i64 i ∧ i ≤ m ∧ Hid (R = ((args.drop i).all (inB · n) && (decide ((1 : Int) ≤ (args.length : Int)) && decide ((args.length : Int) ≤ 1))) ∧ Below w.heap.size w wr ∧ Trio w.heap.size [.string nm, .slice pa pl pc, .int .u8 r, .slice va n vc, .slice aa al ac, .slice ba bl bc] [.int .u8 3, .int .u8 0, .int .i64 dst, .slice xa m xc, .int .u64 0, .int .i64 0] [.bool false, .bool true, .bool false, .bool false, .int .i64 1, .int .i64 1] wr)) (fun vi _ => m - (intOf vi).toNat)
     case atStart => exact ⟨0, rfl, by omega, HR.out, HB.out.1, HB.out.2⟩
     case round =>
      obtain ⟨i, rfl, hi, hr⟩ := hrel
      clear HR HB c0 c1 c2 c3 c4 c5
      obtain ⟨e0, e1, e2, e3, e4, e5⟩ := box6 hr.out.2.2.g
      obtain ⟨x0, x1, x2, x3, x4, x5⟩ := box6 hr.out.2.2.t
      obtain ⟨o0, o1, o2, o3, o4, o5⟩ := box6 hr.out.2.2.o
      by_cases hin : i < m
      ·obtain ⟨g, o, rfl, hg, cv⟩ := HA2.out i (by rw [← HM.out]; exact hin)
       have hin' : (i : Int) < m := by omega
       have cv' := (hr.out.2.1.cell (p := ⟨g, o + i, none⟩) hg).trans cv
       have hd : R = (inB (args.getD i 0) n && (args.drop (i + 1)).all (inB · n) && (decide ((1 : Int) ≤ (args.length : Int)) && decide ((args.length : Int) ≤ 1))) := by rw [hr.out.1, all_drop (d := 0) (by rw [← HM.out]; exact hin)]
       have HPI := HPL.out (args.getD i 0)
       generalize args.getD i 0 = tv at *
       clear cv
       cases htb : inB tv n with
       | true =>
        rw [htb] at hd HPI
        simp only [Bool.true_and] at hd
        have HD : Hid _ := hd
        have HPJ : Hid _ := HPI
        clear hd HPI htb
        go_wp2_with (go_at_call 178; refine Calls.mono (HPJ.out _) ?_; rintro e wx ⟨rfl, hwx⟩; subst wx)
        go_roundw
        case rel => exact ⟨i + 1, by first | rfl | (congr 1; omega), by omega, HD.out, hr.out.2⟩
        case measure => simp [intOf]; omega
       | false =>
        rw [htb] at hd HPI
        simp only [Bool.false_and] at hd
        have HD : Hid _ := hd
        have HPJ : Hid _ := HPI
        clear hd HPI htb
        go_wp2_with (go_at_call 178; refine Calls.mono (HPJ.out _) ?_; rintro e wx ⟨rfl, hwx⟩; subst wx)
        go_ret
        exact ⟨ret_bool HD.out.symm, hr.out.2.1⟩
      ·obtain rfl : i = m := by omega
       have hd : R = (decide ((1 : Int) ≤ (args.length : Int)) && decide ((args.length : Int) ≤ 1)) := by rw [hr.out.1, HM.out, List.drop_length]; simp
       rw [← HM.out] at hd
       have HD : Hid _ := hd
       clear hd HA2
       by_cases hle : (1 : Int) ≤ i
       ·go_wp2
        go_ret
        exact ⟨ret_bool (by rw [HD.out]; simp; try omega), hr.out.2.1⟩
       ·go_wp2
        go_ret
        exact ⟨ret_bool (by rw [HD.out]; simp; try omega), hr.out.2.1⟩
    | false =>
     have HPD : Hid (∀ W, Calls Tryz.prog 178 #[.int .i64 dst, .int .i64 (n : Int)] W fun e w' => e = .returned (.bool false) ∧ w' = W) := by intro W; rw [← hd]; exact HPL.out dst W
     have HR : Hid (R = false) := by show _ = _; rw [hR]; simp [hd]
     clear hR hd
     go_enter Tryz.func192, Tryz.ntmps192
     go_wp2_with (go_at_call 178; refine Calls.mono (HPD.out _) ?_; rintro e wx ⟨rfl, hwx⟩; subst wx)
     go_ret
     exact ⟨ret_bool HR.out.symm, HB.out.1⟩
   ·have HR : Hid (R = false) := by show _ = _; rw [hR]; simp [href]
    have hx : (ref != 0) = true := by simpa using href
    clear hR
    go_enter Tryz.func192, Tryz.ntmps192
    go_wp2
    go_ret
    exact ⟨ret_bool HR.out.symm, HB.out.1⟩
  ·have HR : Hid (R = false) := by show _ = _; rw [hR]; simp [hbits]
   have hx : (bits != 0) = true := by simpa using hbits
   clear hR
   go_enter Tryz.func192, Tryz.ntmps192
   go_wp2
   go_ret
   exact ⟨ret_bool HR.out.symm, HB.out.1⟩
 ·have HR : Hid (R = false) := by show _ = _; rw [hR]; simp [hop]
  have hx : (op != 0) = true := by simpa using hop
  clear hR
  go_enter Tryz.func192, Tryz.ntmps192
  go_wp2
  go_ret
  exact ⟨ret_bool HR.out.symm, HB.out.1⟩
end Go.Proofs.YtajaijilfclhpaaGreatDoor
/- The parts of some kinds. -/
namespace Go.Proofs.YtajaijilfclhpaaGreatDoor
open Go.RowKit

set_option maxRecDepth 100000 in
set_option maxHeartbeats 1000000 in
theorem parts_4 (nm : ByteArray) (pa : Option Addr) (pl pc : Nat) (r : Int) (va : Option Addr) (n vc : Nat) (aa : Option Addr) (al ac : Nat) (ba : Option Addr) (bl bc : Nat) (op dst : Int) (xa : Option Addr) (m xc : Nat) (bits ref : Int) (args : List Int) (hm : m = args.length) (w : World) (hP : PartsAt w) (hA : IntsAt w (.slice xa m xc) args) (hml : m ≤ 140737488355328) :
  Calls Tryz.prog 192 #[.agg #[.string nm, .slice pa pl pc, .int .u8 r, .slice va n vc, .slice aa al ac, .slice ba bl bc], .agg #[.int .u8 4, .int .u8 op, .int .i64 dst, .slice xa m xc, .int .u64 bits, .int .i64 ref]] w fun e w' => e = .returned (.bool (hasB ⟨true, true, false, false, 1, 2⟩ n ⟨4, op, dst, args, bits, ref⟩)) ∧ Below w.heap.size w w' := by
 obtain ⟨c0, c1, c2, c3, c4, c5⟩ := hP.2 4 ⟨true, true, false, false, 1, 2⟩ rfl
 simp only [Nat.reduceMul, Nat.reduceAdd] at c0 c1 c2 c3 c4 c5
 have h0 := hP.1
 have HB : Hid (Below w.heap.size w (((w.alloc (.cells #[.string nm, .slice pa pl pc, .int .u8 r, .slice va n vc, .slice aa al ac, .slice ba bl bc] 28)).alloc (.cells #[.int .u8 4, .int .u8 op, .int .i64 dst, .slice xa m xc, .int .u64 bits, .int .i64 ref] 55)).alloc (.cells #[.bool true, .bool true, .bool false, .bool false, .int .i64 1, .int .i64 2] 277)) ∧ Trio w.heap.size [.string nm, .slice pa pl pc, .int .u8 r, .slice va n vc, .slice aa al ac, .slice ba bl bc] [.int .u8 4, .int .u8 op, .int .i64 dst, .slice xa m xc, .int .u64 bits, .int .i64 ref] [.bool true, .bool true, .bool false, .bool false, .int .i64 1, .int .i64 2] (((w.alloc (.cells #[.string nm, .slice pa pl pc, .int .u8 r, .slice va n vc, .slice aa al ac, .slice ba bl bc] 28)).alloc (.cells #[.int .u8 4, .int .u8 op, .int .i64 dst, .slice xa m xc, .int .u64 bits, .int .i64 ref] 55)).alloc (.cells #[.bool true, .bool true, .bool false, .bool false, .int .i64 1, .int .i64 2] 277))) := ⟨below_alloc (below_alloc (below_alloc (Below.refl _ _) _) _) _, Trio.new w [.string nm, .slice pa pl pc, .int .u8 r, .slice va n vc, .slice aa al ac, .slice ba bl bc] [.int .u8 4, .int .u8 op, .int .i64 dst, .slice xa m xc, .int .u64 bits, .int .i64 ref] [.bool true, .bool true, .bool false, .bool false, .int .i64 1, .int .i64 2] 28 55 277⟩
 have HA2 : Hid (∀ i, i < args.length → _) := fun i hi => hA.get (i := i) hi
 have HPL : Hid (∀ v W, Calls Tryz.prog 178 #[.int .i64 v, .int .i64 (n : Int)] W fun e w' => e = .returned (.bool (inB v n)) ∧ w' = W) := fun v W => isPlace_any v _ W
 have HM : Hid (m = args.length) := hm
 clear hP hA hm
 obtain ⟨R, hR⟩ : ∃ R, R = hasB ⟨true, true, false, false, 1, 2⟩ n ⟨4, op, dst, args, bits, ref⟩ := ⟨_, rfl⟩
 rw [← hR]
 unfold hasB at hR
 by_cases hbits : bits = 0
 ·subst hbits
  by_cases href : ref = 0
  ·subst href
   cases hd : inB dst n with
   | true =>
    have HPD : Hid (∀ W, Calls Tryz.prog 178 #[.int .i64 dst, .int .i64 (n : Int)] W fun e w' => e = .returned (.bool true) ∧ w' = W) := by intro W; rw [← hd]; exact HPL.out dst W
    have HR : Hid (R = ((args.drop 0).all (inB · n) && (decide ((1 : Int) ≤ (args.length : Int)) && decide ((args.length : Int) ≤ 2)))) := by show _ = _; rw [hR]; simp [hd]
    clear hR hd
    have T1 : True := trivial
    go_enter Tryz.func192, Tryz.ntmps192
    go_wp2_with (go_at_call 178; clear T1; refine Calls.mono (HPD.out _) ?_; rintro e wx ⟨rfl, hwx⟩; subst wx)
    go_loopw [72] (fun vi wr => ∃ i : Nat, vi = .int .i64 i ∧ i ≤ m ∧ Hid (R = ((args.drop i).all (inB · n) && (decide ((1 : Int) ≤ (args.length : Int)) && decide ((args.length : Int) ≤ 2))) ∧ Below w.heap.size w wr ∧ Trio w.heap.size [.string nm, .slice pa pl pc, .int .u8 r, .slice va n vc, .slice aa al ac, .slice ba bl bc] [.int .u8 4, .int .u8 op, .int .i64 dst, .slice xa m xc, .int .u64 0, .int .i64 0] [.bool true, .bool true, .bool false, .bool false, .int .i64 1, .int .i64 2] wr)) (fun vi _ => m - (intOf vi).toNat)
    case atStart => exact ⟨0, rfl, by omega, HR.out, HB.out.1, HB.out.2⟩
    case round =>
     obtain ⟨i, rfl, hi, hr⟩ := hrel
     clear HR HB c0 c1 c2 c3 c4 c5
     obtain ⟨e0, e1, e2, e3, e4, e5⟩ := box6 hr.out.2.2.g
     obtain ⟨x0, x1, x2, x3, x4, x5⟩ := box6 hr.out.2.2.t
     obtain ⟨o0, o1, o2, o3, o4, o5⟩ := box6 hr.out.2.2.o
     by_cases hin : i < m
     ·obtain ⟨g, o, rfl, hg, cv⟩ := HA2.out i (by rw [← HM.out]; exact hin)
      have hin' : (i : Int) < m := by omega
      have cv' := (hr.out.2.1.cell (p := ⟨g, o + i, none⟩) hg).trans cv
      have hd : R = (inB (args.getD i 0) n && (args.drop (i + 1)).all (inB · n) && (decide ((1 : Int) ≤ (args.length : Int)) && decide ((args.length : Int) ≤ 2))) := by rw [hr.out.1, all_drop (d := 0) (by rw [← HM.out]; exact hin)]
      have HPI := HPL.out (args.getD i 0)
      generalize args.getD i 0 = tv at *
      clear cv
      cases htb : inB tv n with
      | true =>
       rw [htb] at hd HPI
       simp only [Bool.true_and] at hd
       have HD : Hid _ := hd
       have HPJ : Hid _ := HPI
       clear hd HPI htb
       go_wp2_with (go_at_call 178; refine Calls.mono (HPJ.out _) ?_; rintro e wx ⟨rfl, hwx⟩; subst wx)
       go_roundw
       case rel => exact ⟨i + 1, by first | rfl | (congr 1; omega), by omega, HD.out, hr.out.2⟩
       case measure => simp [intOf]; omega
      | false =>
       rw [htb] at hd HPI
       simp only [Bool.false_and] at hd
       have HD : Hid _ := hd
       have HPJ : Hid _ := HPI
       clear hd HPI htb
       go_wp2_with (go_at_call 178; refine Calls.mono (HPJ.out _) ?_; rintro e wx ⟨rfl, hwx⟩; subst wx)
       go_ret
       exact ⟨ret_bool HD.out.symm, hr.out.2.1⟩
     ·obtain rfl : i = m := by omega
      have hd : R = (decide ((1 : Int) ≤ (args.length : Int)) && decide ((args.length : Int) ≤ 2)) := by rw [hr.out.1, HM.out, List.drop_length]; simp
      rw [← HM.out] at hd
      have HD : Hid _ := hd
      clear hd HA2
      by_cases hle : (1 : Int) ≤ i
      ·go_wp2
       go_ret
       exact ⟨ret_bool (by rw [HD.out]; simp; try omega), hr.out.2.1⟩
      ·go_wp2
       go_ret
       exact ⟨ret_bool (by rw [HD.out]; simp; try omega), hr.out.2.1⟩
   | false =>
    have HPD : Hid (∀ W, Calls Tryz.prog 178 #[.int .i64 dst, .int .i64 (n : Int)] W fun e w' => e = .returned (.bool false) ∧ w' = W) := by intro W; rw [← hd]; exact HPL.out dst W
    have HR : Hid (R = false) := by show _ = _; rw [hR]; simp [hd]
    clear hR hd
    go_enter Tryz.func192, Tryz.ntmps192
    go_wp2_with (go_at_call 178; refine Calls.mono (HPD.out _) ?_; rintro e wx ⟨rfl, hwx⟩; subst wx)
    go_ret
    exact ⟨ret_bool HR.out.symm, HB.out.1⟩
  ·have HR : Hid (R = false) := by show _ = _; rw [hR]; simp [href]
   have hx : (ref != 0) = true := by simpa using href
   clear hR
   go_enter Tryz.func192, Tryz.ntmps192
   go_wp2
   go_ret
   exact ⟨ret_bool HR.out.symm, HB.out.1⟩
 ·have HR : Hid (R = false) := by show _ = _; rw [hR]; simp [hbits]
  have hx : (bits != 0) = true := by simpa using hbits
  clear hR
  go_enter Tryz.func192, Tryz.ntmps192
  go_wp2
  go_ret
  exact ⟨ret_bool HR.out.symm, HB.out.1⟩
set_option maxRecDepth 100000 in
set_option maxHeartbeats 1000000 in
theorem parts_5 (nm : ByteArray) (pa : Option Addr) (pl pc : Nat) (r : Int) (va : Option Addr) (n vc : Nat) (aa : Option Addr) (al ac : Nat) (ba : Option Addr) (bl bc : Nat) (op dst : Int) (xa : Option Addr) (m xc : Nat) (bits ref : Int) (args : List Int) (hm : m = args.length) (w : World) (hP : PartsAt w) (hA : IntsAt w (.slice xa m xc) args) (hml : m ≤ 140737488355328) :
  Calls Tryz.prog 192 #[.agg #[.string nm, .slice pa pl pc, .int .u8 r, .slice va n vc, .slice aa al ac, .slice ba bl bc], .agg #[.int .u8 5, .int .u8 op, .int .i64 dst, .slice xa m xc, .int .u64 bits, .int .i64 ref]] w fun e w' => e = .returned (.bool (hasB ⟨false, true, false, false, 1, 1⟩ n ⟨5, op, dst, args, bits, ref⟩)) ∧ Below w.heap.size w w' := by
 obtain ⟨c0, c1, c2, c3, c4, c5⟩ := hP.2 5 ⟨false, true, false, false, 1, 1⟩ rfl
 simp only [Nat.reduceMul, Nat.reduceAdd] at c0 c1 c2 c3 c4 c5
 have h0 := hP.1
 have HB : Hid (Below w.heap.size w (((w.alloc (.cells #[.string nm, .slice pa pl pc, .int .u8 r, .slice va n vc, .slice aa al ac, .slice ba bl bc] 28)).alloc (.cells #[.int .u8 5, .int .u8 op, .int .i64 dst, .slice xa m xc, .int .u64 bits, .int .i64 ref] 55)).alloc (.cells #[.bool false, .bool true, .bool false, .bool false, .int .i64 1, .int .i64 1] 277)) ∧ Trio w.heap.size [.string nm, .slice pa pl pc, .int .u8 r, .slice va n vc, .slice aa al ac, .slice ba bl bc] [.int .u8 5, .int .u8 op, .int .i64 dst, .slice xa m xc, .int .u64 bits, .int .i64 ref] [.bool false, .bool true, .bool false, .bool false, .int .i64 1, .int .i64 1] (((w.alloc (.cells #[.string nm, .slice pa pl pc, .int .u8 r, .slice va n vc, .slice aa al ac, .slice ba bl bc] 28)).alloc (.cells #[.int .u8 5, .int .u8 op, .int .i64 dst, .slice xa m xc, .int .u64 bits, .int .i64 ref] 55)).alloc (.cells #[.bool false, .bool true, .bool false, .bool false, .int .i64 1, .int .i64 1] 277))) := ⟨below_alloc (below_alloc (below_alloc (Below.refl _ _) _) _) _, Trio.new w [.string nm, .slice pa pl pc, .int .u8 r, .slice va n vc, .slice aa al ac, .slice ba bl bc] [.int .u8 5, .int .u8 op, .int .i64 dst, .slice xa m xc, .int .u64 bits, .int .i64 ref] [.bool false, .bool true, .bool false, .bool false, .int .i64 1, .int .i64 1] 28 55 277⟩
 have HA2 : Hid (∀ i, i < args.length → _) := fun i hi => hA.get (i := i) hi
 have HPL : Hid (∀ v W, Calls Tryz.prog 178 #[.int .i64 v, .int .i64 (n : Int)] W fun e w' => e = .returned (.bool (inB v n)) ∧ w' = W) := fun v W => isPlace_any v _ W
 have HM : Hid (m = args.length) := hm
 clear hP hA hm
 obtain ⟨R, hR⟩ : ∃ R, R = hasB ⟨false, true, false, false, 1, 1⟩ n ⟨5, op, dst, args, bits, ref⟩ := ⟨_, rfl⟩
 rw [← hR]
 unfold hasB at hR
 by_cases hop : op = 0
 ·subst hop
  by_cases hbits : bits = 0
  ·subst hbits
   by_cases href : ref = 0
   ·subst href
    cases hd : inB dst n with
    | true =>
     have HPD : Hid (∀ W, Calls Tryz.prog 178 #[.int .i64 dst, .int .i64 (n : Int)] W fun e w' => e = .returned (.bool true) ∧ w' = W) := by intro W; rw [← hd]; exact HPL.out dst W
     have HR : Hid (R = ((args.drop 0).all (inB · n) && (decide ((1 : Int) ≤ (args.length : Int)) && decide ((args.length : Int) ≤ 1)))) := by show _ = _; rw [hR]; simp [hd]
     clear hR hd
     have T1 : True := trivial
     go_enter Tryz.func192, Tryz.ntmps192
     go_wp2_with (go_at_call 178; clear T1; refine Calls.mono (HPD.out _) ?_; rintro e wx ⟨rfl, hwx⟩; subst wx)
     go_loopw [72] (fun vi wr => ∃ i : Nat, vi = .int .i64 i ∧ i ≤ m ∧ Hid (R = ((args.drop i).all (inB · n) && (decide ((1 : Int) ≤ (args.length : Int)) && decide ((args.length : Int) ≤ 1))) ∧ Below w.heap.size w wr ∧ Trio w.heap.size [.string nm, .slice pa pl pc, .int .u8 r, .slice va n vc, .slice aa al ac, .slice ba bl bc] [.int .u8 5, .int .u8 0, .int .i64 dst, .slice xa m xc, .int .u64 0, .int .i64 0] [.bool false, .bool true, .bool false, .bool false, .int .i64 1, .int .i64 1] wr)) (fun vi _ => m - (intOf vi).toNat)
     case atStart => exact ⟨0, rfl, by omega, HR.out, HB.out.1, HB.out.2⟩
     case round =>
      obtain ⟨i, rfl, hi, hr⟩ := hrel
      clear HR HB c0 c1 c2 c3 c4 c5
      obtain ⟨e0, e1, e2, e3, e4, e5⟩ := box6 hr.out.2.2.g
      obtain ⟨x0, x1, x2, x3, x4, x5⟩ := box6 hr.out.2.2.t
      obtain ⟨o0, o1, o2, o3, o4, o5⟩ := box6 hr.out.2.2.o
      by_cases hin : i < m
      ·obtain ⟨g, o, rfl, hg, cv⟩ := HA2.out i (by rw [← HM.out]; exact hin)
       have hin' : (i : Int) < m := by omega
       have cv' := (hr.out.2.1.cell (p := ⟨g, o + i, none⟩) hg).trans cv
       have hd : R = (inB (args.getD i 0) n && (args.drop (i + 1)).all (inB · n) && (decide ((1 : Int) ≤ (args.length : Int)) && decide ((args.length : Int) ≤ 1))) := by rw [hr.out.1, all_drop (d := 0) (by rw [← HM.out]; exact hin)]
       have HPI := HPL.out (args.getD i 0)
       generalize args.getD i 0 = tv at *
       clear cv
       cases htb : inB tv n with
       | true =>
        rw [htb] at hd HPI
        simp only [Bool.true_and] at hd
        have HD : Hid _ := hd
        have HPJ : Hid _ := HPI
        clear hd HPI htb
        go_wp2_with (go_at_call 178; refine Calls.mono (HPJ.out _) ?_; rintro e wx ⟨rfl, hwx⟩; subst wx)
        go_roundw
        case rel => exact ⟨i + 1, by first | rfl | (congr 1; omega), by omega, HD.out, hr.out.2⟩
        case measure => simp [intOf]; omega
       | false =>
        rw [htb] at hd HPI
        simp only [Bool.false_and] at hd
        have HD : Hid _ := hd
        have HPJ : Hid _ := HPI
        clear hd HPI htb
        go_wp2_with (go_at_call 178; refine Calls.mono (HPJ.out _) ?_; rintro e wx ⟨rfl, hwx⟩; subst wx)
        go_ret
        exact ⟨ret_bool HD.out.symm, hr.out.2.1⟩
      ·obtain rfl : i = m := by omega
       have hd : R = (decide ((1 : Int) ≤ (args.length : Int)) && decide ((args.length : Int) ≤ 1)) := by rw [hr.out.1, HM.out, List.drop_length]; simp
       rw [← HM.out] at hd
       have HD : Hid _ := hd
       clear hd HA2
       by_cases hle : (1 : Int) ≤ i
       ·go_wp2
        go_ret
        exact ⟨ret_bool (by rw [HD.out]; simp; try omega), hr.out.2.1⟩
       ·go_wp2
        go_ret
        exact ⟨ret_bool (by rw [HD.out]; simp; try omega), hr.out.2.1⟩
    | false =>
     have HPD : Hid (∀ W, Calls Tryz.prog 178 #[.int .i64 dst, .int .i64 (n : Int)] W fun e w' => e = .returned (.bool false) ∧ w' = W) := by intro W; rw [← hd]; exact HPL.out dst W
     have HR : Hid (R = false) := by show _ = _; rw [hR]; simp [hd]
     clear hR hd
     go_enter Tryz.func192, Tryz.ntmps192
     go_wp2_with (go_at_call 178; refine Calls.mono (HPD.out _) ?_; rintro e wx ⟨rfl, hwx⟩; subst wx)
     go_ret
     exact ⟨ret_bool HR.out.symm, HB.out.1⟩
   ·have HR : Hid (R = false) := by show _ = _; rw [hR]; simp [href]
    have hx : (ref != 0) = true := by simpa using href
    clear hR
    go_enter Tryz.func192, Tryz.ntmps192
    go_wp2
    go_ret
    exact ⟨ret_bool HR.out.symm, HB.out.1⟩
  ·have HR : Hid (R = false) := by show _ = _; rw [hR]; simp [hbits]
   have hx : (bits != 0) = true := by simpa using hbits
   clear hR
   go_enter Tryz.func192, Tryz.ntmps192
   go_wp2
   go_ret
   exact ⟨ret_bool HR.out.symm, HB.out.1⟩
 ·have HR : Hid (R = false) := by show _ = _; rw [hR]; simp [hop]
  have hx : (op != 0) = true := by simpa using hop
  clear hR
  go_enter Tryz.func192, Tryz.ntmps192
  go_wp2
  go_ret
  exact ⟨ret_bool HR.out.symm, HB.out.1⟩
end Go.Proofs.YtajaijilfclhpaaGreatDoor
