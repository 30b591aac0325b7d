/- The parts of some kinds. -/
import Derived.Test.YtobnpllppohofaaGreatDoorGBnPM
import Derived.Test.YtobnpllppohofaaGreatDoorGFit5
import Derived.Test.YtobnpllppohofaaGreatDoorGPartsA
import Derived.Test.YtobnpllppohofaaGreatDoorGPartsCM
namespace Go.Proofs.YtobnpllppohofaaGreatDoor
open Go.RowKit

set_option maxRecDepth 100000 in
set_option maxHeartbeats 1000000 in
theorem parts_9 (nm : ByteArray) (pa : Option Addr) (pl pc : Nat) (r : Int) (va : Option Addr) (n vc : Nat) (aa : Option Addr) (al ac : Nat) (ba : Option Addr) (bl bc : Nat) (op dst : Int) (xa : Option Addr) (m xc : Nat) (bits ref : Int) (args : List Int) (hm : m = args.length) (w : World) (hP : PartsAt w) (hA : IntsAt w (.slice xa m xc) args) (hml : m ≤ 140737488355328) :
  Calls Tryz.prog 62 #[.agg #[.string nm, .slice pa pl pc, .int .u8 r, .slice va n vc, .slice aa al ac, .slice ba bl bc], .agg #[.int .u8 9, .int .u8 op, .int .i64 dst, .slice xa m xc, .int .u64 bits, .int .i64 ref]] w fun e w' => e = .returned (.bool (hasB ⟨false, true, false, true, 0, 9223372036854775807⟩ n ⟨9, op, dst, args, bits, ref⟩)) ∧ Below w.heap.size w w' := by
 obtain ⟨c0, c1, c2, c3, c4, c5⟩ := hP.2 9 ⟨false, true, false, true, 0, 9223372036854775807⟩ rfl
 simp only [Nat.reduceMul, Nat.reduceAdd] at c0 c1 c2 c3 c4 c5
 have h0 := hP.1
 have HB : Hid (Below w.heap.size w (((w.alloc (.cells #[.string nm, .slice pa pl pc, .int .u8 r, .slice va n vc, .slice aa al ac, .slice ba bl bc] 28)).alloc (.cells #[.int .u8 9, .int .u8 op, .int .i64 dst, .slice xa m xc, .int .u64 bits, .int .i64 ref] 41)).alloc (.cells #[.bool false, .bool true, .bool false, .bool true, .int .i64 0, .int .i64 9223372036854775807] 89)) ∧ Trio w.heap.size [.string nm, .slice pa pl pc, .int .u8 r, .slice va n vc, .slice aa al ac, .slice ba bl bc] [.int .u8 9, .int .u8 op, .int .i64 dst, .slice xa m xc, .int .u64 bits, .int .i64 ref] [.bool false, .bool true, .bool false, .bool true, .int .i64 0, .int .i64 9223372036854775807] (((w.alloc (.cells #[.string nm, .slice pa pl pc, .int .u8 r, .slice va n vc, .slice aa al ac, .slice ba bl bc] 28)).alloc (.cells #[.int .u8 9, .int .u8 op, .int .i64 dst, .slice xa m xc, .int .u64 bits, .int .i64 ref] 41)).alloc (.cells #[.bool false, .bool true, .bool false, .bool true, .int .i64 0, .int .i64 9223372036854775807] 89))) := ⟨below_alloc (below_alloc (below_alloc (Below.refl _ _) _) _) _, Trio.new w [.string nm, .slice pa pl pc, .int .u8 r, .slice va n vc, .slice aa al ac, .slice ba bl bc] [.int .u8 9, .int .u8 op, .int .i64 dst, .slice xa m xc, .int .u64 bits, .int .i64 ref] [.bool false, .bool true, .bool false, .bool true, .int .i64 0, .int .i64 9223372036854775807] 28 41 89⟩
 have HA2 : Hid (∀ i, i < args.length → _) := fun i hi => hA.get (i := i) hi
 have HPL : Hid (∀ v W, Calls Tryz.prog 37 #[.int .i64 v, .int .i64 (n : Int)] W fun e w' => e = .returned (.bool (inB v n)) ∧ w' = W) := fun v W => isPlace_any v _ W
 have HM : Hid (m = args.length) := hm
 clear hP hA hm
 obtain ⟨R, hR⟩ : ∃ R, R = hasB ⟨false, true, false, true, 0, 9223372036854775807⟩ n ⟨9, op, dst, args, bits, ref⟩ := ⟨_, rfl⟩
 rw [← hR]
 unfold hasB at hR
 by_cases hop : op = 0
 ·subst hop
  by_cases hbits : bits = 0
  ·subst hbits
   cases hd : inB dst n with
   | true =>
    have HPD : Hid (∀ W, Calls Tryz.prog 37 #[.int .i64 dst, .int .i64 (n : Int)] W fun e w' => e = .returned (.bool true) ∧ w' = W) := by intro W; rw [← hd]; exact HPL.out dst W
    have HR : Hid (R = ((args.drop 0).all (inB · n) && (decide ((0 : Int) ≤ (args.length : Int)) && decide ((args.length : Int) ≤ 9223372036854775807)))) := by show _ = _; rw [hR]; simp [hd]
    clear hR hd
    have T1 : True := trivial
    go_enter Tryz.func62, Tryz.ntmps62
    go_wp2_with (go_at_call 37; clear T1; refine Calls.mono (HPD.out _) ?_; rintro e wx ⟨rfl, hwx⟩; subst wx)
    go_loopw [72] (fun vi wr => ∃ i : Nat, vi = .int .i64 i ∧ i ≤ m ∧ Hid (R = ((args.drop i).all (inB · n) && (decide ((0 : Int) ≤ (args.length : Int)) && decide ((args.length : Int) ≤ 9223372036854775807))) ∧ Below w.heap.size w wr ∧ Trio w.heap.size [.string nm, .slice pa pl pc, .int .u8 r, .slice va n vc, .slice aa al ac, .slice ba bl bc] [.int .u8 9, .int .u8 0, .int .i64 dst, .slice xa m xc, .int .u64 0, .int .i64 ref] [.bool false, .bool true, .bool false, .bool true, .int .i64 0, .int .i64 9223372036854775807] wr)) (fun vi _ => m - (intOf vi).toNat)
    case atStart => exact ⟨0, rfl, by omega, HR.out, HB.out.1, HB.out.2⟩
    case round =>
     obtain ⟨i, rfl, hi, hr⟩ := hrel
     clear HR HB c0 c1 c2 c3 c4 c5
     obtain ⟨e0, e1, e2, e3, e4, e5⟩ := box6 hr.out.2.2.g
     obtain ⟨x0, x1, x2, x3, x4, x5⟩ := box6 hr.out.2.2.t
     obtain ⟨o0, o1, o2, o3, o4, o5⟩ := box6 hr.out.2.2.o
     by_cases hin : i < m
     ·obtain ⟨g, o, rfl, hg, cv⟩ := HA2.out i (by rw [← HM.out]; exact hin)
      have hin' : (i : Int) < m := by omega
      have cv' := (hr.out.2.1.cell (p := ⟨g, o + i, none⟩) hg).trans cv
      have hd : R = (inB (args.getD i 0) n && (args.drop (i + 1)).all (inB · n) && (decide ((0 : Int) ≤ (args.length : Int)) && decide ((args.length : Int) ≤ 9223372036854775807))) := by rw [hr.out.1, all_drop (d := 0) (by rw [← HM.out]; exact hin)]
      have HPI := HPL.out (args.getD i 0)
      generalize args.getD i 0 = tv at *
      clear cv
      cases htb : inB tv n with
      | true =>
       rw [htb] at hd HPI
       simp only [Bool.true_and] at hd
       have HD : Hid _ := hd
       have HPJ : Hid _ := HPI
       clear hd HPI htb
       go_wp2_with (go_at_call 37; refine Calls.mono (HPJ.out _) ?_; rintro e wx ⟨rfl, hwx⟩; subst wx)
       go_roundw
       case rel => exact ⟨i + 1, by first | rfl | (congr 1; omega), by omega, HD.out, hr.out.2⟩
       case measure => simp [intOf]; omega
      | false =>
       rw [htb] at hd HPI
       simp only [Bool.false_and] at hd
       have HD : Hid _ := hd
       have HPJ : Hid _ := HPI
       clear hd HPI htb
       go_wp2_with (go_at_call 37; refine Calls.mono (HPJ.out _) ?_; rintro e wx ⟨rfl, hwx⟩; subst wx)
       go_ret
       exact ⟨ret_bool HD.out.symm, hr.out.2.1⟩
     ·obtain rfl : i = m := by omega
      have hd : R = (decide ((0 : Int) ≤ (args.length : Int)) && decide ((args.length : Int) ≤ 9223372036854775807)) := by rw [hr.out.1, HM.out, List.drop_length]; simp
      rw [← HM.out] at hd
      have HD : Hid _ := hd
      clear hd HA2
      have hle : (0 : Int) ≤ i := by omega
      go_wp2
      go_ret
      exact ⟨ret_bool (by rw [HD.out]; simp; try omega), hr.out.2.1⟩
   | false =>
    have HPD : Hid (∀ W, Calls Tryz.prog 37 #[.int .i64 dst, .int .i64 (n : Int)] W fun e w' => e = .returned (.bool false) ∧ w' = W) := by intro W; rw [← hd]; exact HPL.out dst W
    have HR : Hid (R = false) := by show _ = _; rw [hR]; simp [hd]
    clear hR hd
    go_enter Tryz.func62, Tryz.ntmps62
    go_wp2_with (go_at_call 37; refine Calls.mono (HPD.out _) ?_; rintro e wx ⟨rfl, hwx⟩; subst wx)
    go_ret
    exact ⟨ret_bool HR.out.symm, HB.out.1⟩
  ·have HR : Hid (R = false) := by show _ = _; rw [hR]; simp [hbits]
   have hx : (bits != 0) = true := by simpa using hbits
   clear hR
   go_enter Tryz.func62, Tryz.ntmps62
   go_wp2
   go_ret
   exact ⟨ret_bool HR.out.symm, HB.out.1⟩
 ·have HR : Hid (R = false) := by show _ = _; rw [hR]; simp [hop]
  have hx : (op != 0) = true := by simpa using hop
  clear hR
  go_enter Tryz.func62, Tryz.ntmps62
  go_wp2
  go_ret
  exact ⟨ret_bool HR.out.symm, HB.out.1⟩
set_option maxRecDepth 100000 in
set_option maxHeartbeats 1000000 in
theorem parts_10 (nm : ByteArray) (pa : Option Addr) (pl pc : Nat) (r : Int) (va : Option Addr) (n vc : Nat) (aa : Option Addr) (al ac : Nat) (ba : Option Addr) (bl bc : Nat) (op dst : Int) (xa : Option Addr) (m xc : Nat) (bits ref : Int) (args : List Int) (hm : m = args.length) (w : World) (hP : PartsAt w) (hA : IntsAt w (.slice xa m xc) args) (hml : m ≤ 140737488355328) :
  Calls Tryz.prog 62 #[.agg #[.string nm, .slice pa pl pc, .int .u8 r, .slice va n vc, .slice aa al ac, .slice ba bl bc], .agg #[.int .u8 10, .int .u8 op, .int .i64 dst, .slice xa m xc, .int .u64 bits, .int .i64 ref]] w fun e w' => e = .returned (.bool (hasB ⟨false, false, false, false, 1, 1⟩ n ⟨10, op, dst, args, bits, ref⟩)) ∧ Below w.heap.size w w' := by
 obtain ⟨c0, c1, c2, c3, c4, c5⟩ := hP.2 10 ⟨false, false, false, false, 1, 1⟩ rfl
 simp only [Nat.reduceMul, Nat.reduceAdd] at c0 c1 c2 c3 c4 c5
 have h0 := hP.1
 have HB : Hid (Below w.heap.size w (((w.alloc (.cells #[.string nm, .slice pa pl pc, .int .u8 r, .slice va n vc, .slice aa al ac, .slice ba bl bc] 28)).alloc (.cells #[.int .u8 10, .int .u8 op, .int .i64 dst, .slice xa m xc, .int .u64 bits, .int .i64 ref] 41)).alloc (.cells #[.bool false, .bool false, .bool false, .bool false, .int .i64 1, .int .i64 1] 89)) ∧ Trio w.heap.size [.string nm, .slice pa pl pc, .int .u8 r, .slice va n vc, .slice aa al ac, .slice ba bl bc] [.int .u8 10, .int .u8 op, .int .i64 dst, .slice xa m xc, .int .u64 bits, .int .i64 ref] [.bool false, .bool false, .bool false, .bool false, .int .i64 1, .int .i64 1] (((w.alloc (.cells #[.string nm, .slice pa pl pc, .int .u8 r, .slice va n vc, .slice aa al ac, .slice ba bl bc] 28)).alloc (.cells #[.int .u8 10, .int .u8 op, .int .i64 dst, .slice xa m xc, .int .u64 bits, .int .i64 ref] 41)).alloc (.cells #[.bool false, .bool false, .bool false, .bool false, .int .i64 1, .int .i64 1] 89))) := ⟨below_alloc (below_alloc (below_alloc (Below.refl _ _) _) _) _, Trio.new w [.string nm, .slice pa pl pc, .int .u8 r, .slice va n vc, .slice aa al ac, .slice ba bl bc] [.int .u8 10, .int .u8 op, .int .i64 dst, .slice xa m xc, .int .u64 bits, .int .i64 ref] [.bool false, .bool false, .bool false, .bool false, .int .i64 1, .int .i64 1] 28 41 89⟩
 have HA2 : Hid (∀ i, i < args.length → _) := fun i hi => hA.get (i := i) hi
 have HPL : Hid (∀ v W, Calls Tryz.prog 37 #[.int .i64 v, .int .i64 (n : Int)] W fun e w' => e = .returned (.bool (inB v n)) ∧ w' = W) := fun v W => isPlace_any v _ W
 have HM : Hid (m = args.length) := hm
 clear hP hA hm
 obtain ⟨R, hR⟩ : ∃ R, R = hasB ⟨false, false, false, false, 1, 1⟩ n ⟨10, op, dst, args, bits, ref⟩ := ⟨_, rfl⟩
 rw [← hR]
 unfold hasB at hR
 by_cases hop : op = 0
 ·subst hop
  by_cases hbits : bits = 0
  ·subst hbits
   by_cases href : ref = 0
   ·subst href
    by_cases hdst : dst = 0
    ·subst hdst
     have HR : Hid (R = ((args.drop 0).all (inB · n) && (decide ((1 : Int) ≤ (args.length : Int)) && decide ((args.length : Int) ≤ 1)))) := by show _ = _; rw [hR]; simp
     clear hR
     go_enter Tryz.func62, Tryz.ntmps62
     go_wp2
     go_loopw [72] (fun vi wr => ∃ i : Nat, vi = .int .i64 i ∧ i ≤ m ∧ Hid (R = ((args.drop i).all (inB · n) && (decide ((1 : Int) ≤ (args.length : Int)) && decide ((args.length : Int) ≤ 1))) ∧ Below w.heap.size w wr ∧ Trio w.heap.size [.string nm, .slice pa pl pc, .int .u8 r, .slice va n vc, .slice aa al ac, .slice ba bl bc] [.int .u8 10, .int .u8 0, .int .i64 0, .slice xa m xc, .int .u64 0, .int .i64 0] [.bool false, .bool false, .bool false, .bool false, .int .i64 1, .int .i64 1] wr)) (fun vi _ => m - (intOf vi).toNat)
     case atStart => exact ⟨0, rfl, by omega, HR.out, HB.out.1, HB.out.2⟩
     case round =>
      obtain ⟨i, rfl, hi, hr⟩ := hrel
      clear HR HB c0 c1 c2 c3 c4 c5
      obtain ⟨e0, e1, e2, e3, e4, e5⟩ := box6 hr.out.2.2.g
      obtain ⟨x0, x1, x2, x3, x4, x5⟩ := box6 hr.out.2.2.t
      obtain ⟨o0, o1, o2, o3, o4, o5⟩ := box6 hr.out.2.2.o
      by_cases hin : i < m
      ·obtain ⟨g, o, rfl, hg, cv⟩ := HA2.out i (by rw [← HM.out]; exact hin)
       have hin' : (i : Int) < m := by omega
       have cv' := (hr.out.2.1.cell (p := ⟨g, o + i, none⟩) hg).trans cv
       have hd : R = (inB (args.getD i 0) n && (args.drop (i + 1)).all (inB · n) && (decide ((1 : Int) ≤ (args.length : Int)) && decide ((args.length : Int) ≤ 1))) := by rw [hr.out.1, all_drop (d := 0) (by rw [← HM.out]; exact hin)]
       have HPI := HPL.out (args.getD i 0)
       generalize args.getD i 0 = tv at *
       clear cv
       cases htb : inB tv n with
       | true =>
        rw [htb] at hd HPI
        simp only [Bool.true_and] at hd
        have HD : Hid _ := hd
        have HPJ : Hid _ := HPI
        clear hd HPI htb
        go_wp2_with (go_at_call 37; refine Calls.mono (HPJ.out _) ?_; rintro e wx ⟨rfl, hwx⟩; subst wx)
        go_roundw
        case rel => exact ⟨i + 1, by first | rfl | (congr 1; omega), by omega, HD.out, hr.out.2⟩
        case measure => simp [intOf]; omega
       | false =>
        rw [htb] at hd HPI
        simp only [Bool.false_and] at hd
        have HD : Hid _ := hd
        have HPJ : Hid _ := HPI
        clear hd HPI htb
        go_wp2_with (go_at_call 37; refine Calls.mono (HPJ.out _) ?_; rintro e wx ⟨rfl, hwx⟩; subst wx)
        go_ret
        exact ⟨ret_bool HD.out.symm, hr.out.2.1⟩
      ·obtain rfl : i = m := by omega
       have hd : R = (decide ((1 : Int) ≤ (args.length : Int)) && decide ((args.length : Int) ≤ 1)) := by rw [hr.out.1, HM.out, List.drop_length]; simp
       rw [← HM.out] at hd
       have HD : Hid _ := hd
       clear hd HA2
       by_cases hle : (1 : Int) ≤ i
       ·go_wp2
        go_ret
        exact ⟨ret_bool (by rw [HD.out]; simp; try omega), hr.out.2.1⟩
       ·go_wp2
        go_ret
        exact ⟨ret_bool (by rw [HD.out]; simp; try omega), hr.out.2.1⟩
    ·have HR : Hid (R = false) := by show _ = _; rw [hR]; simp [hdst]
     clear hR
     go_enter Tryz.func62, Tryz.ntmps62
     go_wp2
     go_ret
     exact ⟨ret_bool HR.out.symm, HB.out.1⟩
   ·have HR : Hid (R = false) := by show _ = _; rw [hR]; simp [href]
    have hx : (ref != 0) = true := by simpa using href
    clear hR
    go_enter Tryz.func62, Tryz.ntmps62
    go_wp2
    go_ret
    exact ⟨ret_bool HR.out.symm, HB.out.1⟩
  ·have HR : Hid (R = false) := by show _ = _; rw [hR]; simp [hbits]
   have hx : (bits != 0) = true := by simpa using hbits
   clear hR
   go_enter Tryz.func62, Tryz.ntmps62
   go_wp2
   go_ret
   exact ⟨ret_bool HR.out.symm, HB.out.1⟩
 ·have HR : Hid (R = false) := by show _ = _; rw [hR]; simp [hop]
  have hx : (op != 0) = true := by simpa using hop
  clear hR
  go_enter Tryz.func62, Tryz.ntmps62
  go_wp2
  go_ret
  exact ⟨ret_bool HR.out.symm, HB.out.1⟩
end Go.Proofs.YtobnpllppohofaaGreatDoor
/- Whether an instruction may stand, and what it sets. -/
namespace Go.Proofs.YtobnpllppohofaaGreatDoor
open Go.RowKit Go.Sort

set_option maxRecDepth 100000 in
set_option maxHeartbeats 1000000 in
theorem parts_any (G : Gr) (pv vv av bv : Value) (x : In) (xv : Value) (w : World) (h : GrAt w pv vv av bv G) (hA : IntsAt w xv x.args) (hP : PartsAt w) :
  Calls Tryz.prog 62 #[.agg #[.string G.name, pv, .int .u8 G.result, vv, av, bv], inV x xv] w fun e w' => e = .returned (.bool (partsB G.vars.length x)) ∧ Below w.heap.size w w' := by
 obtain ⟨pa, pc, va, vc, aa, ac, ba, bc, rfl, rfl, rfl, rfl, _, _, _, _⟩ := h.openF
 obtain ⟨xa, xc, rfl, hxl⟩ := hA.form
 obtain ⟨kind, op, dst, args, bits, ref⟩ := x
 dsimp only at *
 unfold partsB
 dsimp only
 by_cases h1 : 1 ≤ kind
 ·by_cases h10 : kind ≤ 10
  ·have hk : kind = 1 ∨ kind = 2 ∨ kind = 3 ∨ kind = 4 ∨ kind = 5 ∨ kind = 6 ∨ kind = 7 ∨ kind = 8 ∨ kind = 9 ∨ kind = 10 := by omega
   rcases hk with rfl | rfl | rfl | rfl | rfl | rfl | rfl | rfl | rfl | rfl
   ·exact parts_1 _ _ _ _ _ _ _ _ _ _ _ _ _ _ _ _ _ _ _ _ _ args rfl w hP hA hxl
   ·exact parts_2 _ _ _ _ _ _ _ _ _ _ _ _ _ _ _ _ _ _ _ _ _ args rfl w hP hA hxl
   ·exact parts_3 _ _ _ _ _ _ _ _ _ _ _ _ _ _ _ _ _ _ _ _ _ args rfl w hP hA hxl
   ·exact parts_4 _ _ _ _ _ _ _ _ _ _ _ _ _ _ _ _ _ _ _ _ _ args rfl w hP hA hxl
   ·exact parts_5 _ _ _ _ _ _ _ _ _ _ _ _ _ _ _ _ _ _ _ _ _ args rfl w hP hA hxl
   ·exact parts_6 _ _ _ _ _ _ _ _ _ _ _ _ _ _ _ _ _ _ _ _ _ args rfl w hP hA hxl
   ·exact parts_7 _ _ _ _ _ _ _ _ _ _ _ _ _ _ _ _ _ _ _ _ _ args rfl w hP hA hxl
   ·exact parts_8 _ _ _ _ _ _ _ _ _ _ _ _ _ _ _ _ _ _ _ _ _ args rfl w hP hA hxl
   ·exact parts_9 _ _ _ _ _ _ _ _ _ _ _ _ _ _ _ _ _ _ _ _ _ args rfl w hP hA hxl
   ·exact parts_10 _ _ _ _ _ _ _ _ _ _ _ _ _ _ _ _ _ _ _ _ _ args rfl w hP hA hxl
  ·rw [decide_eq_false h10, Bool.and_false, Bool.false_and]
   have h10' : (10 : Int) < kind := by omega
   clear h hA hP hxl h10
   go_enter Tryz.func62, Tryz.ntmps62
   go_wp2
   go_ret
   exact ⟨rfl, below_alloc (below_alloc (Below.refl _ _) _) _⟩
 ·rw [decide_eq_false h1, Bool.false_and, Bool.false_and]
  have h1' : kind < 1 := by omega
  clear h hA hP hxl h1
  go_enter Tryz.func62, Tryz.ntmps62
  go_wp2
  go_ret
  exact ⟨rfl, below_alloc (below_alloc (Below.refl _ _) _) _⟩
def setsB (x : In) : Bool := (hasL.getD x.kind.toNat ⟨false, false, false, false, 0, 0⟩).dst
def standsB (p : List Gr) (g : Gr) (x : In) : Bool := partsB g.vars.length x && fitsB p g x
def typeI (p : List Gr) (g : Gr) (x : In) : Int := if standsB p g x = true ∧ setsB x = true then varT g.vars x.dst else 0
theorem ret_tb {a b : Int} {x y : Bool} (h : a = b) (g : x = y) : Ending.returned (.tuple #[.int .u8 a, .bool x]) = .returned (.tuple #[.int .u8 b, .bool y]) := by rw [h, g]
set_option maxRecDepth 100000 in
set_option maxHeartbeats 1000000 in
theorem type_any (p : List Gr) (ppv : Value) (G : Gr) (pv vv av bv : Value) (x : In) (xv : Value) (w : World) (hp : GrsAt w ppv p) (h : GrAt w pv vv av bv G) (hA : IntsAt w xv x.args) (hbits : 0 ≤ x.bits ∧ x.bits < 18446744073709551616) (hP : PartsAt w) :
  Calls Tryz.prog 39 #[ppv, .agg #[.string G.name, pv, .int .u8 G.result, vv, av, bv], inV x xv] w fun e w' => e = .returned (.tuple #[.int .u8 (typeI p G x), .bool (standsB p G x)]) ∧ Below w.heap.size w w' := by
 have HPA : Hid (∀ W, Below w.heap.size w W → Calls Tryz.prog 62 #[.agg #[.string G.name, pv, .int .u8 G.result, vv, av, bv], inV x xv] W fun e w' => e = .returned (.bool (partsB G.vars.length x)) ∧ Below W.heap.size W w') := fun W hb => parts_any G pv vv av bv x xv W (h.below hb) (hA.below hb) (hP.below hb)
 have HFI : Hid (∀ W, Below w.heap.size w W → partsB G.vars.length x = true → Calls Tryz.prog 63 #[ppv, .agg #[.string G.name, pv, .int .u8 G.result, vv, av, bv], inV x xv] W fun e w' => e = .returned (.bool (fitsB p G x)) ∧ Below W.heap.size W w') := fun W hb hpb => fits_any p ppv G pv vv av bv x xv W (hp.below hb) (h.below hb) (hA.below hb) hbits hpb
 obtain ⟨pa, pc, va, vc, aa, ac, ba, bc, rfl, rfl, rfl, rfl, _, _, _, _⟩ := h.openF
 obtain ⟨xa, xc, rfl, hxl⟩ := hA.form
 obtain ⟨qa, qc, rfl, hql⟩ := hp.form
 have HVV : Hid (∀ v, inB v G.vars.length = true → _) := fun v hv => TysAt.var h.vs hv
 have HPP : Hid (PartsAt w) := hP
 obtain ⟨T, hT⟩ : ∃ T, T = typeI p G x := ⟨_, rfl⟩
 obtain ⟨S, hS⟩ : ∃ S, S = standsB p G x := ⟨_, rfl⟩
 rw [← hT, ← hS]
 unfold typeI standsB setsB at hT
 unfold standsB at hS
 cases hpb : partsB G.vars.length x with
 | false =>
  have HC1 : Hid (∀ W, Below w.heap.size w W → _) := fun W hb => (HPA.out W hb)
  rw [hpb] at HC1 hT hS
  have HT : Hid (T = 0) := by show _ = _; rw [hT]; simp
  have HS : Hid (S = false) := by show _ = _; rw [hS]; simp
  obtain ⟨kind, op, dst, args, bits, ref⟩ := x
  dsimp only at *
  clear h hA hp hP HPA HFI HVV HPP hpb hT hS
  generalize G.name = nm at *
  generalize G.params.length = pl at *
  generalize G.vars.length = vl at *
  generalize G.arrs.length = al at *
  generalize G.blocks.length = bl at *
  generalize G.result = r at *
  generalize args.length = xn at *
  generalize p.length = pn at *
  have HB0 : Hid (Below w.heap.size w ((w.alloc (.cells #[.string nm, .slice pa pl pc, .int .u8 r, .slice va vl vc, .slice aa al ac, .slice ba bl bc] 28)).alloc (.cells #[.int .u8 kind, .int .u8 op, .int .i64 dst, .slice xa xn xc, .int .u64 bits, .int .i64 ref] 41)) ∧ Duo w.heap.size [.string nm, .slice pa pl pc, .int .u8 r, .slice va vl vc, .slice aa al ac, .slice ba bl bc] [.int .u8 kind, .int .u8 op, .int .i64 dst, .slice xa xn xc, .int .u64 bits, .int .i64 ref] ((w.alloc (.cells #[.string nm, .slice pa pl pc, .int .u8 r, .slice va vl vc, .slice aa al ac, .slice ba bl bc] 28)).alloc (.cells #[.int .u8 kind, .int .u8 op, .int .i64 dst, .slice xa xn xc, .int .u64 bits, .int .i64 ref] 41))) := ⟨below_alloc (below_alloc (Below.refl _ _) _) _, Duo.new w [.string nm, .slice pa pl pc, .int .u8 r, .slice va vl vc, .slice aa al ac, .slice ba bl bc] [.int .u8 kind, .int .u8 op, .int .i64 dst, .slice xa xn xc, .int .u64 bits, .int .i64 ref] 28 41⟩
  clear hxl hql hbits
  go_enter Tryz.func39, Tryz.ntmps39
  go_wp2_with (go_at_call 62; go_loud (refine Calls.mono (by exact HC1.out _ HB0.out.1) ?_; rintro e w1 ⟨rfl, hb1⟩; have HW1 : Hid (Below w.heap.size w w1) := below_trans HB0.out.1 hb1; have HT1 : Hid (Duo w.heap.size [.string nm, .slice pa pl pc, .int .u8 r, .slice va vl vc, .slice aa al ac, .slice ba bl bc] [.int .u8 kind, .int .u8 op, .int .i64 dst, .slice xa xn xc, .int .u64 bits, .int .i64 ref] w1) := HB0.out.2.below hb1; obtain ⟨e01, e11, e21, e31, e41, e51⟩ := box6 HT1.out.g; obtain ⟨x01, x11, x21, x31, x41, x51⟩ := box6 HT1.out.t; clear hb1))
  go_ret2
  exact ⟨ret_tb HT.out.symm HS.out.symm, HW1.out⟩
 | true =>
  have HC1 : Hid (∀ W, Below w.heap.size w W → _) := fun W hb => (HPA.out W hb)
  rw [hpb] at HC1 hT hS
  simp only [Bool.true_and] at hT hS
  have HC2 : Hid (∀ W, Below w.heap.size w W → _) := fun W hb => (HFI.out W hb hpb)
  unfold partsB at hpb
  simp only [Bool.and_eq_true, decide_eq_true_eq] at hpb
  obtain ⟨⟨hk1, hk10⟩, hhas⟩ := hpb
  have hdst := fun hd => hasB_dst hhas hd
  obtain ⟨kind, op, dst, args, bits, ref⟩ := x
  dsimp only at *
  obtain ⟨k, hk⟩ : ∃ k : Nat, kind = (k : Int) := Int.eq_ofNat_of_zero_le (by omega)
  subst hk
  rw [Int.toNat_natCast] at hdst hT
  obtain ⟨_, c1, _, _, _, _⟩ := HPP.out.2 k (hasL.getD k ⟨false, false, false, false, 0, 0⟩) (by
   have hlt : k < hasL.length := by simp [hasL]; omega
   rw [List.getD, List.getElem?_eq_getElem hlt]; rfl)
  have h0 := HPP.out.1
  have hk11 : (k : Int) < 11 := by omega
  generalize (hasL.getD k ⟨false, false, false, false, 0, 0⟩).dst = sd at *
  generalize fitsB p G ⟨(k : Int), op, dst, args, bits, ref⟩ = fb at *
  clear h hA hp hP HPA HFI hk1 hk10 hhas hxl hql hbits
  generalize G.name = nm at *
  generalize G.params.length = pl at *
  generalize G.vars.length = vl at *
  generalize G.arrs.length = al at *
  generalize G.blocks.length = bl at *
  generalize G.result = r at *
  generalize args.length = xn at *
  generalize p.length = pn at *
  cases fb with
  | false =>
   have HT : Hid (T = 0) := by show _ = _; rw [hT]; simp
   have HS : Hid (S = false) := hS
   clear hT hS
   have HB0 : Hid (Below w.heap.size w ((w.alloc (.cells #[.string nm, .slice pa pl pc, .int .u8 r, .slice va vl vc, .slice aa al ac, .slice ba bl bc] 28)).alloc (.cells #[.int .u8 (k : Int), .int .u8 op, .int .i64 dst, .slice xa xn xc, .int .u64 bits, .int .i64 ref] 41)) ∧ Duo w.heap.size [.string nm, .slice pa pl pc, .int .u8 r, .slice va vl vc, .slice aa al ac, .slice ba bl bc] [.int .u8 (k : Int), .int .u8 op, .int .i64 dst, .slice xa xn xc, .int .u64 bits, .int .i64 ref] ((w.alloc (.cells #[.string nm, .slice pa pl pc, .int .u8 r, .slice va vl vc, .slice aa al ac, .slice ba bl bc] 28)).alloc (.cells #[.int .u8 (k : Int), .int .u8 op, .int .i64 dst, .slice xa xn xc, .int .u64 bits, .int .i64 ref] 41))) := ⟨below_alloc (below_alloc (Below.refl _ _) _) _, Duo.new w [.string nm, .slice pa pl pc, .int .u8 r, .slice va vl vc, .slice aa al ac, .slice ba bl bc] [.int .u8 (k : Int), .int .u8 op, .int .i64 dst, .slice xa xn xc, .int .u64 bits, .int .i64 ref] 28 41⟩
   go_enter Tryz.func39, Tryz.ntmps39
   go_wp2_with (first | (go_at_call 62; go_loud (refine Calls.mono (by exact HC1.out _ HB0.out.1) ?_; rintro e w1 ⟨rfl, hb1⟩; have HW1 : Hid (Below w.heap.size w w1) := below_trans HB0.out.1 hb1; have HT1 : Hid (Duo w.heap.size [.string nm, .slice pa pl pc, .int .u8 r, .slice va vl vc, .slice aa al ac, .slice ba bl bc] [.int .u8 (k : Int), .int .u8 op, .int .i64 dst, .slice xa xn xc, .int .u64 bits, .int .i64 ref] w1) := HB0.out.2.below hb1; obtain ⟨e01, e11, e21, e31, e41, e51⟩ := box6 HT1.out.g; obtain ⟨x01, x11, x21, x31, x41, x51⟩ := box6 HT1.out.t; clear hb1)) | (go_at_call 63; go_loud (refine Calls.mono (by exact HC2.out _ HW1.out) ?_; rintro e w2 ⟨rfl, hb2⟩; have HW2 : Hid (Below w.heap.size w w2) := below_trans HW1.out hb2; have HT2 : Hid (Duo w.heap.size [.string nm, .slice pa pl pc, .int .u8 r, .slice va vl vc, .slice aa al ac, .slice ba bl bc] [.int .u8 (k : Int), .int .u8 op, .int .i64 dst, .slice xa xn xc, .int .u64 bits, .int .i64 ref] w2) := HT1.out.below hb2; obtain ⟨e02, e12, e22, e32, e42, e52⟩ := box6 HT2.out.g; obtain ⟨x02, x12, x22, x32, x42, x52⟩ := box6 HT2.out.t; have ck := (HW2.out.cell (p := ⟨0, k * 6 + 1, none⟩) h0).trans c1; clear hb2)))
   go_ret2
   exact ⟨ret_tb HT.out.symm HS.out.symm, HW2.out⟩
  | true =>
   cases sd with
   | false =>
    have HT : Hid (T = 0) := by show _ = _; rw [hT]; simp
    have HS : Hid (S = true) := hS
    clear hT hS
    have HB0 : Hid (Below w.heap.size w ((w.alloc (.cells #[.string nm, .slice pa pl pc, .int .u8 r, .slice va vl vc, .slice aa al ac, .slice ba bl bc] 28)).alloc (.cells #[.int .u8 (k : Int), .int .u8 op, .int .i64 dst, .slice xa xn xc, .int .u64 bits, .int .i64 ref] 41)) ∧ Duo w.heap.size [.string nm, .slice pa pl pc, .int .u8 r, .slice va vl vc, .slice aa al ac, .slice ba bl bc] [.int .u8 (k : Int), .int .u8 op, .int .i64 dst, .slice xa xn xc, .int .u64 bits, .int .i64 ref] ((w.alloc (.cells #[.string nm, .slice pa pl pc, .int .u8 r, .slice va vl vc, .slice aa al ac, .slice ba bl bc] 28)).alloc (.cells #[.int .u8 (k : Int), .int .u8 op, .int .i64 dst, .slice xa xn xc, .int .u64 bits, .int .i64 ref] 41))) := ⟨below_alloc (below_alloc (Below.refl _ _) _) _, Duo.new w [.string nm, .slice pa pl pc, .int .u8 r, .slice va vl vc, .slice aa al ac, .slice ba bl bc] [.int .u8 (k : Int), .int .u8 op, .int .i64 dst, .slice xa xn xc, .int .u64 bits, .int .i64 ref] 28 41⟩
    go_enter Tryz.func39, Tryz.ntmps39
    go_wp2_with (first | (go_at_call 62; go_loud (refine Calls.mono (by exact HC1.out _ HB0.out.1) ?_; rintro e w1 ⟨rfl, hb1⟩; have HW1 : Hid (Below w.heap.size w w1) := below_trans HB0.out.1 hb1; have HT1 : Hid (Duo w.heap.size [.string nm, .slice pa pl pc, .int .u8 r, .slice va vl vc, .slice aa al ac, .slice ba bl bc] [.int .u8 (k : Int), .int .u8 op, .int .i64 dst, .slice xa xn xc, .int .u64 bits, .int .i64 ref] w1) := HB0.out.2.below hb1; obtain ⟨e01, e11, e21, e31, e41, e51⟩ := box6 HT1.out.g; obtain ⟨x01, x11, x21, x31, x41, x51⟩ := box6 HT1.out.t; clear hb1)) | (go_at_call 63; go_loud (refine Calls.mono (by exact HC2.out _ HW1.out) ?_; rintro e w2 ⟨rfl, hb2⟩; have HW2 : Hid (Below w.heap.size w w2) := below_trans HW1.out hb2; have HT2 : Hid (Duo w.heap.size [.string nm, .slice pa pl pc, .int .u8 r, .slice va vl vc, .slice aa al ac, .slice ba bl bc] [.int .u8 (k : Int), .int .u8 op, .int .i64 dst, .slice xa xn xc, .int .u64 bits, .int .i64 ref] w2) := HT1.out.below hb2; obtain ⟨e02, e12, e22, e32, e42, e52⟩ := box6 HT2.out.g; obtain ⟨x02, x12, x22, x32, x42, x52⟩ := box6 HT2.out.t; have ck := (HW2.out.cell (p := ⟨0, k * 6 + 1, none⟩) h0).trans c1; clear hb2)))
    go_ret2
    exact ⟨ret_tb HT.out.symm HS.out.symm, HW2.out⟩
   | true =>
    obtain ⟨g, o, kd, rfl, rfl, hkn, hg, cd⟩ := HVV.out dst (hdst rfl)
    generalize varT G.vars (kd : Int) = td at *
    have HT : Hid (T = td) := by show _ = _; rw [hT]; simp
    have HS : Hid (S = true) := hS
    clear hT hS
    have HB0 : Hid (Below w.heap.size w ((w.alloc (.cells #[.string nm, .slice pa pl pc, .int .u8 r, .slice (some ⟨g, o, none⟩) vl vc, .slice aa al ac, .slice ba bl bc] 28)).alloc (.cells #[.int .u8 (k : Int), .int .u8 op, .int .i64 (kd : Int), .slice xa xn xc, .int .u64 bits, .int .i64 ref] 41)) ∧ Duo w.heap.size [.string nm, .slice pa pl pc, .int .u8 r, .slice (some ⟨g, o, none⟩) vl vc, .slice aa al ac, .slice ba bl bc] [.int .u8 (k : Int), .int .u8 op, .int .i64 (kd : Int), .slice xa xn xc, .int .u64 bits, .int .i64 ref] ((w.alloc (.cells #[.string nm, .slice pa pl pc, .int .u8 r, .slice (some ⟨g, o, none⟩) vl vc, .slice aa al ac, .slice ba bl bc] 28)).alloc (.cells #[.int .u8 (k : Int), .int .u8 op, .int .i64 (kd : Int), .slice xa xn xc, .int .u64 bits, .int .i64 ref] 41))) := ⟨below_alloc (below_alloc (Below.refl _ _) _) _, Duo.new w [.string nm, .slice pa pl pc, .int .u8 r, .slice (some ⟨g, o, none⟩) vl vc, .slice aa al ac, .slice ba bl bc] [.int .u8 (k : Int), .int .u8 op, .int .i64 (kd : Int), .slice xa xn xc, .int .u64 bits, .int .i64 ref] 28 41⟩
    go_enter Tryz.func39, Tryz.ntmps39
    go_wp2_with (first | (go_at_call 62; go_loud (refine Calls.mono (by exact HC1.out _ HB0.out.1) ?_; rintro e w1 ⟨rfl, hb1⟩; have HW1 : Hid (Below w.heap.size w w1) := below_trans HB0.out.1 hb1; have HT1 : Hid (Duo w.heap.size [.string nm, .slice pa pl pc, .int .u8 r, .slice (some ⟨g, o, none⟩) vl vc, .slice aa al ac, .slice ba bl bc] [.int .u8 (k : Int), .int .u8 op, .int .i64 (kd : Int), .slice xa xn xc, .int .u64 bits, .int .i64 ref] w1) := HB0.out.2.below hb1; obtain ⟨e01, e11, e21, e31, e41, e51⟩ := box6 HT1.out.g; obtain ⟨x01, x11, x21, x31, x41, x51⟩ := box6 HT1.out.t; clear hb1)) | (go_at_call 63; go_loud (refine Calls.mono (by exact HC2.out _ HW1.out) ?_; rintro e w2 ⟨rfl, hb2⟩; have HW2 : Hid (Below w.heap.size w w2) := below_trans HW1.out hb2; have HT2 : Hid (Duo w.heap.size [.string nm, .slice pa pl pc, .int .u8 r, .slice (some ⟨g, o, none⟩) vl vc, .slice aa al ac, .slice ba bl bc] [.int .u8 (k : Int), .int .u8 op, .int .i64 (kd : Int), .slice xa xn xc, .int .u64 bits, .int .i64 ref] w2) := HT1.out.below hb2; obtain ⟨e02, e12, e22, e32, e42, e52⟩ := box6 HT2.out.g; obtain ⟨x02, x12, x22, x32, x42, x52⟩ := box6 HT2.out.t; have ck := (HW2.out.cell (p := ⟨0, k * 6 + 1, none⟩) h0).trans c1; have cdd := (HW2.out.cell (p := ⟨g, o + kd, none⟩) hg).trans cd; clear hb2)))
    go_ret2
    exact ⟨ret_tb HT.out.symm HS.out.symm, HW2.out⟩
end Go.Proofs.YtobnpllppohofaaGreatDoor
