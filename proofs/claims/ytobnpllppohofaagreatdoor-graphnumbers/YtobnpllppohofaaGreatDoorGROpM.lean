/- The document's side: fields that a kind does not name are 0. -/
import Derived.Test.YtobnpllppohofaaGreatDoorGBnPM
import Derived.Test.YtobnpllppohofaaGreatDoorGBoxM
import Derived.Test.YtobnpllppohofaaGreatDoorGFit4M
namespace Go.Proofs.YtobnpllppohofaaGreatDoor
open Go.RowKit

def plainB (x : In) : Bool := (decide (x.kind = 1 ∨ x.kind = 2 ∨ x.kind = 3 ∨ x.kind = 4 ∨ x.kind = 5 ∨ x.kind = 6 ∨ x.kind = 9) || x.dst == 0) && ((x.kind == 4 || x.op == 0) && ((x.kind == 2 || x.bits == 0) && ((decide (6 ≤ x.kind ∧ x.kind ≤ 9) || x.ref == 0) && ((x.kind != 2 && x.kind != 8) || x.args.length == 0))))
set_option maxRecDepth 100000 in
set_option maxHeartbeats 1000000 in
theorem plain_1 (op dst bits ref : Int) (args : List Int) (xv : Value) (w : World) (hA : IntsAt w xv args) : Calls Tryz.prog 118 #[.agg #[.int .u8 1, .int .u8 op, .int .i64 dst, xv, .int .u64 bits, .int .i64 ref]] w fun e w' => e = .returned (.bool (plainB ⟨1, op, dst, args, bits, ref⟩)) ∧ Below w.heap.size w w' := by
 obtain ⟨xa, xc, rfl, hxl⟩ := hA.form
 obtain ⟨R, hR⟩ : ∃ R, R = plainB ⟨1, op, dst, args, bits, ref⟩ := ⟨_, rfl⟩
 rw [← hR]
 unfold plainB at hR
 dsimp only at hR
 clear hA
 generalize args.length = n at *
 by_cases h_op : op = 0
 rotate_left
 ·have f1_op : ((op : Int) == 0) = false := beq_false_of_ne (by omega)
  have f2_op : ((op : Int) != 0) = true := bne_iff_ne.2 (by omega)
  have HR : Hid (R = false) := by show R = false; rw [hR]; simp [*]
  clear hR
  go_enter Tryz.func118, Tryz.ntmps118
  go_wp2
  go_ret
  exact ⟨ret_bool HR.out.symm, below_alloc (Below.refl _ _) _⟩
 subst h_op
 by_cases h_bits : bits = 0
 rotate_left
 ·have f1_bits : ((bits : Int) == 0) = false := beq_false_of_ne (by omega)
  have f2_bits : ((bits : Int) != 0) = true := bne_iff_ne.2 (by omega)
  have HR : Hid (R = false) := by show R = false; rw [hR]; simp [*]
  clear hR
  go_enter Tryz.func118, Tryz.ntmps118
  go_wp2
  go_ret
  exact ⟨ret_bool HR.out.symm, below_alloc (Below.refl _ _) _⟩
 subst h_bits
 by_cases h_ref : ref = 0
 rotate_left
 ·have f1_ref : ((ref : Int) == 0) = false := beq_false_of_ne (by omega)
  have f2_ref : ((ref : Int) != 0) = true := bne_iff_ne.2 (by omega)
  have HR : Hid (R = false) := by show R = false; rw [hR]; simp [*]
  clear hR
  go_enter Tryz.func118, Tryz.ntmps118
  go_wp2
  go_ret
  exact ⟨ret_bool HR.out.symm, below_alloc (Below.refl _ _) _⟩
 subst h_ref
 have HR : Hid (R = true) := by show R = true; rw [hR]; simp
 clear hR
 go_enter Tryz.func118, Tryz.ntmps118
 go_wp2
 go_ret
 exact ⟨ret_bool HR.out.symm, below_alloc (Below.refl _ _) _⟩
set_option maxRecDepth 100000 in
set_option maxHeartbeats 1000000 in
theorem plain_2 (op dst bits ref : Int) (args : List Int) (xv : Value) (w : World) (hA : IntsAt w xv args) : Calls Tryz.prog 118 #[.agg #[.int .u8 2, .int .u8 op, .int .i64 dst, xv, .int .u64 bits, .int .i64 ref]] w fun e w' => e = .returned (.bool (plainB ⟨2, op, dst, args, bits, ref⟩)) ∧ Below w.heap.size w w' := by
 obtain ⟨xa, xc, rfl, hxl⟩ := hA.form
 obtain ⟨R, hR⟩ : ∃ R, R = plainB ⟨2, op, dst, args, bits, ref⟩ := ⟨_, rfl⟩
 rw [← hR]
 unfold plainB at hR
 dsimp only at hR
 clear hA
 generalize args.length = n at *
 by_cases h_op : op = 0
 rotate_left
 ·have f1_op : ((op : Int) == 0) = false := beq_false_of_ne (by omega)
  have f2_op : ((op : Int) != 0) = true := bne_iff_ne.2 (by omega)
  have HR : Hid (R = false) := by show R = false; rw [hR]; simp [*]
  clear hR
  go_enter Tryz.func118, Tryz.ntmps118
  go_wp2
  go_ret
  exact ⟨ret_bool HR.out.symm, below_alloc (Below.refl _ _) _⟩
 subst h_op
 by_cases h_ref : ref = 0
 rotate_left
 ·have f1_ref : ((ref : Int) == 0) = false := beq_false_of_ne (by omega)
  have f2_ref : ((ref : Int) != 0) = true := bne_iff_ne.2 (by omega)
  have HR : Hid (R = false) := by show R = false; rw [hR]; simp [*]
  clear hR
  go_enter Tryz.func118, Tryz.ntmps118
  go_wp2
  go_ret
  exact ⟨ret_bool HR.out.symm, below_alloc (Below.refl _ _) _⟩
 subst h_ref
 by_cases h_n : n = 0
 rotate_left
 ·have f1_n : ((n : Int) == 0) = false := beq_false_of_ne (by omega)
  have f2_n : ((n : Int) != 0) = true := bne_iff_ne.2 (by omega)
  have HR : Hid (R = false) := by show R = false; rw [hR]; simp [*]
  clear hR
  go_enter Tryz.func118, Tryz.ntmps118
  go_wp2
  go_ret
  exact ⟨ret_bool HR.out.symm, below_alloc (Below.refl _ _) _⟩
 subst h_n
 have HR : Hid (R = true) := by show R = true; rw [hR]; simp
 clear hR
 go_enter Tryz.func118, Tryz.ntmps118
 go_wp2
 go_ret
 exact ⟨ret_bool HR.out.symm, below_alloc (Below.refl _ _) _⟩
set_option maxRecDepth 100000 in
set_option maxHeartbeats 1000000 in
theorem plain_3 (op dst bits ref : Int) (args : List Int) (xv : Value) (w : World) (hA : IntsAt w xv args) : Calls Tryz.prog 118 #[.agg #[.int .u8 3, .int .u8 op, .int .i64 dst, xv, .int .u64 bits, .int .i64 ref]] w fun e w' => e = .returned (.bool (plainB ⟨3, op, dst, args, bits, ref⟩)) ∧ Below w.heap.size w w' := by
 obtain ⟨xa, xc, rfl, hxl⟩ := hA.form
 obtain ⟨R, hR⟩ : ∃ R, R = plainB ⟨3, op, dst, args, bits, ref⟩ := ⟨_, rfl⟩
 rw [← hR]
 unfold plainB at hR
 dsimp only at hR
 clear hA
 generalize args.length = n at *
 by_cases h_op : op = 0
 rotate_left
 ·have f1_op : ((op : Int) == 0) = false := beq_false_of_ne (by omega)
  have f2_op : ((op : Int) != 0) = true := bne_iff_ne.2 (by omega)
  have HR : Hid (R = false) := by show R = false; rw [hR]; simp [*]
  clear hR
  go_enter Tryz.func118, Tryz.ntmps118
  go_wp2
  go_ret
  exact ⟨ret_bool HR.out.symm, below_alloc (Below.refl _ _) _⟩
 subst h_op
 by_cases h_bits : bits = 0
 rotate_left
 ·have f1_bits : ((bits : Int) == 0) = false := beq_false_of_ne (by omega)
  have f2_bits : ((bits : Int) != 0) = true := bne_iff_ne.2 (by omega)
  have HR : Hid (R = false) := by show R = false; rw [hR]; simp [*]
  clear hR
  go_enter Tryz.func118, Tryz.ntmps118
  go_wp2
  go_ret
  exact ⟨ret_bool HR.out.symm, below_alloc (Below.refl _ _) _⟩
 subst h_bits
 by_cases h_ref : ref = 0
 rotate_left
 ·have f1_ref : ((ref : Int) == 0) = false := beq_false_of_ne (by omega)
  have f2_ref : ((ref : Int) != 0) = true := bne_iff_ne.2 (by omega)
  have HR : Hid (R = false) := by show R = false; rw [hR]; simp [*]
  clear hR
  go_enter Tryz.func118, Tryz.ntmps118
  go_wp2
  go_ret
  exact ⟨ret_bool HR.out.symm, below_alloc (Below.refl _ _) _⟩
 subst h_ref
 have HR : Hid (R = true) := by show R = true; rw [hR]; simp
 clear hR
 go_enter Tryz.func118, Tryz.ntmps118
 go_wp2
 go_ret
 exact ⟨ret_bool HR.out.symm, below_alloc (Below.refl _ _) _⟩
set_option maxRecDepth 100000 in
set_option maxHeartbeats 1000000 in
theorem plain_4 (op dst bits ref : Int) (args : List Int) (xv : Value) (w : World) (hA : IntsAt w xv args) : Calls Tryz.prog 118 #[.agg #[.int .u8 4, .int .u8 op, .int .i64 dst, xv, .int .u64 bits, .int .i64 ref]] w fun e w' => e = .returned (.bool (plainB ⟨4, op, dst, args, bits, ref⟩)) ∧ Below w.heap.size w w' := by
 obtain ⟨xa, xc, rfl, hxl⟩ := hA.form
 obtain ⟨R, hR⟩ : ∃ R, R = plainB ⟨4, op, dst, args, bits, ref⟩ := ⟨_, rfl⟩
 rw [← hR]
 unfold plainB at hR
 dsimp only at hR
 clear hA
 generalize args.length = n at *
 by_cases h_bits : bits = 0
 rotate_left
 ·have f1_bits : ((bits : Int) == 0) = false := beq_false_of_ne (by omega)
  have f2_bits : ((bits : Int) != 0) = true := bne_iff_ne.2 (by omega)
  have HR : Hid (R = false) := by show R = false; rw [hR]; simp [*]
  clear hR
  go_enter Tryz.func118, Tryz.ntmps118
  go_wp2
  go_ret
  exact ⟨ret_bool HR.out.symm, below_alloc (Below.refl _ _) _⟩
 subst h_bits
 by_cases h_ref : ref = 0
 rotate_left
 ·have f1_ref : ((ref : Int) == 0) = false := beq_false_of_ne (by omega)
  have f2_ref : ((ref : Int) != 0) = true := bne_iff_ne.2 (by omega)
  have HR : Hid (R = false) := by show R = false; rw [hR]; simp [*]
  clear hR
  go_enter Tryz.func118, Tryz.ntmps118
  go_wp2
  go_ret
  exact ⟨ret_bool HR.out.symm, below_alloc (Below.refl _ _) _⟩
 subst h_ref
 have HR : Hid (R = true) := by show R = true; rw [hR]; simp
 clear hR
 go_enter Tryz.func118, Tryz.ntmps118
 go_wp2
 go_ret
 exact ⟨ret_bool HR.out.symm, below_alloc (Below.refl _ _) _⟩
set_option maxRecDepth 100000 in
set_option maxHeartbeats 1000000 in
theorem plain_5 (op dst bits ref : Int) (args : List Int) (xv : Value) (w : World) (hA : IntsAt w xv args) : Calls Tryz.prog 118 #[.agg #[.int .u8 5, .int .u8 op, .int .i64 dst, xv, .int .u64 bits, .int .i64 ref]] w fun e w' => e = .returned (.bool (plainB ⟨5, op, dst, args, bits, ref⟩)) ∧ Below w.heap.size w w' := by
 obtain ⟨xa, xc, rfl, hxl⟩ := hA.form
 obtain ⟨R, hR⟩ : ∃ R, R = plainB ⟨5, op, dst, args, bits, ref⟩ := ⟨_, rfl⟩
 rw [← hR]
 unfold plainB at hR
 dsimp only at hR
 clear hA
 generalize args.length = n at *
 by_cases h_op : op = 0
 rotate_left
 ·have f1_op : ((op : Int) == 0) = false := beq_false_of_ne (by omega)
  have f2_op : ((op : Int) != 0) = true := bne_iff_ne.2 (by omega)
  have HR : Hid (R = false) := by show R = false; rw [hR]; simp [*]
  clear hR
  go_enter Tryz.func118, Tryz.ntmps118
  go_wp2
  go_ret
  exact ⟨ret_bool HR.out.symm, below_alloc (Below.refl _ _) _⟩
 subst h_op
 by_cases h_bits : bits = 0
 rotate_left
 ·have f1_bits : ((bits : Int) == 0) = false := beq_false_of_ne (by omega)
  have f2_bits : ((bits : Int) != 0) = true := bne_iff_ne.2 (by omega)
  have HR : Hid (R = false) := by show R = false; rw [hR]; simp [*]
  clear hR
  go_enter Tryz.func118, Tryz.ntmps118
  go_wp2
  go_ret
  exact ⟨ret_bool HR.out.symm, below_alloc (Below.refl _ _) _⟩
 subst h_bits
 by_cases h_ref : ref = 0
 rotate_left
 ·have f1_ref : ((ref : Int) == 0) = false := beq_false_of_ne (by omega)
  have f2_ref : ((ref : Int) != 0) = true := bne_iff_ne.2 (by omega)
  have HR : Hid (R = false) := by show R = false; rw [hR]; simp [*]
  clear hR
  go_enter Tryz.func118, Tryz.ntmps118
  go_wp2
  go_ret
  exact ⟨ret_bool HR.out.symm, below_alloc (Below.refl _ _) _⟩
 subst h_ref
 have HR : Hid (R = true) := by show R = true; rw [hR]; simp
 clear hR
 go_enter Tryz.func118, Tryz.ntmps118
 go_wp2
 go_ret
 exact ⟨ret_bool HR.out.symm, below_alloc (Below.refl _ _) _⟩
set_option maxRecDepth 100000 in
set_option maxHeartbeats 1000000 in
theorem plain_6 (op dst bits ref : Int) (args : List Int) (xv : Value) (w : World) (hA : IntsAt w xv args) : Calls Tryz.prog 118 #[.agg #[.int .u8 6, .int .u8 op, .int .i64 dst, xv, .int .u64 bits, .int .i64 ref]] w fun e w' => e = .returned (.bool (plainB ⟨6, op, dst, args, bits, ref⟩)) ∧ Below w.heap.size w w' := by
 obtain ⟨xa, xc, rfl, hxl⟩ := hA.form
 obtain ⟨R, hR⟩ : ∃ R, R = plainB ⟨6, op, dst, args, bits, ref⟩ := ⟨_, rfl⟩
 rw [← hR]
 unfold plainB at hR
 dsimp only at hR
 clear hA
 generalize args.length = n at *
 by_cases h_op : op = 0
 rotate_left
 ·have f1_op : ((op : Int) == 0) = false := beq_false_of_ne (by omega)
  have f2_op : ((op : Int) != 0) = true := bne_iff_ne.2 (by omega)
  have HR : Hid (R = false) := by show R = false; rw [hR]; simp [*]
  clear hR
  go_enter Tryz.func118, Tryz.ntmps118
  go_wp2
  go_ret
  exact ⟨ret_bool HR.out.symm, below_alloc (Below.refl _ _) _⟩
 subst h_op
 by_cases h_bits : bits = 0
 rotate_left
 ·have f1_bits : ((bits : Int) == 0) = false := beq_false_of_ne (by omega)
  have f2_bits : ((bits : Int) != 0) = true := bne_iff_ne.2 (by omega)
  have HR : Hid (R = false) := by show R = false; rw [hR]; simp [*]
  clear hR
  go_enter Tryz.func118, Tryz.ntmps118
  go_wp2
  go_ret
  exact ⟨ret_bool HR.out.symm, below_alloc (Below.refl _ _) _⟩
 subst h_bits
 have HR : Hid (R = true) := by show R = true; rw [hR]; simp
 clear hR
 go_enter Tryz.func118, Tryz.ntmps118
 go_wp2
 go_ret
 exact ⟨ret_bool HR.out.symm, below_alloc (Below.refl _ _) _⟩
set_option maxRecDepth 100000 in
set_option maxHeartbeats 1000000 in
theorem plain_7 (op dst bits ref : Int) (args : List Int) (xv : Value) (w : World) (hA : IntsAt w xv args) : Calls Tryz.prog 118 #[.agg #[.int .u8 7, .int .u8 op, .int .i64 dst, xv, .int .u64 bits, .int .i64 ref]] w fun e w' => e = .returned (.bool (plainB ⟨7, op, dst, args, bits, ref⟩)) ∧ Below w.heap.size w w' := by
 obtain ⟨xa, xc, rfl, hxl⟩ := hA.form
 obtain ⟨R, hR⟩ : ∃ R, R = plainB ⟨7, op, dst, args, bits, ref⟩ := ⟨_, rfl⟩
 rw [← hR]
 unfold plainB at hR
 dsimp only at hR
 clear hA
 generalize args.length = n at *
 by_cases h_dst : dst = 0
 rotate_left
 ·have f1_dst : ((dst : Int) == 0) = false := beq_false_of_ne (by omega)
  have f2_dst : ((dst : Int) != 0) = true := bne_iff_ne.2 (by omega)
  have HR : Hid (R = false) := by show R = false; rw [hR]; simp [*]
  clear hR
  go_enter Tryz.func118, Tryz.ntmps118
  go_wp2
  go_ret
  exact ⟨ret_bool HR.out.symm, below_alloc (Below.refl _ _) _⟩
 subst h_dst
 by_cases h_op : op = 0
 rotate_left
 ·have f1_op : ((op : Int) == 0) = false := beq_false_of_ne (by omega)
  have f2_op : ((op : Int) != 0) = true := bne_iff_ne.2 (by omega)
  have HR : Hid (R = false) := by show R = false; rw [hR]; simp [*]
  clear hR
  go_enter Tryz.func118, Tryz.ntmps118
  go_wp2
  go_ret
  exact ⟨ret_bool HR.out.symm, below_alloc (Below.refl _ _) _⟩
 subst h_op
 by_cases h_bits : bits = 0
 rotate_left
 ·have f1_bits : ((bits : Int) == 0) = false := beq_false_of_ne (by omega)
  have f2_bits : ((bits : Int) != 0) = true := bne_iff_ne.2 (by omega)
  have HR : Hid (R = false) := by show R = false; rw [hR]; simp [*]
  clear hR
  go_enter Tryz.func118, Tryz.ntmps118
  go_wp2
  go_ret
  exact ⟨ret_bool HR.out.symm, below_alloc (Below.refl _ _) _⟩
 subst h_bits
 have HR : Hid (R = true) := by show R = true; rw [hR]; simp
 clear hR
 go_enter Tryz.func118, Tryz.ntmps118
 go_wp2
 go_ret
 exact ⟨ret_bool HR.out.symm, below_alloc (Below.refl _ _) _⟩
set_option maxRecDepth 100000 in
set_option maxHeartbeats 1000000 in
theorem plain_8 (op dst bits ref : Int) (args : List Int) (xv : Value) (w : World) (hA : IntsAt w xv args) : Calls Tryz.prog 118 #[.agg #[.int .u8 8, .int .u8 op, .int .i64 dst, xv, .int .u64 bits, .int .i64 ref]] w fun e w' => e = .returned (.bool (plainB ⟨8, op, dst, args, bits, ref⟩)) ∧ Below w.heap.size w w' := by
 obtain ⟨xa, xc, rfl, hxl⟩ := hA.form
 obtain ⟨R, hR⟩ : ∃ R, R = plainB ⟨8, op, dst, args, bits, ref⟩ := ⟨_, rfl⟩
 rw [← hR]
 unfold plainB at hR
 dsimp only at hR
 clear hA
 generalize args.length = n at *
 by_cases h_dst : dst = 0
 rotate_left
 ·have f1_dst : ((dst : Int) == 0) = false := beq_false_of_ne (by omega)
  have f2_dst : ((dst : Int) != 0) = true := bne_iff_ne.2 (by omega)
  have HR : Hid (R = false) := by show R = false; rw [hR]; simp [*]
  clear hR
  go_enter Tryz.func118, Tryz.ntmps118
  go_wp2
  go_ret
  exact ⟨ret_bool HR.out.symm, below_alloc (Below.refl _ _) _⟩
 subst h_dst
 by_cases h_op : op = 0
 rotate_left
 ·have f1_op : ((op : Int) == 0) = false := beq_false_of_ne (by omega)
  have f2_op : ((op : Int) != 0) = true := bne_iff_ne.2 (by omega)
  have HR : Hid (R = false) := by show R = false; rw [hR]; simp [*]
  clear hR
  go_enter Tryz.func118, Tryz.ntmps118
  go_wp2
  go_ret
  exact ⟨ret_bool HR.out.symm, below_alloc (Below.refl _ _) _⟩
 subst h_op
 by_cases h_bits : bits = 0
 rotate_left
 ·have f1_bits : ((bits : Int) == 0) = false := beq_false_of_ne (by omega)
  have f2_bits : ((bits : Int) != 0) = true := bne_iff_ne.2 (by omega)
  have HR : Hid (R = false) := by show R = false; rw [hR]; simp [*]
  clear hR
  go_enter Tryz.func118, Tryz.ntmps118
  go_wp2
  go_ret
  exact ⟨ret_bool HR.out.symm, below_alloc (Below.refl _ _) _⟩
 subst h_bits
 by_cases h_n : n = 0
 rotate_left
 ·have f1_n : ((n : Int) == 0) = false := beq_false_of_ne (by omega)
  have f2_n : ((n : Int) != 0) = true := bne_iff_ne.2 (by omega)
  have HR : Hid (R = false) := by show R = false; rw [hR]; simp [*]
  clear hR
  go_enter Tryz.func118, Tryz.ntmps118
  go_wp2
  go_ret
  exact ⟨ret_bool HR.out.symm, below_alloc (Below.refl _ _) _⟩
 subst h_n
 have HR : Hid (R = true) := by show R = true; rw [hR]; simp
 clear hR
 go_enter Tryz.func118, Tryz.ntmps118
 go_wp2
 go_ret
 exact ⟨ret_bool HR.out.symm, below_alloc (Below.refl _ _) _⟩
set_option maxRecDepth 100000 in
set_option maxHeartbeats 1000000 in
theorem plain_9 (op dst bits ref : Int) (args : List Int) (xv : Value) (w : World) (hA : IntsAt w xv args) : Calls Tryz.prog 118 #[.agg #[.int .u8 9, .int .u8 op, .int .i64 dst, xv, .int .u64 bits, .int .i64 ref]] w fun e w' => e = .returned (.bool (plainB ⟨9, op, dst, args, bits, ref⟩)) ∧ Below w.heap.size w w' := by
 obtain ⟨xa, xc, rfl, hxl⟩ := hA.form
 obtain ⟨R, hR⟩ : ∃ R, R = plainB ⟨9, op, dst, args, bits, ref⟩ := ⟨_, rfl⟩
 rw [← hR]
 unfold plainB at hR
 dsimp only at hR
 clear hA
 generalize args.length = n at *
 by_cases h_op : op = 0
 rotate_left
 ·have f1_op : ((op : Int) == 0) = false := beq_false_of_ne (by omega)
  have f2_op : ((op : Int) != 0) = true := bne_iff_ne.2 (by omega)
  have HR : Hid (R = false) := by show R = false; rw [hR]; simp [*]
  clear hR
  go_enter Tryz.func118, Tryz.ntmps118
  go_wp2
  go_ret
  exact ⟨ret_bool HR.out.symm, below_alloc (Below.refl _ _) _⟩
 subst h_op
 by_cases h_bits : bits = 0
 rotate_left
 ·have f1_bits : ((bits : Int) == 0) = false := beq_false_of_ne (by omega)
  have f2_bits : ((bits : Int) != 0) = true := bne_iff_ne.2 (by omega)
  have HR : Hid (R = false) := by show R = false; rw [hR]; simp [*]
  clear hR
  go_enter Tryz.func118, Tryz.ntmps118
  go_wp2
  go_ret
  exact ⟨ret_bool HR.out.symm, below_alloc (Below.refl _ _) _⟩
 subst h_bits
 have HR : Hid (R = true) := by show R = true; rw [hR]; simp
 clear hR
 go_enter Tryz.func118, Tryz.ntmps118
 go_wp2
 go_ret
 exact ⟨ret_bool HR.out.symm, below_alloc (Below.refl _ _) _⟩
set_option maxRecDepth 100000 in
set_option maxHeartbeats 1000000 in
theorem plain_10 (op dst bits ref : Int) (args : List Int) (xv : Value) (w : World) (hA : IntsAt w xv args) : Calls Tryz.prog 118 #[.agg #[.int .u8 10, .int .u8 op, .int .i64 dst, xv, .int .u64 bits, .int .i64 ref]] w fun e w' => e = .returned (.bool (plainB ⟨10, op, dst, args, bits, ref⟩)) ∧ Below w.heap.size w w' := by
 obtain ⟨xa, xc, rfl, hxl⟩ := hA.form
 obtain ⟨R, hR⟩ : ∃ R, R = plainB ⟨10, op, dst, args, bits, ref⟩ := ⟨_, rfl⟩
 rw [← hR]
 unfold plainB at hR
 dsimp only at hR
 clear hA
 generalize args.length = n at *
 by_cases h_dst : dst = 0
 rotate_left
 ·have f1_dst : ((dst : Int) == 0) = false := beq_false_of_ne (by omega)
  have f2_dst : ((dst : Int) != 0) = true := bne_iff_ne.2 (by omega)
  have HR : Hid (R = false) := by show R = false; rw [hR]; simp [*]
  clear hR
  go_enter Tryz.func118, Tryz.ntmps118
  go_wp2
  go_ret
  exact ⟨ret_bool HR.out.symm, below_alloc (Below.refl _ _) _⟩
 subst h_dst
 by_cases h_op : op = 0
 rotate_left
 ·have f1_op : ((op : Int) == 0) = false := beq_false_of_ne (by omega)
  have f2_op : ((op : Int) != 0) = true := bne_iff_ne.2 (by omega)
  have HR : Hid (R = false) := by show R = false; rw [hR]; simp [*]
  clear hR
  go_enter Tryz.func118, Tryz.ntmps118
  go_wp2
  go_ret
  exact ⟨ret_bool HR.out.symm, below_alloc (Below.refl _ _) _⟩
 subst h_op
 by_cases h_bits : bits = 0
 rotate_left
 ·have f1_bits : ((bits : Int) == 0) = false := beq_false_of_ne (by omega)
  have f2_bits : ((bits : Int) != 0) = true := bne_iff_ne.2 (by omega)
  have HR : Hid (R = false) := by show R = false; rw [hR]; simp [*]
  clear hR
  go_enter Tryz.func118, Tryz.ntmps118
  go_wp2
  go_ret
  exact ⟨ret_bool HR.out.symm, below_alloc (Below.refl _ _) _⟩
 subst h_bits
 by_cases h_ref : ref = 0
 rotate_left
 ·have f1_ref : ((ref : Int) == 0) = false := beq_false_of_ne (by omega)
  have f2_ref : ((ref : Int) != 0) = true := bne_iff_ne.2 (by omega)
  have HR : Hid (R = false) := by show R = false; rw [hR]; simp [*]
  clear hR
  go_enter Tryz.func118, Tryz.ntmps118
  go_wp2
  go_ret
  exact ⟨ret_bool HR.out.symm, below_alloc (Below.refl _ _) _⟩
 subst h_ref
 have HR : Hid (R = true) := by show R = true; rw [hR]; simp
 clear hR
 go_enter Tryz.func118, Tryz.ntmps118
 go_wp2
 go_ret
 exact ⟨ret_bool HR.out.symm, below_alloc (Below.refl _ _) _⟩
theorem rplain_any (x : In) (xv : Value) (w : World) (hA : IntsAt w xv x.args) (h1 : 1 ≤ x.kind) (h2 : x.kind ≤ 10) : Calls Tryz.prog 118 #[inV x xv] w fun e w' => e = .returned (.bool (plainB x)) ∧ Below w.heap.size w w' := by
 obtain ⟨k, op, dst, args, bits, ref⟩ := x
 dsimp only at h1 h2 hA
 have hk : k = 1 ∨ k = 2 ∨ k = 3 ∨ k = 4 ∨ k = 5 ∨ k = 6 ∨ k = 7 ∨ k = 8 ∨ k = 9 ∨ k = 10 := by omega
 rcases hk with rfl | rfl | rfl | rfl | rfl | rfl | rfl | rfl | rfl | rfl
 ·exact plain_1 op dst bits ref args xv w hA
 ·exact plain_2 op dst bits ref args xv w hA
 ·exact plain_3 op dst bits ref args xv w hA
 ·exact plain_4 op dst bits ref args xv w hA
 ·exact plain_5 op dst bits ref args xv w hA
 ·exact plain_6 op dst bits ref args xv w hA
 ·exact plain_7 op dst bits ref args xv w hA
 ·exact plain_8 op dst bits ref args xv w hA
 ·exact plain_9 op dst bits ref args xv w hA
 ·exact plain_10 op dst bits ref args xv w hA
end Go.Proofs.YtobnpllppohofaaGreatDoor
/- The same of the document's answer. -/
namespace Go.Proofs.YtobnpllppohofaaGreatDoor
open Go.RowKit

theorem wrap_u64 (n : Int) : IntKind.u64.wrap n = n % 18446744073709551616 := by simp [IntKind.wrap, IntKind.bits, IntKind.signed]
theorem w32_hi (a : Int) (h : word a) (g : 2147483648 ≤ a.tmod 4294967296) : IntKind.u64.wrap (a.tmod 4294967296 + 18446744069414584320) = IntKind.u64.wrap (wrap32 a) := by
 obtain ⟨h0, h1⟩ := h
 have e : a.tmod 4294967296 = a % 4294967296 := Int.tmod_eq_emod_of_nonneg h0
 rw [wrap_u64, wrap_u64]; unfold wrap32; omega
theorem w32_lo (a : Int) (h : word a) (g : a.tmod 4294967296 < 2147483648) : a.tmod 4294967296 = IntKind.u64.wrap (wrap32 a) := by
 obtain ⟨h0, h1⟩ := h
 have e : a.tmod 4294967296 = a % 4294967296 := Int.tmod_eq_emod_of_nonneg h0
 rw [wrap_u64]; unfold wrap32; omega
set_option maxHeartbeats 400000 in
theorem rcut_any (t a : Int) (w : World) (ha : Hid (word a)) :
  Calls Tryz.prog 134 #[.int .u8 t, .int .u64 a] w fun e w' => e = .returned (.int .u64 (cutI t a)) ∧ w' = w := by
 have f1 := run_frombits
 by_cases h1 : t = 1
 ·subst h1
  go_enter Tryz.func134, Tryz.ntmps134
  go_wp2
  go_ret
  exact ⟨ret_u64 (Int.tmod_eq_emod_of_nonneg ha.out.1), rfl⟩
 by_cases h2 : t = 2
 ·subst h2
  go_enter Tryz.func134, Tryz.ntmps134
  go_wp2
  go_ret
  exact ⟨ret_u64 (Int.tmod_eq_emod_of_nonneg ha.out.1), rfl⟩
 by_cases h3 : t = 3
 ·subst h3
  go_enter Tryz.func134, Tryz.ntmps134
  go_wp2
  all_goals go_ret
  ·exact ⟨ret_u64 (w32_hi a ha.out (by assumption)), rfl⟩
  ·exact ⟨ret_u64 (w32_lo a ha.out (by assumption)), rfl⟩
 by_cases h4 : t = 4
 ·subst h4
  go_enter Tryz.func134, Tryz.ntmps134
  go_wp2
  go_ret
  exact ⟨rfl, rfl⟩
 by_cases h5 : t = 5
 ·subst h5
  by_cases hn : (FloatKind.f64.format.order a.toNat a.toNat != some .eq) = true
  ·go_enter Tryz.func134, Tryz.ntmps134
   go_wp2
   go_ret
   exact ⟨ret_u64 (by simp [cutI, nanI, hn]), rfl⟩
  ·have hn' : (FloatKind.f64.format.order a.toNat a.toNat != some .eq) = false := by simpa using hn
   go_enter Tryz.func134, Tryz.ntmps134
   go_wp2
   go_ret
   exact ⟨ret_u64 (by simp [cutI, nanI, hn']), rfl⟩
 ·go_enter Tryz.func134, Tryz.ntmps134
  go_wp2
  go_ret
  exact ⟨ret_u64 (by simp [cutI, h1, h2, h3, h4, h5]), rfl⟩
theorem typedB_iff (t : Int) : typedB t = true ↔ 1 ≤ t ∧ t ≤ 5 := by
 simp [typedB, numberB, wholeB]; omega
set_option maxHeartbeats 400000 in
theorem rright_any (t a : Int) (w : World) (ha : Hid (word a)) :
  Calls Tryz.prog 119 #[.int .u8 t, .int .u64 a] w fun e w' => e = .returned (.bool (rightB t a)) ∧ w' = w := by
 have hi := typedB_iff t
 by_cases h : typedB t = true
 ·have h1 : 1 ≤ t := (hi.1 h).1
  have h2 : t ≤ 5 := (hi.1 h).2
  clear hi
  go_enter Tryz.func119, Tryz.ntmps119
  go_wp2_with (go_at_call 134; refine (rcut_any _ _ _ ha).mono ?_; rintro e w' ⟨rfl, rfl⟩)
  go_ret
  exact ⟨ret_bool (by simp [rightB, h]), rfl⟩
 ·have h' : typedB t = false := by simpa using h
  by_cases g : 1 ≤ t
  ·have g2 : ¬ t ≤ 5 := fun k => h (hi.2 ⟨g, k⟩)
   clear hi
   go_enter Tryz.func119, Tryz.ntmps119
   go_wp2
   go_ret
   exact ⟨ret_bool (by simp [rightB, h']), rfl⟩
  ·clear hi
   go_enter Tryz.func119, Tryz.ntmps119
   go_wp2
   go_ret
   exact ⟨ret_bool (by simp [rightB, h']), rfl⟩
set_option maxHeartbeats 1000000 in
theorem rof_typed (o t : Int) (w : World) (ht : t = 1 ∨ t = 2 ∨ t = 3 ∨ t = 4 ∨ t = 5) :
  Calls Tryz.prog 135 #[.int .u8 o, .int .u8 t] w fun e w' => e = .returned (.tuple #[.int .u8 (ofT o t), .bool (ofB o t)]) ∧ w' = w := by
 rcases ht with rfl | rfl | rfl | rfl | rfl
 all_goals
  go_enter Tryz.func135, Tryz.ntmps135
  go_wp2
  all_goals go_ret2
  all_goals exact ⟨ret_pair (by simp_all [ofT, typedB, numberB, wholeB]) (by simp_all [ofB, typedB, numberB, wholeB]), rfl⟩
theorem of_untyped (o t : Int) (h : typedB t = false) : ofT o t = 0 ∧ ofB o t = false := by
 have h1 : numberB t = false := by simp [typedB] at h; exact h.2
 have h2 : wholeB t = false := by simp [numberB] at h1; exact h1.2
 have h3 : ¬ t = 1 := by simp [typedB] at h; exact h.1
 constructor
 ·simp [ofT, h, h1, h2, h3]
 ·simp [ofB, h, h1, h2, h3]
set_option maxHeartbeats 400000 in
theorem rof_any (o t : Int) (w : World) :
  Calls Tryz.prog 135 #[.int .u8 o, .int .u8 t] w fun e w' => e = .returned (.tuple #[.int .u8 (ofT o t), .bool (ofB o t)]) ∧ w' = w := by
 by_cases ht : t = 1 ∨ t = 2 ∨ t = 3 ∨ t = 4 ∨ t = 5
 ·exact rof_typed o t w ht
 ·have hu : typedB t = false := by simp [typedB, numberB, wholeB]; omega
  have h0 : Hid (ofT o t = 0 ∧ ofB o t = false) := of_untyped o t hu
  by_cases h1 : t < 1
  ·go_enter Tryz.func135, Tryz.ntmps135
   go_wp2
   go_ret2
   exact ⟨ret_pair h0.out.1.symm h0.out.2.symm, rfl⟩
  ·have h2 : 5 < t := by omega
   go_enter Tryz.func135, Tryz.ntmps135
   go_wp2
   go_ret2
   exact ⟨ret_pair h0.out.1.symm h0.out.2.symm, rfl⟩
theorem numberB_iff (t : Int) : numberB t = true ↔ 2 ≤ t ∧ t ≤ 5 := by
 simp [numberB, wholeB]; omega
set_option maxHeartbeats 400000 in
theorem rturns_any (to fr : Int) (w : World) : Calls Tryz.prog 121 #[.int .u8 to, .int .u8 fr] w fun e w' => e = .returned (.bool (turnsB to fr)) ∧ w' = w := by
 have hi : Hid (numberB to = true ↔ 2 ≤ to ∧ to ≤ 5) := numberB_iff to
 have hj : Hid (numberB fr = true ↔ 2 ≤ fr ∧ fr ≤ 5) := numberB_iff fr
 by_cases c1 : 2 ≤ to
 ·by_cases c2 : to ≤ 5
  ·by_cases c3 : 2 ≤ fr
   ·by_cases c4 : fr ≤ 5
    ·go_enter Tryz.func121, Tryz.ntmps121
     go_wp2
     go_ret
     exact ⟨ret_bool (by simp [turnsB, hi.out.2 ⟨c1, c2⟩, hj.out.2 ⟨c3, c4⟩]), rfl⟩
    ·go_enter Tryz.func121, Tryz.ntmps121
     go_wp2
     go_ret
     have : numberB fr = false := by
      cases h : numberB fr
      ·rfl
      ·have := hj.out.1 h; omega
     exact ⟨ret_bool (by simp [turnsB, this]), rfl⟩
   ·go_enter Tryz.func121, Tryz.ntmps121
    go_wp2
    go_ret
    have : numberB fr = false := by
     cases h : numberB fr
     ·rfl
     ·have := hj.out.1 h; omega
    exact ⟨ret_bool (by simp [turnsB, this]), rfl⟩
  ·go_enter Tryz.func121, Tryz.ntmps121
   go_wp2
   go_ret
   have : numberB to = false := by
    cases h : numberB to
    ·rfl
    ·have := hi.out.1 h; omega
   exact ⟨ret_bool (by simp [turnsB, this]), rfl⟩
 ·go_enter Tryz.func121, Tryz.ntmps121
  go_wp2
  go_ret
  have : numberB to = false := by
   cases h : numberB to
   ·rfl
   ·have := hi.out.1 h; omega
  exact ⟨ret_bool (by simp [turnsB, this]), rfl⟩
end Go.Proofs.YtobnpllppohofaaGreatDoor
/- The document's side: may an operation stand? -/
namespace Go.Proofs.YtobnpllppohofaaGreatDoor
open Go.RowKit

def opR (vars : List Int) (x : In) : Bool := ((x.args.length : Int) == nOp x.op) && (decide (1 ≤ x.op) && (decide (x.op ≤ 18) && (ofB x.op (varT vars (x.args.getD 0 0)) && (varT vars (x.args.getD (x.args.length - 1) 0) == varT vars (x.args.getD 0 0) && varT vars x.dst == ofT x.op (varT vars (x.args.getD 0 0))))))
set_option maxRecDepth 100000 in
set_option maxHeartbeats 2000000 in
theorem rop_any (G : Gr) (pv vv av bv : Value) (x : In) (xv : Value) (w : World) (h : GrAt w pv vv av bv G) (hA : IntsAt w xv x.args) (hd : inB x.dst G.vars.length = true) (hal : x.args.all (inB · G.vars.length) = true) :
  Calls Tryz.prog 120 #[.agg #[.string G.name, pv, .int .u8 G.result, vv, av, bv], inV x xv] w fun e w' => e = .returned (.bool (opR G.vars x)) ∧ Below w.heap.size w w' := by
 obtain ⟨pa, pc, va, vc, aa, ac, ba, bc, rfl, rfl, rfl, rfl, _, hvl, _, _⟩ := h.openF
 obtain ⟨xa, xc, rfl, hxl⟩ := hA.form
 obtain ⟨kind, op, dst, args, bits, ref⟩ := x
 obtain ⟨nm, ps, r, vs, ars, bs⟩ := G
 dsimp only at *
 have HV := h.vs
 dsimp only at HV
 obtain ⟨g, o, k, rfl, rfl, hkn, hg, cd⟩ := HV.var hd
 have HB0 : Hid (∀ c d : Array Value, Below w.heap.size w ((w.alloc (.cells c 28)).alloc (.cells d 41))) := fun c d => below_alloc (below_alloc (Below.refl _ _) _) _
 obtain ⟨R, hR⟩ : ∃ R, R = opR vs ⟨kind, op, (k : Int), args, bits, ref⟩ := ⟨_, rfl⟩
 rw [← hR]
 unfold opR at hR
 dsimp only at hR
 by_cases hN : (args.length : Int) = nOp op
 rotate_left
 ·have HR : Hid (R = false) := by show _ = _; rw [hR, beq_false_of_ne hN]; simp
  clear hR h hA HV hal hd
  generalize args.length = n at *
  by_cases o17 : op = 17
  ·subst o17
   have hN' : ((n : Int) != 1) = true := bne_iff_ne.2 hN
   clear hN
   go_enter Tryz.func120, Tryz.ntmps120
   go_wp2
   go_ret
   exact ⟨ret_bool HR.out.symm, HB0.out _ _⟩
  by_cases o18 : op = 18
  ·subst o18
   have hN' : ((n : Int) != 1) = true := bne_iff_ne.2 hN
   clear hN
   go_enter Tryz.func120, Tryz.ntmps120
   go_wp2
   go_ret
   exact ⟨ret_bool HR.out.symm, HB0.out _ _⟩
  ·have hn2 : nOp op = 2 := by simp [nOp, o17, o18]
   rw [hn2] at hN
   have hN' : ((n : Int) != 2) = true := bne_iff_ne.2 hN
   have p17 : (op == 17) = false := beq_false_of_ne o17
   have p18 : (op == 18) = false := beq_false_of_ne o18
   clear hN hn2 o17 o18
   go_enter Tryz.func120, Tryz.ntmps120
   go_wp2
   go_ret
   exact ⟨ret_bool HR.out.symm, HB0.out _ _⟩
 have hlen : 1 ≤ args.length ∧ args.length ≤ 2 := by
  unfold nOp at hN
  split at hN <;> omega
 rw [beq_iff_eq.2 hN, Bool.true_and] at hR
 have HVA : ∀ v, inB v vs.length = true → ∃ k : Nat, v = (k : Int) ∧ (k : Int) < vs.length ∧ w.cell? ⟨g, o + k, none⟩ = some (.int .u8 (varT vs v)) := fun v hv => by
  obtain ⟨g', o', k', e1, e2, e3, _, e5⟩ := HV.var hv
  cases e1
  exact ⟨k', e2, e3, e5⟩
 have HAL : ∀ i, i < args.length → inB (args.getD i 0) vs.length = true := fun i hi => by
  have := List.all_eq_true.1 hal (args.getD i 0) (by rw [List.getD, List.getElem?_eq_getElem hi]; exact List.getElem_mem hi)
  exact this
 obtain ⟨ga, oa, rfl, hga, ca⟩ := hA.get (i := 0) (by omega)
 obtain ⟨ga2, oa2, he2, _, cb⟩ := hA.get (i := args.length - 1) (by omega)
 cases he2
 obtain ⟨k0, hk0, hk0n, c0⟩ := HVA _ (HAL 0 (by omega))
 obtain ⟨k1, hk1, hk1n, c1⟩ := HVA _ (HAL (args.length - 1) (by omega))
 rw [hk0] at ca c0 hR
 rw [hk1] at cb c1 hR
 have HOF : Hid (∀ W, Calls Tryz.prog 135 #[.int .u8 op, .int .u8 (varT vs (k0 : Int))] W fun e w' => e = .returned (.tuple #[.int .u8 (ofT op (varT vs (k0 : Int))), .bool (ofB op (varT vs (k0 : Int)))]) ∧ w' = W) := fun W => rof_any op _ W
 generalize varT vs (k : Int) = td at *
 generalize varT vs (k0 : Int) = t0 at *
 generalize varT vs (k1 : Int) = t1 at *
 generalize ofT op t0 = told at *
 generalize ofB op t0 = ok at *
 have hm : ∃ m, args.length = m + 1 := ⟨args.length - 1, by omega⟩
 obtain ⟨m, hm⟩ := hm
 rw [hm] at cb hxl hN hlen ⊢
 rw [show m + 1 - 1 = m by omega] at cb
 rw [Nat.add_zero] at ca
 clear h hA hd hal HV HVA HAL hk0 hk1 hm hxl hvl
 by_cases o17 : op = 17
 ·subst o17
  have hm0 : m = 0 := by have h9 : nOp 17 = 1 := rfl; rw [h9] at hN; omega
  subst hm0
  clear hN hlen
  cases ok with
  | false =>
   have HR : Hid (R = false) := by show _ = _; rw [hR]; simp
   clear hR
   go_enter Tryz.func120, Tryz.ntmps120
   go_wp2
   go_quiet (fail)
   go_wp2_with (go_at_call 135; refine Calls.mono (HOF.out _) ?_; rintro e wx ⟨rfl, hwx⟩; subst wx)
   go_quiet (fail)
   go_wp2
   go_ret
   exact ⟨ret_bool HR.out.symm, by repeat (first | exact HB0.out _ _ | refine below_drewN ?_ _ | refine below_drew ?_)⟩
  | true =>
   rw [Nat.add_zero] at cb
   have e1 := ca.symm.trans cb
   simp only [Option.some.injEq, Value.int.injEq, true_and] at e1
   obtain rfl : k0 = k1 := by omega
   have e2 := c0.symm.trans c1
   simp only [Option.some.injEq, Value.int.injEq, true_and] at e2
   subst e2
   clear e1
   have HR : Hid (R = (td == told)) := by show _ = _; rw [hR]; simp
   clear hR
   go_enter Tryz.func120, Tryz.ntmps120
   go_wp2
   go_quiet (fail)
   go_wp2_with (go_at_call 135; refine Calls.mono (HOF.out _) ?_; rintro e wx ⟨rfl, hwx⟩; subst wx)
   go_quiet (fail)
   go_wp2
   go_ret
   exact ⟨ret_bool (by rw [HR.out]), by repeat (first | exact HB0.out _ _ | refine below_drewN ?_ _ | refine below_drew ?_)⟩
 by_cases o18 : op = 18
 ·subst o18
  have hm0 : m = 0 := by have h9 : nOp 18 = 1 := rfl; rw [h9] at hN; omega
  subst hm0
  clear hN hlen
  cases ok with
  | false =>
   have HR : Hid (R = false) := by show _ = _; rw [hR]; simp
   clear hR
   go_enter Tryz.func120, Tryz.ntmps120
   go_wp2
   go_quiet (fail)
   go_wp2_with (go_at_call 135; refine Calls.mono (HOF.out _) ?_; rintro e wx ⟨rfl, hwx⟩; subst wx)
   go_quiet (fail)
   go_wp2
   go_ret
   exact ⟨ret_bool HR.out.symm, by repeat (first | exact HB0.out _ _ | refine below_drewN ?_ _ | refine below_drew ?_)⟩
  | true =>
   rw [Nat.add_zero] at cb
   have e1 := ca.symm.trans cb
   simp only [Option.some.injEq, Value.int.injEq, true_and] at e1
   obtain rfl : k0 = k1 := by omega
   have e2 := c0.symm.trans c1
   simp only [Option.some.injEq, Value.int.injEq, true_and] at e2
   subst e2
   clear e1
   have HR : Hid (R = (td == told)) := by show _ = _; rw [hR]; simp
   clear hR
   go_enter Tryz.func120, Tryz.ntmps120
   go_wp2
   go_quiet (fail)
   go_wp2_with (go_at_call 135; refine Calls.mono (HOF.out _) ?_; rintro e wx ⟨rfl, hwx⟩; subst wx)
   go_quiet (fail)
   go_wp2
   go_ret
   exact ⟨ret_bool (by rw [HR.out]), by repeat (first | exact HB0.out _ _ | refine below_drewN ?_ _ | refine below_drew ?_)⟩
 have hnop : nOp op = 2 := by simp [nOp, o17, o18]
 have p17 : (op == 17) = false := beq_false_of_ne o17
 have p18 : (op == 18) = false := beq_false_of_ne o18
 have hm1 : m = 1 := by rw [hnop] at hN; omega
 subst hm1
 clear hnop hN hlen o17 o18
 by_cases q1 : 1 ≤ op
 rotate_left
 ·have q1' : op < 1 := by omega
  have HR : Hid (R = false) := by show _ = _; rw [hR, decide_eq_false q1]; simp
  clear hR q1 p17 p18
  have p17 : (op == 17) = false := beq_false_of_ne (by omega)
  have p18 : (op == 18) = false := beq_false_of_ne (by omega)
  go_enter Tryz.func120, Tryz.ntmps120
  go_wp2
  go_ret
  exact ⟨ret_bool HR.out.symm, HB0.out _ _⟩
 by_cases q2 : op ≤ 18
 rotate_left
 ·have q2' : 18 < op := by omega
  have HR : Hid (R = false) := by show _ = _; rw [hR, decide_eq_false q2]; simp
  clear hR q2
  go_enter Tryz.func120, Tryz.ntmps120
  go_wp2
  go_ret
  exact ⟨ret_bool HR.out.symm, HB0.out _ _⟩
 rw [decide_eq_true q1, decide_eq_true q2, Bool.true_and, Bool.true_and] at hR
 cases ok with
 | false =>
  have HR : Hid (R = false) := by show _ = _; rw [hR]; simp
  clear hR
  go_enter Tryz.func120, Tryz.ntmps120
  go_wp2
  go_quiet (fail)
  go_wp2_with (go_at_call 135; refine Calls.mono (HOF.out _) ?_; rintro e wx ⟨rfl, hwx⟩; subst wx)
  go_quiet (fail)
  go_wp2
  go_ret
  exact ⟨ret_bool HR.out.symm, by repeat (first | exact HB0.out _ _ | refine below_drewN ?_ _ | refine below_drew ?_)⟩
 | true =>
  by_cases ht : t1 = t0
  ·subst ht
   have HR : Hid (R = (td == told)) := by show _ = _; rw [hR]; simp [*]
   clear hR
   go_enter Tryz.func120, Tryz.ntmps120
   go_wp2
   go_quiet (fail)
   go_wp2_with (go_at_call 135; refine Calls.mono (HOF.out _) ?_; rintro e wx ⟨rfl, hwx⟩; subst wx)
   go_quiet (fail)
   go_wp2
   go_ret
   exact ⟨ret_bool (by rw [HR.out]), by repeat (first | exact HB0.out _ _ | refine below_drewN ?_ _ | refine below_drew ?_)⟩
  ·have ht' : (t1 == t0) = false := beq_false_of_ne ht
   have HR : Hid (R = false) := by show _ = _; rw [hR, ht']; simp
   clear hR ht
   go_enter Tryz.func120, Tryz.ntmps120
   go_wp2
   go_quiet (fail)
   go_wp2_with (go_at_call 135; refine Calls.mono (HOF.out _) ?_; rintro e wx ⟨rfl, hwx⟩; subst wx)
   go_quiet (fail)
   go_wp2
   go_ret
   exact ⟨ret_bool HR.out.symm, by repeat (first | exact HB0.out _ _ | refine below_drewN ?_ _ | refine below_drew ?_)⟩
end Go.Proofs.YtobnpllppohofaaGreatDoor
