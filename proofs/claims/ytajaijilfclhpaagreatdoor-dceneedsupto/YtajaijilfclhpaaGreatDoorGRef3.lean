/- The document's side: fields that a kind does not name are 0. -/
import Derived.Test.YtajaijilfclhpaaGreatDoorGLaidM
namespace Go.Proofs.YtajaijilfclhpaaGreatDoor
open Go.RowKit

def plainB (x : In) : Bool := (decide (x.kind = 1 ∨ x.kind = 2 ∨ x.kind = 3 ∨ x.kind = 4 ∨ x.kind = 5 ∨ x.kind = 6 ∨ x.kind = 9) || x.dst == 0) && ((x.kind == 4 || x.op == 0) && ((x.kind == 2 || x.bits == 0) && ((decide (6 ≤ x.kind ∧ x.kind ≤ 9) || x.ref == 0) && ((x.kind != 2 && x.kind != 8) || x.args.length == 0))))
set_option maxRecDepth 100000 in
set_option maxHeartbeats 1000000 in
theorem plain_1 (op dst bits ref : Int) (args : List Int) (xv : Value) (w : World) (hA : IntsAt w xv args) : Calls Tryz.prog 119 #[.agg #[.int .u8 1, .int .u8 op, .int .i64 dst, xv, .int .u64 bits, .int .i64 ref]] w fun e w' => e = .returned (.bool (plainB ⟨1, op, dst, args, bits, ref⟩)) ∧ Below w.heap.size w w' := by
 obtain ⟨xa, xc, rfl, hxl⟩ := hA.form
 obtain ⟨R, hR⟩ : ∃ R, R = plainB ⟨1, op, dst, args, bits, ref⟩ := ⟨_, rfl⟩
 rw [← hR]
 unfold plainB at hR
 dsimp only at hR
 clear hA
 generalize args.length = n at *
 by_cases h_op : op = 0
 rotate_left
 ·have f1_op : ((op : Int) == 0) = false := beq_false_of_ne (by omega)
  have f2_op : ((op : Int) != 0) = true := bne_iff_ne.2 (by omega)
  have HR : Hid (R = false) := by show R = false; rw [hR]; simp [*]
  clear hR
  go_enter Tryz.func119, Tryz.ntmps119
  go_wp2
  go_ret
  exact ⟨ret_bool HR.out.symm, below_alloc (Below.refl _ _) _⟩
 subst h_op
 by_cases h_bits : bits = 0
 rotate_left
 ·have f1_bits : ((bits : Int) == 0) = false := beq_false_of_ne (by omega)
  have f2_bits : ((bits : Int) != 0) = true := bne_iff_ne.2 (by omega)
  have HR : Hid (R = false) := by show R = false; rw [hR]; simp [*]
  clear hR
  go_enter Tryz.func119, Tryz.ntmps119
  go_wp2
  go_ret
  exact ⟨ret_bool HR.out.symm, below_alloc (Below.refl _ _) _⟩
 subst h_bits
 by_cases h_ref : ref = 0
 rotate_left
 ·have f1_ref : ((ref : Int) == 0) = false := beq_false_of_ne (by omega)
  have f2_ref : ((ref : Int) != 0) = true := bne_iff_ne.2 (by omega)
  have HR : Hid (R = false) := by show R = false; rw [hR]; simp [*]
  clear hR
  go_enter Tryz.func119, Tryz.ntmps119
  go_wp2
  go_ret
  exact ⟨ret_bool HR.out.symm, below_alloc (Below.refl _ _) _⟩
 subst h_ref
 have HR : Hid (R = true) := by show R = true; rw [hR]; simp
 clear hR
 go_enter Tryz.func119, Tryz.ntmps119
 go_wp2
 go_ret
 exact ⟨ret_bool HR.out.symm, below_alloc (Below.refl _ _) _⟩
set_option maxRecDepth 100000 in
set_option maxHeartbeats 1000000 in
theorem plain_2 (op dst bits ref : Int) (args : List Int) (xv : Value) (w : World) (hA : IntsAt w xv args) : Calls Tryz.prog 119 #[.agg #[.int .u8 2, .int .u8 op, .int .i64 dst, xv, .int .u64 bits, .int .i64 ref]] w fun e w' => e = .returned (.bool (plainB ⟨2, op, dst, args, bits, ref⟩)) ∧ Below w.heap.size w w' := by
 obtain ⟨xa, xc, rfl, hxl⟩ := hA.form
 obtain ⟨R, hR⟩ : ∃ R, R = plainB ⟨2, op, dst, args, bits, ref⟩ := ⟨_, rfl⟩
 rw [← hR]
 unfold plainB at hR
 dsimp only at hR
 clear hA
 generalize args.length = n at *
 by_cases h_op : op = 0
 rotate_left
 ·have f1_op : ((op : Int) == 0) = false := beq_false_of_ne (by omega)
  have f2_op : ((op : Int) != 0) = true := bne_iff_ne.2 (by omega)
  have HR : Hid (R = false) := by show R = false; rw [hR]; simp [*]
  clear hR
  go_enter Tryz.func119, Tryz.ntmps119
  go_wp2
  go_ret
  exact ⟨ret_bool HR.out.symm, below_alloc (Below.refl _ _) _⟩
 subst h_op
 by_cases h_ref : ref = 0
 rotate_left
 ·have f1_ref : ((ref : Int) == 0) = false := beq_false_of_ne (by omega)
  have f2_ref : ((ref : Int) != 0) = true := bne_iff_ne.2 (by omega)
  have HR : Hid (R = false) := by show R = false; rw [hR]; simp [*]
  clear hR
  go_enter Tryz.func119, Tryz.ntmps119
  go_wp2
  go_ret
  exact ⟨ret_bool HR.out.symm, below_alloc (Below.refl _ _) _⟩
 subst h_ref
 by_cases h_n : n = 0
 rotate_left
 ·have f1_n : ((n : Int) == 0) = false := beq_false_of_ne (by omega)
  have f2_n : ((n : Int) != 0) = true := bne_iff_ne.2 (by omega)
  have HR : Hid (R = false) := by show R = false; rw [hR]; simp [*]
  clear hR
  go_enter Tryz.func119, Tryz.ntmps119
  go_wp2
  go_ret
  exact ⟨ret_bool HR.out.symm, below_alloc (Below.refl _ _) _⟩
 subst h_n
 have HR : Hid (R = true) := by show R = true; rw [hR]; simp
 clear hR
 go_enter Tryz.func119, Tryz.ntmps119
 go_wp2
 go_ret
 exact ⟨ret_bool HR.out.symm, below_alloc (Below.refl _ _) _⟩
set_option maxRecDepth 100000 in
set_option maxHeartbeats 1000000 in
theorem plain_3 (op dst bits ref : Int) (args : List Int) (xv : Value) (w : World) (hA : IntsAt w xv args) : Calls Tryz.prog 119 #[.agg #[.int .u8 3, .int .u8 op, .int .i64 dst, xv, .int .u64 bits, .int .i64 ref]] w fun e w' => e = .returned (.bool (plainB ⟨3, op, dst, args, bits, ref⟩)) ∧ Below w.heap.size w w' := by
 obtain ⟨xa, xc, rfl, hxl⟩ := hA.form
 obtain ⟨R, hR⟩ : ∃ R, R = plainB ⟨3, op, dst, args, bits, ref⟩ := ⟨_, rfl⟩
 rw [← hR]
 unfold plainB at hR
 dsimp only at hR
 clear hA
 generalize args.length = n at *
 by_cases h_op : op = 0
 rotate_left
 ·have f1_op : ((op : Int) == 0) = false := beq_false_of_ne (by omega)
  have f2_op : ((op : Int) != 0) = true := bne_iff_ne.2 (by omega)
  have HR : Hid (R = false) := by show R = false; rw [hR]; simp [*]
  clear hR
  go_enter Tryz.func119, Tryz.ntmps119
  go_wp2
  go_ret
  exact ⟨ret_bool HR.out.symm, below_alloc (Below.refl _ _) _⟩
 subst h_op
 by_cases h_bits : bits = 0
 rotate_left
 ·have f1_bits : ((bits : Int) == 0) = false := beq_false_of_ne (by omega)
  have f2_bits : ((bits : Int) != 0) = true := bne_iff_ne.2 (by omega)
  have HR : Hid (R = false) := by show R = false; rw [hR]; simp [*]
  clear hR
  go_enter Tryz.func119, Tryz.ntmps119
  go_wp2
  go_ret
  exact ⟨ret_bool HR.out.symm, below_alloc (Below.refl _ _) _⟩
 subst h_bits
 by_cases h_ref : ref = 0
 rotate_left
 ·have f1_ref : ((ref : Int) == 0) = false := beq_false_of_ne (by omega)
  have f2_ref : ((ref : Int) != 0) = true := bne_iff_ne.2 (by omega)
  have HR : Hid (R = false) := by show R = false; rw [hR]; simp [*]
  clear hR
  go_enter Tryz.func119, Tryz.ntmps119
  go_wp2
  go_ret
  exact ⟨ret_bool HR.out.symm, below_alloc (Below.refl _ _) _⟩
 subst h_ref
 have HR : Hid (R = true) := by show R = true; rw [hR]; simp
 clear hR
 go_enter Tryz.func119, Tryz.ntmps119
 go_wp2
 go_ret
 exact ⟨ret_bool HR.out.symm, below_alloc (Below.refl _ _) _⟩
set_option maxRecDepth 100000 in
set_option maxHeartbeats 1000000 in
theorem plain_4 (op dst bits ref : Int) (args : List Int) (xv : Value) (w : World) (hA : IntsAt w xv args) : Calls Tryz.prog 119 #[.agg #[.int .u8 4, .int .u8 op, .int .i64 dst, xv, .int .u64 bits, .int .i64 ref]] w fun e w' => e = .returned (.bool (plainB ⟨4, op, dst, args, bits, ref⟩)) ∧ Below w.heap.size w w' := by
 obtain ⟨xa, xc, rfl, hxl⟩ := hA.form
 obtain ⟨R, hR⟩ : ∃ R, R = plainB ⟨4, op, dst, args, bits, ref⟩ := ⟨_, rfl⟩
 rw [← hR]
 unfold plainB at hR
 dsimp only at hR
 clear hA
 generalize args.length = n at *
 by_cases h_bits : bits = 0
 rotate_left
 ·have f1_bits : ((bits : Int) == 0) = false := beq_false_of_ne (by omega)
  have f2_bits : ((bits : Int) != 0) = true := bne_iff_ne.2 (by omega)
  have HR : Hid (R = false) := by show R = false; rw [hR]; simp [*]
  clear hR
  go_enter Tryz.func119, Tryz.ntmps119
  go_wp2
  go_ret
  exact ⟨ret_bool HR.out.symm, below_alloc (Below.refl _ _) _⟩
 subst h_bits
 by_cases h_ref : ref = 0
 rotate_left
 ·have f1_ref : ((ref : Int) == 0) = false := beq_false_of_ne (by omega)
  have f2_ref : ((ref : Int) != 0) = true := bne_iff_ne.2 (by omega)
  have HR : Hid (R = false) := by show R = false; rw [hR]; simp [*]
  clear hR
  go_enter Tryz.func119, Tryz.ntmps119
  go_wp2
  go_ret
  exact ⟨ret_bool HR.out.symm, below_alloc (Below.refl _ _) _⟩
 subst h_ref
 have HR : Hid (R = true) := by show R = true; rw [hR]; simp
 clear hR
 go_enter Tryz.func119, Tryz.ntmps119
 go_wp2
 go_ret
 exact ⟨ret_bool HR.out.symm, below_alloc (Below.refl _ _) _⟩
set_option maxRecDepth 100000 in
set_option maxHeartbeats 1000000 in
theorem plain_5 (op dst bits ref : Int) (args : List Int) (xv : Value) (w : World) (hA : IntsAt w xv args) : Calls Tryz.prog 119 #[.agg #[.int .u8 5, .int .u8 op, .int .i64 dst, xv, .int .u64 bits, .int .i64 ref]] w fun e w' => e = .returned (.bool (plainB ⟨5, op, dst, args, bits, ref⟩)) ∧ Below w.heap.size w w' := by
 obtain ⟨xa, xc, rfl, hxl⟩ := hA.form
 obtain ⟨R, hR⟩ : ∃ R, R = plainB ⟨5, op, dst, args, bits, ref⟩ := ⟨_, rfl⟩
 rw [← hR]
 unfold plainB at hR
 dsimp only at hR
 clear hA
 generalize args.length = n at *
 by_cases h_op : op = 0
 rotate_left
 ·have f1_op : ((op : Int) == 0) = false := beq_false_of_ne (by omega)
  have f2_op : ((op : Int) != 0) = true := bne_iff_ne.2 (by omega)
  have HR : Hid (R = false) := by show R = false; rw [hR]; simp [*]
  clear hR
  go_enter Tryz.func119, Tryz.ntmps119
  go_wp2
  go_ret
  exact ⟨ret_bool HR.out.symm, below_alloc (Below.refl _ _) _⟩
 subst h_op
 by_cases h_bits : bits = 0
 rotate_left
 ·have f1_bits : ((bits : Int) == 0) = false := beq_false_of_ne (by omega)
  have f2_bits : ((bits : Int) != 0) = true := bne_iff_ne.2 (by omega)
  have HR : Hid (R = false) := by show R = false; rw [hR]; simp [*]
  clear hR
  go_enter Tryz.func119, Tryz.ntmps119
  go_wp2
  go_ret
  exact ⟨ret_bool HR.out.symm, below_alloc (Below.refl _ _) _⟩
 subst h_bits
 by_cases h_ref : ref = 0
 rotate_left
 ·have f1_ref : ((ref : Int) == 0) = false := beq_false_of_ne (by omega)
  have f2_ref : ((ref : Int) != 0) = true := bne_iff_ne.2 (by omega)
  have HR : Hid (R = false) := by show R = false; rw [hR]; simp [*]
  clear hR
  go_enter Tryz.func119, Tryz.ntmps119
  go_wp2
  go_ret
  exact ⟨ret_bool HR.out.symm, below_alloc (Below.refl _ _) _⟩
 subst h_ref
 have HR : Hid (R = true) := by show R = true; rw [hR]; simp
 clear hR
 go_enter Tryz.func119, Tryz.ntmps119
 go_wp2
 go_ret
 exact ⟨ret_bool HR.out.symm, below_alloc (Below.refl _ _) _⟩
set_option maxRecDepth 100000 in
set_option maxHeartbeats 1000000 in
theorem plain_6 (op dst bits ref : Int) (args : List Int) (xv : Value) (w : World) (hA : IntsAt w xv args) : Calls Tryz.prog 119 #[.agg #[.int .u8 6, .int .u8 op, .int .i64 dst, xv, .int .u64 bits, .int .i64 ref]] w fun e w' => e = .returned (.bool (plainB ⟨6, op, dst, args, bits, ref⟩)) ∧ Below w.heap.size w w' := by
 obtain ⟨xa, xc, rfl, hxl⟩ := hA.form
 obtain ⟨R, hR⟩ : ∃ R, R = plainB ⟨6, op, dst, args, bits, ref⟩ := ⟨_, rfl⟩
 rw [← hR]
 unfold plainB at hR
 dsimp only at hR
 clear hA
 generalize args.length = n at *
 by_cases h_op : op = 0
 rotate_left
 ·have f1_op : ((op : Int) == 0) = false := beq_false_of_ne (by omega)
  have f2_op : ((op : Int) != 0) = true := bne_iff_ne.2 (by omega)
  have HR : Hid (R = false) := by show R = false; rw [hR]; simp [*]
  clear hR
  go_enter Tryz.func119, Tryz.ntmps119
  go_wp2
  go_ret
  exact ⟨ret_bool HR.out.symm, below_alloc (Below.refl _ _) _⟩
 subst h_op
 by_cases h_bits : bits = 0
 rotate_left
 ·have f1_bits : ((bits : Int) == 0) = false := beq_false_of_ne (by omega)
  have f2_bits : ((bits : Int) != 0) = true := bne_iff_ne.2 (by omega)
  have HR : Hid (R = false) := by show R = false; rw [hR]; simp [*]
  clear hR
  go_enter Tryz.func119, Tryz.ntmps119
  go_wp2
  go_ret
  exact ⟨ret_bool HR.out.symm, below_alloc (Below.refl _ _) _⟩
 subst h_bits
 have HR : Hid (R = true) := by show R = true; rw [hR]; simp
 clear hR
 go_enter Tryz.func119, Tryz.ntmps119
 go_wp2
 go_ret
 exact ⟨ret_bool HR.out.symm, below_alloc (Below.refl _ _) _⟩
set_option maxRecDepth 100000 in
set_option maxHeartbeats 1000000 in
theorem plain_7 (op dst bits ref : Int) (args : List Int) (xv : Value) (w : World) (hA : IntsAt w xv args) : Calls Tryz.prog 119 #[.agg #[.int .u8 7, .int .u8 op, .int .i64 dst, xv, .int .u64 bits, .int .i64 ref]] w fun e w' => e = .returned (.bool (plainB ⟨7, op, dst, args, bits, ref⟩)) ∧ Below w.heap.size w w' := by
 obtain ⟨xa, xc, rfl, hxl⟩ := hA.form
 obtain ⟨R, hR⟩ : ∃ R, R = plainB ⟨7, op, dst, args, bits, ref⟩ := ⟨_, rfl⟩
 rw [← hR]
 unfold plainB at hR
 dsimp only at hR
 clear hA
 generalize args.length = n at *
 by_cases h_dst : dst = 0
 rotate_left
 ·have f1_dst : ((dst : Int) == 0) = false := beq_false_of_ne (by omega)
  have f2_dst : ((dst : Int) != 0) = true := bne_iff_ne.2 (by omega)
  have HR : Hid (R = false) := by show R = false; rw [hR]; simp [*]
  clear hR
  go_enter Tryz.func119, Tryz.ntmps119
  go_wp2
  go_ret
  exact ⟨ret_bool HR.out.symm, below_alloc (Below.refl _ _) _⟩
 subst h_dst
 by_cases h_op : op = 0
 rotate_left
 ·have f1_op : ((op : Int) == 0) = false := beq_false_of_ne (by omega)
  have f2_op : ((op : Int) != 0) = true := bne_iff_ne.2 (by omega)
  have HR : Hid (R = false) := by show R = false; rw [hR]; simp [*]
  clear hR
  go_enter Tryz.func119, Tryz.ntmps119
  go_wp2
  go_ret
  exact ⟨ret_bool HR.out.symm, below_alloc (Below.refl _ _) _⟩
 subst h_op
 by_cases h_bits : bits = 0
 rotate_left
 ·have f1_bits : ((bits : Int) == 0) = false := beq_false_of_ne (by omega)
  have f2_bits : ((bits : Int) != 0) = true := bne_iff_ne.2 (by omega)
  have HR : Hid (R = false) := by show R = false; rw [hR]; simp [*]
  clear hR
  go_enter Tryz.func119, Tryz.ntmps119
  go_wp2
  go_ret
  exact ⟨ret_bool HR.out.symm, below_alloc (Below.refl _ _) _⟩
 subst h_bits
 have HR : Hid (R = true) := by show R = true; rw [hR]; simp
 clear hR
 go_enter Tryz.func119, Tryz.ntmps119
 go_wp2
 go_ret
 exact ⟨ret_bool HR.out.symm, below_alloc (Below.refl _ _) _⟩
set_option maxRecDepth 100000 in
set_option maxHeartbeats 1000000 in
theorem plain_8 (op dst bits ref : Int) (args : List Int) (xv : Value) (w : World) (hA : IntsAt w xv args) : Calls Tryz.prog 119 #[.agg #[.int .u8 8, .int .u8 op, .int .i64 dst, xv, .int .u64 bits, .int .i64 ref]] w fun e w' => e = .returned (.bool (plainB ⟨8, op, dst, args, bits, ref⟩)) ∧ Below w.heap.size w w' := by
 obtain ⟨xa, xc, rfl, hxl⟩ := hA.form
 obtain ⟨R, hR⟩ : ∃ R, R = plainB ⟨8, op, dst, args, bits, ref⟩ := ⟨_, rfl⟩
 rw [← hR]
 unfold plainB at hR
 dsimp only at hR
 clear hA
 generalize args.length = n at *
 by_cases h_dst : dst = 0
 rotate_left
 ·have f1_dst : ((dst : Int) == 0) = false := beq_false_of_ne (by omega)
  have f2_dst : ((dst : Int) != 0) = true := bne_iff_ne.2 (by omega)
  have HR : Hid (R = false) := by show R = false; rw [hR]; simp [*]
  clear hR
  go_enter Tryz.func119, Tryz.ntmps119
  go_wp2
  go_ret
  exact ⟨ret_bool HR.out.symm, below_alloc (Below.refl _ _) _⟩
 subst h_dst
 by_cases h_op : op = 0
 rotate_left
 ·have f1_op : ((op : Int) == 0) = false := beq_false_of_ne (by omega)
  have f2_op : ((op : Int) != 0) = true := bne_iff_ne.2 (by omega)
  have HR : Hid (R = false) := by show R = false; rw [hR]; simp [*]
  clear hR
  go_enter Tryz.func119, Tryz.ntmps119
  go_wp2
  go_ret
  exact ⟨ret_bool HR.out.symm, below_alloc (Below.refl _ _) _⟩
 subst h_op
 by_cases h_bits : bits = 0
 rotate_left
 ·have f1_bits : ((bits : Int) == 0) = false := beq_false_of_ne (by omega)
  have f2_bits : ((bits : Int) != 0) = true := bne_iff_ne.2 (by omega)
  have HR : Hid (R = false) := by show R = false; rw [hR]; simp [*]
  clear hR
  go_enter Tryz.func119, Tryz.ntmps119
  go_wp2
  go_ret
  exact ⟨ret_bool HR.out.symm, below_alloc (Below.refl _ _) _⟩
 subst h_bits
 by_cases h_n : n = 0
 rotate_left
 ·have f1_n : ((n : Int) == 0) = false := beq_false_of_ne (by omega)
  have f2_n : ((n : Int) != 0) = true := bne_iff_ne.2 (by omega)
  have HR : Hid (R = false) := by show R = false; rw [hR]; simp [*]
  clear hR
  go_enter Tryz.func119, Tryz.ntmps119
  go_wp2
  go_ret
  exact ⟨ret_bool HR.out.symm, below_alloc (Below.refl _ _) _⟩
 subst h_n
 have HR : Hid (R = true) := by show R = true; rw [hR]; simp
 clear hR
 go_enter Tryz.func119, Tryz.ntmps119
 go_wp2
 go_ret
 exact ⟨ret_bool HR.out.symm, below_alloc (Below.refl _ _) _⟩
set_option maxRecDepth 100000 in
set_option maxHeartbeats 1000000 in
theorem plain_9 (op dst bits ref : Int) (args : List Int) (xv : Value) (w : World) (hA : IntsAt w xv args) : Calls Tryz.prog 119 #[.agg #[.int .u8 9, .int .u8 op, .int .i64 dst, xv, .int .u64 bits, .int .i64 ref]] w fun e w' => e = .returned (.bool (plainB ⟨9, op, dst, args, bits, ref⟩)) ∧ Below w.heap.size w w' := by
 obtain ⟨xa, xc, rfl, hxl⟩ := hA.form
 obtain ⟨R, hR⟩ : ∃ R, R = plainB ⟨9, op, dst, args, bits, ref⟩ := ⟨_, rfl⟩
 rw [← hR]
 unfold plainB at hR
 dsimp only at hR
 clear hA
 generalize args.length = n at *
 by_cases h_op : op = 0
 rotate_left
 ·have f1_op : ((op : Int) == 0) = false := beq_false_of_ne (by omega)
  have f2_op : ((op : Int) != 0) = true := bne_iff_ne.2 (by omega)
  have HR : Hid (R = false) := by show R = false; rw [hR]; simp [*]
  clear hR
  go_enter Tryz.func119, Tryz.ntmps119
  go_wp2
  go_ret
  exact ⟨ret_bool HR.out.symm, below_alloc (Below.refl _ _) _⟩
 subst h_op
 by_cases h_bits : bits = 0
 rotate_left
 ·have f1_bits : ((bits : Int) == 0) = false := beq_false_of_ne (by omega)
  have f2_bits : ((bits : Int) != 0) = true := bne_iff_ne.2 (by omega)
  have HR : Hid (R = false) := by show R = false; rw [hR]; simp [*]
  clear hR
  go_enter Tryz.func119, Tryz.ntmps119
  go_wp2
  go_ret
  exact ⟨ret_bool HR.out.symm, below_alloc (Below.refl _ _) _⟩
 subst h_bits
 have HR : Hid (R = true) := by show R = true; rw [hR]; simp
 clear hR
 go_enter Tryz.func119, Tryz.ntmps119
 go_wp2
 go_ret
 exact ⟨ret_bool HR.out.symm, below_alloc (Below.refl _ _) _⟩
set_option maxRecDepth 100000 in
set_option maxHeartbeats 1000000 in
theorem plain_10 (op dst bits ref : Int) (args : List Int) (xv : Value) (w : World) (hA : IntsAt w xv args) : Calls Tryz.prog 119 #[.agg #[.int .u8 10, .int .u8 op, .int .i64 dst, xv, .int .u64 bits, .int .i64 ref]] w fun e w' => e = .returned (.bool (plainB ⟨10, op, dst, args, bits, ref⟩)) ∧ Below w.heap.size w w' := by
 obtain ⟨xa, xc, rfl, hxl⟩ := hA.form
 obtain ⟨R, hR⟩ : ∃ R, R = plainB ⟨10, op, dst, args, bits, ref⟩ := ⟨_, rfl⟩
 rw [← hR]
 unfold plainB at hR
 dsimp only at hR
 clear hA
 generalize args.length = n at *
 by_cases h_dst : dst = 0
 rotate_left
 ·have f1_dst : ((dst : Int) == 0) = false := beq_false_of_ne (by omega)
  have f2_dst : ((dst : Int) != 0) = true := bne_iff_ne.2 (by omega)
  have HR : Hid (R = false) := by show R = false; rw [hR]; simp [*]
  clear hR
  go_enter Tryz.func119, Tryz.ntmps119
  go_wp2
  go_ret
  exact ⟨ret_bool HR.out.symm, below_alloc (Below.refl _ _) _⟩
 subst h_dst
 by_cases h_op : op = 0
 rotate_left
 ·have f1_op : ((op : Int) == 0) = false := beq_false_of_ne (by omega)
  have f2_op : ((op : Int) != 0) = true := bne_iff_ne.2 (by omega)
  have HR : Hid (R = false) := by show R = false; rw [hR]; simp [*]
  clear hR
  go_enter Tryz.func119, Tryz.ntmps119
  go_wp2
  go_ret
  exact ⟨ret_bool HR.out.symm, below_alloc (Below.refl _ _) _⟩
 subst h_op
 by_cases h_bits : bits = 0
 rotate_left
 ·have f1_bits : ((bits : Int) == 0) = false := beq_false_of_ne (by omega)
  have f2_bits : ((bits : Int) != 0) = true := bne_iff_ne.2 (by omega)
  have HR : Hid (R = false) := by show R = false; rw [hR]; simp [*]
  clear hR
  go_enter Tryz.func119, Tryz.ntmps119
  go_wp2
  go_ret
  exact ⟨ret_bool HR.out.symm, below_alloc (Below.refl _ _) _⟩
 subst h_bits
 by_cases h_ref : ref = 0
 rotate_left
 ·have f1_ref : ((ref : Int) == 0) = false := beq_false_of_ne (by omega)
  have f2_ref : ((ref : Int) != 0) = true := bne_iff_ne.2 (by omega)
  have HR : Hid (R = false) := by show R = false; rw [hR]; simp [*]
  clear hR
  go_enter Tryz.func119, Tryz.ntmps119
  go_wp2
  go_ret
  exact ⟨ret_bool HR.out.symm, below_alloc (Below.refl _ _) _⟩
 subst h_ref
 have HR : Hid (R = true) := by show R = true; rw [hR]; simp
 clear hR
 go_enter Tryz.func119, Tryz.ntmps119
 go_wp2
 go_ret
 exact ⟨ret_bool HR.out.symm, below_alloc (Below.refl _ _) _⟩
theorem rplain_any (x : In) (xv : Value) (w : World) (hA : IntsAt w xv x.args) (h1 : 1 ≤ x.kind) (h2 : x.kind ≤ 10) : Calls Tryz.prog 119 #[inV x xv] w fun e w' => e = .returned (.bool (plainB x)) ∧ Below w.heap.size w w' := by
 obtain ⟨k, op, dst, args, bits, ref⟩ := x
 dsimp only at h1 h2 hA
 have hk : k = 1 ∨ k = 2 ∨ k = 3 ∨ k = 4 ∨ k = 5 ∨ k = 6 ∨ k = 7 ∨ k = 8 ∨ k = 9 ∨ k = 10 := by omega
 rcases hk with rfl | rfl | rfl | rfl | rfl | rfl | rfl | rfl | rfl | rfl
 ·exact plain_1 op dst bits ref args xv w hA
 ·exact plain_2 op dst bits ref args xv w hA
 ·exact plain_3 op dst bits ref args xv w hA
 ·exact plain_4 op dst bits ref args xv w hA
 ·exact plain_5 op dst bits ref args xv w hA
 ·exact plain_6 op dst bits ref args xv w hA
 ·exact plain_7 op dst bits ref args xv w hA
 ·exact plain_8 op dst bits ref args xv w hA
 ·exact plain_9 op dst bits ref args xv w hA
 ·exact plain_10 op dst bits ref args xv w hA
end Go.Proofs.YtajaijilfclhpaaGreatDoor
