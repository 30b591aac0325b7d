/- An instruction is done: the walks of constants, copies, operations, loads, stores. -/
import Derived.Test.YtdgpdmohfnealaaGreatDoorUOrdM
import Derived.WalkKit
import Derived.WalkSpells
import Derived.WalkLawsBesides
import Derived.OpenShut
import Derived.Test.YtdgpdmohfnealaaGreatDoorProg
namespace Go.Proofs.YtdgpdmohfnealaaGreatDoor
open Go.RowKit

/-- An instruction that lies there. -/
structure InAt (w : World) (g o : Nat) (av : Value) (x : In) : Prop where
  lt : g < w.heap.size
  c0 : w.cell? ⟨g, o, none⟩ = some (.int .u8 x.kind)
  c1 : w.cell? ⟨g, o + 1, none⟩ = some (.int .u8 x.op)
  c2 : w.cell? ⟨g, o + 2, none⟩ = some (.int .i64 x.dst)
  c3 : w.cell? ⟨g, o + 3, none⟩ = some av
  c4 : w.cell? ⟨g, o + 4, none⟩ = some (.int .u64 x.bits)
  c5 : w.cell? ⟨g, o + 5, none⟩ = some (.int .i64 x.ref)
  args : IntsAt w av x.args
theorem InAt.below {w w' : World} {g o : Nat} {av : Value} {x : In} (h : InAt w g o av x) (hb : Below w.heap.size w w') : InAt w' g o av x := by
  have hc : ∀ j, w'.cell? ⟨g, j, none⟩ = w.cell? ⟨g, j, none⟩ := fun j => hb.cell (p := ⟨g, j, none⟩) h.lt
  exact ⟨Nat.lt_of_lt_of_le h.lt hb.size, (hc _).trans h.c0, (hc _).trans h.c1, (hc _).trans h.c2, (hc _).trans h.c3, (hc _).trans h.c4, (hc _).trans h.c5, h.args.below hb⟩
set_option maxRecDepth 100000 in
set_option maxHeartbeats 1000000 in
theorem do_const_walk {B g o : Nat} {d : Nat} {b : Int} {w : World} {Q : World → Prop} (c0 : w.cell? ⟨g, o, none⟩ = some (.int .u8 2)) (c2 : w.cell? ⟨g, o + 2, none⟩ = some (.int .i64 (d : Int))) (c4 : w.cell? ⟨g, o + 4, none⟩ = some (.int .u64 b))
    (HT : Hid (∀ W k, W = w.drewN k → Calls Tryz.prog 31 #[ptr B, .int .i64 (d : Int), .int .u64 b] W fun e w' => e = .returned (.tuple #[]) ∧ Q w')) :
    Calls Tryz.prog 18 #[ptr B, .pointer (some ⟨g, o, none⟩)] w fun e w' => e = .returned (.tuple #[]) ∧ Q w' := by
  go_enter Tryz.func18, Tryz.ntmps18
  go_wp2
  refine wp_region_last 9 _ rfl rfl (by kernel_rfl) (by kernel_rfl) (by kernel_rfl) (by kernel_rfl) (by kernel_rfl) (by kernel_rfl) ?_
  simp only [List.take_succ_cons, List.take_zero]
  repeat (go_big_quiet_step (fail))
  refine wpQuiet_nil ?_
  intro _ hw'
  obtain ⟨nq, hw''⟩ := hw'
  subst hw''
  intro K hK
  go_simp
  refine Calls.mono (HT.out _ _ rfl) ?_
  rintro e w1 ⟨rfl, hq⟩
  refine hK _ _ ?_
  clear hK K
  go_wp2
  go_end0
  exact ⟨rfl, hq⟩
set_option maxRecDepth 100000 in
set_option maxHeartbeats 1000000 in
theorem do_copy_walk {B g o : Nat} {d ag ao n c v : Nat} {b : Int} {w : World} {Q : World → Prop} (c0 : w.cell? ⟨g, o, none⟩ = some (.int .u8 3)) (c2 : w.cell? ⟨g, o + 2, none⟩ = some (.int .i64 (d : Int))) (c3 : w.cell? ⟨g, o + 3, none⟩ = some (.slice (some ⟨ag, ao, none⟩) n c)) (hn : (0 : Int) < (n : Int)) (ca : w.cell? ⟨ag, ao, none⟩ = some (.int .i64 (v : Int)))
    (HG : Hid (∀ W k, W = w.drewN k → Calls Tryz.prog 33 #[ptr B, .int .i64 (v : Int)] W fun e w' => e = .returned (.int .u64 b) ∧ ∃ k, w' = W.drewN k))
    (HT : Hid (∀ W k, W = w.drewN k → Calls Tryz.prog 31 #[ptr B, .int .i64 (d : Int), .int .u64 b] W fun e w' => e = .returned (.tuple #[]) ∧ Q w')) :
    Calls Tryz.prog 18 #[ptr B, .pointer (some ⟨g, o, none⟩)] w fun e w' => e = .returned (.tuple #[]) ∧ Q w' := by
  go_enter Tryz.func18, Tryz.ntmps18
  go_wp2
  refine wp_region_last 13 _ rfl rfl (by kernel_rfl) (by kernel_rfl) (by kernel_rfl) (by kernel_rfl) (by kernel_rfl) (by kernel_rfl) ?_
  simp only [List.take_succ_cons, List.take_zero]
  repeat (go_big_quiet_step ((go_at_call 33; exact Calls.quiet_of (HG.out _ _ rfl))))
  refine wpQuiet_nil ?_
  intro _ hw'
  obtain ⟨nq, hw''⟩ := hw'
  subst hw''
  intro K hK
  go_simp
  refine Calls.mono (HT.out _ _ rfl) ?_
  rintro e w1 ⟨rfl, hq⟩
  refine hK _ _ ?_
  clear hK K
  go_wp2
  go_end0
  exact ⟨rfl, hq⟩
set_option maxRecDepth 100000 in
set_option maxHeartbeats 1000000 in
theorem do_op_walk {B g o : Nat} {d : Nat} {b : Int} {w : World} {Q : World → Prop} (c0 : w.cell? ⟨g, o, none⟩ = some (.int .u8 4)) (c2 : w.cell? ⟨g, o + 2, none⟩ = some (.int .i64 (d : Int)))
    (HR : Hid (∀ W k, W = w.drewN k → Calls Tryz.prog 34 #[ptr B, .pointer (some ⟨g, o, none⟩)] W fun e w' => e = .returned (.int .u64 b) ∧ ∃ k, w' = W.drewN k))
    (HT : Hid (∀ W k, W = w.drewN k → Calls Tryz.prog 31 #[ptr B, .int .i64 (d : Int), .int .u64 b] W fun e w' => e = .returned (.tuple #[]) ∧ Q w')) :
    Calls Tryz.prog 18 #[ptr B, .pointer (some ⟨g, o, none⟩)] w fun e w' => e = .returned (.tuple #[]) ∧ Q w' := by
  go_enter Tryz.func18, Tryz.ntmps18
  go_wp2
  refine wp_region_last 8 _ rfl rfl (by kernel_rfl) (by kernel_rfl) (by kernel_rfl) (by kernel_rfl) (by kernel_rfl) (by kernel_rfl) ?_
  simp only [List.take_succ_cons, List.take_zero]
  repeat (go_big_quiet_step ((go_at_call 34; exact Calls.quiet_of (HR.out _ _ rfl))))
  refine wpQuiet_nil ?_
  intro _ hw'
  obtain ⟨nq, hw''⟩ := hw'
  subst hw''
  intro K hK
  go_simp
  refine Calls.mono (HT.out _ _ rfl) ?_
  rintro e w1 ⟨rfl, hq⟩
  refine hK _ _ ?_
  clear hK K
  go_wp2
  go_end0
  exact ⟨rfl, hq⟩
set_option maxRecDepth 100000 in
set_option maxHeartbeats 1000000 in
theorem do_load_walk {B g o : Nat} {d r ag ao n c v : Nat} {b i : Int} {w : World} {Q : World → Prop} (c0 : w.cell? ⟨g, o, none⟩ = some (.int .u8 6)) (c2 : w.cell? ⟨g, o + 2, none⟩ = some (.int .i64 (d : Int))) (c5 : w.cell? ⟨g, o + 5, none⟩ = some (.int .i64 (r : Int))) (c3 : w.cell? ⟨g, o + 3, none⟩ = some (.slice (some ⟨ag, ao, none⟩) n c)) (hn : (0 : Int) < (n : Int)) (ca : w.cell? ⟨ag, ao, none⟩ = some (.int .i64 (v : Int)))
    (HG : Hid (∀ W k, W = w.drewN k → Calls Tryz.prog 33 #[ptr B, .int .i64 (v : Int)] W fun e w' => e = .returned (.int .u64 i) ∧ ∃ k, w' = W.drewN k))
    (HE : Hid (∀ W k, W = w.drewN k → Calls Tryz.prog 37 #[ptr B, .int .i64 (r : Int), .int .u64 i] W fun e w' => e = .returned (.int .u64 b) ∧ ∃ k, w' = W.drewN k))
    (HT : Hid (∀ W k, W = w.drewN k → Calls Tryz.prog 31 #[ptr B, .int .i64 (d : Int), .int .u64 b] W fun e w' => e = .returned (.tuple #[]) ∧ Q w')) :
    Calls Tryz.prog 18 #[ptr B, .pointer (some ⟨g, o, none⟩)] w fun e w' => e = .returned (.tuple #[]) ∧ Q w' := by
  go_enter Tryz.func18, Tryz.ntmps18
  go_wp2
  refine wp_region_last 19 _ rfl rfl (by kernel_rfl) (by kernel_rfl) (by kernel_rfl) (by kernel_rfl) (by kernel_rfl) (by kernel_rfl) ?_
  simp only [List.take_succ_cons, List.take_zero]
  repeat (go_big_quiet_step (first | (go_at_call 33; exact Calls.quiet_of (HG.out _ _ rfl)) | (go_at_call 37; exact Calls.quiet_of (HE.out _ _ rfl))))
  refine wpQuiet_nil ?_
  intro _ hw'
  obtain ⟨nq, hw''⟩ := hw'
  subst hw''
  intro K hK
  go_simp
  refine Calls.mono (HT.out _ _ rfl) ?_
  rintro e w1 ⟨rfl, hq⟩
  refine hK _ _ ?_
  clear hK K
  go_wp2
  go_end0
  exact ⟨rfl, hq⟩
set_option maxRecDepth 100000 in
set_option maxHeartbeats 1000000 in
theorem do_store_walk {B g o : Nat} {r ag ao n c v u : Nat} {i y : Int} {w : World} {Q : World → Prop} (c0 : w.cell? ⟨g, o, none⟩ = some (.int .u8 7)) (c5 : w.cell? ⟨g, o + 5, none⟩ = some (.int .i64 (r : Int))) (c3 : w.cell? ⟨g, o + 3, none⟩ = some (.slice (some ⟨ag, ao, none⟩) n c)) (hn : (1 : Int) < (n : Int)) (ca : w.cell? ⟨ag, ao, none⟩ = some (.int .i64 (v : Int))) (cb : w.cell? ⟨ag, ao + 1, none⟩ = some (.int .i64 (u : Int)))
    (HG : Hid (∀ W k, W = w.drewN k → Calls Tryz.prog 33 #[ptr B, .int .i64 (v : Int)] W fun e w' => e = .returned (.int .u64 i) ∧ ∃ k, w' = W.drewN k))
    (HU : Hid (∀ W k, W = w.drewN k → Calls Tryz.prog 33 #[ptr B, .int .i64 (u : Int)] W fun e w' => e = .returned (.int .u64 y) ∧ ∃ k, w' = W.drewN k))
    (HT : Hid (∀ W k, W = w.drewN k → Calls Tryz.prog 38 #[ptr B, .int .i64 (r : Int), .int .u64 i, .int .u64 y] W fun e w' => e = .returned (.tuple #[]) ∧ Q w')) :
    Calls Tryz.prog 18 #[ptr B, .pointer (some ⟨g, o, none⟩)] w fun e w' => e = .returned (.tuple #[]) ∧ Q w' := by
  go_enter Tryz.func18, Tryz.ntmps18
  go_wp2
  refine wp_region_last 21 _ rfl rfl (by kernel_rfl) (by kernel_rfl) (by kernel_rfl) (by kernel_rfl) (by kernel_rfl) (by kernel_rfl) ?_
  simp only [List.take_succ_cons, List.take_zero]
  repeat (go_big_quiet_step (first | (go_at_call_of 33 (Value.int .i64 (v : Int)); exact Calls.quiet_of (HG.out _ _ rfl)) | (go_at_call_of 33 (Value.int .i64 (u : Int)); exact Calls.quiet_of (HU.out _ _ rfl))))
  refine wpQuiet_nil ?_
  intro _ hw'
  obtain ⟨nq, hw''⟩ := hw'
  subst hw''
  intro K hK
  go_simp
  refine Calls.mono (HT.out _ _ rfl) ?_
  rintro e w1 ⟨rfl, hq⟩
  refine hK _ _ ?_
  clear hK K
  go_wp2
  go_end0
  exact ⟨rfl, hq⟩
end Go.Proofs.YtdgpdmohfnealaaGreatDoor
/- The plain functions on numbers that the contracts of package scalar and of the document's answer are stated with: no program in sight. -/
namespace Go.Proofs.YtdgpdmohfnealaaGreatDoor.Sc
open Go.RowKit

def wholeB (t : Int) : Bool := t == 2 || t == 3 || t == 4
def numberB (t : Int) : Bool := t == 5 || wholeB t
def typedB (t : Int) : Bool := t == 1 || numberB t
def nanI (a : Int) : Bool := FloatKind.f64.format.order a.toNat a.toNat != some .eq
def cutI (t a : Int) : Int :=
  if t = 1 then a % 2 else if t = 2 then a % 256 else if t = 3 then IntKind.u64.wrap (wrap32 a)
  else if t = 5 then (if nanI a = true then 9221120237041090560 else a) else if t = 4 then a else 0
def rightB (t a : Int) : Bool := typedB t && (cutI t a == a)
def word (a : Int) : Prop := 0 ≤ a ∧ a < 18446744073709551616
def truthI (x : Bool) : Int := if x then 1 else 0
def oneB (o : Int) : Bool := o == 17 || o == 18
def ofT (o t : Int) : Int :=
  if o = 11 ∨ o = 12 then (if typedB t then 1 else 0)
  else if o = 13 ∨ o = 14 ∨ o = 15 ∨ o = 16 then (if numberB t then 1 else 0)
  else if o = 1 ∨ o = 2 ∨ o = 3 ∨ o = 4 ∨ o = 17 then (if numberB t then t else 0)
  else if o = 6 ∨ o = 7 ∨ o = 8 ∨ o = 18 then (if t = 1 ∨ wholeB t = true then t else 0)
  else if o = 5 ∨ o = 9 ∨ o = 10 then (if wholeB t then t else 0) else 0
def ofB (o t : Int) : Bool :=
  if o = 11 ∨ o = 12 then typedB t
  else if o = 13 ∨ o = 14 ∨ o = 15 ∨ o = 16 then numberB t
  else if o = 1 ∨ o = 2 ∨ o = 3 ∨ o = 4 ∨ o = 17 then numberB t
  else if o = 6 ∨ o = 7 ∨ o = 8 ∨ o = 18 then t == 1 || wholeB t
  else if o = 5 ∨ o = 9 ∨ o = 10 then wholeB t else false
def placesI (t b : Int) : Int := if t = 2 then b % 8 else if t = 3 then b % 32 else b % 64
def divI (o t n m : Int) : Int :=
  if m = 0 then 0 else if o = 5 then cutI t (IntKind.u64.wrap (n.tmod m)) else cutI t (IntKind.u64.wrap (wrap64 (n.tdiv m)))
def cmpB (o n m : Int) : Bool :=
  if o = 11 then n == m else if o = 12 then n != m else if o = 13 then decide (n < m) else if o = 14 then decide (n ≤ m)
  else if o = 15 then decide (m < n) else if o = 16 then decide (m ≤ n) else false
def bitsI (o t a b : Int) : Int :=
  if o = 1 then cutI t (IntKind.u64.wrap (a + b)) else if o = 2 then cutI t (IntKind.u64.wrap (a - b)) else if o = 3 then cutI t (IntKind.u64.wrap (a * b))
  else if o = 4 ∨ o = 5 then divI o t (wrap64 a) (wrap64 b) else if o = 6 then bits .and .u64 a b else if o = 7 then bits .or .u64 a b else if o = 8 then bits .xor .u64 a b
  else if o = 9 then cutI t (IntKind.u64.wrap (a * 2 ^ (placesI t b).toNat)) else if o = 10 then IntKind.u64.wrap (wrap64 a / 2 ^ (placesI t b).toNat)
  else truthI (cmpB o (wrap64 a) (wrap64 b))
def stopsB (o t b : Int) : Bool := (o == 4 || o == 5) && wholeB t && b == 0

theorem word_of_wf {a : Int} (h : (Lit.int .u64 a).wf = true) : word a := by
  have := bounds_u64 h
  unfold word; omega

theorem ret_u64 {a b : Int} (h : a = b) : Ending.returned (.int .u64 a) = .returned (.int .u64 b) := by rw [h]
theorem ret_bool {a b : Bool} (h : a = b) : Ending.returned (.bool a) = .returned (.bool b) := by rw [h]
theorem ret_pair {k : IntKind} {a b : Int} {x y : Bool} (h : a = b) (g : x = y) : Ending.returned (.tuple #[.int k a, .bool x]) = .returned (.tuple #[.int k b, .bool y]) := by rw [h, g]

theorem and_one (a : Int) (h : word a) : bits .and .u64 a 1 = a % 2 := by
  obtain ⟨h0, h1⟩ := h
  exact and_one_u64 a h0 (by omega)
theorem and_seven (a : Int) (h : word a) : bits .and .u64 a 7 = a % 8 := by
  obtain ⟨h0, h1⟩ := h
  rw [u64_and a 7 h0 h1 (by omega) (by omega)]
  show ((a.toNat &&& 7 : Nat) : Int) = _
  rw [nat_mask3]; omega
theorem and_31 (a : Int) (h : word a) : bits .and .u64 a 31 = a % 32 := by
  obtain ⟨h0, h1⟩ := h
  rw [u64_and a 31 h0 h1 (by omega) (by omega)]
  show ((a.toNat &&& 31 : Nat) : Int) = _
  rw [nat_mask5]; omega
theorem and_63 (a : Int) (h : word a) : bits .and .u64 a 63 = a % 64 := by
  obtain ⟨h0, h1⟩ := h
  rw [u64_and a 63 h0 h1 (by omega) (by omega)]
  show ((a.toNat &&& 63 : Nat) : Int) = _
  rw [nat_mask6]; omega
theorem placesI_bd (t b : Int) : 0 ≤ placesI t b ∧ placesI t b ≤ 63 := by
  unfold placesI; split <;> (try split) <;> omega
end Go.Proofs.YtdgpdmohfnealaaGreatDoor.Sc
/- Contracts of the small functions of package scalar: what each returns, the world as it was. -/
namespace Go.Proofs.YtdgpdmohfnealaaGreatDoor.Sc
open Go.RowKit

theorem run_frombits (a : Int) (w : World) : (callFunc 49 #[.int .u64 a]).run Tryz.prog w = .ok (.value (.float .f64 a.toNat)) w := by kernel_rfl
theorem run_bits (x : Nat) (w : World) : (callFunc 75 #[.float .f64 x]).run Tryz.prog w = .ok (.value (.int .u64 x)) w := by kernel_rfl

set_option maxHeartbeats 400000 in
theorem cut_any (t a : Int) (w : World) (ha : Hid (word a)) :
    Calls Tryz.prog 28 #[.int .u8 t, .int .u64 a] w fun e w' => e = .returned (.int .u64 (cutI t a)) ∧ w' = w := by
  have f1 := run_frombits
  by_cases h1 : t = 1
  · subst h1
    go_enter Tryz.func28, Tryz.ntmps28
    go_wp2
    go_ret
    exact ⟨ret_u64 (and_one a ha.out), rfl⟩
  by_cases h2 : t = 2
  · subst h2
    go_enter Tryz.func28, Tryz.ntmps28
    go_wp2
    go_ret
    exact ⟨rfl, rfl⟩
  by_cases h3 : t = 3
  · subst h3
    go_enter Tryz.func28, Tryz.ntmps28
    go_wp2
    go_ret
    exact ⟨rfl, rfl⟩
  by_cases h4 : t = 4
  · subst h4
    go_enter Tryz.func28, Tryz.ntmps28
    go_wp2
    go_ret
    exact ⟨rfl, rfl⟩
  by_cases h5 : t = 5
  · subst h5
    by_cases hn : (FloatKind.f64.format.order a.toNat a.toNat != some .eq) = true
    · go_enter Tryz.func28, Tryz.ntmps28
      go_wp2
      go_ret
      exact ⟨ret_u64 (by simp [cutI, nanI, hn]), rfl⟩
    · have hn' : (FloatKind.f64.format.order a.toNat a.toNat != some .eq) = false := by simpa using hn
      go_enter Tryz.func28, Tryz.ntmps28
      go_wp2
      go_ret
      exact ⟨ret_u64 (by simp [cutI, nanI, hn']), rfl⟩
  · go_enter Tryz.func28, Tryz.ntmps28
    go_wp2
    go_ret
    exact ⟨ret_u64 (by simp [cutI, h1, h2, h3, h4, h5]), rfl⟩

set_option maxHeartbeats 400000 in
theorem whole_any (t : Int) (w : World) : Calls Tryz.prog 66 #[.int .u8 t] w fun e w' => e = .returned (.bool (wholeB t)) ∧ w' = w := by
  go_enter Tryz.func66, Tryz.ntmps66
  go_wp2
  all_goals go_ret
  all_goals exact ⟨ret_bool (by simp_all [wholeB]), rfl⟩

set_option maxHeartbeats 400000 in
theorem number_any (t : Int) (w : World) : Calls Tryz.prog 47 #[.int .u8 t] w fun e w' => e = .returned (.bool (numberB t)) ∧ w' = w := by
  by_cases h : t = 5
  · subst h
    go_enter Tryz.func47, Tryz.ntmps47
    go_wp2
    go_ret
    exact ⟨rfl, rfl⟩
  · have h' : (t == 5) = false := by simpa using h
    go_enter Tryz.func47, Tryz.ntmps47
    go_wp2_with (go_at_call 66; refine (whole_any _ _).mono ?_; rintro e w' ⟨rfl, rfl⟩)
    go_ret
    exact ⟨ret_bool (by simp [numberB, h']), rfl⟩

set_option maxHeartbeats 400000 in
theorem typed_any (t : Int) (w : World) : Calls Tryz.prog 27 #[.int .u8 t] w fun e w' => e = .returned (.bool (typedB t)) ∧ w' = w := by
  by_cases h : t = 1
  · subst h
    go_enter Tryz.func27, Tryz.ntmps27
    go_wp2
    go_ret
    exact ⟨rfl, rfl⟩
  · have h' : (t == 1) = false := by simpa using h
    go_enter Tryz.func27, Tryz.ntmps27
    go_wp2_with (go_at_call 47; refine (number_any _ _).mono ?_; rintro e w' ⟨rfl, rfl⟩)
    go_ret
    exact ⟨ret_bool (by simp [typedB, h']), rfl⟩

set_option maxHeartbeats 400000 in
theorem right_any (t a : Int) (w : World) (ha : Hid (word a)) :
    Calls Tryz.prog 15 #[.int .u8 t, .int .u64 a] w fun e w' => e = .returned (.bool (rightB t a)) ∧ w' = w := by
  by_cases h : typedB t = true
  · go_enter Tryz.func15, Tryz.ntmps15
    go_wp2_with (first | (go_at_call 27; refine (typed_any _ _).mono ?_; rintro e w' ⟨rfl, rfl⟩) | (go_at_call 28; refine (cut_any _ _ _ ha).mono ?_; rintro e w' ⟨rfl, rfl⟩))
    go_ret
    exact ⟨ret_bool (by simp [rightB, h]), rfl⟩
  · have h' : typedB t = false := by simpa using h
    go_enter Tryz.func15, Tryz.ntmps15
    go_wp2_with (first | (go_at_call 27; refine (typed_any _ _).mono ?_; rintro e w' ⟨rfl, rfl⟩))
    go_ret
    exact ⟨ret_bool (by simp [rightB, h']), rfl⟩

set_option maxHeartbeats 1000000 in
theorem of_any (o t : Int) (w : World) :
    Calls Tryz.prog 70 #[.int .u8 o, .int .u8 t] w fun e w' => e = .returned (.tuple #[.int .u8 (ofT o t), .bool (ofB o t)]) ∧ w' = w := by
  go_enter Tryz.func70, Tryz.ntmps70
  go_wp2_with (first | (go_at_call 47; refine (number_any _ _).mono ?_; rintro e w' ⟨rfl, rfl⟩) | (go_at_call 66; refine (whole_any _ _).mono ?_; rintro e w' ⟨rfl, rfl⟩))
  all_goals go_ret2
  all_goals exact ⟨ret_pair (by simp_all [ofT, typedB]) (by simp_all [ofB, typedB]), rfl⟩

set_option maxHeartbeats 400000 in
theorem ofOne_any (o : Int) (w : World) : Calls Tryz.prog 71 #[.int .u8 o] w fun e w' => e = .returned (.bool (oneB o)) ∧ w' = w := by
  by_cases h : o = 17
  · subst h
    go_enter Tryz.func71, Tryz.ntmps71
    go_wp2
    go_ret
    exact ⟨rfl, rfl⟩
  · have h' : (o == 17) = false := by simpa using h
    go_enter Tryz.func71, Tryz.ntmps71
    go_wp2
    go_ret
    exact ⟨ret_bool (by simp [oneB, h']), rfl⟩

set_option maxHeartbeats 400000 in
theorem truth_any (x : Bool) (w : World) : Calls Tryz.prog 83 #[.bool x] w fun e w' => e = .returned (.int .u64 (truthI x)) ∧ w' = w := by
  cases x
  all_goals
    go_enter Tryz.func83, Tryz.ntmps83
    go_wp2
    go_ret
    exact ⟨rfl, rfl⟩

set_option maxHeartbeats 400000 in
theorem places_any (t b : Int) (w : World) (hb : Hid (word b)) : Calls Tryz.prog 86 #[.int .u8 t, .int .u64 b] w fun e w' => e = .returned (.int .u64 (placesI t b)) ∧ w' = w := by
  go_enter Tryz.func86, Tryz.ntmps86
  go_wp2
  all_goals go_ret
  · exact ⟨ret_u64 (by rw [and_seven b hb.out]; simp_all [placesI]), rfl⟩
  · exact ⟨ret_u64 (by rw [and_31 b hb.out]; simp_all [placesI]), rfl⟩
  · exact ⟨ret_u64 (by rw [and_63 b hb.out]; simp_all [placesI]), rfl⟩

set_option maxHeartbeats 400000 in
theorem cmp_any (o a b : Int) (w : World) : Calls Tryz.prog 87 #[.int .u8 o, .int .i64 a, .int .i64 b] w fun e w' => e = .returned (.bool (cmpB o a b)) ∧ w' = w := by
  go_enter Tryz.func87, Tryz.ntmps87
  go_wp2
  all_goals go_ret
  all_goals exact ⟨ret_bool (by simp_all [cmpB]), rfl⟩
end Go.Proofs.YtdgpdmohfnealaaGreatDoor.Sc
/- Facts on binary64 words that the contracts want: which words are NaNs, what an operation that has no answer draws. -/
namespace Go.Proofs.YtdgpdmohfnealaaGreatDoor.Sc
open Go.RowKit

theorem d_sign : Ieee.double.signWeight = 9223372036854775808 := by decide
theorem d_binade : Ieee.double.binade = 4503599627370496 := by decide
theorem d_inf : Ieee.double.infRung = 9218868437227405312 := by decide

theorem read_nan (x : Nat) (h : 9218868437227405312 < x % 9223372036854775808) : ∃ s f, Ieee.double.read x = .nan s f := by
  refine ⟨x / 9223372036854775808 % 2 == 1, x % 9223372036854775808 - 9218868437227405312, ?_⟩
  unfold Ieee.Format.read
  simp only [d_sign, d_binade, d_inf]
  rw [if_neg (by omega), if_neg (by omega), if_neg (by omega)]

theorem read_inf (x : Nat) (h : x % 9223372036854775808 = 9218868437227405312) : Ieee.double.read x = .infinity (x / 9223372036854775808 % 2 == 1) := by
  unfold Ieee.Format.read
  simp only [d_sign, d_binade, d_inf]
  rw [if_neg (by omega), if_neg (by omega), if_pos h]

theorem read_sub (x : Nat) (h : x % 9223372036854775808 < 4503599627370496) : Ieee.double.read x = .number (x / 9223372036854775808 % 2 == 1) (x % 9223372036854775808) Ieee.double.leastPlace := by
  unfold Ieee.Format.read
  simp only [d_sign, d_binade]
  rw [if_pos h]

theorem read_norm (x : Nat) (h : 4503599627370496 ≤ x % 9223372036854775808) (g : x % 9223372036854775808 < 9218868437227405312) :
    Ieee.double.read x = .number (x / 9223372036854775808 % 2 == 1) (4503599627370496 + x % 9223372036854775808 % 4503599627370496) (Ieee.double.leastPlace + ((x % 9223372036854775808 / 4503599627370496 - 1 : Nat) : Int)) := by
  unfold Ieee.Format.read
  simp only [d_sign, d_binade, d_inf]
  rw [if_neg (by omega), if_pos g]

theorem read_num (x : Nat) (h : x % 9223372036854775808 < 9218868437227405312) : ∃ s m i, Ieee.double.read x = .number s m i := by
  by_cases g : x % 9223372036854775808 < 4503599627370496
  · exact ⟨_, _, _, read_sub x g⟩
  · exact ⟨_, _, _, read_norm x (by omega) h⟩

theorem order_nan (x : Nat) (h : 9218868437227405312 < x % 9223372036854775808) : Ieee.double.order x x = none := by
  obtain ⟨s, f, e⟩ := read_nan x h
  simp [Ieee.Format.order, e, Ieee.Datum.order]

theorem order_self (x : Nat) (h : ¬ 9218868437227405312 < x % 9223372036854775808) : Ieee.double.order x x = some .eq := by
  by_cases g : x % 9223372036854775808 = 9218868437227405312
  · have e := read_inf x g
    simp [Ieee.Format.order, e, Ieee.Datum.order]
  · obtain ⟨s, m, i, e⟩ := read_num x (by omega)
    simp [Ieee.Format.order, e, Ieee.Datum.order]

theorem nanI_iff (a : Int) : nanI a = true ↔ 9218868437227405312 < a.toNat % 9223372036854775808 := by
  by_cases h : 9218868437227405312 < a.toNat % 9223372036854775808
  · have := order_nan a.toNat h
    simp [nanI, FloatKind.format, this, h]
  · have := order_self a.toNat h
    simp [nanI, FloatKind.format, this, h]

def drawnNaN (x y : Nat) (w : World) : Nat := (Question.nanBits .f64 x y).cut (w.tape w.drawn (.nanBits .f64 x y))
theorem drawnNaN_nan (x y : Nat) (w : World) : nanI (drawnNaN x y w : Int) = true := by
  rw [nanI_iff]
  generalize ht : w.tape w.drawn (.nanBits .f64 x y) = t
  have e : drawnNaN x y w = (t % 2) * 9223372036854775808 + 9218868437227405312 + 1 + (t / 2) % 4503599627370495 := by
    unfold drawnNaN; rw [ht]; simp [Question.cut]
  have p1 : t % 2 < 2 := Nat.mod_lt _ (by omega)
  have q1 : (t / 2) % 4503599627370495 < 4503599627370495 := Nat.mod_lt _ (by omega)
  generalize t % 2 = p at e p1
  generalize (t / 2) % 4503599627370495 = q at e q1
  rw [e, Int.toNat_natCast]
  rcases (show p = 0 ∨ p = 1 by omega) with rfl | rfl <;> omega
theorem run_nan {P : Program} (op : BinOp) (x y : Nat) (t : TypeId) (w : World) (hop : op = .add ∨ op = .sub ∨ op = .mul ∨ op = .quo) (h : floatBits op .f64 x y = none) :
    (binOp op t (.float .f64 x) (.float .f64 y)).run P w = .ok (.float .f64 (drawnNaN x y w)) w.drew := by
  rcases hop with rfl | rfl | rfl | rfl <;> (simp only [floatBits] at h; simp [binOp, Op.floatArith, h, Question.forced, drawnNaN])

def resI : Option Nat → Int
  | some r => cutI 5 r
  | none => 9221120237041090560
def fcmpB (o : Int) (x y : Nat) : Bool :=
  if o = 11 then FloatKind.f64.format.order x y == some .eq else if o = 12 then FloatKind.f64.format.order x y != some .eq
  else if o = 13 then FloatKind.f64.format.order x y == some .lt else if o = 14 then (FloatKind.f64.format.order x y == some .lt || FloatKind.f64.format.order x y == some .eq)
  else if o = 15 then FloatKind.f64.format.order x y == some .gt else if o = 16 then (FloatKind.f64.format.order x y == some .gt || FloatKind.f64.format.order x y == some .eq) else false
def fltI (o : Int) (x y : Nat) : Int :=
  if o = 1 then resI (floatBits .add .f64 x y) else if o = 2 then resI (floatBits .sub .f64 x y) else if o = 3 then resI (floatBits .mul .f64 x y)
  else if o = 4 then resI (floatBits .quo .f64 x y) else truthI (fcmpB o x y)
theorem resI_drawn {x y : Nat} {w : World} : cutI 5 (drawnNaN x y w) = resI none := by
  simp [cutI, drawnNaN_nan, resI]
end Go.Proofs.YtdgpdmohfnealaaGreatDoor.Sc
