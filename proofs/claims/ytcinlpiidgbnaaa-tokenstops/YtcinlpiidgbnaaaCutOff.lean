/- The program's cutters, in a row of method values: what is cut off at a place. -/
import Derived.Test.YtcinlpiidgbnaaaNumber
namespace Go.Proofs.Ytcinlpiidgbnaaa
open Go.RowKit

theorem cut_shape (k : Nat) (r : Except Nat (Nat × Nat)) : ∃ a b c d e : Int, cutV k r = .tuple #[.agg #[.int .u8 a, .int .i64 b, .int .i64 c], .agg #[.int .i64 d, .int .i64 e]] := by
  rcases r with p | ⟨kd, e⟩
  · exact ⟨_, _, _, _, _, rfl⟩
  · exact ⟨_, _, _, _, _, rfl⟩
/-- The cutters of a source, at a block. -/
def Cutters (s : ByteArray) (b : Nat) (w : World) : Prop :=
  w.cell? ⟨b, 0, none⟩ = some (.int .u8 2) ∧ w.cell? ⟨b, 1, none⟩ = some (.func (.func 16) #[.string s] #[]) ∧ w.cell? ⟨b, 2, none⟩ = some (.int .u8 3) ∧ w.cell? ⟨b, 3, none⟩ = some (.func (.func 17) #[.string s] #[]) ∧
  w.cell? ⟨b, 4, none⟩ = some (.int .u8 4) ∧ w.cell? ⟨b, 5, none⟩ = some (.func (.func 18) #[.string s] #[]) ∧ b < w.heap.size
theorem cut_sort {c : UInt8} (t : List UInt8) : cutL false (c :: t) = if sortN c = 2 then nameL (c :: t) else if sortN c = 3 then litL false (c :: t) else if sortN c = 4 then .ok (6, signL (c :: t)) else .error 0 := by
  have h := sorts_apart c
  have hm : blankB c = true → markB c = false := by
    rw [blankB_iff]; simp only [decide_eq_true_eq]
    intro h2
    have : c = 32 ∨ c = 9 ∨ c = 10 ∨ c = 13 := by simp only [← UInt8.toNat_inj]; simp; omega
    rcases this with rfl | rfl | rfl | rfl <;> decide
  cases h1 : blankB c <;> cases h2 : letterB c <;> cases h3 : digitB c <;> cases h4 : markB c <;> simp_all [cutL, sortN]

theorem store_func (a : Addr) (fn : Fn) (f c : Array Value) (m : Mode) (w : World) : (store a (.func fn f c) m).run Try.prog w = stored Try.prog w a (.func fn f c) m := run_store Try.prog w a _ m rfl

theorem past3 {w : World} {b : Nat} (hb : b < w.heap.size) (o1 o2 o3 : Obj) (j : Nat) : (((w.alloc o1).alloc o2).alloc o3).cell? ⟨b, j, none⟩ = w.cell? ⟨b, j, none⟩ :=
  ((((Below.refl w.heap.size w).alloc (Nat.le_refl _) o1).alloc (by simp) o2).alloc (by simp; omega) o3).cell (p := ⟨b, j, none⟩) hb
theorem past4 {w : World} {b : Nat} (hb : b < w.heap.size) (o1 o2 o3 o4 : Obj) (j : Nat) : ((((w.alloc o1).alloc o2).alloc o3).alloc o4).cell? ⟨b, j, none⟩ = w.cell? ⟨b, j, none⟩ :=
  (((((Below.refl w.heap.size w).alloc (Nat.le_refl _) o1).alloc (by simp) o2).alloc (by simp; omega) o3).alloc (by simp; omega) o4).cell (p := ⟨b, j, none⟩) hb
theorem past5 {w : World} {b : Nat} (hb : b < w.heap.size) (o1 o2 o3 o4 o5 : Obj) (j : Nat) : (((((w.alloc o1).alloc o2).alloc o3).alloc o4).alloc o5).cell? ⟨b, j, none⟩ = w.cell? ⟨b, j, none⟩ :=
  ((((((Below.refl w.heap.size w).alloc (Nat.le_refl _) o1).alloc (by simp) o2).alloc (by simp; omega) o3).alloc (by simp; omega) o4).alloc (by simp; omega) o5).cell (p := ⟨b, j, none⟩) hb

set_option maxHeartbeats 1000000 in
theorem cutOff_any (s : ByteArray) (k b : Nat) (w : World) (hs : s.size ≤ 65536) (hk : k < s.size) (hC : Cutters s b w) :
    Calls Try.prog 20 #[.slice (some ⟨b, 0, none⟩) 3 3, .int .u8 (sortN s[k] : Int), .int .i64 (k : Int)] w fun e w' => e = .returned (cutV k (cutL false (s.data.toList.drop k))) ∧ Below w.heap.size w w' := by
  obtain ⟨a, b1, c, d, e, hv⟩ := cut_shape k (cutL false (s.data.toList.drop k))
  have hx := cut_sort (c := s[k]) (s.data.toList.drop (k + 1))
  rw [← drop_at hk] at hx
  rw [hv]
  obtain ⟨c0, c1, c2, c3, c4, c5, hbw⟩ := hC
  have n0 := name_any s k
  have n1 := number_any s k
  have n2 := sign_any s k
  generalize hq : sortN s[k] = q
  rw [hq] at hx
  clear hq
  by_cases h2 : q = 2
  · subst h2
    rw [if_pos rfl] at hx
    rw [← hx, hv] at n0
    clear hx hv n1 n2
    have hst := store_func
    have p3 := past3 hbw
    have p4 := past4 hbw
    have p5 := past5 hbw
    go_enter Try.func20, Try.ntmps20
    go_wp2
    refine wp_loop_rounds 1 ?_
    rw [rounds_succ]
    go_wp2_with (go_at_call 16; refine (n0 _ hs (by omega)).mono ?_; rintro e w1 ⟨rfl, hb⟩; obtain ⟨hc, hf⟩ := bcell hb)
    refine ret_two (((Below.refl _ _).alloc (by simp <;> omega) _).trans (hb.mono (by simp <;> omega))) ?r0 (fun Wf h => ⟨rfl, h⟩)
    case r0 => intro Wf h0 h1 h2 h3 h4; simp [results, Try.results20, go_sem, h0, h1, h2, h3, h4]
  by_cases h3 : q = 3
  · subst h3
    rw [if_neg (by omega), if_pos rfl] at hx
    rw [← hx, hv] at n1
    clear hx hv n0 n2 h2
    have hst := store_func
    have p3 := past3 hbw
    have p4 := past4 hbw
    have p5 := past5 hbw
    go_enter Try.func20, Try.ntmps20
    go_wp2
    refine wp_loop_rounds 2 ?_
    rw [rounds_succ]
    go_wp2
    rw [rounds_succ]
    go_wp2_with (go_at_call 17; refine (n1 _ hs (by omega)).mono ?_; rintro e w1 ⟨rfl, hb⟩; obtain ⟨hc, hf⟩ := bcell hb)
    refine ret_two ((((Below.refl _ _).alloc (by simp <;> omega) _).alloc (by simp <;> omega) _).trans (hb.mono (by simp <;> omega))) ?r0 (fun Wf h => ⟨rfl, h⟩)
    case r0 => intro Wf h0 h1 h2 h3 h4; simp [results, Try.results20, go_sem, h0, h1, h2, h3, h4]
  by_cases h4 : q = 4
  · subst h4
    rw [if_neg (by omega), if_neg (by omega), if_pos rfl] at hx
    rw [← hx, hv] at n2
    clear hx hv n0 n1 h2 h3
    have hst := store_func
    have p3 := past3 hbw
    have p4 := past4 hbw
    have p5 := past5 hbw
    go_enter Try.func20, Try.ntmps20
    go_wp2
    refine wp_loop_rounds 3 ?_
    rw [rounds_succ]
    go_wp2
    rw [rounds_succ]
    go_wp2
    rw [rounds_succ]
    go_wp2_with (go_at_call 18; refine (n2 _ hs hk).mono ?_; rintro e w1 ⟨rfl, hb⟩; obtain ⟨hc, hf⟩ := bcell hb)
    refine ret_two (((((Below.refl _ _).alloc (by simp <;> omega) _).alloc (by simp <;> omega) _).alloc (by simp <;> omega) _).trans (hb.mono (by simp <;> omega))) ?r0 (fun Wf h => ⟨rfl, h⟩)
    case r0 => intro Wf h0 h1 h2 h3 h4; simp [results, Try.results20, go_sem, h0, h1, h2, h3, h4]
  · rw [if_neg h2, if_neg h3, if_neg h4] at hx
    have n3 := fun w => refused_any (k : Int) w
    have hz : cutV k (.error 0) = .tuple #[.agg #[.int .u8 0, .int .i64 0, .int .i64 0], .agg #[.int .i64 120, .int .i64 (k : Int)]] := rfl
    rw [← hz, ← hx, hv] at n3
    have g2 : ((2 : Int) == (q : Int)) = false := by simp; omega
    have g3 : ((3 : Int) == (q : Int)) = false := by simp; omega
    have g4 : ((4 : Int) == (q : Int)) = false := by simp; omega
    clear hx hv n0 n1 n2 h2 h3 h4 hz
    have hst := store_func
    have p3 := past3 hbw
    have p4 := past4 hbw
    have p5 := past5 hbw
    go_enter Try.func20, Try.ntmps20
    go_wp2
    refine wp_loop_rounds 4 ?_
    rw [rounds_succ]
    go_wp2
    rw [rounds_succ]
    go_wp2
    rw [rounds_succ]
    go_wp2
    rw [rounds_succ]
    go_wp2_with (go_at_call 29; refine (n3 _).mono ?_; rintro e w1 ⟨rfl, hb⟩; obtain ⟨hc, hf⟩ := bcell hb)
    refine ret_two (((((Below.refl _ _).alloc (by simp <;> omega) _).alloc (by simp <;> omega) _).alloc (by simp <;> omega) _).trans (hb.mono (by simp <;> omega))) ?r0 (fun Wf h => ⟨rfl, h⟩)
    case r0 => intro Wf h0 h1 h2 h3 h4; simp [results, Try.results20, go_sem, h0, h1, h2, h3, h4]
end Go.Proofs.Ytcinlpiidgbnaaa
