/- The law is awake. -/
import Derived.Test.YtkgjcjakadofpaaDoorGCheck
import Derived.Test.YtkgjcjakadofpaaDoorGSm
import Derived.Test.YtkgjcjakadofpaaDoorGOrd4
import Derived.Test.YtkgjcjakadofpaaDoorGCount
namespace Go.Proofs.YtkgjcjakadofpaaDoor
open Go.RowKit

abbrev gCells (a b c : Nat) : List Value := [.string ⟨#[103]⟩, sl a 1, .int .u8 4, sl b 3, .slice none 0 0, sl c 5]
theorem heap_new (w : World) (cs : List Value) (t : TypeId) : (w.alloc (.cells cs.toArray t)).heap[w.heap.size]? = some (.cells cs.toArray t) := heap_alloc_new w _
theorem grs_two (w : World) (m1 m2 : Bool) (a b c d e f : Nat) (h1 : GrAt w (sl a 1) (sl b 3) (.slice none 0 0) (sl c 5) (smallG m1)) (h2 : GrAt w (sl d 1) (sl e 3) (.slice none 0 0) (sl f 5) (smallG m2)) :
    GrsAt (w.alloc (.cells #[.string ⟨#[103]⟩, sl a 1, .int .u8 4, sl b 3, .slice none 0 0, sl c 5, .string ⟨#[103]⟩, sl d 1, .int .u8 4, sl e 3, .slice none 0 0, sl f 5] 34)) (sl w.heap.size 2) [smallG m1, smallG m2] := by
  refine ⟨[(sl a 1, sl b 3, .slice none 0 0, sl c 5), (sl d 1, sl e 3, .slice none 0 0, sl f 5)], rfl, row_lit (t := 34) 2 (heap_new w (gCells a b c ++ gCells d e f) 34) (by omega), fun i x q hx hq => ?_⟩
  have hb := below_alloc (Below.refl w.heap.size w) (.cells #[.string ⟨#[103]⟩, sl a 1, .int .u8 4, sl b 3, .slice none 0 0, sl c 5, .string ⟨#[103]⟩, sl d 1, .int .u8 4, sl e 3, .slice none 0 0, sl f 5] 34)
  rcases i with _ | _ | i
  · cases hx; cases hq; exact h1.below hb
  · cases hx; cases hq; exact h2.below hb
  · simp at hx
theorem grs_one (w : World) (m1 : Bool) (a b c : Nat) (h1 : GrAt w (sl a 1) (sl b 3) (.slice none 0 0) (sl c 5) (smallG m1)) :
    GrsAt (w.alloc (.cells #[.string ⟨#[103]⟩, sl a 1, .int .u8 4, sl b 3, .slice none 0 0, sl c 5] 34)) (sl w.heap.size 1) [smallG m1] := by
  refine ⟨[(sl a 1, sl b 3, .slice none 0 0, sl c 5)], rfl, row_lit (t := 34) 1 (heap_new w (gCells a b c) 34) (by omega), fun i x q hx hq => ?_⟩
  have hb := below_alloc (Below.refl w.heap.size w) (.cells #[.string ⟨#[103]⟩, sl a 1, .int .u8 4, sl b 3, .slice none 0 0, sl c 5] 34)
  rcases i with _ | i
  · cases hx; cases hq; exact h1.below hb
  · simp at hx
theorem ints_new (w : World) (l : List Int) (hl : l.length ≤ 1000) : IntsAt (w.alloc (.cells (l.map intV).toArray 3)) (sl w.heap.size l.length) l := row_lit (t := 3) l.length (heap_new w (l.map intV) 3) hl
theorem grs_nil (w : World) : GrsAt w (.slice none 0 0) [] := ⟨[], rfl, row_nil _ _, fun i x q hx _ => by simp at hx⟩
theorem chk_two : checkT [smallG true, smallG false] = (4, 1) := by decide +kernel
theorem chk_one : checkT [smallG true] = (0, 0) := by decide +kernel
theorem typ_one : typeI [] (smallG true) ⟨4, 13, 1, [0, 2], 0, 0⟩ = 1 ∧ standsB [] (smallG true) ⟨4, 13, 1, [0, 2], 0, 0⟩ = true := by decide +kernel
theorem ord_one : orderT (tms (smallG false).blocks) = [0, 1, 2, 3] := by decide +kernel
theorem cnt_one : countG (smallG false).blocks = 9 := by decide +kernel
def SmP (m : Bool) (W : World) (e : Ending) (w' : World) : Prop := ∃ a b c : Nat, e = .returned (.agg #[.string ⟨#[103]⟩, sl a 1, .int .u8 4, sl b 3, .slice none 0 0, sl c 5]) ∧ GrAt w' (sl a 1) (sl b 3) (.slice none 0 0) (sl c 5) (smallG m) ∧ Below W.heap.size W w'
theorem awk_small (m : Bool) (W : World) : Calls Tryd.prog 14 #[.bool m] W fun e w' => ∃ a b c : Nat, e = .returned (.agg #[.string ⟨#[103]⟩, sl a 1, .int .u8 4, sl b 3, .slice none 0 0, sl c 5]) ∧ GrAt w' (sl a 1) (sl b 3) (.slice none 0 0) (sl c 5) (smallG m) ∧ Below W.heap.size W w' := by
  cases m with
  | true => exact Calls.mono (small_t W) fun e w' ⟨h1, h2, h3⟩ => ⟨_, _, _, h1, h2, h3⟩
  | false => exact Calls.mono (small_f W) fun e w' ⟨h1, h2, h3⟩ => ⟨_, _, _, h1, h2, h3⟩
theorem awk_check2 (W : World) (v : Value) (h : GrsAt W v [smallG true, smallG false]) (hP : PartsAt W) : Calls Tryd.prog 7 #[v] W fun e w' => e = .returned (.tuple #[.int .i64 4, .int .i64 1]) ∧ Below W.heap.size W w' := by
  have := check_any _ v W h hP (fun _ => by decide +kernel)
  rwa [chk_two] at this
theorem awk_check1 (W : World) (v : Value) (h : GrsAt W v [smallG true]) (hP : PartsAt W) : Calls Tryd.prog 7 #[v] W fun e w' => e = .returned (.tuple #[.int .i64 0, .int .i64 0]) ∧ Below W.heap.size W w' := by
  have := check_any _ v W h hP (fun _ => by decide +kernel)
  rwa [chk_one] at this
theorem awk_type (W : World) (a b c : Nat) (xv : Value) (h : GrAt W (sl a 1) (sl b 3) (.slice none 0 0) (sl c 5) (smallG true)) (hx : IntsAt W xv [0, 2]) (hP : PartsAt W) : Calls Tryd.prog 15 #[.slice none 0 0, .agg #[.string ⟨#[103]⟩, sl a 1, .int .u8 4, sl b 3, .slice none 0 0, sl c 5], .agg #[.int .u8 4, .int .u8 13, .int .i64 1, xv, .int .u64 0, .int .i64 0]] W fun e w' => e = .returned (.tuple #[.int .u8 1, .bool true]) ∧ Below W.heap.size W w' := by
  have := type_any [] (.slice none 0 0) (smallG true) _ _ _ _ ⟨4, 13, 1, [0, 2], 0, 0⟩ xv W (grs_nil W) h hx (by decide) hP
  rwa [typ_one.1, typ_one.2] at this
theorem awk_order (W : World) (a b c : Nat) (h : GrAt W (sl a 1) (sl b 3) (.slice none 0 0) (sl c 5) (smallG false)) : Calls Tryd.prog 11 #[.agg #[.string ⟨#[103]⟩, sl a 1, .int .u8 4, sl b 3, .slice none 0 0, sl c 5]] W fun e w' => ∃ g k, e = .returned (.slice g 4 k) ∧ IntsAt w' (.slice g 4 k) [0, 1, 2, 3] ∧ Below W.heap.size W w' := by
  refine Calls.mono (order_any (smallG false) _ _ _ _ W h (by decide +kernel)) ?_
  rintro e w' ⟨v, he, ho, hb⟩
  rw [ord_one] at ho
  have h1 := OwnI.at' ho (by decide)
  obtain ⟨g, k, rfl, _⟩ := h1.form
  exact ⟨g, k, he, h1, hb⟩
theorem awk_count (W : World) (a b c : Nat) (h : GrAt W (sl a 1) (sl b 3) (.slice none 0 0) (sl c 5) (smallG false)) : Calls Tryd.prog 17 #[.agg #[.string ⟨#[103]⟩, sl a 1, .int .u8 4, sl b 3, .slice none 0 0, sl c 5]] W fun e w' => e = .returned (.int .i64 9) ∧ Below W.heap.size W w' := by
  have := count_any (smallG false) _ _ _ _ W h (by rw [cnt_one]; decide)
  rw [cnt_one] at this
  exact this
end Go.Proofs.YtkgjcjakadofpaaDoor
