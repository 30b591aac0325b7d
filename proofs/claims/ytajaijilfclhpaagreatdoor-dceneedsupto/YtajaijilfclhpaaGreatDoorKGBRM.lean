/- Nothing lies in one another where there is nothing. -/
import Derived.Test.YtajaijilfclhpaaGreatDoorKGf0
import Derived.Test.YtajaijilfclhpaaGreatDoorKGN2M
namespace Go.Proofs.YtajaijilfclhpaaGreatDoor
open Go.RowKit

theorem infoN_Cells : (Tryz.prog.info? 222).map (fun i => (i.zero, i.size, i.bytes)) = some (some (.slice none 0 0), 1, 24) := by kernel_rfl
set_option maxRecDepth 100000 in
set_option maxHeartbeats 1000000 in
theorem flatCells_nil (w : World) : Calls Tryz.prog 86 #[.slice none 0 0] w fun e w' => e = .returned (.bool true) ∧ Below w.heap.size w w' := by
 have hmk : ∀ W, (Instr.makeSlice 94 (.int .i64 0) (.int .i64 0)).run Tryz.prog W = .ok (.slice (some ⟨W.heap.size, 0, none⟩) 0 0) (W.alloc (.cells (madeCells #[.slice none 0 0] 0) 222)) := run_make_row' (P := Tryz.prog) 94 222 (.slice none 0 0) 24 Tryz.underlying94 infoN_Cells rfl .i64 .i64 0 (by omega) (by omega)
 go_enter Tryz.func86, Tryz.ntmps86
 go_wp2
 go_loopw [3] (fun vi wr => vi = .int .i64 0 ∧ Hid (Below w.heap.size w wr)) (fun _ _ => 0)
 case atStart => exact ⟨rfl, Below.refl _ _⟩
 case round =>
  obtain ⟨rfl, hr⟩ := hrel
  generalize wr = w1 at *
  go_wp2
  go_loopw [6] (fun vi wr => vi = .int .i64 0 ∧ Hid (Below w.heap.size w wr)) (fun _ _ => 0)
  case atStart => exact ⟨rfl, below_alloc hr.out _⟩
  case round =>
   obtain ⟨rfl, hr⟩ := hrel
   generalize wr = w2 at *
   go_wp2
   go_loopw [9] (fun vi wr => vi = .int .i64 0 ∧ Hid (Below w.heap.size w wr)) (fun _ _ => 0)
   case atStart => exact ⟨rfl, hr.out⟩
   case round =>
    obtain ⟨rfl, hr⟩ := hrel
    generalize wr = w3 at *
    go_wp2
    go_loopw [11] (fun vi wr => vi = .int .i64 0 ∧ Hid (Below w.heap.size w wr)) (fun _ _ => 0)
    case atStart => exact ⟨rfl, hr.out⟩
    case round =>
     obtain ⟨rfl, hr⟩ := hrel
     generalize wr = w4 at *
     go_wp2
     go_loopw [14] (fun vi wr => vi = .int .i64 0 ∧ Hid (Below w.heap.size w wr)) (fun _ _ => 0)
     case atStart => exact ⟨rfl, hr.out⟩
     case round =>
      obtain ⟨rfl, hr⟩ := hrel
      go_wp2
      go_ret
      exact ⟨rfl, hr.out⟩
theorem infoN_FactLists : (Tryz.prog.info? 227).map (fun i => (i.zero, i.size, i.bytes)) = some (some (.slice none 0 0), 1, 24) := by kernel_rfl
set_option maxRecDepth 100000 in
set_option maxHeartbeats 1000000 in
theorem flatFactLists_nil (w : World) : Calls Tryz.prog 87 #[.slice none 0 0] w fun e w' => e = .returned (.bool true) ∧ Below w.heap.size w w' := by
 have hmk : ∀ W, (Instr.makeSlice 95 (.int .i64 0) (.int .i64 0)).run Tryz.prog W = .ok (.slice (some ⟨W.heap.size, 0, none⟩) 0 0) (W.alloc (.cells (madeCells #[.slice none 0 0] 0) 227)) := run_make_row' (P := Tryz.prog) 95 227 (.slice none 0 0) 24 Tryz.underlying95 infoN_FactLists rfl .i64 .i64 0 (by omega) (by omega)
 go_enter Tryz.func87, Tryz.ntmps87
 go_wp2
 go_loopw [3] (fun vi wr => vi = .int .i64 0 ∧ Hid (Below w.heap.size w wr)) (fun _ _ => 0)
 case atStart => exact ⟨rfl, Below.refl _ _⟩
 case round =>
  obtain ⟨rfl, hr⟩ := hrel
  generalize wr = w1 at *
  go_wp2
  go_loopw [6] (fun vi wr => vi = .int .i64 0 ∧ Hid (Below w.heap.size w wr)) (fun _ _ => 0)
  case atStart => exact ⟨rfl, below_alloc hr.out _⟩
  case round =>
   obtain ⟨rfl, hr⟩ := hrel
   generalize wr = w2 at *
   go_wp2
   go_loopw [9] (fun vi wr => vi = .int .i64 0 ∧ Hid (Below w.heap.size w wr)) (fun _ _ => 0)
   case atStart => exact ⟨rfl, hr.out⟩
   case round =>
    obtain ⟨rfl, hr⟩ := hrel
    generalize wr = w3 at *
    go_wp2
    go_loopw [11] (fun vi wr => vi = .int .i64 0 ∧ Hid (Below w.heap.size w wr)) (fun _ _ => 0)
    case atStart => exact ⟨rfl, hr.out⟩
    case round =>
     obtain ⟨rfl, hr⟩ := hrel
     generalize wr = w4 at *
     go_wp2
     go_loopw [14] (fun vi wr => vi = .int .i64 0 ∧ Hid (Below w.heap.size w wr)) (fun _ _ => 0)
     case atStart => exact ⟨rfl, hr.out⟩
     case round =>
      obtain ⟨rfl, hr⟩ := hrel
      go_wp2
      go_ret
      exact ⟨rfl, hr.out⟩
theorem infoN_Moves : (Tryz.prog.info? 232).map (fun i => (i.zero, i.size, i.bytes)) = some (some (.slice none 0 0), 1, 24) := by kernel_rfl
set_option maxRecDepth 100000 in
set_option maxHeartbeats 1000000 in
theorem flatMoves_nil (w : World) : Calls Tryz.prog 88 #[.slice none 0 0] w fun e w' => e = .returned (.bool true) ∧ Below w.heap.size w w' := by
 have hmk : ∀ W, (Instr.makeSlice 96 (.int .i64 0) (.int .i64 0)).run Tryz.prog W = .ok (.slice (some ⟨W.heap.size, 0, none⟩) 0 0) (W.alloc (.cells (madeCells #[.slice none 0 0] 0) 232)) := run_make_row' (P := Tryz.prog) 96 232 (.slice none 0 0) 24 Tryz.underlying96 infoN_Moves rfl .i64 .i64 0 (by omega) (by omega)
 go_enter Tryz.func88, Tryz.ntmps88
 go_wp2
 go_loopw [3] (fun vi wr => vi = .int .i64 0 ∧ Hid (Below w.heap.size w wr)) (fun _ _ => 0)
 case atStart => exact ⟨rfl, Below.refl _ _⟩
 case round =>
  obtain ⟨rfl, hr⟩ := hrel
  generalize wr = w1 at *
  go_wp2
  go_loopw [6] (fun vi wr => vi = .int .i64 0 ∧ Hid (Below w.heap.size w wr)) (fun _ _ => 0)
  case atStart => exact ⟨rfl, below_alloc hr.out _⟩
  case round =>
   obtain ⟨rfl, hr⟩ := hrel
   generalize wr = w2 at *
   go_wp2
   go_loopw [9] (fun vi wr => vi = .int .i64 0 ∧ Hid (Below w.heap.size w wr)) (fun _ _ => 0)
   case atStart => exact ⟨rfl, hr.out⟩
   case round =>
    obtain ⟨rfl, hr⟩ := hrel
    generalize wr = w3 at *
    go_wp2
    go_loopw [11] (fun vi wr => vi = .int .i64 0 ∧ Hid (Below w.heap.size w wr)) (fun _ _ => 0)
    case atStart => exact ⟨rfl, hr.out⟩
    case round =>
     obtain ⟨rfl, hr⟩ := hrel
     generalize wr = w4 at *
     go_wp2
     go_loopw [14] (fun vi wr => vi = .int .i64 0 ∧ Hid (Below w.heap.size w wr)) (fun _ _ => 0)
     case atStart => exact ⟨rfl, hr.out⟩
     case round =>
      obtain ⟨rfl, hr⟩ := hrel
      go_wp2
      go_ret
      exact ⟨rfl, hr.out⟩
theorem infoN_Spans : (Tryz.prog.info? 236).map (fun i => (i.zero, i.size, i.bytes)) = some (some (.slice none 0 0), 1, 24) := by kernel_rfl
set_option maxRecDepth 100000 in
set_option maxHeartbeats 1000000 in
theorem flatSpans_nil (w : World) : Calls Tryz.prog 89 #[.slice none 0 0] w fun e w' => e = .returned (.bool true) ∧ Below w.heap.size w w' := by
 have hmk : ∀ W, (Instr.makeSlice 97 (.int .i64 0) (.int .i64 0)).run Tryz.prog W = .ok (.slice (some ⟨W.heap.size, 0, none⟩) 0 0) (W.alloc (.cells (madeCells #[.slice none 0 0] 0) 236)) := run_make_row' (P := Tryz.prog) 97 236 (.slice none 0 0) 24 Tryz.underlying97 infoN_Spans rfl .i64 .i64 0 (by omega) (by omega)
 go_enter Tryz.func89, Tryz.ntmps89
 go_wp2
 go_loopw [3] (fun vi wr => vi = .int .i64 0 ∧ Hid (Below w.heap.size w wr)) (fun _ _ => 0)
 case atStart => exact ⟨rfl, Below.refl _ _⟩
 case round =>
  obtain ⟨rfl, hr⟩ := hrel
  generalize wr = w1 at *
  go_wp2
  go_loopw [6] (fun vi wr => vi = .int .i64 0 ∧ Hid (Below w.heap.size w wr)) (fun _ _ => 0)
  case atStart => exact ⟨rfl, below_alloc hr.out _⟩
  case round =>
   obtain ⟨rfl, hr⟩ := hrel
   generalize wr = w2 at *
   go_wp2
   go_loopw [9] (fun vi wr => vi = .int .i64 0 ∧ Hid (Below w.heap.size w wr)) (fun _ _ => 0)
   case atStart => exact ⟨rfl, hr.out⟩
   case round =>
    obtain ⟨rfl, hr⟩ := hrel
    generalize wr = w3 at *
    go_wp2
    go_loopw [11] (fun vi wr => vi = .int .i64 0 ∧ Hid (Below w.heap.size w wr)) (fun _ _ => 0)
    case atStart => exact ⟨rfl, hr.out⟩
    case round =>
     obtain ⟨rfl, hr⟩ := hrel
     generalize wr = w4 at *
     go_wp2
     go_loopw [14] (fun vi wr => vi = .int .i64 0 ∧ Hid (Below w.heap.size w wr)) (fun _ _ => 0)
     case atStart => exact ⟨rfl, hr.out⟩
     case round =>
      obtain ⟨rfl, hr⟩ := hrel
      go_wp2
      go_ret
      exact ⟨rfl, hr.out⟩
theorem infoN_Homes : (Tryz.prog.info? 240).map (fun i => (i.zero, i.size, i.bytes)) = some (some (.slice none 0 0), 1, 24) := by kernel_rfl
set_option maxRecDepth 100000 in
set_option maxHeartbeats 1000000 in
theorem flatHomes_nil (w : World) : Calls Tryz.prog 90 #[.slice none 0 0] w fun e w' => e = .returned (.bool true) ∧ Below w.heap.size w w' := by
 have hmk : ∀ W, (Instr.makeSlice 98 (.int .i64 0) (.int .i64 0)).run Tryz.prog W = .ok (.slice (some ⟨W.heap.size, 0, none⟩) 0 0) (W.alloc (.cells (madeCells #[.slice none 0 0] 0) 240)) := run_make_row' (P := Tryz.prog) 98 240 (.slice none 0 0) 24 Tryz.underlying98 infoN_Homes rfl .i64 .i64 0 (by omega) (by omega)
 go_enter Tryz.func90, Tryz.ntmps90
 go_wp2
 go_loopw [3] (fun vi wr => vi = .int .i64 0 ∧ Hid (Below w.heap.size w wr)) (fun _ _ => 0)
 case atStart => exact ⟨rfl, Below.refl _ _⟩
 case round =>
  obtain ⟨rfl, hr⟩ := hrel
  generalize wr = w1 at *
  go_wp2
  go_loopw [6] (fun vi wr => vi = .int .i64 0 ∧ Hid (Below w.heap.size w wr)) (fun _ _ => 0)
  case atStart => exact ⟨rfl, below_alloc hr.out _⟩
  case round =>
   obtain ⟨rfl, hr⟩ := hrel
   generalize wr = w2 at *
   go_wp2
   go_loopw [9] (fun vi wr => vi = .int .i64 0 ∧ Hid (Below w.heap.size w wr)) (fun _ _ => 0)
   case atStart => exact ⟨rfl, hr.out⟩
   case round =>
    obtain ⟨rfl, hr⟩ := hrel
    generalize wr = w3 at *
    go_wp2
    go_loopw [11] (fun vi wr => vi = .int .i64 0 ∧ Hid (Below w.heap.size w wr)) (fun _ _ => 0)
    case atStart => exact ⟨rfl, hr.out⟩
    case round =>
     obtain ⟨rfl, hr⟩ := hrel
     generalize wr = w4 at *
     go_wp2
     go_loopw [14] (fun vi wr => vi = .int .i64 0 ∧ Hid (Below w.heap.size w wr)) (fun _ _ => 0)
     case atStart => exact ⟨rfl, hr.out⟩
     case round =>
      obtain ⟨rfl, hr⟩ := hrel
      go_wp2
      go_ret
      exact ⟨rfl, hr.out⟩
theorem infoN_Codes : (Tryz.prog.info? 244).map (fun i => (i.zero, i.size, i.bytes)) = some (some (.slice none 0 0), 1, 24) := by kernel_rfl
set_option maxRecDepth 100000 in
set_option maxHeartbeats 1000000 in
theorem flatCodes_nil (w : World) : Calls Tryz.prog 91 #[.slice none 0 0] w fun e w' => e = .returned (.bool true) ∧ Below w.heap.size w w' := by
 have hmk : ∀ W, (Instr.makeSlice 99 (.int .i64 0) (.int .i64 0)).run Tryz.prog W = .ok (.slice (some ⟨W.heap.size, 0, none⟩) 0 0) (W.alloc (.cells (madeCells #[.slice none 0 0] 0) 244)) := run_make_row' (P := Tryz.prog) 99 244 (.slice none 0 0) 24 Tryz.underlying99 infoN_Codes rfl .i64 .i64 0 (by omega) (by omega)
 go_enter Tryz.func91, Tryz.ntmps91
 go_wp2
 go_loopw [3] (fun vi wr => vi = .int .i64 0 ∧ Hid (Below w.heap.size w wr)) (fun _ _ => 0)
 case atStart => exact ⟨rfl, Below.refl _ _⟩
 case round =>
  obtain ⟨rfl, hr⟩ := hrel
  generalize wr = w1 at *
  go_wp2
  go_loopw [6] (fun vi wr => vi = .int .i64 0 ∧ Hid (Below w.heap.size w wr)) (fun _ _ => 0)
  case atStart => exact ⟨rfl, below_alloc hr.out _⟩
  case round =>
   obtain ⟨rfl, hr⟩ := hrel
   generalize wr = w2 at *
   go_wp2
   go_loopw [9] (fun vi wr => vi = .int .i64 0 ∧ Hid (Below w.heap.size w wr)) (fun _ _ => 0)
   case atStart => exact ⟨rfl, hr.out⟩
   case round =>
    obtain ⟨rfl, hr⟩ := hrel
    generalize wr = w3 at *
    go_wp2
    go_loopw [11] (fun vi wr => vi = .int .i64 0 ∧ Hid (Below w.heap.size w wr)) (fun _ _ => 0)
    case atStart => exact ⟨rfl, hr.out⟩
    case round =>
     obtain ⟨rfl, hr⟩ := hrel
     generalize wr = w4 at *
     go_wp2
     go_loopw [14] (fun vi wr => vi = .int .i64 0 ∧ Hid (Below w.heap.size w wr)) (fun _ _ => 0)
     case atStart => exact ⟨rfl, hr.out⟩
     case round =>
      obtain ⟨rfl, hr⟩ := hrel
      go_wp2
      go_ret
      exact ⟨rfl, hr.out⟩
theorem infoN_Units : (Tryz.prog.info? 249).map (fun i => (i.zero, i.size, i.bytes)) = some (some (.slice none 0 0), 1, 24) := by kernel_rfl
set_option maxRecDepth 100000 in
set_option maxHeartbeats 1000000 in
theorem flatUnits_nil (w : World) : Calls Tryz.prog 92 #[.slice none 0 0] w fun e w' => e = .returned (.bool true) ∧ Below w.heap.size w w' := by
 have hmk : ∀ W, (Instr.makeSlice 100 (.int .i64 0) (.int .i64 0)).run Tryz.prog W = .ok (.slice (some ⟨W.heap.size, 0, none⟩) 0 0) (W.alloc (.cells (madeCells #[.slice none 0 0] 0) 249)) := run_make_row' (P := Tryz.prog) 100 249 (.slice none 0 0) 24 Tryz.underlying100 infoN_Units rfl .i64 .i64 0 (by omega) (by omega)
 go_enter Tryz.func92, Tryz.ntmps92
 go_wp2
 go_loopw [3] (fun vi wr => vi = .int .i64 0 ∧ Hid (Below w.heap.size w wr)) (fun _ _ => 0)
 case atStart => exact ⟨rfl, Below.refl _ _⟩
 case round =>
  obtain ⟨rfl, hr⟩ := hrel
  generalize wr = w1 at *
  go_wp2
  go_loopw [6] (fun vi wr => vi = .int .i64 0 ∧ Hid (Below w.heap.size w wr)) (fun _ _ => 0)
  case atStart => exact ⟨rfl, below_alloc hr.out _⟩
  case round =>
   obtain ⟨rfl, hr⟩ := hrel
   generalize wr = w2 at *
   go_wp2
   go_loopw [9] (fun vi wr => vi = .int .i64 0 ∧ Hid (Below w.heap.size w wr)) (fun _ _ => 0)
   case atStart => exact ⟨rfl, hr.out⟩
   case round =>
    obtain ⟨rfl, hr⟩ := hrel
    generalize wr = w3 at *
    go_wp2
    go_loopw [11] (fun vi wr => vi = .int .i64 0 ∧ Hid (Below w.heap.size w wr)) (fun _ _ => 0)
    case atStart => exact ⟨rfl, hr.out⟩
    case round =>
     obtain ⟨rfl, hr⟩ := hrel
     generalize wr = w4 at *
     go_wp2
     go_loopw [14] (fun vi wr => vi = .int .i64 0 ∧ Hid (Below w.heap.size w wr)) (fun _ _ => 0)
     case atStart => exact ⟨rfl, hr.out⟩
     case round =>
      obtain ⟨rfl, hr⟩ := hrel
      go_wp2
      go_ret
      exact ⟨rfl, hr.out⟩
end Go.Proofs.YtajaijilfclhpaaGreatDoor
/- The bag: lists of one kind alone. -/
namespace Go.Proofs.YtajaijilfclhpaaGreatDoor
open Go.RowKit

abbrev bagR (v : Value) : List Value := [.slice none 0 0, .slice none 0 0, .slice none 0 0, .slice none 0 0, .slice none 0 0, .slice none 0 0, v, .slice none 0 0, .slice none 0 0, .slice none 0 0, .slice none 0 0, .slice none 0 0, .slice none 0 0, .slice none 0 0, .slice none 0 0, .slice none 0 0, .slice none 0 0, .slice none 0 0, .slice none 0 0, .slice none 0 0, .slice none 0 0, .slice none 0 0, .slice none 0 0, .slice none 0 0, .slice none 0 0, .slice none 0 0, .slice none 0 0, .slice none 0 0]
set_option maxRecDepth 100000 in
set_option maxHeartbeats 4000000 in
theorem apartBR_any (S : Nat → Prop) (b : Nat) (v : Value) (w : World) (hX : Box w b (bagR v))
  (hF : ∀ W, Below w.heap.size w W → Calls Tryz.prog 71 #[v] W fun e w' => e = .returned (.bool true) ∧ Only W w' S ∧ w'.heap[b]? = W.heap[b]?) :
  Calls Tryz.prog 37 #[ptr b] w fun e w' => e = .returned (.bool true) ∧ Only w w' S := by
 have HL : Hid (Below w.heap.size w w) := Below.refl _ _
 have HX : Hid (Box w b (bagR v)) := hX
 have HB : Hid (Only w w S) := Only.refl w S
 have HF : Hid _ := hF
 have c0 : w.cell? ⟨b, 0, none⟩ = some (.slice none 0 0) := hX.cell 0 _ rfl
 clear hX hF
 go_enter Tryz.func37, Tryz.ntmps37
 go_wp2_with (first
  | (go_at_call 65; go_loud (refine Calls.mono (by exact flatWords_nil _) ?_; rintro e w0 ⟨rfl, hk1⟩; have hx := HX.out.below hk1; have hb := HB.out.after hk1; have c1 : w0.cell? ⟨b, 1, none⟩ = some (.slice none 0 0) := hx.cell 1 _ rfl; have hl := below_trans HL.out hk1; clear HL; have HL : Hid (Below w.heap.size w w0) := hl; clear hl; clear HX HB c0 hk1; have HX : Hid (Box w0 b (bagR v)) := hx; have HB : Hid (Only w w0 S) := hb; clear hx hb))
  | (go_at_call 66; go_loud (refine Calls.mono (by exact flatInts_nil _) ?_; rintro e w1 ⟨rfl, hk1⟩; have hx := HX.out.below hk1; have hb := HB.out.after hk1; have c2 : w1.cell? ⟨b, 2, none⟩ = some (.slice none 0 0) := hx.cell 2 _ rfl; have hl := below_trans HL.out hk1; clear HL; have HL : Hid (Below w.heap.size w w1) := hl; clear hl; clear HX HB c1 hk1; have HX : Hid (Box w1 b (bagR v)) := hx; have HB : Hid (Only w w1 S) := hb; clear hx hb))
  | (go_at_call 67; go_loud (refine Calls.mono (by exact flatLongs_nil _) ?_; rintro e w2 ⟨rfl, hk1⟩; have hx := HX.out.below hk1; have hb := HB.out.after hk1; have c3 : w2.cell? ⟨b, 3, none⟩ = some (.slice none 0 0) := hx.cell 3 _ rfl; have hl := below_trans HL.out hk1; clear HL; have HL : Hid (Below w.heap.size w w2) := hl; clear hl; clear HX HB c2 hk1; have HX : Hid (Box w2 b (bagR v)) := hx; have HB : Hid (Only w w2 S) := hb; clear hx hb))
  | (go_at_call 68; go_loud (refine Calls.mono (by exact flatTexts_nil _) ?_; rintro e w3 ⟨rfl, hk1⟩; have hx := HX.out.below hk1; have hb := HB.out.after hk1; have c4 : w3.cell? ⟨b, 4, none⟩ = some (.slice none 0 0) := hx.cell 4 _ rfl; have hl := below_trans HL.out hk1; clear HL; have HL : Hid (Below w.heap.size w w3) := hl; clear hl; clear HX HB c3 hk1; have HX : Hid (Box w3 b (bagR v)) := hx; have HB : Hid (Only w w3 S) := hb; clear hx hb))
  | (go_at_call 69; go_loud (refine Calls.mono (by exact flatBytes_nil _) ?_; rintro e w4 ⟨rfl, hk1⟩; have hx := HX.out.below hk1; have hb := HB.out.after hk1; have c5 : w4.cell? ⟨b, 5, none⟩ = some (.slice none 0 0) := hx.cell 5 _ rfl; have hl := below_trans HL.out hk1; clear HL; have HL : Hid (Below w.heap.size w w4) := hl; clear hl; clear HX HB c4 hk1; have HX : Hid (Box w4 b (bagR v)) := hx; have HB : Hid (Only w w4 S) := hb; clear hx hb))
  | (go_at_call 70; go_loud (refine Calls.mono (by exact flatTypes_nil _) ?_; rintro e w5 ⟨rfl, hk1⟩; have hx := HX.out.below hk1; have hb := HB.out.after hk1; have c6 : w5.cell? ⟨b, 6, none⟩ = some (v) := hx.cell 6 _ rfl; have hl := below_trans HL.out hk1; clear HL; have HL : Hid (Below w.heap.size w w5) := hl; clear hl; clear HX HB c5 hk1; have HX : Hid (Box w5 b (bagR v)) := hx; have HB : Hid (Only w w5 S) := hb; clear hx hb))
  | (go_at_call 71; go_loud (refine Calls.mono (by exact HF.out _ HL.out) ?_; rintro e w6 ⟨rfl, hk1, hk2⟩; have hx := HX.out.same hk2; have hb := HB.out.trans hk1; have c7 : w6.cell? ⟨b, 7, none⟩ = some (.slice none 0 0) := hx.cell 7 _ rfl; clear HL HX HB HF c6 hk1 hk2; have HX : Hid (Box w6 b (bagR v)) := hx; have HB : Hid (Only w w6 S) := hb; clear hx hb))
  | (go_at_call 72; go_loud (refine Calls.mono (by exact flatForks_nil _) ?_; rintro e w7 ⟨rfl, hk1⟩; have hx := HX.out.below hk1; have hb := HB.out.after hk1; have c8 : w7.cell? ⟨b, 8, none⟩ = some (.slice none 0 0) := hx.cell 8 _ rfl; clear HX HB c7 hk1; have HX : Hid (Box w7 b (bagR v)) := hx; have HB : Hid (Only w w7 S) := hb; clear hx hb))
  | (go_at_call 73; go_loud (refine Calls.mono (by exact flatPairs_nil _) ?_; rintro e w8 ⟨rfl, hk1⟩; have hx := HX.out.below hk1; have hb := HB.out.after hk1; have c9 : w8.cell? ⟨b, 9, none⟩ = some (.slice none 0 0) := hx.cell 9 _ rfl; clear HX HB c8 hk1; have HX : Hid (Box w8 b (bagR v)) := hx; have HB : Hid (Only w w8 S) := hb; clear hx hb))
  | (go_at_call 74; go_loud (refine Calls.mono (by exact flatTokens_nil _) ?_; rintro e w9 ⟨rfl, hk1⟩; have hx := HX.out.below hk1; have hb := HB.out.after hk1; have c10 : w9.cell? ⟨b, 10, none⟩ = some (.slice none 0 0) := hx.cell 10 _ rfl; clear HX HB c9 hk1; have HX : Hid (Box w9 b (bagR v)) := hx; have HB : Hid (Only w w9 S) := hb; clear hx hb))
  | (go_at_call 75; go_loud (refine Calls.mono (by exact flatNodes_nil _) ?_; rintro e w10 ⟨rfl, hk1⟩; have hx := HX.out.below hk1; have hb := HB.out.after hk1; have c11 : w10.cell? ⟨b, 11, none⟩ = some (.slice none 0 0) := hx.cell 11 _ rfl; clear HX HB c10 hk1; have HX : Hid (Box w10 b (bagR v)) := hx; have HB : Hid (Only w w10 S) := hb; clear hx hb))
  | (go_at_call 76; go_loud (refine Calls.mono (by exact flatParams_nil _) ?_; rintro e w11 ⟨rfl, hk1⟩; have hx := HX.out.below hk1; have hb := HB.out.after hk1; have c12 : w11.cell? ⟨b, 12, none⟩ = some (.slice none 0 0) := hx.cell 12 _ rfl; clear HX HB c11 hk1; have HX : Hid (Box w11 b (bagR v)) := hx; have HB : Hid (Only w w11 S) := hb; clear hx hb))
  | (go_at_call 77; go_loud (refine Calls.mono (by exact flatFuncs_nil _) ?_; rintro e w12 ⟨rfl, hk1⟩; have hx := HX.out.below hk1; have hb := HB.out.after hk1; have c13 : w12.cell? ⟨b, 13, none⟩ = some (.slice none 0 0) := hx.cell 13 _ rfl; clear HX HB c12 hk1; have HX : Hid (Box w12 b (bagR v)) := hx; have HB : Hid (Only w w12 S) := hb; clear hx hb))
  | (go_at_call 78; go_loud (refine Calls.mono (by exact flatTrees_nil _) ?_; rintro e w13 ⟨rfl, hk1⟩; have hx := HX.out.below hk1; have hb := HB.out.after hk1; have c14 : w13.cell? ⟨b, 14, none⟩ = some (.slice none 0 0) := hx.cell 14 _ rfl; clear HX HB c13 hk1; have HX : Hid (Box w13 b (bagR v)) := hx; have HB : Hid (Only w w13 S) := hb; clear hx hb))
  | (go_at_call 79; go_loud (refine Calls.mono (by exact flatLocals_nil _) ?_; rintro e w14 ⟨rfl, hk1⟩; have hx := HX.out.below hk1; have hb := HB.out.after hk1; have c15 : w14.cell? ⟨b, 15, none⟩ = some (.slice none 0 0) := hx.cell 15 _ rfl; clear HX HB c14 hk1; have HX : Hid (Box w14 b (bagR v)) := hx; have HB : Hid (Only w w14 S) := hb; clear hx hb))
  | (go_at_call 80; go_loud (refine Calls.mono (by exact flatShows_nil _) ?_; rintro e w15 ⟨rfl, hk1⟩; have hx := HX.out.below hk1; have hb := HB.out.after hk1; have c16 : w15.cell? ⟨b, 16, none⟩ = some (.slice none 0 0) := hx.cell 16 _ rfl; clear HX HB c15 hk1; have HX : Hid (Box w15 b (bagR v)) := hx; have HB : Hid (Only w w15 S) := hb; clear hx hb))
  | (go_at_call 81; go_loud (refine Calls.mono (by exact flatTraces_nil _) ?_; rintro e w16 ⟨rfl, hk1⟩; have hx := HX.out.below hk1; have hb := HB.out.after hk1; have c17 : w16.cell? ⟨b, 17, none⟩ = some (.slice none 0 0) := hx.cell 17 _ rfl; clear HX HB c16 hk1; have HX : Hid (Box w16 b (bagR v)) := hx; have HB : Hid (Only w w16 S) := hb; clear hx hb))
  | (go_at_call 82; go_loud (refine Calls.mono (by exact flatInstructions_nil _) ?_; rintro e w17 ⟨rfl, hk1⟩; have hx := HX.out.below hk1; have hb := HB.out.after hk1; have c18 : w17.cell? ⟨b, 18, none⟩ = some (.slice none 0 0) := hx.cell 18 _ rfl; clear HX HB c17 hk1; have HX : Hid (Box w17 b (bagR v)) := hx; have HB : Hid (Only w w17 S) := hb; clear hx hb))
  | (go_at_call 83; go_loud (refine Calls.mono (by exact flatBlocks_nil _) ?_; rintro e w18 ⟨rfl, hk1⟩; have hx := HX.out.below hk1; have hb := HB.out.after hk1; have c19 : w18.cell? ⟨b, 19, none⟩ = some (.slice none 0 0) := hx.cell 19 _ rfl; clear HX HB c18 hk1; have HX : Hid (Box w18 b (bagR v)) := hx; have HB : Hid (Only w w18 S) := hb; clear hx hb))
  | (go_at_call 84; go_loud (refine Calls.mono (by exact flatArrays_nil _) ?_; rintro e w19 ⟨rfl, hk1⟩; have hx := HX.out.below hk1; have hb := HB.out.after hk1; have c20 : w19.cell? ⟨b, 20, none⟩ = some (.slice none 0 0) := hx.cell 20 _ rfl; clear HX HB c19 hk1; have HX : Hid (Box w19 b (bagR v)) := hx; have HB : Hid (Only w w19 S) := hb; clear hx hb))
  | (go_at_call 85; go_loud (refine Calls.mono (by exact flatGraphs_nil _) ?_; rintro e w20 ⟨rfl, hk1⟩; have hx := HX.out.below hk1; have hb := HB.out.after hk1; have c21 : w20.cell? ⟨b, 21, none⟩ = some (.slice none 0 0) := hx.cell 21 _ rfl; clear HX HB c20 hk1; have HX : Hid (Box w20 b (bagR v)) := hx; have HB : Hid (Only w w20 S) := hb; clear hx hb))
  | (go_at_call 86; go_loud (refine Calls.mono (by exact flatCells_nil _) ?_; rintro e w21 ⟨rfl, hk1⟩; have hx := HX.out.below hk1; have hb := HB.out.after hk1; have c22 : w21.cell? ⟨b, 22, none⟩ = some (.slice none 0 0) := hx.cell 22 _ rfl; clear HX HB c21 hk1; have HX : Hid (Box w21 b (bagR v)) := hx; have HB : Hid (Only w w21 S) := hb; clear hx hb))
  | (go_at_call 87; go_loud (refine Calls.mono (by exact flatFactLists_nil _) ?_; rintro e w22 ⟨rfl, hk1⟩; have hx := HX.out.below hk1; have hb := HB.out.after hk1; have c23 : w22.cell? ⟨b, 23, none⟩ = some (.slice none 0 0) := hx.cell 23 _ rfl; clear HX HB c22 hk1; have HX : Hid (Box w22 b (bagR v)) := hx; have HB : Hid (Only w w22 S) := hb; clear hx hb))
  | (go_at_call 88; go_loud (refine Calls.mono (by exact flatMoves_nil _) ?_; rintro e w23 ⟨rfl, hk1⟩; have hx := HX.out.below hk1; have hb := HB.out.after hk1; have c24 : w23.cell? ⟨b, 24, none⟩ = some (.slice none 0 0) := hx.cell 24 _ rfl; clear HX HB c23 hk1; have HX : Hid (Box w23 b (bagR v)) := hx; have HB : Hid (Only w w23 S) := hb; clear hx hb))
  | (go_at_call 89; go_loud (refine Calls.mono (by exact flatSpans_nil _) ?_; rintro e w24 ⟨rfl, hk1⟩; have hx := HX.out.below hk1; have hb := HB.out.after hk1; have c25 : w24.cell? ⟨b, 25, none⟩ = some (.slice none 0 0) := hx.cell 25 _ rfl; clear HX HB c24 hk1; have HX : Hid (Box w24 b (bagR v)) := hx; have HB : Hid (Only w w24 S) := hb; clear hx hb))
  | (go_at_call 90; go_loud (refine Calls.mono (by exact flatHomes_nil _) ?_; rintro e w25 ⟨rfl, hk1⟩; have hx := HX.out.below hk1; have hb := HB.out.after hk1; have c26 : w25.cell? ⟨b, 26, none⟩ = some (.slice none 0 0) := hx.cell 26 _ rfl; clear HX HB c25 hk1; have HX : Hid (Box w25 b (bagR v)) := hx; have HB : Hid (Only w w25 S) := hb; clear hx hb))
  | (go_at_call 91; go_loud (refine Calls.mono (by exact flatCodes_nil _) ?_; rintro e w26 ⟨rfl, hk1⟩; have hx := HX.out.below hk1; have hb := HB.out.after hk1; have c27 : w26.cell? ⟨b, 27, none⟩ = some (.slice none 0 0) := hx.cell 27 _ rfl; clear HX HB c26 hk1; have HX : Hid (Box w26 b (bagR v)) := hx; have HB : Hid (Only w w26 S) := hb; clear hx hb))
  | (go_at_call 92; go_loud (refine Calls.mono (by exact flatUnits_nil _) ?_; rintro e w27 ⟨rfl, hk1⟩; have hx := HX.out.below hk1; have hb := HB.out.after hk1; clear HX HB c27 hk1; have HX : Hid (Box w27 b (bagR v)) := hx; have HB : Hid (Only w w27 S) := hb; clear hx hb)))
 go_ret
 exact ⟨rfl, HB.out⟩
end Go.Proofs.YtajaijilfclhpaaGreatDoor
