/- Nothing lies in one another where there is nothing. -/
import Derived.Test.YtajaijilfclhpaaGreatDoorKGf0
namespace Go.Proofs.YtajaijilfclhpaaGreatDoor
open Go.RowKit

theorem infoN_Words : (Tryz.prog.info? 173).map (fun i => (i.zero, i.size, i.bytes)) = some (some (.slice none 0 0), 1, 24) := by kernel_rfl
set_option maxRecDepth 100000 in
set_option maxHeartbeats 1000000 in
theorem flatWords_nil (w : World) : Calls Tryz.prog 65 #[.slice none 0 0] w fun e w' => e = .returned (.bool true) ∧ Below w.heap.size w w' := by
 have hmk : ∀ W, (Instr.makeSlice 75 (.int .i64 0) (.int .i64 0)).run Tryz.prog W = .ok (.slice (some ⟨W.heap.size, 0, none⟩) 0 0) (W.alloc (.cells (madeCells #[.slice none 0 0] 0) 173)) := run_make_row' (P := Tryz.prog) 75 173 (.slice none 0 0) 24 Tryz.underlying75 infoN_Words rfl .i64 .i64 0 (by omega) (by omega)
 go_enter Tryz.func65, Tryz.ntmps65
 go_wp2
 go_loopw [3] (fun vi wr => vi = .int .i64 0 ∧ Hid (Below w.heap.size w wr)) (fun _ _ => 0)
 case atStart => exact ⟨rfl, Below.refl _ _⟩
 case round =>
  obtain ⟨rfl, hr⟩ := hrel
  generalize wr = w1 at *
  go_wp2
  go_loopw [6] (fun vi wr => vi = .int .i64 0 ∧ Hid (Below w.heap.size w wr)) (fun _ _ => 0)
  case atStart => exact ⟨rfl, below_alloc hr.out _⟩
  case round =>
   obtain ⟨rfl, hr⟩ := hrel
   generalize wr = w2 at *
   go_wp2
   go_loopw [9] (fun vi wr => vi = .int .i64 0 ∧ Hid (Below w.heap.size w wr)) (fun _ _ => 0)
   case atStart => exact ⟨rfl, hr.out⟩
   case round =>
    obtain ⟨rfl, hr⟩ := hrel
    generalize wr = w3 at *
    go_wp2
    go_loopw [11] (fun vi wr => vi = .int .i64 0 ∧ Hid (Below w.heap.size w wr)) (fun _ _ => 0)
    case atStart => exact ⟨rfl, hr.out⟩
    case round =>
     obtain ⟨rfl, hr⟩ := hrel
     generalize wr = w4 at *
     go_wp2
     go_loopw [14] (fun vi wr => vi = .int .i64 0 ∧ Hid (Below w.heap.size w wr)) (fun _ _ => 0)
     case atStart => exact ⟨rfl, hr.out⟩
     case round =>
      obtain ⟨rfl, hr⟩ := hrel
      go_wp2
      go_ret
      exact ⟨rfl, hr.out⟩
theorem infoN_Ints : (Tryz.prog.info? 22).map (fun i => (i.zero, i.size, i.bytes)) = some (some (.slice none 0 0), 1, 24) := by kernel_rfl
set_option maxRecDepth 100000 in
set_option maxHeartbeats 1000000 in
theorem flatInts_nil (w : World) : Calls Tryz.prog 66 #[.slice none 0 0] w fun e w' => e = .returned (.bool true) ∧ Below w.heap.size w w' := by
 have hmk : ∀ W, (Instr.makeSlice 76 (.int .i64 0) (.int .i64 0)).run Tryz.prog W = .ok (.slice (some ⟨W.heap.size, 0, none⟩) 0 0) (W.alloc (.cells (madeCells #[.slice none 0 0] 0) 22)) := run_make_row' (P := Tryz.prog) 76 22 (.slice none 0 0) 24 Tryz.underlying76 infoN_Ints rfl .i64 .i64 0 (by omega) (by omega)
 go_enter Tryz.func66, Tryz.ntmps66
 go_wp2
 go_loopw [3] (fun vi wr => vi = .int .i64 0 ∧ Hid (Below w.heap.size w wr)) (fun _ _ => 0)
 case atStart => exact ⟨rfl, Below.refl _ _⟩
 case round =>
  obtain ⟨rfl, hr⟩ := hrel
  generalize wr = w1 at *
  go_wp2
  go_loopw [6] (fun vi wr => vi = .int .i64 0 ∧ Hid (Below w.heap.size w wr)) (fun _ _ => 0)
  case atStart => exact ⟨rfl, below_alloc hr.out _⟩
  case round =>
   obtain ⟨rfl, hr⟩ := hrel
   generalize wr = w2 at *
   go_wp2
   go_loopw [9] (fun vi wr => vi = .int .i64 0 ∧ Hid (Below w.heap.size w wr)) (fun _ _ => 0)
   case atStart => exact ⟨rfl, hr.out⟩
   case round =>
    obtain ⟨rfl, hr⟩ := hrel
    generalize wr = w3 at *
    go_wp2
    go_loopw [11] (fun vi wr => vi = .int .i64 0 ∧ Hid (Below w.heap.size w wr)) (fun _ _ => 0)
    case atStart => exact ⟨rfl, hr.out⟩
    case round =>
     obtain ⟨rfl, hr⟩ := hrel
     generalize wr = w4 at *
     go_wp2
     go_loopw [14] (fun vi wr => vi = .int .i64 0 ∧ Hid (Below w.heap.size w wr)) (fun _ _ => 0)
     case atStart => exact ⟨rfl, hr.out⟩
     case round =>
      obtain ⟨rfl, hr⟩ := hrel
      go_wp2
      go_ret
      exact ⟨rfl, hr.out⟩
theorem infoN_Longs : (Tryz.prog.info? 174).map (fun i => (i.zero, i.size, i.bytes)) = some (some (.slice none 0 0), 1, 24) := by kernel_rfl
set_option maxRecDepth 100000 in
set_option maxHeartbeats 1000000 in
theorem flatLongs_nil (w : World) : Calls Tryz.prog 67 #[.slice none 0 0] w fun e w' => e = .returned (.bool true) ∧ Below w.heap.size w w' := by
 have hmk : ∀ W, (Instr.makeSlice 77 (.int .i64 0) (.int .i64 0)).run Tryz.prog W = .ok (.slice (some ⟨W.heap.size, 0, none⟩) 0 0) (W.alloc (.cells (madeCells #[.slice none 0 0] 0) 174)) := run_make_row' (P := Tryz.prog) 77 174 (.slice none 0 0) 24 Tryz.underlying77 infoN_Longs rfl .i64 .i64 0 (by omega) (by omega)
 go_enter Tryz.func67, Tryz.ntmps67
 go_wp2
 go_loopw [3] (fun vi wr => vi = .int .i64 0 ∧ Hid (Below w.heap.size w wr)) (fun _ _ => 0)
 case atStart => exact ⟨rfl, Below.refl _ _⟩
 case round =>
  obtain ⟨rfl, hr⟩ := hrel
  generalize wr = w1 at *
  go_wp2
  go_loopw [6] (fun vi wr => vi = .int .i64 0 ∧ Hid (Below w.heap.size w wr)) (fun _ _ => 0)
  case atStart => exact ⟨rfl, below_alloc hr.out _⟩
  case round =>
   obtain ⟨rfl, hr⟩ := hrel
   generalize wr = w2 at *
   go_wp2
   go_loopw [9] (fun vi wr => vi = .int .i64 0 ∧ Hid (Below w.heap.size w wr)) (fun _ _ => 0)
   case atStart => exact ⟨rfl, hr.out⟩
   case round =>
    obtain ⟨rfl, hr⟩ := hrel
    generalize wr = w3 at *
    go_wp2
    go_loopw [11] (fun vi wr => vi = .int .i64 0 ∧ Hid (Below w.heap.size w wr)) (fun _ _ => 0)
    case atStart => exact ⟨rfl, hr.out⟩
    case round =>
     obtain ⟨rfl, hr⟩ := hrel
     generalize wr = w4 at *
     go_wp2
     go_loopw [14] (fun vi wr => vi = .int .i64 0 ∧ Hid (Below w.heap.size w wr)) (fun _ _ => 0)
     case atStart => exact ⟨rfl, hr.out⟩
     case round =>
      obtain ⟨rfl, hr⟩ := hrel
      go_wp2
      go_ret
      exact ⟨rfl, hr.out⟩
theorem infoN_Texts : (Tryz.prog.info? 175).map (fun i => (i.zero, i.size, i.bytes)) = some (some (.slice none 0 0), 1, 24) := by kernel_rfl
set_option maxRecDepth 100000 in
set_option maxHeartbeats 1000000 in
theorem flatTexts_nil (w : World) : Calls Tryz.prog 68 #[.slice none 0 0] w fun e w' => e = .returned (.bool true) ∧ Below w.heap.size w w' := by
 have hmk : ∀ W, (Instr.makeSlice 78 (.int .i64 0) (.int .i64 0)).run Tryz.prog W = .ok (.slice (some ⟨W.heap.size, 0, none⟩) 0 0) (W.alloc (.cells (madeCells #[.slice none 0 0] 0) 175)) := run_make_row' (P := Tryz.prog) 78 175 (.slice none 0 0) 24 Tryz.underlying78 infoN_Texts rfl .i64 .i64 0 (by omega) (by omega)
 go_enter Tryz.func68, Tryz.ntmps68
 go_wp2
 go_loopw [3] (fun vi wr => vi = .int .i64 0 ∧ Hid (Below w.heap.size w wr)) (fun _ _ => 0)
 case atStart => exact ⟨rfl, Below.refl _ _⟩
 case round =>
  obtain ⟨rfl, hr⟩ := hrel
  generalize wr = w1 at *
  go_wp2
  go_loopw [6] (fun vi wr => vi = .int .i64 0 ∧ Hid (Below w.heap.size w wr)) (fun _ _ => 0)
  case atStart => exact ⟨rfl, below_alloc hr.out _⟩
  case round =>
   obtain ⟨rfl, hr⟩ := hrel
   generalize wr = w2 at *
   go_wp2
   go_loopw [9] (fun vi wr => vi = .int .i64 0 ∧ Hid (Below w.heap.size w wr)) (fun _ _ => 0)
   case atStart => exact ⟨rfl, hr.out⟩
   case round =>
    obtain ⟨rfl, hr⟩ := hrel
    generalize wr = w3 at *
    go_wp2
    go_loopw [11] (fun vi wr => vi = .int .i64 0 ∧ Hid (Below w.heap.size w wr)) (fun _ _ => 0)
    case atStart => exact ⟨rfl, hr.out⟩
    case round =>
     obtain ⟨rfl, hr⟩ := hrel
     generalize wr = w4 at *
     go_wp2
     go_loopw [14] (fun vi wr => vi = .int .i64 0 ∧ Hid (Below w.heap.size w wr)) (fun _ _ => 0)
     case atStart => exact ⟨rfl, hr.out⟩
     case round =>
      obtain ⟨rfl, hr⟩ := hrel
      go_wp2
      go_ret
      exact ⟨rfl, hr.out⟩
theorem infoN_Bytes : (Tryz.prog.info? 176).map (fun i => (i.zero, i.size, i.bytes)) = some (some (.slice none 0 0), 1, 24) := by kernel_rfl
set_option maxRecDepth 100000 in
set_option maxHeartbeats 1000000 in
theorem flatBytes_nil (w : World) : Calls Tryz.prog 69 #[.slice none 0 0] w fun e w' => e = .returned (.bool true) ∧ Below w.heap.size w w' := by
 have hmk : ∀ W, (Instr.makeSlice 79 (.int .i64 0) (.int .i64 0)).run Tryz.prog W = .ok (.slice (some ⟨W.heap.size, 0, none⟩) 0 0) (W.alloc (.cells (madeCells #[.slice none 0 0] 0) 176)) := run_make_row' (P := Tryz.prog) 79 176 (.slice none 0 0) 24 Tryz.underlying79 infoN_Bytes rfl .i64 .i64 0 (by omega) (by omega)
 go_enter Tryz.func69, Tryz.ntmps69
 go_wp2
 go_loopw [3] (fun vi wr => vi = .int .i64 0 ∧ Hid (Below w.heap.size w wr)) (fun _ _ => 0)
 case atStart => exact ⟨rfl, Below.refl _ _⟩
 case round =>
  obtain ⟨rfl, hr⟩ := hrel
  generalize wr = w1 at *
  go_wp2
  go_loopw [6] (fun vi wr => vi = .int .i64 0 ∧ Hid (Below w.heap.size w wr)) (fun _ _ => 0)
  case atStart => exact ⟨rfl, below_alloc hr.out _⟩
  case round =>
   obtain ⟨rfl, hr⟩ := hrel
   generalize wr = w2 at *
   go_wp2
   go_loopw [9] (fun vi wr => vi = .int .i64 0 ∧ Hid (Below w.heap.size w wr)) (fun _ _ => 0)
   case atStart => exact ⟨rfl, hr.out⟩
   case round =>
    obtain ⟨rfl, hr⟩ := hrel
    generalize wr = w3 at *
    go_wp2
    go_loopw [11] (fun vi wr => vi = .int .i64 0 ∧ Hid (Below w.heap.size w wr)) (fun _ _ => 0)
    case atStart => exact ⟨rfl, hr.out⟩
    case round =>
     obtain ⟨rfl, hr⟩ := hrel
     generalize wr = w4 at *
     go_wp2
     go_loopw [14] (fun vi wr => vi = .int .i64 0 ∧ Hid (Below w.heap.size w wr)) (fun _ _ => 0)
     case atStart => exact ⟨rfl, hr.out⟩
     case round =>
      obtain ⟨rfl, hr⟩ := hrel
      go_wp2
      go_ret
      exact ⟨rfl, hr.out⟩
theorem infoN_Types : (Tryz.prog.info? 24).map (fun i => (i.zero, i.size, i.bytes)) = some (some (.slice none 0 0), 1, 24) := by kernel_rfl
set_option maxRecDepth 100000 in
set_option maxHeartbeats 1000000 in
theorem flatTypes_nil (w : World) : Calls Tryz.prog 70 #[.slice none 0 0] w fun e w' => e = .returned (.bool true) ∧ Below w.heap.size w w' := by
 have hmk : ∀ W, (Instr.makeSlice 80 (.int .i64 0) (.int .i64 0)).run Tryz.prog W = .ok (.slice (some ⟨W.heap.size, 0, none⟩) 0 0) (W.alloc (.cells (madeCells #[.slice none 0 0] 0) 24)) := run_make_row' (P := Tryz.prog) 80 24 (.slice none 0 0) 24 Tryz.underlying80 infoN_Types rfl .i64 .i64 0 (by omega) (by omega)
 go_enter Tryz.func70, Tryz.ntmps70
 go_wp2
 go_loopw [3] (fun vi wr => vi = .int .i64 0 ∧ Hid (Below w.heap.size w wr)) (fun _ _ => 0)
 case atStart => exact ⟨rfl, Below.refl _ _⟩
 case round =>
  obtain ⟨rfl, hr⟩ := hrel
  generalize wr = w1 at *
  go_wp2
  go_loopw [6] (fun vi wr => vi = .int .i64 0 ∧ Hid (Below w.heap.size w wr)) (fun _ _ => 0)
  case atStart => exact ⟨rfl, below_alloc hr.out _⟩
  case round =>
   obtain ⟨rfl, hr⟩ := hrel
   generalize wr = w2 at *
   go_wp2
   go_loopw [9] (fun vi wr => vi = .int .i64 0 ∧ Hid (Below w.heap.size w wr)) (fun _ _ => 0)
   case atStart => exact ⟨rfl, hr.out⟩
   case round =>
    obtain ⟨rfl, hr⟩ := hrel
    generalize wr = w3 at *
    go_wp2
    go_loopw [11] (fun vi wr => vi = .int .i64 0 ∧ Hid (Below w.heap.size w wr)) (fun _ _ => 0)
    case atStart => exact ⟨rfl, hr.out⟩
    case round =>
     obtain ⟨rfl, hr⟩ := hrel
     generalize wr = w4 at *
     go_wp2
     go_loopw [14] (fun vi wr => vi = .int .i64 0 ∧ Hid (Below w.heap.size w wr)) (fun _ _ => 0)
     case atStart => exact ⟨rfl, hr.out⟩
     case round =>
      obtain ⟨rfl, hr⟩ := hrel
      go_wp2
      go_ret
      exact ⟨rfl, hr.out⟩
theorem infoN_Forks : (Tryz.prog.info? 178).map (fun i => (i.zero, i.size, i.bytes)) = some (some (.slice none 0 0), 1, 24) := by kernel_rfl
set_option maxRecDepth 100000 in
set_option maxHeartbeats 1000000 in
theorem flatForks_nil (w : World) : Calls Tryz.prog 72 #[.slice none 0 0] w fun e w' => e = .returned (.bool true) ∧ Below w.heap.size w w' := by
 have hmk : ∀ W, (Instr.makeSlice 81 (.int .i64 0) (.int .i64 0)).run Tryz.prog W = .ok (.slice (some ⟨W.heap.size, 0, none⟩) 0 0) (W.alloc (.cells (madeCells #[.slice none 0 0] 0) 178)) := run_make_row' (P := Tryz.prog) 81 178 (.slice none 0 0) 24 Tryz.underlying81 infoN_Forks rfl .i64 .i64 0 (by omega) (by omega)
 go_enter Tryz.func72, Tryz.ntmps72
 go_wp2
 go_loopw [3] (fun vi wr => vi = .int .i64 0 ∧ Hid (Below w.heap.size w wr)) (fun _ _ => 0)
 case atStart => exact ⟨rfl, Below.refl _ _⟩
 case round =>
  obtain ⟨rfl, hr⟩ := hrel
  generalize wr = w1 at *
  go_wp2
  go_loopw [6] (fun vi wr => vi = .int .i64 0 ∧ Hid (Below w.heap.size w wr)) (fun _ _ => 0)
  case atStart => exact ⟨rfl, below_alloc hr.out _⟩
  case round =>
   obtain ⟨rfl, hr⟩ := hrel
   generalize wr = w2 at *
   go_wp2
   go_loopw [9] (fun vi wr => vi = .int .i64 0 ∧ Hid (Below w.heap.size w wr)) (fun _ _ => 0)
   case atStart => exact ⟨rfl, hr.out⟩
   case round =>
    obtain ⟨rfl, hr⟩ := hrel
    generalize wr = w3 at *
    go_wp2
    go_loopw [11] (fun vi wr => vi = .int .i64 0 ∧ Hid (Below w.heap.size w wr)) (fun _ _ => 0)
    case atStart => exact ⟨rfl, hr.out⟩
    case round =>
     obtain ⟨rfl, hr⟩ := hrel
     generalize wr = w4 at *
     go_wp2
     go_loopw [14] (fun vi wr => vi = .int .i64 0 ∧ Hid (Below w.heap.size w wr)) (fun _ _ => 0)
     case atStart => exact ⟨rfl, hr.out⟩
     case round =>
      obtain ⟨rfl, hr⟩ := hrel
      go_wp2
      go_ret
      exact ⟨rfl, hr.out⟩
theorem infoN_Pairs : (Tryz.prog.info? 180).map (fun i => (i.zero, i.size, i.bytes)) = some (some (.slice none 0 0), 1, 24) := by kernel_rfl
set_option maxRecDepth 100000 in
set_option maxHeartbeats 1000000 in
theorem flatPairs_nil (w : World) : Calls Tryz.prog 73 #[.slice none 0 0] w fun e w' => e = .returned (.bool true) ∧ Below w.heap.size w w' := by
 have hmk : ∀ W, (Instr.makeSlice 82 (.int .i64 0) (.int .i64 0)).run Tryz.prog W = .ok (.slice (some ⟨W.heap.size, 0, none⟩) 0 0) (W.alloc (.cells (madeCells #[.slice none 0 0] 0) 180)) := run_make_row' (P := Tryz.prog) 82 180 (.slice none 0 0) 24 Tryz.underlying82 infoN_Pairs rfl .i64 .i64 0 (by omega) (by omega)
 go_enter Tryz.func73, Tryz.ntmps73
 go_wp2
 go_loopw [3] (fun vi wr => vi = .int .i64 0 ∧ Hid (Below w.heap.size w wr)) (fun _ _ => 0)
 case atStart => exact ⟨rfl, Below.refl _ _⟩
 case round =>
  obtain ⟨rfl, hr⟩ := hrel
  generalize wr = w1 at *
  go_wp2
  go_loopw [6] (fun vi wr => vi = .int .i64 0 ∧ Hid (Below w.heap.size w wr)) (fun _ _ => 0)
  case atStart => exact ⟨rfl, below_alloc hr.out _⟩
  case round =>
   obtain ⟨rfl, hr⟩ := hrel
   generalize wr = w2 at *
   go_wp2
   go_loopw [9] (fun vi wr => vi = .int .i64 0 ∧ Hid (Below w.heap.size w wr)) (fun _ _ => 0)
   case atStart => exact ⟨rfl, hr.out⟩
   case round =>
    obtain ⟨rfl, hr⟩ := hrel
    generalize wr = w3 at *
    go_wp2
    go_loopw [11] (fun vi wr => vi = .int .i64 0 ∧ Hid (Below w.heap.size w wr)) (fun _ _ => 0)
    case atStart => exact ⟨rfl, hr.out⟩
    case round =>
     obtain ⟨rfl, hr⟩ := hrel
     generalize wr = w4 at *
     go_wp2
     go_loopw [14] (fun vi wr => vi = .int .i64 0 ∧ Hid (Below w.heap.size w wr)) (fun _ _ => 0)
     case atStart => exact ⟨rfl, hr.out⟩
     case round =>
      obtain ⟨rfl, hr⟩ := hrel
      go_wp2
      go_ret
      exact ⟨rfl, hr.out⟩
theorem infoN_Tokens : (Tryz.prog.info? 181).map (fun i => (i.zero, i.size, i.bytes)) = some (some (.slice none 0 0), 1, 24) := by kernel_rfl
set_option maxRecDepth 100000 in
set_option maxHeartbeats 1000000 in
theorem flatTokens_nil (w : World) : Calls Tryz.prog 74 #[.slice none 0 0] w fun e w' => e = .returned (.bool true) ∧ Below w.heap.size w w' := by
 have hmk : ∀ W, (Instr.makeSlice 83 (.int .i64 0) (.int .i64 0)).run Tryz.prog W = .ok (.slice (some ⟨W.heap.size, 0, none⟩) 0 0) (W.alloc (.cells (madeCells #[.slice none 0 0] 0) 181)) := run_make_row' (P := Tryz.prog) 83 181 (.slice none 0 0) 24 Tryz.underlying83 infoN_Tokens rfl .i64 .i64 0 (by omega) (by omega)
 go_enter Tryz.func74, Tryz.ntmps74
 go_wp2
 go_loopw [3] (fun vi wr => vi = .int .i64 0 ∧ Hid (Below w.heap.size w wr)) (fun _ _ => 0)
 case atStart => exact ⟨rfl, Below.refl _ _⟩
 case round =>
  obtain ⟨rfl, hr⟩ := hrel
  generalize wr = w1 at *
  go_wp2
  go_loopw [6] (fun vi wr => vi = .int .i64 0 ∧ Hid (Below w.heap.size w wr)) (fun _ _ => 0)
  case atStart => exact ⟨rfl, below_alloc hr.out _⟩
  case round =>
   obtain ⟨rfl, hr⟩ := hrel
   generalize wr = w2 at *
   go_wp2
   go_loopw [9] (fun vi wr => vi = .int .i64 0 ∧ Hid (Below w.heap.size w wr)) (fun _ _ => 0)
   case atStart => exact ⟨rfl, hr.out⟩
   case round =>
    obtain ⟨rfl, hr⟩ := hrel
    generalize wr = w3 at *
    go_wp2
    go_loopw [11] (fun vi wr => vi = .int .i64 0 ∧ Hid (Below w.heap.size w wr)) (fun _ _ => 0)
    case atStart => exact ⟨rfl, hr.out⟩
    case round =>
     obtain ⟨rfl, hr⟩ := hrel
     generalize wr = w4 at *
     go_wp2
     go_loopw [14] (fun vi wr => vi = .int .i64 0 ∧ Hid (Below w.heap.size w wr)) (fun _ _ => 0)
     case atStart => exact ⟨rfl, hr.out⟩
     case round =>
      obtain ⟨rfl, hr⟩ := hrel
      go_wp2
      go_ret
      exact ⟨rfl, hr.out⟩
theorem infoN_Nodes : (Tryz.prog.info? 186).map (fun i => (i.zero, i.size, i.bytes)) = some (some (.slice none 0 0), 1, 24) := by kernel_rfl
set_option maxRecDepth 100000 in
set_option maxHeartbeats 1000000 in
theorem flatNodes_nil (w : World) : Calls Tryz.prog 75 #[.slice none 0 0] w fun e w' => e = .returned (.bool true) ∧ Below w.heap.size w w' := by
 have hmk : ∀ W, (Instr.makeSlice 84 (.int .i64 0) (.int .i64 0)).run Tryz.prog W = .ok (.slice (some ⟨W.heap.size, 0, none⟩) 0 0) (W.alloc (.cells (madeCells #[.slice none 0 0] 0) 186)) := run_make_row' (P := Tryz.prog) 84 186 (.slice none 0 0) 24 Tryz.underlying84 infoN_Nodes rfl .i64 .i64 0 (by omega) (by omega)
 go_enter Tryz.func75, Tryz.ntmps75
 go_wp2
 go_loopw [3] (fun vi wr => vi = .int .i64 0 ∧ Hid (Below w.heap.size w wr)) (fun _ _ => 0)
 case atStart => exact ⟨rfl, Below.refl _ _⟩
 case round =>
  obtain ⟨rfl, hr⟩ := hrel
  generalize wr = w1 at *
  go_wp2
  go_loopw [6] (fun vi wr => vi = .int .i64 0 ∧ Hid (Below w.heap.size w wr)) (fun _ _ => 0)
  case atStart => exact ⟨rfl, below_alloc hr.out _⟩
  case round =>
   obtain ⟨rfl, hr⟩ := hrel
   generalize wr = w2 at *
   go_wp2
   go_loopw [9] (fun vi wr => vi = .int .i64 0 ∧ Hid (Below w.heap.size w wr)) (fun _ _ => 0)
   case atStart => exact ⟨rfl, hr.out⟩
   case round =>
    obtain ⟨rfl, hr⟩ := hrel
    generalize wr = w3 at *
    go_wp2
    go_loopw [11] (fun vi wr => vi = .int .i64 0 ∧ Hid (Below w.heap.size w wr)) (fun _ _ => 0)
    case atStart => exact ⟨rfl, hr.out⟩
    case round =>
     obtain ⟨rfl, hr⟩ := hrel
     generalize wr = w4 at *
     go_wp2
     go_loopw [14] (fun vi wr => vi = .int .i64 0 ∧ Hid (Below w.heap.size w wr)) (fun _ _ => 0)
     case atStart => exact ⟨rfl, hr.out⟩
     case round =>
      obtain ⟨rfl, hr⟩ := hrel
      go_wp2
      go_ret
      exact ⟨rfl, hr.out⟩
end Go.Proofs.YtajaijilfclhpaaGreatDoor
/- Nothing lies in one another where there is nothing. -/
namespace Go.Proofs.YtajaijilfclhpaaGreatDoor
open Go.RowKit

theorem infoN_Params : (Tryz.prog.info? 192).map (fun i => (i.zero, i.size, i.bytes)) = some (some (.slice none 0 0), 1, 24) := by kernel_rfl
set_option maxRecDepth 100000 in
set_option maxHeartbeats 1000000 in
theorem flatParams_nil (w : World) : Calls Tryz.prog 76 #[.slice none 0 0] w fun e w' => e = .returned (.bool true) ∧ Below w.heap.size w w' := by
 have hmk : ∀ W, (Instr.makeSlice 85 (.int .i64 0) (.int .i64 0)).run Tryz.prog W = .ok (.slice (some ⟨W.heap.size, 0, none⟩) 0 0) (W.alloc (.cells (madeCells #[.slice none 0 0] 0) 192)) := run_make_row' (P := Tryz.prog) 85 192 (.slice none 0 0) 24 Tryz.underlying85 infoN_Params rfl .i64 .i64 0 (by omega) (by omega)
 go_enter Tryz.func76, Tryz.ntmps76
 go_wp2
 go_loopw [3] (fun vi wr => vi = .int .i64 0 ∧ Hid (Below w.heap.size w wr)) (fun _ _ => 0)
 case atStart => exact ⟨rfl, Below.refl _ _⟩
 case round =>
  obtain ⟨rfl, hr⟩ := hrel
  generalize wr = w1 at *
  go_wp2
  go_loopw [6] (fun vi wr => vi = .int .i64 0 ∧ Hid (Below w.heap.size w wr)) (fun _ _ => 0)
  case atStart => exact ⟨rfl, below_alloc hr.out _⟩
  case round =>
   obtain ⟨rfl, hr⟩ := hrel
   generalize wr = w2 at *
   go_wp2
   go_loopw [9] (fun vi wr => vi = .int .i64 0 ∧ Hid (Below w.heap.size w wr)) (fun _ _ => 0)
   case atStart => exact ⟨rfl, hr.out⟩
   case round =>
    obtain ⟨rfl, hr⟩ := hrel
    generalize wr = w3 at *
    go_wp2
    go_loopw [11] (fun vi wr => vi = .int .i64 0 ∧ Hid (Below w.heap.size w wr)) (fun _ _ => 0)
    case atStart => exact ⟨rfl, hr.out⟩
    case round =>
     obtain ⟨rfl, hr⟩ := hrel
     generalize wr = w4 at *
     go_wp2
     go_loopw [14] (fun vi wr => vi = .int .i64 0 ∧ Hid (Below w.heap.size w wr)) (fun _ _ => 0)
     case atStart => exact ⟨rfl, hr.out⟩
     case round =>
      obtain ⟨rfl, hr⟩ := hrel
      go_wp2
      go_ret
      exact ⟨rfl, hr.out⟩
theorem infoN_Funcs : (Tryz.prog.info? 196).map (fun i => (i.zero, i.size, i.bytes)) = some (some (.slice none 0 0), 1, 24) := by kernel_rfl
set_option maxRecDepth 100000 in
set_option maxHeartbeats 1000000 in
theorem flatFuncs_nil (w : World) : Calls Tryz.prog 77 #[.slice none 0 0] w fun e w' => e = .returned (.bool true) ∧ Below w.heap.size w w' := by
 have hmk : ∀ W, (Instr.makeSlice 86 (.int .i64 0) (.int .i64 0)).run Tryz.prog W = .ok (.slice (some ⟨W.heap.size, 0, none⟩) 0 0) (W.alloc (.cells (madeCells #[.slice none 0 0] 0) 196)) := run_make_row' (P := Tryz.prog) 86 196 (.slice none 0 0) 24 Tryz.underlying86 infoN_Funcs rfl .i64 .i64 0 (by omega) (by omega)
 go_enter Tryz.func77, Tryz.ntmps77
 go_wp2
 go_loopw [3] (fun vi wr => vi = .int .i64 0 ∧ Hid (Below w.heap.size w wr)) (fun _ _ => 0)
 case atStart => exact ⟨rfl, Below.refl _ _⟩
 case round =>
  obtain ⟨rfl, hr⟩ := hrel
  generalize wr = w1 at *
  go_wp2
  go_loopw [6] (fun vi wr => vi = .int .i64 0 ∧ Hid (Below w.heap.size w wr)) (fun _ _ => 0)
  case atStart => exact ⟨rfl, below_alloc hr.out _⟩
  case round =>
   obtain ⟨rfl, hr⟩ := hrel
   generalize wr = w2 at *
   go_wp2
   go_loopw [9] (fun vi wr => vi = .int .i64 0 ∧ Hid (Below w.heap.size w wr)) (fun _ _ => 0)
   case atStart => exact ⟨rfl, hr.out⟩
   case round =>
    obtain ⟨rfl, hr⟩ := hrel
    generalize wr = w3 at *
    go_wp2
    go_loopw [11] (fun vi wr => vi = .int .i64 0 ∧ Hid (Below w.heap.size w wr)) (fun _ _ => 0)
    case atStart => exact ⟨rfl, hr.out⟩
    case round =>
     obtain ⟨rfl, hr⟩ := hrel
     generalize wr = w4 at *
     go_wp2
     go_loopw [14] (fun vi wr => vi = .int .i64 0 ∧ Hid (Below w.heap.size w wr)) (fun _ _ => 0)
     case atStart => exact ⟨rfl, hr.out⟩
     case round =>
      obtain ⟨rfl, hr⟩ := hrel
      go_wp2
      go_ret
      exact ⟨rfl, hr.out⟩
theorem infoN_Trees : (Tryz.prog.info? 201).map (fun i => (i.zero, i.size, i.bytes)) = some (some (.slice none 0 0), 1, 24) := by kernel_rfl
set_option maxRecDepth 100000 in
set_option maxHeartbeats 1000000 in
theorem flatTrees_nil (w : World) : Calls Tryz.prog 78 #[.slice none 0 0] w fun e w' => e = .returned (.bool true) ∧ Below w.heap.size w w' := by
 have hmk : ∀ W, (Instr.makeSlice 87 (.int .i64 0) (.int .i64 0)).run Tryz.prog W = .ok (.slice (some ⟨W.heap.size, 0, none⟩) 0 0) (W.alloc (.cells (madeCells #[.slice none 0 0] 0) 201)) := run_make_row' (P := Tryz.prog) 87 201 (.slice none 0 0) 24 Tryz.underlying87 infoN_Trees rfl .i64 .i64 0 (by omega) (by omega)
 go_enter Tryz.func78, Tryz.ntmps78
 go_wp2
 go_loopw [3] (fun vi wr => vi = .int .i64 0 ∧ Hid (Below w.heap.size w wr)) (fun _ _ => 0)
 case atStart => exact ⟨rfl, Below.refl _ _⟩
 case round =>
  obtain ⟨rfl, hr⟩ := hrel
  generalize wr = w1 at *
  go_wp2
  go_loopw [6] (fun vi wr => vi = .int .i64 0 ∧ Hid (Below w.heap.size w wr)) (fun _ _ => 0)
  case atStart => exact ⟨rfl, below_alloc hr.out _⟩
  case round =>
   obtain ⟨rfl, hr⟩ := hrel
   generalize wr = w2 at *
   go_wp2
   go_loopw [9] (fun vi wr => vi = .int .i64 0 ∧ Hid (Below w.heap.size w wr)) (fun _ _ => 0)
   case atStart => exact ⟨rfl, hr.out⟩
   case round =>
    obtain ⟨rfl, hr⟩ := hrel
    generalize wr = w3 at *
    go_wp2
    go_loopw [11] (fun vi wr => vi = .int .i64 0 ∧ Hid (Below w.heap.size w wr)) (fun _ _ => 0)
    case atStart => exact ⟨rfl, hr.out⟩
    case round =>
     obtain ⟨rfl, hr⟩ := hrel
     generalize wr = w4 at *
     go_wp2
     go_loopw [14] (fun vi wr => vi = .int .i64 0 ∧ Hid (Below w.heap.size w wr)) (fun _ _ => 0)
     case atStart => exact ⟨rfl, hr.out⟩
     case round =>
      obtain ⟨rfl, hr⟩ := hrel
      go_wp2
      go_ret
      exact ⟨rfl, hr.out⟩
theorem infoN_Locals : (Tryz.prog.info? 206).map (fun i => (i.zero, i.size, i.bytes)) = some (some (.slice none 0 0), 1, 24) := by kernel_rfl
set_option maxRecDepth 100000 in
set_option maxHeartbeats 1000000 in
theorem flatLocals_nil (w : World) : Calls Tryz.prog 79 #[.slice none 0 0] w fun e w' => e = .returned (.bool true) ∧ Below w.heap.size w w' := by
 have hmk : ∀ W, (Instr.makeSlice 88 (.int .i64 0) (.int .i64 0)).run Tryz.prog W = .ok (.slice (some ⟨W.heap.size, 0, none⟩) 0 0) (W.alloc (.cells (madeCells #[.slice none 0 0] 0) 206)) := run_make_row' (P := Tryz.prog) 88 206 (.slice none 0 0) 24 Tryz.underlying88 infoN_Locals rfl .i64 .i64 0 (by omega) (by omega)
 go_enter Tryz.func79, Tryz.ntmps79
 go_wp2
 go_loopw [3] (fun vi wr => vi = .int .i64 0 ∧ Hid (Below w.heap.size w wr)) (fun _ _ => 0)
 case atStart => exact ⟨rfl, Below.refl _ _⟩
 case round =>
  obtain ⟨rfl, hr⟩ := hrel
  generalize wr = w1 at *
  go_wp2
  go_loopw [6] (fun vi wr => vi = .int .i64 0 ∧ Hid (Below w.heap.size w wr)) (fun _ _ => 0)
  case atStart => exact ⟨rfl, below_alloc hr.out _⟩
  case round =>
   obtain ⟨rfl, hr⟩ := hrel
   generalize wr = w2 at *
   go_wp2
   go_loopw [9] (fun vi wr => vi = .int .i64 0 ∧ Hid (Below w.heap.size w wr)) (fun _ _ => 0)
   case atStart => exact ⟨rfl, hr.out⟩
   case round =>
    obtain ⟨rfl, hr⟩ := hrel
    generalize wr = w3 at *
    go_wp2
    go_loopw [11] (fun vi wr => vi = .int .i64 0 ∧ Hid (Below w.heap.size w wr)) (fun _ _ => 0)
    case atStart => exact ⟨rfl, hr.out⟩
    case round =>
     obtain ⟨rfl, hr⟩ := hrel
     generalize wr = w4 at *
     go_wp2
     go_loopw [14] (fun vi wr => vi = .int .i64 0 ∧ Hid (Below w.heap.size w wr)) (fun _ _ => 0)
     case atStart => exact ⟨rfl, hr.out⟩
     case round =>
      obtain ⟨rfl, hr⟩ := hrel
      go_wp2
      go_ret
      exact ⟨rfl, hr.out⟩
theorem infoN_Shows : (Tryz.prog.info? 210).map (fun i => (i.zero, i.size, i.bytes)) = some (some (.slice none 0 0), 1, 24) := by kernel_rfl
set_option maxRecDepth 100000 in
set_option maxHeartbeats 1000000 in
theorem flatShows_nil (w : World) : Calls Tryz.prog 80 #[.slice none 0 0] w fun e w' => e = .returned (.bool true) ∧ Below w.heap.size w w' := by
 have hmk : ∀ W, (Instr.makeSlice 89 (.int .i64 0) (.int .i64 0)).run Tryz.prog W = .ok (.slice (some ⟨W.heap.size, 0, none⟩) 0 0) (W.alloc (.cells (madeCells #[.slice none 0 0] 0) 210)) := run_make_row' (P := Tryz.prog) 89 210 (.slice none 0 0) 24 Tryz.underlying89 infoN_Shows rfl .i64 .i64 0 (by omega) (by omega)
 go_enter Tryz.func80, Tryz.ntmps80
 go_wp2
 go_loopw [3] (fun vi wr => vi = .int .i64 0 ∧ Hid (Below w.heap.size w wr)) (fun _ _ => 0)
 case atStart => exact ⟨rfl, Below.refl _ _⟩
 case round =>
  obtain ⟨rfl, hr⟩ := hrel
  generalize wr = w1 at *
  go_wp2
  go_loopw [6] (fun vi wr => vi = .int .i64 0 ∧ Hid (Below w.heap.size w wr)) (fun _ _ => 0)
  case atStart => exact ⟨rfl, below_alloc hr.out _⟩
  case round =>
   obtain ⟨rfl, hr⟩ := hrel
   generalize wr = w2 at *
   go_wp2
   go_loopw [9] (fun vi wr => vi = .int .i64 0 ∧ Hid (Below w.heap.size w wr)) (fun _ _ => 0)
   case atStart => exact ⟨rfl, hr.out⟩
   case round =>
    obtain ⟨rfl, hr⟩ := hrel
    generalize wr = w3 at *
    go_wp2
    go_loopw [11] (fun vi wr => vi = .int .i64 0 ∧ Hid (Below w.heap.size w wr)) (fun _ _ => 0)
    case atStart => exact ⟨rfl, hr.out⟩
    case round =>
     obtain ⟨rfl, hr⟩ := hrel
     generalize wr = w4 at *
     go_wp2
     go_loopw [14] (fun vi wr => vi = .int .i64 0 ∧ Hid (Below w.heap.size w wr)) (fun _ _ => 0)
     case atStart => exact ⟨rfl, hr.out⟩
     case round =>
      obtain ⟨rfl, hr⟩ := hrel
      go_wp2
      go_ret
      exact ⟨rfl, hr.out⟩
theorem infoN_Traces : (Tryz.prog.info? 214).map (fun i => (i.zero, i.size, i.bytes)) = some (some (.slice none 0 0), 1, 24) := by kernel_rfl
set_option maxRecDepth 100000 in
set_option maxHeartbeats 1000000 in
theorem flatTraces_nil (w : World) : Calls Tryz.prog 81 #[.slice none 0 0] w fun e w' => e = .returned (.bool true) ∧ Below w.heap.size w w' := by
 have hmk : ∀ W, (Instr.makeSlice 90 (.int .i64 0) (.int .i64 0)).run Tryz.prog W = .ok (.slice (some ⟨W.heap.size, 0, none⟩) 0 0) (W.alloc (.cells (madeCells #[.slice none 0 0] 0) 214)) := run_make_row' (P := Tryz.prog) 90 214 (.slice none 0 0) 24 Tryz.underlying90 infoN_Traces rfl .i64 .i64 0 (by omega) (by omega)
 go_enter Tryz.func81, Tryz.ntmps81
 go_wp2
 go_loopw [3] (fun vi wr => vi = .int .i64 0 ∧ Hid (Below w.heap.size w wr)) (fun _ _ => 0)
 case atStart => exact ⟨rfl, Below.refl _ _⟩
 case round =>
  obtain ⟨rfl, hr⟩ := hrel
  generalize wr = w1 at *
  go_wp2
  go_loopw [6] (fun vi wr => vi = .int .i64 0 ∧ Hid (Below w.heap.size w wr)) (fun _ _ => 0)
  case atStart => exact ⟨rfl, below_alloc hr.out _⟩
  case round =>
   obtain ⟨rfl, hr⟩ := hrel
   generalize wr = w2 at *
   go_wp2
   go_loopw [9] (fun vi wr => vi = .int .i64 0 ∧ Hid (Below w.heap.size w wr)) (fun _ _ => 0)
   case atStart => exact ⟨rfl, hr.out⟩
   case round =>
    obtain ⟨rfl, hr⟩ := hrel
    generalize wr = w3 at *
    go_wp2
    go_loopw [11] (fun vi wr => vi = .int .i64 0 ∧ Hid (Below w.heap.size w wr)) (fun _ _ => 0)
    case atStart => exact ⟨rfl, hr.out⟩
    case round =>
     obtain ⟨rfl, hr⟩ := hrel
     generalize wr = w4 at *
     go_wp2
     go_loopw [14] (fun vi wr => vi = .int .i64 0 ∧ Hid (Below w.heap.size w wr)) (fun _ _ => 0)
     case atStart => exact ⟨rfl, hr.out⟩
     case round =>
      obtain ⟨rfl, hr⟩ := hrel
      go_wp2
      go_ret
      exact ⟨rfl, hr.out⟩
theorem infoN_Instructions : (Tryz.prog.info? 56).map (fun i => (i.zero, i.size, i.bytes)) = some (some (.slice none 0 0), 1, 24) := by kernel_rfl
set_option maxRecDepth 100000 in
set_option maxHeartbeats 1000000 in
theorem flatInstructions_nil (w : World) : Calls Tryz.prog 82 #[.slice none 0 0] w fun e w' => e = .returned (.bool true) ∧ Below w.heap.size w w' := by
 have hmk : ∀ W, (Instr.makeSlice 91 (.int .i64 0) (.int .i64 0)).run Tryz.prog W = .ok (.slice (some ⟨W.heap.size, 0, none⟩) 0 0) (W.alloc (.cells (madeCells #[.slice none 0 0] 0) 56)) := run_make_row' (P := Tryz.prog) 91 56 (.slice none 0 0) 24 Tryz.underlying91 infoN_Instructions rfl .i64 .i64 0 (by omega) (by omega)
 go_enter Tryz.func82, Tryz.ntmps82
 go_wp2
 go_loopw [3] (fun vi wr => vi = .int .i64 0 ∧ Hid (Below w.heap.size w wr)) (fun _ _ => 0)
 case atStart => exact ⟨rfl, Below.refl _ _⟩
 case round =>
  obtain ⟨rfl, hr⟩ := hrel
  generalize wr = w1 at *
  go_wp2
  go_loopw [6] (fun vi wr => vi = .int .i64 0 ∧ Hid (Below w.heap.size w wr)) (fun _ _ => 0)
  case atStart => exact ⟨rfl, below_alloc hr.out _⟩
  case round =>
   obtain ⟨rfl, hr⟩ := hrel
   generalize wr = w2 at *
   go_wp2
   go_loopw [9] (fun vi wr => vi = .int .i64 0 ∧ Hid (Below w.heap.size w wr)) (fun _ _ => 0)
   case atStart => exact ⟨rfl, hr.out⟩
   case round =>
    obtain ⟨rfl, hr⟩ := hrel
    generalize wr = w3 at *
    go_wp2
    go_loopw [11] (fun vi wr => vi = .int .i64 0 ∧ Hid (Below w.heap.size w wr)) (fun _ _ => 0)
    case atStart => exact ⟨rfl, hr.out⟩
    case round =>
     obtain ⟨rfl, hr⟩ := hrel
     generalize wr = w4 at *
     go_wp2
     go_loopw [14] (fun vi wr => vi = .int .i64 0 ∧ Hid (Below w.heap.size w wr)) (fun _ _ => 0)
     case atStart => exact ⟨rfl, hr.out⟩
     case round =>
      obtain ⟨rfl, hr⟩ := hrel
      go_wp2
      go_ret
      exact ⟨rfl, hr.out⟩
theorem infoN_Blocks : (Tryz.prog.info? 26).map (fun i => (i.zero, i.size, i.bytes)) = some (some (.slice none 0 0), 1, 24) := by kernel_rfl
set_option maxRecDepth 100000 in
set_option maxHeartbeats 1000000 in
theorem flatBlocks_nil (w : World) : Calls Tryz.prog 83 #[.slice none 0 0] w fun e w' => e = .returned (.bool true) ∧ Below w.heap.size w w' := by
 have hmk : ∀ W, (Instr.makeSlice 92 (.int .i64 0) (.int .i64 0)).run Tryz.prog W = .ok (.slice (some ⟨W.heap.size, 0, none⟩) 0 0) (W.alloc (.cells (madeCells #[.slice none 0 0] 0) 26)) := run_make_row' (P := Tryz.prog) 92 26 (.slice none 0 0) 24 Tryz.underlying92 infoN_Blocks rfl .i64 .i64 0 (by omega) (by omega)
 go_enter Tryz.func83, Tryz.ntmps83
 go_wp2
 go_loopw [3] (fun vi wr => vi = .int .i64 0 ∧ Hid (Below w.heap.size w wr)) (fun _ _ => 0)
 case atStart => exact ⟨rfl, Below.refl _ _⟩
 case round =>
  obtain ⟨rfl, hr⟩ := hrel
  generalize wr = w1 at *
  go_wp2
  go_loopw [6] (fun vi wr => vi = .int .i64 0 ∧ Hid (Below w.heap.size w wr)) (fun _ _ => 0)
  case atStart => exact ⟨rfl, below_alloc hr.out _⟩
  case round =>
   obtain ⟨rfl, hr⟩ := hrel
   generalize wr = w2 at *
   go_wp2
   go_loopw [9] (fun vi wr => vi = .int .i64 0 ∧ Hid (Below w.heap.size w wr)) (fun _ _ => 0)
   case atStart => exact ⟨rfl, hr.out⟩
   case round =>
    obtain ⟨rfl, hr⟩ := hrel
    generalize wr = w3 at *
    go_wp2
    go_loopw [11] (fun vi wr => vi = .int .i64 0 ∧ Hid (Below w.heap.size w wr)) (fun _ _ => 0)
    case atStart => exact ⟨rfl, hr.out⟩
    case round =>
     obtain ⟨rfl, hr⟩ := hrel
     generalize wr = w4 at *
     go_wp2
     go_loopw [14] (fun vi wr => vi = .int .i64 0 ∧ Hid (Below w.heap.size w wr)) (fun _ _ => 0)
     case atStart => exact ⟨rfl, hr.out⟩
     case round =>
      obtain ⟨rfl, hr⟩ := hrel
      go_wp2
      go_ret
      exact ⟨rfl, hr.out⟩
theorem infoN_Arrays : (Tryz.prog.info? 25).map (fun i => (i.zero, i.size, i.bytes)) = some (some (.slice none 0 0), 1, 24) := by kernel_rfl
set_option maxRecDepth 100000 in
set_option maxHeartbeats 1000000 in
theorem flatArrays_nil (w : World) : Calls Tryz.prog 84 #[.slice none 0 0] w fun e w' => e = .returned (.bool true) ∧ Below w.heap.size w w' := by
 have hmk : ∀ W, (Instr.makeSlice 93 (.int .i64 0) (.int .i64 0)).run Tryz.prog W = .ok (.slice (some ⟨W.heap.size, 0, none⟩) 0 0) (W.alloc (.cells (madeCells #[.slice none 0 0] 0) 25)) := run_make_row' (P := Tryz.prog) 93 25 (.slice none 0 0) 24 Tryz.underlying93 infoN_Arrays rfl .i64 .i64 0 (by omega) (by omega)
 go_enter Tryz.func84, Tryz.ntmps84
 go_wp2
 go_loopw [3] (fun vi wr => vi = .int .i64 0 ∧ Hid (Below w.heap.size w wr)) (fun _ _ => 0)
 case atStart => exact ⟨rfl, Below.refl _ _⟩
 case round =>
  obtain ⟨rfl, hr⟩ := hrel
  generalize wr = w1 at *
  go_wp2
  go_loopw [6] (fun vi wr => vi = .int .i64 0 ∧ Hid (Below w.heap.size w wr)) (fun _ _ => 0)
  case atStart => exact ⟨rfl, below_alloc hr.out _⟩
  case round =>
   obtain ⟨rfl, hr⟩ := hrel
   generalize wr = w2 at *
   go_wp2
   go_loopw [9] (fun vi wr => vi = .int .i64 0 ∧ Hid (Below w.heap.size w wr)) (fun _ _ => 0)
   case atStart => exact ⟨rfl, hr.out⟩
   case round =>
    obtain ⟨rfl, hr⟩ := hrel
    generalize wr = w3 at *
    go_wp2
    go_loopw [11] (fun vi wr => vi = .int .i64 0 ∧ Hid (Below w.heap.size w wr)) (fun _ _ => 0)
    case atStart => exact ⟨rfl, hr.out⟩
    case round =>
     obtain ⟨rfl, hr⟩ := hrel
     generalize wr = w4 at *
     go_wp2
     go_loopw [14] (fun vi wr => vi = .int .i64 0 ∧ Hid (Below w.heap.size w wr)) (fun _ _ => 0)
     case atStart => exact ⟨rfl, hr.out⟩
     case round =>
      obtain ⟨rfl, hr⟩ := hrel
      go_wp2
      go_ret
      exact ⟨rfl, hr.out⟩
theorem infoN_Graphs : (Tryz.prog.info? 31).map (fun i => (i.zero, i.size, i.bytes)) = some (some (.slice none 0 0), 1, 24) := by kernel_rfl
set_option maxRecDepth 100000 in
set_option maxHeartbeats 1000000 in
theorem flatGraphs_nil (w : World) : Calls Tryz.prog 85 #[.slice none 0 0] w fun e w' => e = .returned (.bool true) ∧ Below w.heap.size w w' := by
 have hmk : ∀ W, (Instr.makeSlice 47 (.int .i64 0) (.int .i64 0)).run Tryz.prog W = .ok (.slice (some ⟨W.heap.size, 0, none⟩) 0 0) (W.alloc (.cells (madeCells #[.slice none 0 0] 0) 31)) := run_make_row' (P := Tryz.prog) 47 31 (.slice none 0 0) 24 Tryz.underlying47 infoN_Graphs rfl .i64 .i64 0 (by omega) (by omega)
 go_enter Tryz.func85, Tryz.ntmps85
 go_wp2
 go_loopw [3] (fun vi wr => vi = .int .i64 0 ∧ Hid (Below w.heap.size w wr)) (fun _ _ => 0)
 case atStart => exact ⟨rfl, Below.refl _ _⟩
 case round =>
  obtain ⟨rfl, hr⟩ := hrel
  generalize wr = w1 at *
  go_wp2
  go_loopw [6] (fun vi wr => vi = .int .i64 0 ∧ Hid (Below w.heap.size w wr)) (fun _ _ => 0)
  case atStart => exact ⟨rfl, below_alloc hr.out _⟩
  case round =>
   obtain ⟨rfl, hr⟩ := hrel
   generalize wr = w2 at *
   go_wp2
   go_loopw [9] (fun vi wr => vi = .int .i64 0 ∧ Hid (Below w.heap.size w wr)) (fun _ _ => 0)
   case atStart => exact ⟨rfl, hr.out⟩
   case round =>
    obtain ⟨rfl, hr⟩ := hrel
    generalize wr = w3 at *
    go_wp2
    go_loopw [11] (fun vi wr => vi = .int .i64 0 ∧ Hid (Below w.heap.size w wr)) (fun _ _ => 0)
    case atStart => exact ⟨rfl, hr.out⟩
    case round =>
     obtain ⟨rfl, hr⟩ := hrel
     generalize wr = w4 at *
     go_wp2
     go_loopw [14] (fun vi wr => vi = .int .i64 0 ∧ Hid (Below w.heap.size w wr)) (fun _ _ => 0)
     case atStart => exact ⟨rfl, hr.out⟩
     case round =>
      obtain ⟨rfl, hr⟩ := hrel
      go_wp2
      go_ret
      exact ⟨rfl, hr.out⟩
end Go.Proofs.YtajaijilfclhpaaGreatDoor
