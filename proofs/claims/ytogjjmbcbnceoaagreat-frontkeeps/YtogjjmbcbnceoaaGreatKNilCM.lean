/- Nothing lies in one another where there is nothing. -/
import Derived.Test.YtogjjmbcbnceoaaGreatDSameN
namespace Go.Proofs.YtogjjmbcbnceoaaGreat
open Go.RowKit

theorem infoN_Words : (Tryz.prog.info? 138).map (fun i => (i.zero, i.size, i.bytes)) = some (some (.slice none 0 0), 1, 24) := by kernel_rfl
set_option maxRecDepth 100000 in
set_option maxHeartbeats 1000000 in
theorem flatWords_nil (w : World) : Calls Tryz.prog 56 #[.slice none 0 0] w fun e w' => e = .returned (.bool true) ∧ Below w.heap.size w w' := by
  have hmk : ∀ W, (Instr.makeSlice 55 (.int .i64 0) (.int .i64 0)).run Tryz.prog W = .ok (.slice (some ⟨W.heap.size, 0, none⟩) 0 0) (W.alloc (.cells (madeCells #[.slice none 0 0] 0) 138)) := run_make_row' (P := Tryz.prog) 55 138 (.slice none 0 0) 24 Tryz.underlying55 infoN_Words rfl .i64 .i64 0 (by omega) (by omega)
  go_enter Tryz.func56, Tryz.ntmps56
  go_wp2
  go_loopw [3] (fun vi wr => vi = .int .i64 0 ∧ Hid (Below w.heap.size w wr)) (fun _ _ => 0)
  case atStart => exact ⟨rfl, Below.refl _ _⟩
  case round =>
    obtain ⟨rfl, hr⟩ := hrel
    generalize wr = w1 at *
    go_wp2
    go_loopw [6] (fun vi wr => vi = .int .i64 0 ∧ Hid (Below w.heap.size w wr)) (fun _ _ => 0)
    case atStart => exact ⟨rfl, below_alloc hr.out _⟩
    case round =>
      obtain ⟨rfl, hr⟩ := hrel
      generalize wr = w2 at *
      go_wp2
      go_loopw [9] (fun vi wr => vi = .int .i64 0 ∧ Hid (Below w.heap.size w wr)) (fun _ _ => 0)
      case atStart => exact ⟨rfl, hr.out⟩
      case round =>
        obtain ⟨rfl, hr⟩ := hrel
        generalize wr = w3 at *
        go_wp2
        go_loopw [11] (fun vi wr => vi = .int .i64 0 ∧ Hid (Below w.heap.size w wr)) (fun _ _ => 0)
        case atStart => exact ⟨rfl, hr.out⟩
        case round =>
          obtain ⟨rfl, hr⟩ := hrel
          generalize wr = w4 at *
          go_wp2
          go_loopw [14] (fun vi wr => vi = .int .i64 0 ∧ Hid (Below w.heap.size w wr)) (fun _ _ => 0)
          case atStart => exact ⟨rfl, hr.out⟩
          case round =>
            obtain ⟨rfl, hr⟩ := hrel
            go_wp2
            go_ret
            exact ⟨rfl, hr.out⟩
theorem infoN_Longs : (Tryz.prog.info? 139).map (fun i => (i.zero, i.size, i.bytes)) = some (some (.slice none 0 0), 1, 24) := by kernel_rfl
set_option maxRecDepth 100000 in
set_option maxHeartbeats 1000000 in
theorem flatLongs_nil (w : World) : Calls Tryz.prog 58 #[.slice none 0 0] w fun e w' => e = .returned (.bool true) ∧ Below w.heap.size w w' := by
  have hmk : ∀ W, (Instr.makeSlice 56 (.int .i64 0) (.int .i64 0)).run Tryz.prog W = .ok (.slice (some ⟨W.heap.size, 0, none⟩) 0 0) (W.alloc (.cells (madeCells #[.slice none 0 0] 0) 139)) := run_make_row' (P := Tryz.prog) 56 139 (.slice none 0 0) 24 Tryz.underlying56 infoN_Longs rfl .i64 .i64 0 (by omega) (by omega)
  go_enter Tryz.func58, Tryz.ntmps58
  go_wp2
  go_loopw [3] (fun vi wr => vi = .int .i64 0 ∧ Hid (Below w.heap.size w wr)) (fun _ _ => 0)
  case atStart => exact ⟨rfl, Below.refl _ _⟩
  case round =>
    obtain ⟨rfl, hr⟩ := hrel
    generalize wr = w1 at *
    go_wp2
    go_loopw [6] (fun vi wr => vi = .int .i64 0 ∧ Hid (Below w.heap.size w wr)) (fun _ _ => 0)
    case atStart => exact ⟨rfl, below_alloc hr.out _⟩
    case round =>
      obtain ⟨rfl, hr⟩ := hrel
      generalize wr = w2 at *
      go_wp2
      go_loopw [9] (fun vi wr => vi = .int .i64 0 ∧ Hid (Below w.heap.size w wr)) (fun _ _ => 0)
      case atStart => exact ⟨rfl, hr.out⟩
      case round =>
        obtain ⟨rfl, hr⟩ := hrel
        generalize wr = w3 at *
        go_wp2
        go_loopw [11] (fun vi wr => vi = .int .i64 0 ∧ Hid (Below w.heap.size w wr)) (fun _ _ => 0)
        case atStart => exact ⟨rfl, hr.out⟩
        case round =>
          obtain ⟨rfl, hr⟩ := hrel
          generalize wr = w4 at *
          go_wp2
          go_loopw [14] (fun vi wr => vi = .int .i64 0 ∧ Hid (Below w.heap.size w wr)) (fun _ _ => 0)
          case atStart => exact ⟨rfl, hr.out⟩
          case round =>
            obtain ⟨rfl, hr⟩ := hrel
            go_wp2
            go_ret
            exact ⟨rfl, hr.out⟩
theorem infoN_Texts : (Tryz.prog.info? 140).map (fun i => (i.zero, i.size, i.bytes)) = some (some (.slice none 0 0), 1, 24) := by kernel_rfl
set_option maxRecDepth 100000 in
set_option maxHeartbeats 1000000 in
theorem flatTexts_nil (w : World) : Calls Tryz.prog 59 #[.slice none 0 0] w fun e w' => e = .returned (.bool true) ∧ Below w.heap.size w w' := by
  have hmk : ∀ W, (Instr.makeSlice 57 (.int .i64 0) (.int .i64 0)).run Tryz.prog W = .ok (.slice (some ⟨W.heap.size, 0, none⟩) 0 0) (W.alloc (.cells (madeCells #[.slice none 0 0] 0) 140)) := run_make_row' (P := Tryz.prog) 57 140 (.slice none 0 0) 24 Tryz.underlying57 infoN_Texts rfl .i64 .i64 0 (by omega) (by omega)
  go_enter Tryz.func59, Tryz.ntmps59
  go_wp2
  go_loopw [3] (fun vi wr => vi = .int .i64 0 ∧ Hid (Below w.heap.size w wr)) (fun _ _ => 0)
  case atStart => exact ⟨rfl, Below.refl _ _⟩
  case round =>
    obtain ⟨rfl, hr⟩ := hrel
    generalize wr = w1 at *
    go_wp2
    go_loopw [6] (fun vi wr => vi = .int .i64 0 ∧ Hid (Below w.heap.size w wr)) (fun _ _ => 0)
    case atStart => exact ⟨rfl, below_alloc hr.out _⟩
    case round =>
      obtain ⟨rfl, hr⟩ := hrel
      generalize wr = w2 at *
      go_wp2
      go_loopw [9] (fun vi wr => vi = .int .i64 0 ∧ Hid (Below w.heap.size w wr)) (fun _ _ => 0)
      case atStart => exact ⟨rfl, hr.out⟩
      case round =>
        obtain ⟨rfl, hr⟩ := hrel
        generalize wr = w3 at *
        go_wp2
        go_loopw [11] (fun vi wr => vi = .int .i64 0 ∧ Hid (Below w.heap.size w wr)) (fun _ _ => 0)
        case atStart => exact ⟨rfl, hr.out⟩
        case round =>
          obtain ⟨rfl, hr⟩ := hrel
          generalize wr = w4 at *
          go_wp2
          go_loopw [14] (fun vi wr => vi = .int .i64 0 ∧ Hid (Below w.heap.size w wr)) (fun _ _ => 0)
          case atStart => exact ⟨rfl, hr.out⟩
          case round =>
            obtain ⟨rfl, hr⟩ := hrel
            go_wp2
            go_ret
            exact ⟨rfl, hr.out⟩
theorem infoN_Bytes : (Tryz.prog.info? 142).map (fun i => (i.zero, i.size, i.bytes)) = some (some (.slice none 0 0), 1, 24) := by kernel_rfl
set_option maxRecDepth 100000 in
set_option maxHeartbeats 1000000 in
theorem flatBytes_nil (w : World) : Calls Tryz.prog 60 #[.slice none 0 0] w fun e w' => e = .returned (.bool true) ∧ Below w.heap.size w w' := by
  have hmk : ∀ W, (Instr.makeSlice 58 (.int .i64 0) (.int .i64 0)).run Tryz.prog W = .ok (.slice (some ⟨W.heap.size, 0, none⟩) 0 0) (W.alloc (.cells (madeCells #[.slice none 0 0] 0) 142)) := run_make_row' (P := Tryz.prog) 58 142 (.slice none 0 0) 24 Tryz.underlying58 infoN_Bytes rfl .i64 .i64 0 (by omega) (by omega)
  go_enter Tryz.func60, Tryz.ntmps60
  go_wp2
  go_loopw [3] (fun vi wr => vi = .int .i64 0 ∧ Hid (Below w.heap.size w wr)) (fun _ _ => 0)
  case atStart => exact ⟨rfl, Below.refl _ _⟩
  case round =>
    obtain ⟨rfl, hr⟩ := hrel
    generalize wr = w1 at *
    go_wp2
    go_loopw [6] (fun vi wr => vi = .int .i64 0 ∧ Hid (Below w.heap.size w wr)) (fun _ _ => 0)
    case atStart => exact ⟨rfl, below_alloc hr.out _⟩
    case round =>
      obtain ⟨rfl, hr⟩ := hrel
      generalize wr = w2 at *
      go_wp2
      go_loopw [9] (fun vi wr => vi = .int .i64 0 ∧ Hid (Below w.heap.size w wr)) (fun _ _ => 0)
      case atStart => exact ⟨rfl, hr.out⟩
      case round =>
        obtain ⟨rfl, hr⟩ := hrel
        generalize wr = w3 at *
        go_wp2
        go_loopw [11] (fun vi wr => vi = .int .i64 0 ∧ Hid (Below w.heap.size w wr)) (fun _ _ => 0)
        case atStart => exact ⟨rfl, hr.out⟩
        case round =>
          obtain ⟨rfl, hr⟩ := hrel
          generalize wr = w4 at *
          go_wp2
          go_loopw [14] (fun vi wr => vi = .int .i64 0 ∧ Hid (Below w.heap.size w wr)) (fun _ _ => 0)
          case atStart => exact ⟨rfl, hr.out⟩
          case round =>
            obtain ⟨rfl, hr⟩ := hrel
            go_wp2
            go_ret
            exact ⟨rfl, hr.out⟩
theorem infoN_Types : (Tryz.prog.info? 144).map (fun i => (i.zero, i.size, i.bytes)) = some (some (.slice none 0 0), 1, 24) := by kernel_rfl
set_option maxRecDepth 100000 in
set_option maxHeartbeats 1000000 in
theorem flatTypes_nil (w : World) : Calls Tryz.prog 61 #[.slice none 0 0] w fun e w' => e = .returned (.bool true) ∧ Below w.heap.size w w' := by
  have hmk : ∀ W, (Instr.makeSlice 59 (.int .i64 0) (.int .i64 0)).run Tryz.prog W = .ok (.slice (some ⟨W.heap.size, 0, none⟩) 0 0) (W.alloc (.cells (madeCells #[.slice none 0 0] 0) 144)) := run_make_row' (P := Tryz.prog) 59 144 (.slice none 0 0) 24 Tryz.underlying59 infoN_Types rfl .i64 .i64 0 (by omega) (by omega)
  go_enter Tryz.func61, Tryz.ntmps61
  go_wp2
  go_loopw [3] (fun vi wr => vi = .int .i64 0 ∧ Hid (Below w.heap.size w wr)) (fun _ _ => 0)
  case atStart => exact ⟨rfl, Below.refl _ _⟩
  case round =>
    obtain ⟨rfl, hr⟩ := hrel
    generalize wr = w1 at *
    go_wp2
    go_loopw [6] (fun vi wr => vi = .int .i64 0 ∧ Hid (Below w.heap.size w wr)) (fun _ _ => 0)
    case atStart => exact ⟨rfl, below_alloc hr.out _⟩
    case round =>
      obtain ⟨rfl, hr⟩ := hrel
      generalize wr = w2 at *
      go_wp2
      go_loopw [9] (fun vi wr => vi = .int .i64 0 ∧ Hid (Below w.heap.size w wr)) (fun _ _ => 0)
      case atStart => exact ⟨rfl, hr.out⟩
      case round =>
        obtain ⟨rfl, hr⟩ := hrel
        generalize wr = w3 at *
        go_wp2
        go_loopw [11] (fun vi wr => vi = .int .i64 0 ∧ Hid (Below w.heap.size w wr)) (fun _ _ => 0)
        case atStart => exact ⟨rfl, hr.out⟩
        case round =>
          obtain ⟨rfl, hr⟩ := hrel
          generalize wr = w4 at *
          go_wp2
          go_loopw [14] (fun vi wr => vi = .int .i64 0 ∧ Hid (Below w.heap.size w wr)) (fun _ _ => 0)
          case atStart => exact ⟨rfl, hr.out⟩
          case round =>
            obtain ⟨rfl, hr⟩ := hrel
            go_wp2
            go_ret
            exact ⟨rfl, hr.out⟩
theorem infoN_Truths : (Tryz.prog.info? 53).map (fun i => (i.zero, i.size, i.bytes)) = some (some (.slice none 0 0), 1, 24) := by kernel_rfl
set_option maxRecDepth 100000 in
set_option maxHeartbeats 1000000 in
theorem flatTruths_nil (w : World) : Calls Tryz.prog 62 #[.slice none 0 0] w fun e w' => e = .returned (.bool true) ∧ Below w.heap.size w w' := by
  have hmk : ∀ W, (Instr.makeSlice 51 (.int .i64 0) (.int .i64 0)).run Tryz.prog W = .ok (.slice (some ⟨W.heap.size, 0, none⟩) 0 0) (W.alloc (.cells (madeCells #[.slice none 0 0] 0) 53)) := run_make_row' (P := Tryz.prog) 51 53 (.slice none 0 0) 24 Tryz.underlying51 infoN_Truths rfl .i64 .i64 0 (by omega) (by omega)
  go_enter Tryz.func62, Tryz.ntmps62
  go_wp2
  go_loopw [3] (fun vi wr => vi = .int .i64 0 ∧ Hid (Below w.heap.size w wr)) (fun _ _ => 0)
  case atStart => exact ⟨rfl, Below.refl _ _⟩
  case round =>
    obtain ⟨rfl, hr⟩ := hrel
    generalize wr = w1 at *
    go_wp2
    go_loopw [6] (fun vi wr => vi = .int .i64 0 ∧ Hid (Below w.heap.size w wr)) (fun _ _ => 0)
    case atStart => exact ⟨rfl, below_alloc hr.out _⟩
    case round =>
      obtain ⟨rfl, hr⟩ := hrel
      generalize wr = w2 at *
      go_wp2
      go_loopw [9] (fun vi wr => vi = .int .i64 0 ∧ Hid (Below w.heap.size w wr)) (fun _ _ => 0)
      case atStart => exact ⟨rfl, hr.out⟩
      case round =>
        obtain ⟨rfl, hr⟩ := hrel
        generalize wr = w3 at *
        go_wp2
        go_loopw [11] (fun vi wr => vi = .int .i64 0 ∧ Hid (Below w.heap.size w wr)) (fun _ _ => 0)
        case atStart => exact ⟨rfl, hr.out⟩
        case round =>
          obtain ⟨rfl, hr⟩ := hrel
          generalize wr = w4 at *
          go_wp2
          go_loopw [14] (fun vi wr => vi = .int .i64 0 ∧ Hid (Below w.heap.size w wr)) (fun _ _ => 0)
          case atStart => exact ⟨rfl, hr.out⟩
          case round =>
            obtain ⟨rfl, hr⟩ := hrel
            go_wp2
            go_ret
            exact ⟨rfl, hr.out⟩
theorem infoN_Forks : (Tryz.prog.info? 146).map (fun i => (i.zero, i.size, i.bytes)) = some (some (.slice none 0 0), 1, 24) := by kernel_rfl
set_option maxRecDepth 100000 in
set_option maxHeartbeats 1000000 in
theorem flatForks_nil (w : World) : Calls Tryz.prog 63 #[.slice none 0 0] w fun e w' => e = .returned (.bool true) ∧ Below w.heap.size w w' := by
  have hmk : ∀ W, (Instr.makeSlice 60 (.int .i64 0) (.int .i64 0)).run Tryz.prog W = .ok (.slice (some ⟨W.heap.size, 0, none⟩) 0 0) (W.alloc (.cells (madeCells #[.slice none 0 0] 0) 146)) := run_make_row' (P := Tryz.prog) 60 146 (.slice none 0 0) 24 Tryz.underlying60 infoN_Forks rfl .i64 .i64 0 (by omega) (by omega)
  go_enter Tryz.func63, Tryz.ntmps63
  go_wp2
  go_loopw [3] (fun vi wr => vi = .int .i64 0 ∧ Hid (Below w.heap.size w wr)) (fun _ _ => 0)
  case atStart => exact ⟨rfl, Below.refl _ _⟩
  case round =>
    obtain ⟨rfl, hr⟩ := hrel
    generalize wr = w1 at *
    go_wp2
    go_loopw [6] (fun vi wr => vi = .int .i64 0 ∧ Hid (Below w.heap.size w wr)) (fun _ _ => 0)
    case atStart => exact ⟨rfl, below_alloc hr.out _⟩
    case round =>
      obtain ⟨rfl, hr⟩ := hrel
      generalize wr = w2 at *
      go_wp2
      go_loopw [9] (fun vi wr => vi = .int .i64 0 ∧ Hid (Below w.heap.size w wr)) (fun _ _ => 0)
      case atStart => exact ⟨rfl, hr.out⟩
      case round =>
        obtain ⟨rfl, hr⟩ := hrel
        generalize wr = w3 at *
        go_wp2
        go_loopw [11] (fun vi wr => vi = .int .i64 0 ∧ Hid (Below w.heap.size w wr)) (fun _ _ => 0)
        case atStart => exact ⟨rfl, hr.out⟩
        case round =>
          obtain ⟨rfl, hr⟩ := hrel
          generalize wr = w4 at *
          go_wp2
          go_loopw [14] (fun vi wr => vi = .int .i64 0 ∧ Hid (Below w.heap.size w wr)) (fun _ _ => 0)
          case atStart => exact ⟨rfl, hr.out⟩
          case round =>
            obtain ⟨rfl, hr⟩ := hrel
            go_wp2
            go_ret
            exact ⟨rfl, hr.out⟩
theorem infoN_Pairs : (Tryz.prog.info? 148).map (fun i => (i.zero, i.size, i.bytes)) = some (some (.slice none 0 0), 1, 24) := by kernel_rfl
set_option maxRecDepth 100000 in
set_option maxHeartbeats 1000000 in
theorem flatPairs_nil (w : World) : Calls Tryz.prog 64 #[.slice none 0 0] w fun e w' => e = .returned (.bool true) ∧ Below w.heap.size w w' := by
  have hmk : ∀ W, (Instr.makeSlice 61 (.int .i64 0) (.int .i64 0)).run Tryz.prog W = .ok (.slice (some ⟨W.heap.size, 0, none⟩) 0 0) (W.alloc (.cells (madeCells #[.slice none 0 0] 0) 148)) := run_make_row' (P := Tryz.prog) 61 148 (.slice none 0 0) 24 Tryz.underlying61 infoN_Pairs rfl .i64 .i64 0 (by omega) (by omega)
  go_enter Tryz.func64, Tryz.ntmps64
  go_wp2
  go_loopw [3] (fun vi wr => vi = .int .i64 0 ∧ Hid (Below w.heap.size w wr)) (fun _ _ => 0)
  case atStart => exact ⟨rfl, Below.refl _ _⟩
  case round =>
    obtain ⟨rfl, hr⟩ := hrel
    generalize wr = w1 at *
    go_wp2
    go_loopw [6] (fun vi wr => vi = .int .i64 0 ∧ Hid (Below w.heap.size w wr)) (fun _ _ => 0)
    case atStart => exact ⟨rfl, below_alloc hr.out _⟩
    case round =>
      obtain ⟨rfl, hr⟩ := hrel
      generalize wr = w2 at *
      go_wp2
      go_loopw [9] (fun vi wr => vi = .int .i64 0 ∧ Hid (Below w.heap.size w wr)) (fun _ _ => 0)
      case atStart => exact ⟨rfl, hr.out⟩
      case round =>
        obtain ⟨rfl, hr⟩ := hrel
        generalize wr = w3 at *
        go_wp2
        go_loopw [11] (fun vi wr => vi = .int .i64 0 ∧ Hid (Below w.heap.size w wr)) (fun _ _ => 0)
        case atStart => exact ⟨rfl, hr.out⟩
        case round =>
          obtain ⟨rfl, hr⟩ := hrel
          generalize wr = w4 at *
          go_wp2
          go_loopw [14] (fun vi wr => vi = .int .i64 0 ∧ Hid (Below w.heap.size w wr)) (fun _ _ => 0)
          case atStart => exact ⟨rfl, hr.out⟩
          case round =>
            obtain ⟨rfl, hr⟩ := hrel
            go_wp2
            go_ret
            exact ⟨rfl, hr.out⟩
theorem infoN_Tokens : (Tryz.prog.info? 150).map (fun i => (i.zero, i.size, i.bytes)) = some (some (.slice none 0 0), 1, 24) := by kernel_rfl
set_option maxRecDepth 100000 in
set_option maxHeartbeats 1000000 in
theorem flatTokens_nil (w : World) : Calls Tryz.prog 65 #[.slice none 0 0] w fun e w' => e = .returned (.bool true) ∧ Below w.heap.size w w' := by
  have hmk : ∀ W, (Instr.makeSlice 62 (.int .i64 0) (.int .i64 0)).run Tryz.prog W = .ok (.slice (some ⟨W.heap.size, 0, none⟩) 0 0) (W.alloc (.cells (madeCells #[.slice none 0 0] 0) 150)) := run_make_row' (P := Tryz.prog) 62 150 (.slice none 0 0) 24 Tryz.underlying62 infoN_Tokens rfl .i64 .i64 0 (by omega) (by omega)
  go_enter Tryz.func65, Tryz.ntmps65
  go_wp2
  go_loopw [3] (fun vi wr => vi = .int .i64 0 ∧ Hid (Below w.heap.size w wr)) (fun _ _ => 0)
  case atStart => exact ⟨rfl, Below.refl _ _⟩
  case round =>
    obtain ⟨rfl, hr⟩ := hrel
    generalize wr = w1 at *
    go_wp2
    go_loopw [6] (fun vi wr => vi = .int .i64 0 ∧ Hid (Below w.heap.size w wr)) (fun _ _ => 0)
    case atStart => exact ⟨rfl, below_alloc hr.out _⟩
    case round =>
      obtain ⟨rfl, hr⟩ := hrel
      generalize wr = w2 at *
      go_wp2
      go_loopw [9] (fun vi wr => vi = .int .i64 0 ∧ Hid (Below w.heap.size w wr)) (fun _ _ => 0)
      case atStart => exact ⟨rfl, hr.out⟩
      case round =>
        obtain ⟨rfl, hr⟩ := hrel
        generalize wr = w3 at *
        go_wp2
        go_loopw [11] (fun vi wr => vi = .int .i64 0 ∧ Hid (Below w.heap.size w wr)) (fun _ _ => 0)
        case atStart => exact ⟨rfl, hr.out⟩
        case round =>
          obtain ⟨rfl, hr⟩ := hrel
          generalize wr = w4 at *
          go_wp2
          go_loopw [14] (fun vi wr => vi = .int .i64 0 ∧ Hid (Below w.heap.size w wr)) (fun _ _ => 0)
          case atStart => exact ⟨rfl, hr.out⟩
          case round =>
            obtain ⟨rfl, hr⟩ := hrel
            go_wp2
            go_ret
            exact ⟨rfl, hr.out⟩
end Go.Proofs.YtogjjmbcbnceoaaGreat
/- Nothing lies in one another where there is nothing. -/
namespace Go.Proofs.YtogjjmbcbnceoaaGreat
open Go.RowKit

theorem infoN_Nodes : (Tryz.prog.info? 155).map (fun i => (i.zero, i.size, i.bytes)) = some (some (.slice none 0 0), 1, 24) := by kernel_rfl
set_option maxRecDepth 100000 in
set_option maxHeartbeats 1000000 in
theorem flatNodes_nil (w : World) : Calls Tryz.prog 66 #[.slice none 0 0] w fun e w' => e = .returned (.bool true) ∧ Below w.heap.size w w' := by
  have hmk : ∀ W, (Instr.makeSlice 63 (.int .i64 0) (.int .i64 0)).run Tryz.prog W = .ok (.slice (some ⟨W.heap.size, 0, none⟩) 0 0) (W.alloc (.cells (madeCells #[.slice none 0 0] 0) 155)) := run_make_row' (P := Tryz.prog) 63 155 (.slice none 0 0) 24 Tryz.underlying63 infoN_Nodes rfl .i64 .i64 0 (by omega) (by omega)
  go_enter Tryz.func66, Tryz.ntmps66
  go_wp2
  go_loopw [3] (fun vi wr => vi = .int .i64 0 ∧ Hid (Below w.heap.size w wr)) (fun _ _ => 0)
  case atStart => exact ⟨rfl, Below.refl _ _⟩
  case round =>
    obtain ⟨rfl, hr⟩ := hrel
    generalize wr = w1 at *
    go_wp2
    go_loopw [6] (fun vi wr => vi = .int .i64 0 ∧ Hid (Below w.heap.size w wr)) (fun _ _ => 0)
    case atStart => exact ⟨rfl, below_alloc hr.out _⟩
    case round =>
      obtain ⟨rfl, hr⟩ := hrel
      generalize wr = w2 at *
      go_wp2
      go_loopw [9] (fun vi wr => vi = .int .i64 0 ∧ Hid (Below w.heap.size w wr)) (fun _ _ => 0)
      case atStart => exact ⟨rfl, hr.out⟩
      case round =>
        obtain ⟨rfl, hr⟩ := hrel
        generalize wr = w3 at *
        go_wp2
        go_loopw [11] (fun vi wr => vi = .int .i64 0 ∧ Hid (Below w.heap.size w wr)) (fun _ _ => 0)
        case atStart => exact ⟨rfl, hr.out⟩
        case round =>
          obtain ⟨rfl, hr⟩ := hrel
          generalize wr = w4 at *
          go_wp2
          go_loopw [14] (fun vi wr => vi = .int .i64 0 ∧ Hid (Below w.heap.size w wr)) (fun _ _ => 0)
          case atStart => exact ⟨rfl, hr.out⟩
          case round =>
            obtain ⟨rfl, hr⟩ := hrel
            go_wp2
            go_ret
            exact ⟨rfl, hr.out⟩
theorem infoN_Params : (Tryz.prog.info? 162).map (fun i => (i.zero, i.size, i.bytes)) = some (some (.slice none 0 0), 1, 24) := by kernel_rfl
set_option maxRecDepth 100000 in
set_option maxHeartbeats 1000000 in
theorem flatParams_nil (w : World) : Calls Tryz.prog 67 #[.slice none 0 0] w fun e w' => e = .returned (.bool true) ∧ Below w.heap.size w w' := by
  have hmk : ∀ W, (Instr.makeSlice 64 (.int .i64 0) (.int .i64 0)).run Tryz.prog W = .ok (.slice (some ⟨W.heap.size, 0, none⟩) 0 0) (W.alloc (.cells (madeCells #[.slice none 0 0] 0) 162)) := run_make_row' (P := Tryz.prog) 64 162 (.slice none 0 0) 24 Tryz.underlying64 infoN_Params rfl .i64 .i64 0 (by omega) (by omega)
  go_enter Tryz.func67, Tryz.ntmps67
  go_wp2
  go_loopw [3] (fun vi wr => vi = .int .i64 0 ∧ Hid (Below w.heap.size w wr)) (fun _ _ => 0)
  case atStart => exact ⟨rfl, Below.refl _ _⟩
  case round =>
    obtain ⟨rfl, hr⟩ := hrel
    generalize wr = w1 at *
    go_wp2
    go_loopw [6] (fun vi wr => vi = .int .i64 0 ∧ Hid (Below w.heap.size w wr)) (fun _ _ => 0)
    case atStart => exact ⟨rfl, below_alloc hr.out _⟩
    case round =>
      obtain ⟨rfl, hr⟩ := hrel
      generalize wr = w2 at *
      go_wp2
      go_loopw [9] (fun vi wr => vi = .int .i64 0 ∧ Hid (Below w.heap.size w wr)) (fun _ _ => 0)
      case atStart => exact ⟨rfl, hr.out⟩
      case round =>
        obtain ⟨rfl, hr⟩ := hrel
        generalize wr = w3 at *
        go_wp2
        go_loopw [11] (fun vi wr => vi = .int .i64 0 ∧ Hid (Below w.heap.size w wr)) (fun _ _ => 0)
        case atStart => exact ⟨rfl, hr.out⟩
        case round =>
          obtain ⟨rfl, hr⟩ := hrel
          generalize wr = w4 at *
          go_wp2
          go_loopw [14] (fun vi wr => vi = .int .i64 0 ∧ Hid (Below w.heap.size w wr)) (fun _ _ => 0)
          case atStart => exact ⟨rfl, hr.out⟩
          case round =>
            obtain ⟨rfl, hr⟩ := hrel
            go_wp2
            go_ret
            exact ⟨rfl, hr.out⟩
theorem infoN_Funcs : (Tryz.prog.info? 166).map (fun i => (i.zero, i.size, i.bytes)) = some (some (.slice none 0 0), 1, 24) := by kernel_rfl
set_option maxRecDepth 100000 in
set_option maxHeartbeats 1000000 in
theorem flatFuncs_nil (w : World) : Calls Tryz.prog 68 #[.slice none 0 0] w fun e w' => e = .returned (.bool true) ∧ Below w.heap.size w w' := by
  have hmk : ∀ W, (Instr.makeSlice 65 (.int .i64 0) (.int .i64 0)).run Tryz.prog W = .ok (.slice (some ⟨W.heap.size, 0, none⟩) 0 0) (W.alloc (.cells (madeCells #[.slice none 0 0] 0) 166)) := run_make_row' (P := Tryz.prog) 65 166 (.slice none 0 0) 24 Tryz.underlying65 infoN_Funcs rfl .i64 .i64 0 (by omega) (by omega)
  go_enter Tryz.func68, Tryz.ntmps68
  go_wp2
  go_loopw [3] (fun vi wr => vi = .int .i64 0 ∧ Hid (Below w.heap.size w wr)) (fun _ _ => 0)
  case atStart => exact ⟨rfl, Below.refl _ _⟩
  case round =>
    obtain ⟨rfl, hr⟩ := hrel
    generalize wr = w1 at *
    go_wp2
    go_loopw [6] (fun vi wr => vi = .int .i64 0 ∧ Hid (Below w.heap.size w wr)) (fun _ _ => 0)
    case atStart => exact ⟨rfl, below_alloc hr.out _⟩
    case round =>
      obtain ⟨rfl, hr⟩ := hrel
      generalize wr = w2 at *
      go_wp2
      go_loopw [9] (fun vi wr => vi = .int .i64 0 ∧ Hid (Below w.heap.size w wr)) (fun _ _ => 0)
      case atStart => exact ⟨rfl, hr.out⟩
      case round =>
        obtain ⟨rfl, hr⟩ := hrel
        generalize wr = w3 at *
        go_wp2
        go_loopw [11] (fun vi wr => vi = .int .i64 0 ∧ Hid (Below w.heap.size w wr)) (fun _ _ => 0)
        case atStart => exact ⟨rfl, hr.out⟩
        case round =>
          obtain ⟨rfl, hr⟩ := hrel
          generalize wr = w4 at *
          go_wp2
          go_loopw [14] (fun vi wr => vi = .int .i64 0 ∧ Hid (Below w.heap.size w wr)) (fun _ _ => 0)
          case atStart => exact ⟨rfl, hr.out⟩
          case round =>
            obtain ⟨rfl, hr⟩ := hrel
            go_wp2
            go_ret
            exact ⟨rfl, hr.out⟩
theorem infoN_Trees : (Tryz.prog.info? 171).map (fun i => (i.zero, i.size, i.bytes)) = some (some (.slice none 0 0), 1, 24) := by kernel_rfl
set_option maxRecDepth 100000 in
set_option maxHeartbeats 1000000 in
theorem flatTrees_nil (w : World) : Calls Tryz.prog 69 #[.slice none 0 0] w fun e w' => e = .returned (.bool true) ∧ Below w.heap.size w w' := by
  have hmk : ∀ W, (Instr.makeSlice 66 (.int .i64 0) (.int .i64 0)).run Tryz.prog W = .ok (.slice (some ⟨W.heap.size, 0, none⟩) 0 0) (W.alloc (.cells (madeCells #[.slice none 0 0] 0) 171)) := run_make_row' (P := Tryz.prog) 66 171 (.slice none 0 0) 24 Tryz.underlying66 infoN_Trees rfl .i64 .i64 0 (by omega) (by omega)
  go_enter Tryz.func69, Tryz.ntmps69
  go_wp2
  go_loopw [3] (fun vi wr => vi = .int .i64 0 ∧ Hid (Below w.heap.size w wr)) (fun _ _ => 0)
  case atStart => exact ⟨rfl, Below.refl _ _⟩
  case round =>
    obtain ⟨rfl, hr⟩ := hrel
    generalize wr = w1 at *
    go_wp2
    go_loopw [6] (fun vi wr => vi = .int .i64 0 ∧ Hid (Below w.heap.size w wr)) (fun _ _ => 0)
    case atStart => exact ⟨rfl, below_alloc hr.out _⟩
    case round =>
      obtain ⟨rfl, hr⟩ := hrel
      generalize wr = w2 at *
      go_wp2
      go_loopw [9] (fun vi wr => vi = .int .i64 0 ∧ Hid (Below w.heap.size w wr)) (fun _ _ => 0)
      case atStart => exact ⟨rfl, hr.out⟩
      case round =>
        obtain ⟨rfl, hr⟩ := hrel
        generalize wr = w3 at *
        go_wp2
        go_loopw [11] (fun vi wr => vi = .int .i64 0 ∧ Hid (Below w.heap.size w wr)) (fun _ _ => 0)
        case atStart => exact ⟨rfl, hr.out⟩
        case round =>
          obtain ⟨rfl, hr⟩ := hrel
          generalize wr = w4 at *
          go_wp2
          go_loopw [14] (fun vi wr => vi = .int .i64 0 ∧ Hid (Below w.heap.size w wr)) (fun _ _ => 0)
          case atStart => exact ⟨rfl, hr.out⟩
          case round =>
            obtain ⟨rfl, hr⟩ := hrel
            go_wp2
            go_ret
            exact ⟨rfl, hr.out⟩
theorem infoN_Locals : (Tryz.prog.info? 176).map (fun i => (i.zero, i.size, i.bytes)) = some (some (.slice none 0 0), 1, 24) := by kernel_rfl
set_option maxRecDepth 100000 in
set_option maxHeartbeats 1000000 in
theorem flatLocals_nil (w : World) : Calls Tryz.prog 70 #[.slice none 0 0] w fun e w' => e = .returned (.bool true) ∧ Below w.heap.size w w' := by
  have hmk : ∀ W, (Instr.makeSlice 67 (.int .i64 0) (.int .i64 0)).run Tryz.prog W = .ok (.slice (some ⟨W.heap.size, 0, none⟩) 0 0) (W.alloc (.cells (madeCells #[.slice none 0 0] 0) 176)) := run_make_row' (P := Tryz.prog) 67 176 (.slice none 0 0) 24 Tryz.underlying67 infoN_Locals rfl .i64 .i64 0 (by omega) (by omega)
  go_enter Tryz.func70, Tryz.ntmps70
  go_wp2
  go_loopw [3] (fun vi wr => vi = .int .i64 0 ∧ Hid (Below w.heap.size w wr)) (fun _ _ => 0)
  case atStart => exact ⟨rfl, Below.refl _ _⟩
  case round =>
    obtain ⟨rfl, hr⟩ := hrel
    generalize wr = w1 at *
    go_wp2
    go_loopw [6] (fun vi wr => vi = .int .i64 0 ∧ Hid (Below w.heap.size w wr)) (fun _ _ => 0)
    case atStart => exact ⟨rfl, below_alloc hr.out _⟩
    case round =>
      obtain ⟨rfl, hr⟩ := hrel
      generalize wr = w2 at *
      go_wp2
      go_loopw [9] (fun vi wr => vi = .int .i64 0 ∧ Hid (Below w.heap.size w wr)) (fun _ _ => 0)
      case atStart => exact ⟨rfl, hr.out⟩
      case round =>
        obtain ⟨rfl, hr⟩ := hrel
        generalize wr = w3 at *
        go_wp2
        go_loopw [11] (fun vi wr => vi = .int .i64 0 ∧ Hid (Below w.heap.size w wr)) (fun _ _ => 0)
        case atStart => exact ⟨rfl, hr.out⟩
        case round =>
          obtain ⟨rfl, hr⟩ := hrel
          generalize wr = w4 at *
          go_wp2
          go_loopw [14] (fun vi wr => vi = .int .i64 0 ∧ Hid (Below w.heap.size w wr)) (fun _ _ => 0)
          case atStart => exact ⟨rfl, hr.out⟩
          case round =>
            obtain ⟨rfl, hr⟩ := hrel
            go_wp2
            go_ret
            exact ⟨rfl, hr.out⟩
theorem infoN_Shows : (Tryz.prog.info? 180).map (fun i => (i.zero, i.size, i.bytes)) = some (some (.slice none 0 0), 1, 24) := by kernel_rfl
set_option maxRecDepth 100000 in
set_option maxHeartbeats 1000000 in
theorem flatShows_nil (w : World) : Calls Tryz.prog 71 #[.slice none 0 0] w fun e w' => e = .returned (.bool true) ∧ Below w.heap.size w w' := by
  have hmk : ∀ W, (Instr.makeSlice 68 (.int .i64 0) (.int .i64 0)).run Tryz.prog W = .ok (.slice (some ⟨W.heap.size, 0, none⟩) 0 0) (W.alloc (.cells (madeCells #[.slice none 0 0] 0) 180)) := run_make_row' (P := Tryz.prog) 68 180 (.slice none 0 0) 24 Tryz.underlying68 infoN_Shows rfl .i64 .i64 0 (by omega) (by omega)
  go_enter Tryz.func71, Tryz.ntmps71
  go_wp2
  go_loopw [3] (fun vi wr => vi = .int .i64 0 ∧ Hid (Below w.heap.size w wr)) (fun _ _ => 0)
  case atStart => exact ⟨rfl, Below.refl _ _⟩
  case round =>
    obtain ⟨rfl, hr⟩ := hrel
    generalize wr = w1 at *
    go_wp2
    go_loopw [6] (fun vi wr => vi = .int .i64 0 ∧ Hid (Below w.heap.size w wr)) (fun _ _ => 0)
    case atStart => exact ⟨rfl, below_alloc hr.out _⟩
    case round =>
      obtain ⟨rfl, hr⟩ := hrel
      generalize wr = w2 at *
      go_wp2
      go_loopw [9] (fun vi wr => vi = .int .i64 0 ∧ Hid (Below w.heap.size w wr)) (fun _ _ => 0)
      case atStart => exact ⟨rfl, hr.out⟩
      case round =>
        obtain ⟨rfl, hr⟩ := hrel
        generalize wr = w3 at *
        go_wp2
        go_loopw [11] (fun vi wr => vi = .int .i64 0 ∧ Hid (Below w.heap.size w wr)) (fun _ _ => 0)
        case atStart => exact ⟨rfl, hr.out⟩
        case round =>
          obtain ⟨rfl, hr⟩ := hrel
          generalize wr = w4 at *
          go_wp2
          go_loopw [14] (fun vi wr => vi = .int .i64 0 ∧ Hid (Below w.heap.size w wr)) (fun _ _ => 0)
          case atStart => exact ⟨rfl, hr.out⟩
          case round =>
            obtain ⟨rfl, hr⟩ := hrel
            go_wp2
            go_ret
            exact ⟨rfl, hr.out⟩
theorem infoN_Traces : (Tryz.prog.info? 184).map (fun i => (i.zero, i.size, i.bytes)) = some (some (.slice none 0 0), 1, 24) := by kernel_rfl
set_option maxRecDepth 100000 in
set_option maxHeartbeats 1000000 in
theorem flatTraces_nil (w : World) : Calls Tryz.prog 72 #[.slice none 0 0] w fun e w' => e = .returned (.bool true) ∧ Below w.heap.size w w' := by
  have hmk : ∀ W, (Instr.makeSlice 69 (.int .i64 0) (.int .i64 0)).run Tryz.prog W = .ok (.slice (some ⟨W.heap.size, 0, none⟩) 0 0) (W.alloc (.cells (madeCells #[.slice none 0 0] 0) 184)) := run_make_row' (P := Tryz.prog) 69 184 (.slice none 0 0) 24 Tryz.underlying69 infoN_Traces rfl .i64 .i64 0 (by omega) (by omega)
  go_enter Tryz.func72, Tryz.ntmps72
  go_wp2
  go_loopw [3] (fun vi wr => vi = .int .i64 0 ∧ Hid (Below w.heap.size w wr)) (fun _ _ => 0)
  case atStart => exact ⟨rfl, Below.refl _ _⟩
  case round =>
    obtain ⟨rfl, hr⟩ := hrel
    generalize wr = w1 at *
    go_wp2
    go_loopw [6] (fun vi wr => vi = .int .i64 0 ∧ Hid (Below w.heap.size w wr)) (fun _ _ => 0)
    case atStart => exact ⟨rfl, below_alloc hr.out _⟩
    case round =>
      obtain ⟨rfl, hr⟩ := hrel
      generalize wr = w2 at *
      go_wp2
      go_loopw [9] (fun vi wr => vi = .int .i64 0 ∧ Hid (Below w.heap.size w wr)) (fun _ _ => 0)
      case atStart => exact ⟨rfl, hr.out⟩
      case round =>
        obtain ⟨rfl, hr⟩ := hrel
        generalize wr = w3 at *
        go_wp2
        go_loopw [11] (fun vi wr => vi = .int .i64 0 ∧ Hid (Below w.heap.size w wr)) (fun _ _ => 0)
        case atStart => exact ⟨rfl, hr.out⟩
        case round =>
          obtain ⟨rfl, hr⟩ := hrel
          generalize wr = w4 at *
          go_wp2
          go_loopw [14] (fun vi wr => vi = .int .i64 0 ∧ Hid (Below w.heap.size w wr)) (fun _ _ => 0)
          case atStart => exact ⟨rfl, hr.out⟩
          case round =>
            obtain ⟨rfl, hr⟩ := hrel
            go_wp2
            go_ret
            exact ⟨rfl, hr.out⟩
theorem infoN_Instructions : (Tryz.prog.info? 191).map (fun i => (i.zero, i.size, i.bytes)) = some (some (.slice none 0 0), 1, 24) := by kernel_rfl
set_option maxRecDepth 100000 in
set_option maxHeartbeats 1000000 in
theorem flatInstructions_nil (w : World) : Calls Tryz.prog 73 #[.slice none 0 0] w fun e w' => e = .returned (.bool true) ∧ Below w.heap.size w w' := by
  have hmk : ∀ W, (Instr.makeSlice 70 (.int .i64 0) (.int .i64 0)).run Tryz.prog W = .ok (.slice (some ⟨W.heap.size, 0, none⟩) 0 0) (W.alloc (.cells (madeCells #[.slice none 0 0] 0) 191)) := run_make_row' (P := Tryz.prog) 70 191 (.slice none 0 0) 24 Tryz.underlying70 infoN_Instructions rfl .i64 .i64 0 (by omega) (by omega)
  go_enter Tryz.func73, Tryz.ntmps73
  go_wp2
  go_loopw [3] (fun vi wr => vi = .int .i64 0 ∧ Hid (Below w.heap.size w wr)) (fun _ _ => 0)
  case atStart => exact ⟨rfl, Below.refl _ _⟩
  case round =>
    obtain ⟨rfl, hr⟩ := hrel
    generalize wr = w1 at *
    go_wp2
    go_loopw [6] (fun vi wr => vi = .int .i64 0 ∧ Hid (Below w.heap.size w wr)) (fun _ _ => 0)
    case atStart => exact ⟨rfl, below_alloc hr.out _⟩
    case round =>
      obtain ⟨rfl, hr⟩ := hrel
      generalize wr = w2 at *
      go_wp2
      go_loopw [9] (fun vi wr => vi = .int .i64 0 ∧ Hid (Below w.heap.size w wr)) (fun _ _ => 0)
      case atStart => exact ⟨rfl, hr.out⟩
      case round =>
        obtain ⟨rfl, hr⟩ := hrel
        generalize wr = w3 at *
        go_wp2
        go_loopw [11] (fun vi wr => vi = .int .i64 0 ∧ Hid (Below w.heap.size w wr)) (fun _ _ => 0)
        case atStart => exact ⟨rfl, hr.out⟩
        case round =>
          obtain ⟨rfl, hr⟩ := hrel
          generalize wr = w4 at *
          go_wp2
          go_loopw [14] (fun vi wr => vi = .int .i64 0 ∧ Hid (Below w.heap.size w wr)) (fun _ _ => 0)
          case atStart => exact ⟨rfl, hr.out⟩
          case round =>
            obtain ⟨rfl, hr⟩ := hrel
            go_wp2
            go_ret
            exact ⟨rfl, hr.out⟩
theorem infoN_Blocks : (Tryz.prog.info? 197).map (fun i => (i.zero, i.size, i.bytes)) = some (some (.slice none 0 0), 1, 24) := by kernel_rfl
set_option maxRecDepth 100000 in
set_option maxHeartbeats 1000000 in
theorem flatBlocks_nil (w : World) : Calls Tryz.prog 74 #[.slice none 0 0] w fun e w' => e = .returned (.bool true) ∧ Below w.heap.size w w' := by
  have hmk : ∀ W, (Instr.makeSlice 71 (.int .i64 0) (.int .i64 0)).run Tryz.prog W = .ok (.slice (some ⟨W.heap.size, 0, none⟩) 0 0) (W.alloc (.cells (madeCells #[.slice none 0 0] 0) 197)) := run_make_row' (P := Tryz.prog) 71 197 (.slice none 0 0) 24 Tryz.underlying71 infoN_Blocks rfl .i64 .i64 0 (by omega) (by omega)
  go_enter Tryz.func74, Tryz.ntmps74
  go_wp2
  go_loopw [3] (fun vi wr => vi = .int .i64 0 ∧ Hid (Below w.heap.size w wr)) (fun _ _ => 0)
  case atStart => exact ⟨rfl, Below.refl _ _⟩
  case round =>
    obtain ⟨rfl, hr⟩ := hrel
    generalize wr = w1 at *
    go_wp2
    go_loopw [6] (fun vi wr => vi = .int .i64 0 ∧ Hid (Below w.heap.size w wr)) (fun _ _ => 0)
    case atStart => exact ⟨rfl, below_alloc hr.out _⟩
    case round =>
      obtain ⟨rfl, hr⟩ := hrel
      generalize wr = w2 at *
      go_wp2
      go_loopw [9] (fun vi wr => vi = .int .i64 0 ∧ Hid (Below w.heap.size w wr)) (fun _ _ => 0)
      case atStart => exact ⟨rfl, hr.out⟩
      case round =>
        obtain ⟨rfl, hr⟩ := hrel
        generalize wr = w3 at *
        go_wp2
        go_loopw [11] (fun vi wr => vi = .int .i64 0 ∧ Hid (Below w.heap.size w wr)) (fun _ _ => 0)
        case atStart => exact ⟨rfl, hr.out⟩
        case round =>
          obtain ⟨rfl, hr⟩ := hrel
          generalize wr = w4 at *
          go_wp2
          go_loopw [14] (fun vi wr => vi = .int .i64 0 ∧ Hid (Below w.heap.size w wr)) (fun _ _ => 0)
          case atStart => exact ⟨rfl, hr.out⟩
          case round =>
            obtain ⟨rfl, hr⟩ := hrel
            go_wp2
            go_ret
            exact ⟨rfl, hr.out⟩
theorem infoN_Arrays : (Tryz.prog.info? 205).map (fun i => (i.zero, i.size, i.bytes)) = some (some (.slice none 0 0), 1, 24) := by kernel_rfl
set_option maxRecDepth 100000 in
set_option maxHeartbeats 1000000 in
theorem flatArrays_nil (w : World) : Calls Tryz.prog 75 #[.slice none 0 0] w fun e w' => e = .returned (.bool true) ∧ Below w.heap.size w w' := by
  have hmk : ∀ W, (Instr.makeSlice 72 (.int .i64 0) (.int .i64 0)).run Tryz.prog W = .ok (.slice (some ⟨W.heap.size, 0, none⟩) 0 0) (W.alloc (.cells (madeCells #[.slice none 0 0] 0) 205)) := run_make_row' (P := Tryz.prog) 72 205 (.slice none 0 0) 24 Tryz.underlying72 infoN_Arrays rfl .i64 .i64 0 (by omega) (by omega)
  go_enter Tryz.func75, Tryz.ntmps75
  go_wp2
  go_loopw [3] (fun vi wr => vi = .int .i64 0 ∧ Hid (Below w.heap.size w wr)) (fun _ _ => 0)
  case atStart => exact ⟨rfl, Below.refl _ _⟩
  case round =>
    obtain ⟨rfl, hr⟩ := hrel
    generalize wr = w1 at *
    go_wp2
    go_loopw [6] (fun vi wr => vi = .int .i64 0 ∧ Hid (Below w.heap.size w wr)) (fun _ _ => 0)
    case atStart => exact ⟨rfl, below_alloc hr.out _⟩
    case round =>
      obtain ⟨rfl, hr⟩ := hrel
      generalize wr = w2 at *
      go_wp2
      go_loopw [9] (fun vi wr => vi = .int .i64 0 ∧ Hid (Below w.heap.size w wr)) (fun _ _ => 0)
      case atStart => exact ⟨rfl, hr.out⟩
      case round =>
        obtain ⟨rfl, hr⟩ := hrel
        generalize wr = w3 at *
        go_wp2
        go_loopw [11] (fun vi wr => vi = .int .i64 0 ∧ Hid (Below w.heap.size w wr)) (fun _ _ => 0)
        case atStart => exact ⟨rfl, hr.out⟩
        case round =>
          obtain ⟨rfl, hr⟩ := hrel
          generalize wr = w4 at *
          go_wp2
          go_loopw [14] (fun vi wr => vi = .int .i64 0 ∧ Hid (Below w.heap.size w wr)) (fun _ _ => 0)
          case atStart => exact ⟨rfl, hr.out⟩
          case round =>
            obtain ⟨rfl, hr⟩ := hrel
            go_wp2
            go_ret
            exact ⟨rfl, hr.out⟩
end Go.Proofs.YtogjjmbcbnceoaaGreat
/- Nothing lies in one another where there is nothing. -/
namespace Go.Proofs.YtogjjmbcbnceoaaGreat
open Go.RowKit

theorem infoN_Graphs : (Tryz.prog.info? 209).map (fun i => (i.zero, i.size, i.bytes)) = some (some (.slice none 0 0), 1, 24) := by kernel_rfl
set_option maxRecDepth 100000 in
set_option maxHeartbeats 1000000 in
theorem flatGraphs_nil (w : World) : Calls Tryz.prog 76 #[.slice none 0 0] w fun e w' => e = .returned (.bool true) ∧ Below w.heap.size w w' := by
  have hmk : ∀ W, (Instr.makeSlice 73 (.int .i64 0) (.int .i64 0)).run Tryz.prog W = .ok (.slice (some ⟨W.heap.size, 0, none⟩) 0 0) (W.alloc (.cells (madeCells #[.slice none 0 0] 0) 209)) := run_make_row' (P := Tryz.prog) 73 209 (.slice none 0 0) 24 Tryz.underlying73 infoN_Graphs rfl .i64 .i64 0 (by omega) (by omega)
  go_enter Tryz.func76, Tryz.ntmps76
  go_wp2
  go_loopw [3] (fun vi wr => vi = .int .i64 0 ∧ Hid (Below w.heap.size w wr)) (fun _ _ => 0)
  case atStart => exact ⟨rfl, Below.refl _ _⟩
  case round =>
    obtain ⟨rfl, hr⟩ := hrel
    generalize wr = w1 at *
    go_wp2
    go_loopw [6] (fun vi wr => vi = .int .i64 0 ∧ Hid (Below w.heap.size w wr)) (fun _ _ => 0)
    case atStart => exact ⟨rfl, below_alloc hr.out _⟩
    case round =>
      obtain ⟨rfl, hr⟩ := hrel
      generalize wr = w2 at *
      go_wp2
      go_loopw [9] (fun vi wr => vi = .int .i64 0 ∧ Hid (Below w.heap.size w wr)) (fun _ _ => 0)
      case atStart => exact ⟨rfl, hr.out⟩
      case round =>
        obtain ⟨rfl, hr⟩ := hrel
        generalize wr = w3 at *
        go_wp2
        go_loopw [11] (fun vi wr => vi = .int .i64 0 ∧ Hid (Below w.heap.size w wr)) (fun _ _ => 0)
        case atStart => exact ⟨rfl, hr.out⟩
        case round =>
          obtain ⟨rfl, hr⟩ := hrel
          generalize wr = w4 at *
          go_wp2
          go_loopw [14] (fun vi wr => vi = .int .i64 0 ∧ Hid (Below w.heap.size w wr)) (fun _ _ => 0)
          case atStart => exact ⟨rfl, hr.out⟩
          case round =>
            obtain ⟨rfl, hr⟩ := hrel
            go_wp2
            go_ret
            exact ⟨rfl, hr.out⟩
theorem infoN_Cells : (Tryz.prog.info? 214).map (fun i => (i.zero, i.size, i.bytes)) = some (some (.slice none 0 0), 1, 24) := by kernel_rfl
set_option maxRecDepth 100000 in
set_option maxHeartbeats 1000000 in
theorem flatCells_nil (w : World) : Calls Tryz.prog 77 #[.slice none 0 0] w fun e w' => e = .returned (.bool true) ∧ Below w.heap.size w w' := by
  have hmk : ∀ W, (Instr.makeSlice 74 (.int .i64 0) (.int .i64 0)).run Tryz.prog W = .ok (.slice (some ⟨W.heap.size, 0, none⟩) 0 0) (W.alloc (.cells (madeCells #[.slice none 0 0] 0) 214)) := run_make_row' (P := Tryz.prog) 74 214 (.slice none 0 0) 24 Tryz.underlying74 infoN_Cells rfl .i64 .i64 0 (by omega) (by omega)
  go_enter Tryz.func77, Tryz.ntmps77
  go_wp2
  go_loopw [3] (fun vi wr => vi = .int .i64 0 ∧ Hid (Below w.heap.size w wr)) (fun _ _ => 0)
  case atStart => exact ⟨rfl, Below.refl _ _⟩
  case round =>
    obtain ⟨rfl, hr⟩ := hrel
    generalize wr = w1 at *
    go_wp2
    go_loopw [6] (fun vi wr => vi = .int .i64 0 ∧ Hid (Below w.heap.size w wr)) (fun _ _ => 0)
    case atStart => exact ⟨rfl, below_alloc hr.out _⟩
    case round =>
      obtain ⟨rfl, hr⟩ := hrel
      generalize wr = w2 at *
      go_wp2
      go_loopw [9] (fun vi wr => vi = .int .i64 0 ∧ Hid (Below w.heap.size w wr)) (fun _ _ => 0)
      case atStart => exact ⟨rfl, hr.out⟩
      case round =>
        obtain ⟨rfl, hr⟩ := hrel
        generalize wr = w3 at *
        go_wp2
        go_loopw [11] (fun vi wr => vi = .int .i64 0 ∧ Hid (Below w.heap.size w wr)) (fun _ _ => 0)
        case atStart => exact ⟨rfl, hr.out⟩
        case round =>
          obtain ⟨rfl, hr⟩ := hrel
          generalize wr = w4 at *
          go_wp2
          go_loopw [14] (fun vi wr => vi = .int .i64 0 ∧ Hid (Below w.heap.size w wr)) (fun _ _ => 0)
          case atStart => exact ⟨rfl, hr.out⟩
          case round =>
            obtain ⟨rfl, hr⟩ := hrel
            go_wp2
            go_ret
            exact ⟨rfl, hr.out⟩
theorem infoN_FactLists : (Tryz.prog.info? 219).map (fun i => (i.zero, i.size, i.bytes)) = some (some (.slice none 0 0), 1, 24) := by kernel_rfl
set_option maxRecDepth 100000 in
set_option maxHeartbeats 1000000 in
theorem flatFactLists_nil (w : World) : Calls Tryz.prog 78 #[.slice none 0 0] w fun e w' => e = .returned (.bool true) ∧ Below w.heap.size w w' := by
  have hmk : ∀ W, (Instr.makeSlice 75 (.int .i64 0) (.int .i64 0)).run Tryz.prog W = .ok (.slice (some ⟨W.heap.size, 0, none⟩) 0 0) (W.alloc (.cells (madeCells #[.slice none 0 0] 0) 219)) := run_make_row' (P := Tryz.prog) 75 219 (.slice none 0 0) 24 Tryz.underlying75 infoN_FactLists rfl .i64 .i64 0 (by omega) (by omega)
  go_enter Tryz.func78, Tryz.ntmps78
  go_wp2
  go_loopw [3] (fun vi wr => vi = .int .i64 0 ∧ Hid (Below w.heap.size w wr)) (fun _ _ => 0)
  case atStart => exact ⟨rfl, Below.refl _ _⟩
  case round =>
    obtain ⟨rfl, hr⟩ := hrel
    generalize wr = w1 at *
    go_wp2
    go_loopw [6] (fun vi wr => vi = .int .i64 0 ∧ Hid (Below w.heap.size w wr)) (fun _ _ => 0)
    case atStart => exact ⟨rfl, below_alloc hr.out _⟩
    case round =>
      obtain ⟨rfl, hr⟩ := hrel
      generalize wr = w2 at *
      go_wp2
      go_loopw [9] (fun vi wr => vi = .int .i64 0 ∧ Hid (Below w.heap.size w wr)) (fun _ _ => 0)
      case atStart => exact ⟨rfl, hr.out⟩
      case round =>
        obtain ⟨rfl, hr⟩ := hrel
        generalize wr = w3 at *
        go_wp2
        go_loopw [11] (fun vi wr => vi = .int .i64 0 ∧ Hid (Below w.heap.size w wr)) (fun _ _ => 0)
        case atStart => exact ⟨rfl, hr.out⟩
        case round =>
          obtain ⟨rfl, hr⟩ := hrel
          generalize wr = w4 at *
          go_wp2
          go_loopw [14] (fun vi wr => vi = .int .i64 0 ∧ Hid (Below w.heap.size w wr)) (fun _ _ => 0)
          case atStart => exact ⟨rfl, hr.out⟩
          case round =>
            obtain ⟨rfl, hr⟩ := hrel
            go_wp2
            go_ret
            exact ⟨rfl, hr.out⟩
theorem infoN_Moves : (Tryz.prog.info? 224).map (fun i => (i.zero, i.size, i.bytes)) = some (some (.slice none 0 0), 1, 24) := by kernel_rfl
set_option maxRecDepth 100000 in
set_option maxHeartbeats 1000000 in
theorem flatMoves_nil (w : World) : Calls Tryz.prog 79 #[.slice none 0 0] w fun e w' => e = .returned (.bool true) ∧ Below w.heap.size w w' := by
  have hmk : ∀ W, (Instr.makeSlice 76 (.int .i64 0) (.int .i64 0)).run Tryz.prog W = .ok (.slice (some ⟨W.heap.size, 0, none⟩) 0 0) (W.alloc (.cells (madeCells #[.slice none 0 0] 0) 224)) := run_make_row' (P := Tryz.prog) 76 224 (.slice none 0 0) 24 Tryz.underlying76 infoN_Moves rfl .i64 .i64 0 (by omega) (by omega)
  go_enter Tryz.func79, Tryz.ntmps79
  go_wp2
  go_loopw [3] (fun vi wr => vi = .int .i64 0 ∧ Hid (Below w.heap.size w wr)) (fun _ _ => 0)
  case atStart => exact ⟨rfl, Below.refl _ _⟩
  case round =>
    obtain ⟨rfl, hr⟩ := hrel
    generalize wr = w1 at *
    go_wp2
    go_loopw [6] (fun vi wr => vi = .int .i64 0 ∧ Hid (Below w.heap.size w wr)) (fun _ _ => 0)
    case atStart => exact ⟨rfl, below_alloc hr.out _⟩
    case round =>
      obtain ⟨rfl, hr⟩ := hrel
      generalize wr = w2 at *
      go_wp2
      go_loopw [9] (fun vi wr => vi = .int .i64 0 ∧ Hid (Below w.heap.size w wr)) (fun _ _ => 0)
      case atStart => exact ⟨rfl, hr.out⟩
      case round =>
        obtain ⟨rfl, hr⟩ := hrel
        generalize wr = w3 at *
        go_wp2
        go_loopw [11] (fun vi wr => vi = .int .i64 0 ∧ Hid (Below w.heap.size w wr)) (fun _ _ => 0)
        case atStart => exact ⟨rfl, hr.out⟩
        case round =>
          obtain ⟨rfl, hr⟩ := hrel
          generalize wr = w4 at *
          go_wp2
          go_loopw [14] (fun vi wr => vi = .int .i64 0 ∧ Hid (Below w.heap.size w wr)) (fun _ _ => 0)
          case atStart => exact ⟨rfl, hr.out⟩
          case round =>
            obtain ⟨rfl, hr⟩ := hrel
            go_wp2
            go_ret
            exact ⟨rfl, hr.out⟩
theorem infoN_Spans : (Tryz.prog.info? 228).map (fun i => (i.zero, i.size, i.bytes)) = some (some (.slice none 0 0), 1, 24) := by kernel_rfl
set_option maxRecDepth 100000 in
set_option maxHeartbeats 1000000 in
theorem flatSpans_nil (w : World) : Calls Tryz.prog 80 #[.slice none 0 0] w fun e w' => e = .returned (.bool true) ∧ Below w.heap.size w w' := by
  have hmk : ∀ W, (Instr.makeSlice 77 (.int .i64 0) (.int .i64 0)).run Tryz.prog W = .ok (.slice (some ⟨W.heap.size, 0, none⟩) 0 0) (W.alloc (.cells (madeCells #[.slice none 0 0] 0) 228)) := run_make_row' (P := Tryz.prog) 77 228 (.slice none 0 0) 24 Tryz.underlying77 infoN_Spans rfl .i64 .i64 0 (by omega) (by omega)
  go_enter Tryz.func80, Tryz.ntmps80
  go_wp2
  go_loopw [3] (fun vi wr => vi = .int .i64 0 ∧ Hid (Below w.heap.size w wr)) (fun _ _ => 0)
  case atStart => exact ⟨rfl, Below.refl _ _⟩
  case round =>
    obtain ⟨rfl, hr⟩ := hrel
    generalize wr = w1 at *
    go_wp2
    go_loopw [6] (fun vi wr => vi = .int .i64 0 ∧ Hid (Below w.heap.size w wr)) (fun _ _ => 0)
    case atStart => exact ⟨rfl, below_alloc hr.out _⟩
    case round =>
      obtain ⟨rfl, hr⟩ := hrel
      generalize wr = w2 at *
      go_wp2
      go_loopw [9] (fun vi wr => vi = .int .i64 0 ∧ Hid (Below w.heap.size w wr)) (fun _ _ => 0)
      case atStart => exact ⟨rfl, hr.out⟩
      case round =>
        obtain ⟨rfl, hr⟩ := hrel
        generalize wr = w3 at *
        go_wp2
        go_loopw [11] (fun vi wr => vi = .int .i64 0 ∧ Hid (Below w.heap.size w wr)) (fun _ _ => 0)
        case atStart => exact ⟨rfl, hr.out⟩
        case round =>
          obtain ⟨rfl, hr⟩ := hrel
          generalize wr = w4 at *
          go_wp2
          go_loopw [14] (fun vi wr => vi = .int .i64 0 ∧ Hid (Below w.heap.size w wr)) (fun _ _ => 0)
          case atStart => exact ⟨rfl, hr.out⟩
          case round =>
            obtain ⟨rfl, hr⟩ := hrel
            go_wp2
            go_ret
            exact ⟨rfl, hr.out⟩
theorem infoN_Homes : (Tryz.prog.info? 232).map (fun i => (i.zero, i.size, i.bytes)) = some (some (.slice none 0 0), 1, 24) := by kernel_rfl
set_option maxRecDepth 100000 in
set_option maxHeartbeats 1000000 in
theorem flatHomes_nil (w : World) : Calls Tryz.prog 81 #[.slice none 0 0] w fun e w' => e = .returned (.bool true) ∧ Below w.heap.size w w' := by
  have hmk : ∀ W, (Instr.makeSlice 78 (.int .i64 0) (.int .i64 0)).run Tryz.prog W = .ok (.slice (some ⟨W.heap.size, 0, none⟩) 0 0) (W.alloc (.cells (madeCells #[.slice none 0 0] 0) 232)) := run_make_row' (P := Tryz.prog) 78 232 (.slice none 0 0) 24 Tryz.underlying78 infoN_Homes rfl .i64 .i64 0 (by omega) (by omega)
  go_enter Tryz.func81, Tryz.ntmps81
  go_wp2
  go_loopw [3] (fun vi wr => vi = .int .i64 0 ∧ Hid (Below w.heap.size w wr)) (fun _ _ => 0)
  case atStart => exact ⟨rfl, Below.refl _ _⟩
  case round =>
    obtain ⟨rfl, hr⟩ := hrel
    generalize wr = w1 at *
    go_wp2
    go_loopw [6] (fun vi wr => vi = .int .i64 0 ∧ Hid (Below w.heap.size w wr)) (fun _ _ => 0)
    case atStart => exact ⟨rfl, below_alloc hr.out _⟩
    case round =>
      obtain ⟨rfl, hr⟩ := hrel
      generalize wr = w2 at *
      go_wp2
      go_loopw [9] (fun vi wr => vi = .int .i64 0 ∧ Hid (Below w.heap.size w wr)) (fun _ _ => 0)
      case atStart => exact ⟨rfl, hr.out⟩
      case round =>
        obtain ⟨rfl, hr⟩ := hrel
        generalize wr = w3 at *
        go_wp2
        go_loopw [11] (fun vi wr => vi = .int .i64 0 ∧ Hid (Below w.heap.size w wr)) (fun _ _ => 0)
        case atStart => exact ⟨rfl, hr.out⟩
        case round =>
          obtain ⟨rfl, hr⟩ := hrel
          generalize wr = w4 at *
          go_wp2
          go_loopw [14] (fun vi wr => vi = .int .i64 0 ∧ Hid (Below w.heap.size w wr)) (fun _ _ => 0)
          case atStart => exact ⟨rfl, hr.out⟩
          case round =>
            obtain ⟨rfl, hr⟩ := hrel
            go_wp2
            go_ret
            exact ⟨rfl, hr.out⟩
theorem infoN_Codes : (Tryz.prog.info? 236).map (fun i => (i.zero, i.size, i.bytes)) = some (some (.slice none 0 0), 1, 24) := by kernel_rfl
set_option maxRecDepth 100000 in
set_option maxHeartbeats 1000000 in
theorem flatCodes_nil (w : World) : Calls Tryz.prog 82 #[.slice none 0 0] w fun e w' => e = .returned (.bool true) ∧ Below w.heap.size w w' := by
  have hmk : ∀ W, (Instr.makeSlice 79 (.int .i64 0) (.int .i64 0)).run Tryz.prog W = .ok (.slice (some ⟨W.heap.size, 0, none⟩) 0 0) (W.alloc (.cells (madeCells #[.slice none 0 0] 0) 236)) := run_make_row' (P := Tryz.prog) 79 236 (.slice none 0 0) 24 Tryz.underlying79 infoN_Codes rfl .i64 .i64 0 (by omega) (by omega)
  go_enter Tryz.func82, Tryz.ntmps82
  go_wp2
  go_loopw [3] (fun vi wr => vi = .int .i64 0 ∧ Hid (Below w.heap.size w wr)) (fun _ _ => 0)
  case atStart => exact ⟨rfl, Below.refl _ _⟩
  case round =>
    obtain ⟨rfl, hr⟩ := hrel
    generalize wr = w1 at *
    go_wp2
    go_loopw [6] (fun vi wr => vi = .int .i64 0 ∧ Hid (Below w.heap.size w wr)) (fun _ _ => 0)
    case atStart => exact ⟨rfl, below_alloc hr.out _⟩
    case round =>
      obtain ⟨rfl, hr⟩ := hrel
      generalize wr = w2 at *
      go_wp2
      go_loopw [9] (fun vi wr => vi = .int .i64 0 ∧ Hid (Below w.heap.size w wr)) (fun _ _ => 0)
      case atStart => exact ⟨rfl, hr.out⟩
      case round =>
        obtain ⟨rfl, hr⟩ := hrel
        generalize wr = w3 at *
        go_wp2
        go_loopw [11] (fun vi wr => vi = .int .i64 0 ∧ Hid (Below w.heap.size w wr)) (fun _ _ => 0)
        case atStart => exact ⟨rfl, hr.out⟩
        case round =>
          obtain ⟨rfl, hr⟩ := hrel
          generalize wr = w4 at *
          go_wp2
          go_loopw [14] (fun vi wr => vi = .int .i64 0 ∧ Hid (Below w.heap.size w wr)) (fun _ _ => 0)
          case atStart => exact ⟨rfl, hr.out⟩
          case round =>
            obtain ⟨rfl, hr⟩ := hrel
            go_wp2
            go_ret
            exact ⟨rfl, hr.out⟩
theorem infoN_Units : (Tryz.prog.info? 241).map (fun i => (i.zero, i.size, i.bytes)) = some (some (.slice none 0 0), 1, 24) := by kernel_rfl
set_option maxRecDepth 100000 in
set_option maxHeartbeats 1000000 in
theorem flatUnits_nil (w : World) : Calls Tryz.prog 83 #[.slice none 0 0] w fun e w' => e = .returned (.bool true) ∧ Below w.heap.size w w' := by
  have hmk : ∀ W, (Instr.makeSlice 80 (.int .i64 0) (.int .i64 0)).run Tryz.prog W = .ok (.slice (some ⟨W.heap.size, 0, none⟩) 0 0) (W.alloc (.cells (madeCells #[.slice none 0 0] 0) 241)) := run_make_row' (P := Tryz.prog) 80 241 (.slice none 0 0) 24 Tryz.underlying80 infoN_Units rfl .i64 .i64 0 (by omega) (by omega)
  go_enter Tryz.func83, Tryz.ntmps83
  go_wp2
  go_loopw [3] (fun vi wr => vi = .int .i64 0 ∧ Hid (Below w.heap.size w wr)) (fun _ _ => 0)
  case atStart => exact ⟨rfl, Below.refl _ _⟩
  case round =>
    obtain ⟨rfl, hr⟩ := hrel
    generalize wr = w1 at *
    go_wp2
    go_loopw [6] (fun vi wr => vi = .int .i64 0 ∧ Hid (Below w.heap.size w wr)) (fun _ _ => 0)
    case atStart => exact ⟨rfl, below_alloc hr.out _⟩
    case round =>
      obtain ⟨rfl, hr⟩ := hrel
      generalize wr = w2 at *
      go_wp2
      go_loopw [9] (fun vi wr => vi = .int .i64 0 ∧ Hid (Below w.heap.size w wr)) (fun _ _ => 0)
      case atStart => exact ⟨rfl, hr.out⟩
      case round =>
        obtain ⟨rfl, hr⟩ := hrel
        generalize wr = w3 at *
        go_wp2
        go_loopw [11] (fun vi wr => vi = .int .i64 0 ∧ Hid (Below w.heap.size w wr)) (fun _ _ => 0)
        case atStart => exact ⟨rfl, hr.out⟩
        case round =>
          obtain ⟨rfl, hr⟩ := hrel
          generalize wr = w4 at *
          go_wp2
          go_loopw [14] (fun vi wr => vi = .int .i64 0 ∧ Hid (Below w.heap.size w wr)) (fun _ _ => 0)
          case atStart => exact ⟨rfl, hr.out⟩
          case round =>
            obtain ⟨rfl, hr⟩ := hrel
            go_wp2
            go_ret
            exact ⟨rfl, hr.out⟩
end Go.Proofs.YtogjjmbcbnceoaaGreat
