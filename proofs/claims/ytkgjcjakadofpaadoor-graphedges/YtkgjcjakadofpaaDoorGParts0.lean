/- An instruction has the parts of its kind, and nothing else. -/
import Derived.Test.YtkgjcjakadofpaaDoorGChk4
namespace Go.Proofs.YtkgjcjakadofpaaDoor
open Go.RowKit

/-- What an instruction of a kind has. -/
structure Has where
  op : Bool
  dst : Bool
  bits : Bool
  ref : Bool
  least : Int
  most : Int
def hasL : List Has := [⟨false, false, false, false, 0, 0⟩, ⟨false, true, false, false, 0, 9223372036854775807⟩, ⟨false, true, true, false, 0, 0⟩, ⟨false, true, false, false, 1, 1⟩, ⟨true, true, false, false, 1, 2⟩, ⟨false, true, false, false, 1, 1⟩, ⟨false, true, false, true, 1, 1⟩, ⟨false, false, false, true, 2, 2⟩, ⟨false, false, false, true, 0, 0⟩, ⟨false, true, false, true, 0, 9223372036854775807⟩, ⟨false, false, false, false, 1, 1⟩]
/-- The table, where the program lays it. -/
def PartsAt (w : World) : Prop := 0 < w.heap.size ∧ ∀ (k : Nat) (h : Has), hasL[k]? = some h → w.cell? ⟨0, k * 6, none⟩ = some (.bool h.op) ∧ w.cell? ⟨0, k * 6 + 1, none⟩ = some (.bool h.dst) ∧ w.cell? ⟨0, k * 6 + 2, none⟩ = some (.bool h.bits) ∧ w.cell? ⟨0, k * 6 + 3, none⟩ = some (.bool h.ref) ∧ w.cell? ⟨0, k * 6 + 4, none⟩ = some (.int .i64 h.least) ∧ w.cell? ⟨0, k * 6 + 5, none⟩ = some (.int .i64 h.most)
theorem PartsAt.below {w w' : World} (h : PartsAt w) (hb : Below w.heap.size w w') : PartsAt w' := by
  refine ⟨Nat.lt_of_lt_of_le h.1 hb.size, fun k x hk => ?_⟩
  have hc : ∀ j, w'.cell? ⟨0, j, none⟩ = w.cell? ⟨0, j, none⟩ := fun j => hb.cell (p := ⟨0, j, none⟩) h.1
  rw [hc, hc, hc, hc, hc, hc]
  exact h.2 k x hk
def hasB (h : Has) (n : Nat) (x : In) : Bool := (h.op || x.op == 0) && (h.bits || x.bits == 0) && (h.ref || x.ref == 0) && (if h.dst then inB x.dst n else x.dst == 0) && (x.args.all (inB · n) && (decide (h.least ≤ (x.args.length : Int)) && decide ((x.args.length : Int) ≤ h.most)))
def partsB (n : Nat) (x : In) : Bool := decide (1 ≤ x.kind) && decide (x.kind ≤ 10) && hasB (hasL.getD x.kind.toNat ⟨false, false, false, false, 0, 0⟩) n x
abbrev inV (x : In) (av : Value) : Value := .agg #[.int .u8 x.kind, .int .u8 x.op, .int .i64 x.dst, av, .int .u64 x.bits, .int .i64 x.ref]
end Go.Proofs.YtkgjcjakadofpaaDoor
