/- An instruction has the parts of its kind, and nothing else. -/
import Derived.Test.YtabpnjakfoofpaaGreatDoorGChk4
import Derived.Test.YtabpnjakfoofpaaGreatDoorTie
import Derived.ProofKit
import Derived.OpenShut
import Derived.LaidMore
import Derived.Lay
namespace Go.Proofs.YtabpnjakfoofpaaGreatDoor
open Go.RowKit

/-- What an instruction of a kind has. -/
structure Has where
  op : Bool
  dst : Bool
  bits : Bool
  ref : Bool
  least : Int
  most : Int
def hasL : List Has := [⟨false, false, false, false, 0, 0⟩, ⟨false, true, false, false, 0, 9223372036854775807⟩, ⟨false, true, true, false, 0, 0⟩, ⟨false, true, false, false, 1, 1⟩, ⟨true, true, false, false, 1, 2⟩, ⟨false, true, false, false, 1, 1⟩, ⟨false, true, false, true, 1, 1⟩, ⟨false, false, false, true, 2, 2⟩, ⟨false, false, false, true, 0, 0⟩, ⟨false, true, false, true, 0, 9223372036854775807⟩, ⟨false, false, false, false, 1, 1⟩]
/-- The table, where the program lays it. -/
def PartsAt (w : World) : Prop := 0 < w.heap.size ∧ ∀ (k : Nat) (h : Has), hasL[k]? = some h → w.cell? ⟨0, k * 6, none⟩ = some (.bool h.op) ∧ w.cell? ⟨0, k * 6 + 1, none⟩ = some (.bool h.dst) ∧ w.cell? ⟨0, k * 6 + 2, none⟩ = some (.bool h.bits) ∧ w.cell? ⟨0, k * 6 + 3, none⟩ = some (.bool h.ref) ∧ w.cell? ⟨0, k * 6 + 4, none⟩ = some (.int .i64 h.least) ∧ w.cell? ⟨0, k * 6 + 5, none⟩ = some (.int .i64 h.most)
theorem PartsAt.below {w w' : World} (h : PartsAt w) (hb : Below w.heap.size w w') : PartsAt w' := by
  refine ⟨Nat.lt_of_lt_of_le h.1 hb.size, fun k x hk => ?_⟩
  have hc : ∀ j, w'.cell? ⟨0, j, none⟩ = w.cell? ⟨0, j, none⟩ := fun j => hb.cell (p := ⟨0, j, none⟩) h.1
  rw [hc, hc, hc, hc, hc, hc]
  exact h.2 k x hk
def hasB (h : Has) (n : Nat) (x : In) : Bool := (h.op || x.op == 0) && (h.bits || x.bits == 0) && (h.ref || x.ref == 0) && (if h.dst then inB x.dst n else x.dst == 0) && (x.args.all (inB · n) && (decide (h.least ≤ (x.args.length : Int)) && decide ((x.args.length : Int) ≤ h.most)))
def partsB (n : Nat) (x : In) : Bool := decide (1 ≤ x.kind) && decide (x.kind ≤ 10) && hasB (hasL.getD x.kind.toNat ⟨false, false, false, false, 0, 0⟩) n x
abbrev inV (x : In) (av : Value) : Value := .agg #[.int .u8 x.kind, .int .u8 x.op, .int .i64 x.dst, av, .int .u64 x.bits, .int .i64 x.ref]
end Go.Proofs.YtabpnjakfoofpaaGreatDoor
/- What the listed variable gives: the table's cells. -/
namespace Go.Proofs.YtabpnjakfoofpaaGreatDoor
open Go.ChangeShapes Go.WideShapes Go.ChangeAt Go.RowKit

theorem laid_at {P : Program} {w : World} : ∀ {laid : List (String × DataW Unit)} {ps : List MemPlace}, DataW.LaidVars P w laid ps → ∀ {n : String} {d : DataW Unit}, (n, d) ∈ laid → ∃ g t cs fuel p, P.globalNamed n = some g ∧ (P.globals[g]?).map (·.type) = some t ∧ w.var? P n = some cs ∧ DataW.trod (fun _ => ()) P w 0 (fun _ => true) false fuel t cs.toList = some (d, p)
  | (n0, d0) :: r, ps, h, n, d, hm => by
    obtain ⟨g, t, cs, fuel, p, q, h1, h2, h3, h4, h5, _⟩ := h
    rcases List.mem_cons.1 hm with he | hm
    · cases he
      exact ⟨g, t, cs, fuel, p, h1, h2, h3, h4⟩
    · exact laid_at h5 hm
  | [], _, _, _, _, hm => by cases hm
theorem parts_data : (Rows.laid_smithy_graph_partsOf : DataW Unit) = .agg (hasL.map fun h => .agg [.lit (.bool h.op), .lit (.bool h.dst), .lit (.bool h.bits), .lit (.bool h.ref), .lit (.int .i64 h.least), .lit (.int .i64 h.most)]) := by rfl
theorem take_one {l : List Value} {j : Nat} {v : Value} (h : (l.drop j).take 1 = [v]) : l[j]? = some v := by
  have h0 : ((l.drop j).take 1)[0]? = some v := by rw [h]; rfl
  simpa using h0
theorem chunk_at {l : List Value} {a n j : Nat} {v : Value} (hj : j < n) (h : ((l.drop a).take n)[j]? = some v) : l[a + j]? = some v := by
  rw [List.getElem?_take, if_pos hj, List.getElem?_drop] at h
  exact h
theorem c3 : Tryz.prog.cellsOf 3 = 1 := by kernel_rfl
theorem c4b : Tryz.prog.cellsOf 4 = 1 := by kernel_rfl
theorem cell_of {W : World} {g : Nat} {cs : Array Value} (hcell : ∀ j, W.cell? ⟨g, j, none⟩ = cs[j]?) {a n j c : Nat} {v : Value} (hj : j < n) (hc : c = 1) (h : (((cs.toList.drop a).take n).drop j).take c = [v]) : W.cell? ⟨g, a + j, none⟩ = some v := by
  subst hc
  rw [hcell]
  have := chunk_at hj (take_one h)
  simpa using this
theorem parts_of {W : World} (h : laidMet Tryz.prog [("smithy/graph.partsOf", Rows.laid_smithy_graph_partsOf)] W) : PartsAt W := by
  obtain ⟨ps, h, _, _⟩ := h
  obtain ⟨g, t, cs, fuel, p, hg, ht, hv, hd⟩ := laid_at h (n := "smithy/graph.partsOf") (d := Rows.laid_smithy_graph_partsOf) (by simp)
  obtain rfl := Option.some.inj ((show Tryz.prog.globalNamed "smithy/graph.partsOf" = some 0 by kernel_rfl).symm.trans hg)
  obtain rfl := Option.some.inj ((show (Tryz.prog.globals[0]?).map (·.type) = some 86 by kernel_rfl).symm.trans ht)
  have hcell := fun j => World.var?_cell hg hv j
  rw [parts_data] at hd
  obtain ⟨xs, m, _, ex, _, hl, hel⟩ := DataW.trod_array (show Tryz.prog.underlying 86 = some (.array 11 85) by kernel_rfl) hd
  have e3 := (DataW.agg.inj (Prod.mk.inj ex).1).symm
  have c6 : Tryz.prog.cellsOf 85 = 6 := by kernel_rfl
  have main : ∀ (i : Nat) (o : Has), hasL[i]? = some o → W.cell? ⟨0, i * 6, none⟩ = some (.bool o.op) ∧ W.cell? ⟨0, i * 6 + 1, none⟩ = some (.bool o.dst) ∧ W.cell? ⟨0, i * 6 + 2, none⟩ = some (.bool o.bits) ∧ W.cell? ⟨0, i * 6 + 3, none⟩ = some (.bool o.ref) ∧ W.cell? ⟨0, i * 6 + 4, none⟩ = some (.int .i64 o.least) ∧ W.cell? ⟨0, i * 6 + 5, none⟩ = some (.int .i64 o.most) := by
    intro i o hi
    have h11 : i < 11 := by have := (List.getElem?_eq_some_iff.1 hi).1; simpa [hasL] using this
    have hE := hel i h11
    rw [c6, List.getElem?_eq_getElem (by omega)] at hE
    obtain ⟨ys, m2, _, ey, _, hl2, hel2⟩ := DataW.trod_struct Tryz.underlying85 hE
    have e4 : (xs.map (·.1))[i]? = some (.agg [.lit (.bool o.op), .lit (.bool o.dst), .lit (.bool o.bits), .lit (.bool o.ref), .lit (.int .i64 o.least), .lit (.int .i64 o.most)]) := by rw [e3, List.getElem?_map, hi]; rfl
    rw [List.getElem?_map, List.getElem?_eq_getElem (by omega : i < xs.length), ey] at e4
    have e5 := DataW.agg.inj (Option.some.inj e4)
    match ys, hl2, e5, hel2 with
    | [y0, y1, y2, y3, y4, y5], _, e5, hel2 =>
      simp only [List.map_cons, List.map_nil, List.cons.injEq, and_true] at e5
      obtain ⟨n0, s1, s2⟩ := DataW.trod_bool Tryz.underlying4 (hel2 0 _ rfl)
      obtain ⟨n1, a1, a2⟩ := DataW.trod_bool Tryz.underlying4 (hel2 1 _ rfl)
      obtain ⟨n2, b1, b2⟩ := DataW.trod_bool Tryz.underlying4 (hel2 2 _ rfl)
      obtain ⟨n3, d1, d2⟩ := DataW.trod_bool Tryz.underlying4 (hel2 3 _ rfl)
      obtain ⟨n4, f1, f2, _⟩ := DataW.trod_int Tryz.underlying3 (hel2 4 _ rfl)
      obtain ⟨n5, g1, g2, _⟩ := DataW.trod_int Tryz.underlying3 (hel2 5 _ rfl)
      have q0 := cell_of hcell (by omega : 0 < 6) c4b s1
      have q1 := cell_of hcell (by omega : 1 < 6) c4b a1
      have q2 := cell_of hcell (by omega : 2 < 6) c4b b1
      have q3 := cell_of hcell (by omega : 3 < 6) c4b d1
      have q4 := cell_of hcell (by omega : 4 < 6) c3 f1
      have q5 := cell_of hcell (by omega : 5 < 6) c3 g1
      rw [s2, a2, b2, d2, f2, g2] at e5
      simp only [DataW.lit.injEq, Lit.bool.injEq, Lit.int.injEq, true_and] at e5
      obtain ⟨r0, r1, r2, r3, r4, r5⟩ := e5
      refine ⟨?_, ?_, ?_, ?_, ?_, ?_⟩
      · rw [← r0]; exact q0
      · rw [← r1]; exact q1
      · rw [← r2]; exact q2
      · rw [← r3]; exact q3
      · rw [← r4]; exact q4
      · rw [← r5]; exact q5
  refine ⟨?_, main⟩
  have h1 := (main 0 _ rfl).1
  rcases Nat.eq_zero_or_pos W.heap.size with h0 | h0
  · simp [World.cell?, Array.getElem?_eq_none (show W.heap.size ≤ 0 by omega)] at h1
  · exact h0
end Go.Proofs.YtabpnjakfoofpaaGreatDoor
