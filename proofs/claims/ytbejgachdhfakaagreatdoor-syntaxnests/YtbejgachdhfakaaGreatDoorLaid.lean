/- What the listed variables give the walks: the two tables' cells, the two errors. -/
import Derived.Test.YtbejgachdhfakaaGreatDoorTie
import Derived.Test.YtbejgachdhfakaaGreatDoorGV
import Derived.ProofKit
import Derived.OpenShut
import Derived.LaidMore
import Derived.Lay
namespace Go.Proofs.YtbejgachdhfakaaGreatDoor
open Go.ChangeShapes Go.WideShapes Go.ChangeAt Go.RowKit

theorem laid_at {P : Program} {w : World} : ∀ {laid : List (String × DataW Unit)} {ps : List MemPlace}, DataW.LaidVars P w laid ps → ∀ {n : String} {d : DataW Unit}, (n, d) ∈ laid → ∃ g t cs fuel p, P.globalNamed n = some g ∧ (P.globals[g]?).map (·.type) = some t ∧ w.var? P n = some cs ∧ DataW.trod (fun _ => ()) P w 0 (fun _ => true) false fuel t cs.toList = some (d, p)
  | (n0, d0) :: r, ps, h, n, d, hm => by
    obtain ⟨g, t, cs, fuel, p, q, h1, h2, h3, h4, h5, _⟩ := h
    rcases List.mem_cons.1 hm with he | hm
    · cases he
      exact ⟨g, t, cs, fuel, p, h1, h2, h3, h4⟩
    · exact laid_at h5 hm
  | [], _, _, _, _, hm => by cases hm
theorem ops_data : (Rows.laid_smithy_syntax_operators : DataW Unit) = .agg (opsL.map fun o => .agg [.lit (.string o.1), .lit (.int .i64 (o.2.1 : Int)), .lit (.int .u8 (o.2.2.1 : Int)), .lit (.int .u8 (o.2.2.2 : Int))]) := by rfl
theorem shapes_data : (Rows.laid_smithy_syntax_shapes : DataW Unit) = .agg (shapesL.map fun s => .agg [.lit (.bool s.1), .lit (.bool s.2.1), .lit (.int .u8 (s.2.2.1 : Int)), .lit (.int .u8 (s.2.2.2.1 : Int)), .lit (.int .i64 (s.2.2.2.2.1 : Int)), .lit (.int .i64 (s.2.2.2.2.2 : Int))]) := by rfl
theorem take_one {l : List Value} {j : Nat} {v : Value} (h : (l.drop j).take 1 = [v]) : l[j]? = some v := by
  have h0 : ((l.drop j).take 1)[0]? = some v := by rw [h]; rfl
  simpa using h0
theorem chunk_at {l : List Value} {a n j : Nat} {v : Value} (hj : j < n) (h : ((l.drop a).take n)[j]? = some v) : l[a + j]? = some v := by
  rw [List.getElem?_take, if_pos hj, List.getElem?_drop] at h
  exact h
theorem c9 : Tryz.prog.cellsOf 9 = 1 := by kernel_rfl
theorem c3 : Tryz.prog.cellsOf 3 = 1 := by kernel_rfl
theorem c40 : Tryz.prog.cellsOf 40 = 1 := by kernel_rfl
theorem c42 : Tryz.prog.cellsOf 42 = 1 := by kernel_rfl
theorem c4b : Tryz.prog.cellsOf 4 = 1 := by kernel_rfl
theorem cell_of {W : World} {g : Nat} {cs : Array Value} (hcell : ∀ j, W.cell? ⟨g, j, none⟩ = cs[j]?) {a n j c : Nat} {v : Value} (hj : j < n) (hc : c = 1) (h : (((cs.toList.drop a).take n).drop j).take c = [v]) : W.cell? ⟨g, a + j, none⟩ = some v := by
  subst hc
  rw [hcell]
  have := chunk_at hj (take_one h)
  simpa using this
theorem ops_of {W : World} (h : laidMet Tryz.prog Rows.syntaxNestsRow.laid W) : OpsAt W 1 := by
  obtain ⟨ps, h, _, _⟩ := h
  obtain ⟨g, t, cs, fuel, p, hg, ht, hv, hd⟩ := laid_at h (n := "smithy/syntax.operators") (d := Rows.laid_smithy_syntax_operators) (by simp [Rows.syntaxNestsRow])
  obtain rfl := Option.some.inj ((show Tryz.prog.globalNamed "smithy/syntax.operators" = some 1 by kernel_rfl).symm.trans hg)
  obtain rfl := Option.some.inj ((show (Tryz.prog.globals[1]?).map (·.type) = some 268 by kernel_rfl).symm.trans ht)
  have hcell := fun j => World.var?_cell hg hv j
  rw [ops_data] at hd
  obtain ⟨xs, m, _, ex, _, hl, hel⟩ := DataW.trod_array (show Tryz.prog.underlying 268 = some (.array 18 267) by kernel_rfl) hd
  have e3 := (DataW.agg.inj (Prod.mk.inj ex).1).symm
  have c4 : Tryz.prog.cellsOf 267 = 4 := by kernel_rfl
  intro i o hi
  have h18 : i < 18 := by have := (List.getElem?_eq_some_iff.1 hi).1; simpa [opsL] using this
  have hE := hel i h18
  rw [c4, List.getElem?_eq_getElem (by omega)] at hE
  obtain ⟨ys, m2, _, ey, _, hl2, hel2⟩ := DataW.trod_struct Tryz.underlying267 hE
  have e4 : (xs.map (·.1))[i]? = some (.agg [.lit (.string o.1), .lit (.int .i64 (o.2.1 : Int)), .lit (.int .u8 (o.2.2.1 : Int)), .lit (.int .u8 (o.2.2.2 : Int))]) := by rw [e3, List.getElem?_map, hi]; rfl
  rw [List.getElem?_map, List.getElem?_eq_getElem (by omega : i < xs.length), ey] at e4
  have e5 := DataW.agg.inj (Option.some.inj e4)
  match ys, hl2, e5, hel2 with
  | [y0, y1, y2, y3], _, e5, hel2 =>
    simp only [List.map_cons, List.map_nil, List.cons.injEq, and_true] at e5
    obtain ⟨s, s1, s2, _⟩ := DataW.trod_string Tryz.underlying9 (hel2 0 _ rfl)
    obtain ⟨n1, a1, a2, _⟩ := DataW.trod_int Tryz.underlying3 (hel2 1 _ rfl)
    obtain ⟨n2, b1, b2, _⟩ := DataW.trod_int Tryz.underlying40 (hel2 2 _ rfl)
    obtain ⟨n3, d1, d2, _⟩ := DataW.trod_int Tryz.underlying42 (hel2 3 _ rfl)
    have q0 := cell_of hcell (by omega : 0 < 4) c9 s1
    have q1 := cell_of hcell (by omega : 1 < 4) c3 a1
    have q2 := cell_of hcell (by omega : 2 < 4) c40 b1
    have q3 := cell_of hcell (by omega : 3 < 4) c42 d1
    rw [s2, a2, b2, d2] at e5
    simp only [DataW.lit.injEq, Lit.string.injEq, Lit.int.injEq, true_and] at e5
    obtain ⟨r0, r1, r2, r3⟩ := e5
    rw [Nat.mul_comm 4 i]
    refine ⟨?_, ?_, ?_, ?_⟩
    · rw [← r0]; exact q0
    · rw [← r1]; exact q1
    · rw [← r2]; exact q2
    · rw [← r3]; exact q3
theorem shapes_of {W : World} (h : laidMet Tryz.prog Rows.syntaxNestsRow.laid W) : ShapesAt W := by
  obtain ⟨ps, h, _, _⟩ := h
  obtain ⟨g, t, cs, fuel, p, hg, ht, hv, hd⟩ := laid_at h (n := "smithy/syntax.shapes") (d := Rows.laid_smithy_syntax_shapes) (by simp [Rows.syntaxNestsRow])
  obtain rfl := Option.some.inj ((show Tryz.prog.globalNamed "smithy/syntax.shapes" = some 0 by kernel_rfl).symm.trans hg)
  obtain rfl := Option.some.inj ((show (Tryz.prog.globals[0]?).map (·.type) = some 132 by kernel_rfl).symm.trans ht)
  have hcell := fun j => World.var?_cell hg hv j
  rw [shapes_data] at hd
  obtain ⟨xs, m, _, ex, _, hl, hel⟩ := DataW.trod_array (show Tryz.prog.underlying 132 = some (.array 22 131) by kernel_rfl) hd
  have e3 := (DataW.agg.inj (Prod.mk.inj ex).1).symm
  have c6 : Tryz.prog.cellsOf 131 = 6 := by kernel_rfl
  have c129 : Tryz.prog.cellsOf 129 = 1 := by kernel_rfl
  intro i o hi
  have h22 : i < 22 := by have := (List.getElem?_eq_some_iff.1 hi).1; simpa [shapesL] using this
  have hE := hel i h22
  rw [c6, List.getElem?_eq_getElem (by omega)] at hE
  obtain ⟨ys, m2, _, ey, _, hl2, hel2⟩ := DataW.trod_struct Tryz.underlying131 hE
  have e4 : (xs.map (·.1))[i]? = some (.agg [.lit (.bool o.1), .lit (.bool o.2.1), .lit (.int .u8 (o.2.2.1 : Int)), .lit (.int .u8 (o.2.2.2.1 : Int)), .lit (.int .i64 (o.2.2.2.2.1 : Int)), .lit (.int .i64 (o.2.2.2.2.2 : Int))]) := by rw [e3, List.getElem?_map, hi]; rfl
  rw [List.getElem?_map, List.getElem?_eq_getElem (by omega : i < xs.length), ey] at e4
  have e5 := DataW.agg.inj (Option.some.inj e4)
  match ys, hl2, e5, hel2 with
  | [y0, y1, y2, y3, y4, y5], _, e5, hel2 =>
    simp only [List.map_cons, List.map_nil, List.cons.injEq, and_true] at e5
    obtain ⟨n0, s1, s2⟩ := DataW.trod_bool Tryz.underlying4 (hel2 0 _ rfl)
    obtain ⟨n1, a1, a2⟩ := DataW.trod_bool Tryz.underlying4 (hel2 1 _ rfl)
    obtain ⟨n2, b1, b2, _⟩ := DataW.trod_int Tryz.underlying129 (hel2 2 _ rfl)
    obtain ⟨n3, d1, d2, _⟩ := DataW.trod_int Tryz.underlying129 (hel2 3 _ rfl)
    obtain ⟨n4, f1, f2, _⟩ := DataW.trod_int Tryz.underlying3 (hel2 4 _ rfl)
    obtain ⟨n5, g1, g2, _⟩ := DataW.trod_int Tryz.underlying3 (hel2 5 _ rfl)
    have q0 := cell_of hcell (by omega : 0 < 6) c4b s1
    have q1 := cell_of hcell (by omega : 1 < 6) c4b a1
    have q2 := cell_of hcell (by omega : 2 < 6) c129 b1
    have q3 := cell_of hcell (by omega : 3 < 6) c129 d1
    have q4 := cell_of hcell (by omega : 4 < 6) c3 f1
    have q5 := cell_of hcell (by omega : 5 < 6) c3 g1
    rw [s2, a2, b2, d2, f2, g2] at e5
    simp only [DataW.lit.injEq, Lit.bool.injEq, Lit.int.injEq, true_and] at e5
    obtain ⟨r0, r1, r2, r3, r4, r5⟩ := e5
    rw [Nat.mul_comm 6 i]
    refine ⟨?_, ?_, ?_, ?_, ?_, ?_⟩
    · rw [← r0]; exact q0
    · rw [← r1]; exact q1
    · rw [← r2]; exact q2
    · rw [← r3]; exact q3
    · rw [← r4]; exact q4
    · rw [← r5]; exact q5
theorem trod_if {H : Type} {enc : TypeId × Value → H} {P : Program} {w : World} {base : Nat} {spare : Nat → Bool} {held : Bool} {fuel : Nat} {t : TypeId} {cs : List Value} {x : DataW H × List MemPlace} {ms : Array (String × TypeId)} (ht : P.underlying t = some (.interface ms)) (h : DataW.trod enc P w base spare held fuel t cs = some x) : ∃ v, cs = [v] ∧ IfaceV v := by
  cases fuel with
  | zero => simp [DataW.trod] at h
  | succ n =>
    unfold DataW.trod at h
    rw [ht] at h
    match cs, h with
    | [.nilIface], _ => exact ⟨_, rfl, .inl rfl⟩
    | [.iface u v], _ => exact ⟨_, rfl, .inr ⟨_, _, rfl⟩⟩
theorem glob_of {W : World} {laid : List (String × DataW Unit)} {ps : List MemPlace} (h : DataW.LaidVars Tryz.prog W laid ps) {n : String} {d : DataW Unit} (hm : (n, d) ∈ laid) {k : Nat} (hk : Tryz.prog.globalNamed n = some k) (hkt : (Tryz.prog.globals[k]?).map (·.type) = some 287) : ∃ x, W.cell? ⟨k, 0, none⟩ = some x ∧ IfaceV x := by
  obtain ⟨g, t, cs, fuel, p, hg, ht, hv, hd⟩ := laid_at h hm
  obtain rfl := Option.some.inj (hk.symm.trans hg)
  obtain rfl := Option.some.inj (hkt.symm.trans ht)
  obtain ⟨v, hc, hi⟩ := trod_if Tryz.underlying287 hd
  refine ⟨v, ?_, hi⟩
  rw [World.var?_cell hg hv 0]
  have : cs.toList[0]? = some v := by rw [hc]; rfl
  simpa using this
theorem all_of {W : World} (h : laidMetH Tryz.prog Rows.syntaxNestsRow.laid W) : GlobAll W := by
  rw [MakeChecks.laidMetH_plain _ _ _ (by kernel_rfl)] at h
  have ho := ops_of h
  have hs := shapes_of h
  obtain ⟨ps, h, _, _⟩ := h
  have h4 := glob_of h (n := "strconv.ErrSyntax") (d := Rows.laid_strconv_ErrSyntax) (by simp [Rows.syntaxNestsRow]) (k := 4) (by kernel_rfl) (by kernel_rfl)
  have h5 := glob_of h (n := "strconv.ErrRange") (d := Rows.laid_strconv_ErrRange) (by simp [Rows.syntaxNestsRow]) (k := 5) (by kernel_rfl) (by kernel_rfl)
  exact ⟨ho, hs, ⟨h4, h5⟩, GlobsAt.lt ⟨h4, h5⟩⟩
end Go.Proofs.YtbejgachdhfakaaGreatDoor
