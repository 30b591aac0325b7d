/- A source whose plain run is known: what Parse tells of it, and Right of that. -/
import Derived.Test.YtbejgachdhfakaaGreatDoorGM
import Derived.Test.YtbejgachdhfakaaGreatDoorGO
import Derived.Test.YtbejgachdhfakaaGreatDoorGP
import Derived.Test.YtbejgachdhfakaaGreatDoorR10
import Derived.Test.YtbejgachdhfakaaGreatDoorNPlain
import Derived.Laws.Concat
import Derived.Test.YtbejgachdhfakaaGreatDoorN0
import Derived.Test.YtbejgachdhfakaaGreatDoorN1
import Derived.Test.YtbejgachdhfakaaGreatDoorN2
import Derived.Test.YtbejgachdhfakaaGreatDoorN3
import Derived.Test.YtbejgachdhfakaaGreatDoorN4
import Derived.Test.YtbejgachdhfakaaGreatDoorNI
import Derived.Test.YtbejgachdhfakaaGreatDoorNJ
import Derived.Test.YtbejgachdhfakaaGreatDoorNK
namespace Go.Proofs.YtbejgachdhfakaaGreatDoor
open Go.RowKit

theorem fine_ok {l : List UInt8} {t : Tok} (h : tokFine l t = true) : TokOk ⟨l.toArray⟩ t := by
  unfold tokFine at h
  rw [Bool.and_eq_true, decide_eq_true_eq, Bool.or_eq_true, decide_eq_true_eq] at h
  refine ⟨fun h5 => absurd h5 h.1, fun h4 b hb => ?_⟩
  rcases h.2 with h2 | h2
  · exact absurd h4 h2
  · rw [List.all_eq_true] at h2
    have := h2 b (by rw [Lib.toList_data, Lib.extract_data] at hb; exact hb)
    exact of_decide_eq_true this
/-- What Parse hands back of a source whose run is known. -/
theorem parse_run {l : List UInt8} {r : Res (List Fd)} {w : World} (hl : l.length ≤ 65536) (h : runOf l = some r) (hne : r ≠ .out) (hO : OpsAt w 1 ∧ GlobsAt w) (h5 : 5 < w.heap.size) : Calls Tryz.prog 9 #[.string ⟨l.toArray⟩] w (PostParse w r) := by
  unfold runOf at h
  cases hs : scanS true l with
  | error e => rw [hs] at h; cases h
  | ok ts =>
    rw [hs] at h
    dsimp only at h
    by_cases hf : ts.all (tokFine l) = true
    · rw [if_pos hf] at h
      have he := Option.some.inj h
      subst he
      exact parse_ok ((does_stmt does_lit size_any 2000).block) (by omega) (s := ⟨l.toArray⟩) (by show l.toArray.size ≤ _; simpa using hl) hO h5 hs (fun t ht => fine_ok (List.all_eq_true.1 hf t ht)) hne
    · rw [if_neg hf] at h
      cases h
theorem kid_row {w : World} {base : Nat} {kv : Value} {ks : List Nat} (h : w.ownsRow base 3 1 kv ks.length (ints ks)) : IntsAt w kv (asInts ks) := by
  have hl : (asInts ks).length = ks.length := by simp
  rcases h.2 with ⟨hv, h0⟩ | ⟨g, cap, cur, hv, _⟩
  · have : ks = [] := List.eq_nil_of_length_eq_zero h0
    subst this
    exact ⟨none, 0, hv, .inl rfl⟩
  · subst hv
    refine ⟨some ⟨g, 0, none⟩, cap, by rw [hl], .inr ⟨g, 0, rfl, (h.lt g rfl).2, fun j k hk => ?_⟩⟩
    have := h.cells (g := g) rfl j (.int .i64 k) (by
      rw [List.getElem?_map] at hk ⊢
      cases he : ks[j]? with
      | none => rw [he] at hk; cases hk
      | some x =>
        rw [he] at hk
        simp at hk
        subst hk
        rfl)
    simpa [Addr.add_lit] using this
theorem ndsCells_at : ∀ (ns : List Nd) (kvs : List Value) (i : Nat) (n : Nd) (kv : Value) (j : Nat) (u : Value), ns[i]? = some n → kvs[i]? = some kv → (ndCells n kv)[j]? = some u → (ndsCells ns kvs)[8 * i + j]? = some u
  | m :: ns, k :: kvs, 0, n, kv, j, u, h1, h2, h3 => by
    simp at h1 h2
    subst h1
    subst h2
    simp only [ndsCells]
    rw [List.getElem?_append_left (by have := (List.getElem?_eq_some_iff.1 h3).1; omega), Nat.mul_zero, Nat.zero_add]
    exact h3
  | m :: ns, k :: kvs, i + 1, n, kv, j, u, h1, h2, h3 => by
    simp only [ndsCells]
    rw [List.getElem?_append_right (by simp [ndCells]; omega), show 8 * (i + 1) + j - (ndCells m k).length = 8 * i + j by simp [ndCells]; omega]
    exact ndsCells_at ns kvs i n kv j u (by simpa using h1) (by simpa using h2) h3
  | [], _, i, _, _, _, _, h1, _, _ => by simp at h1
  | _ :: _, [], i, _, _, _, _, _, h2, _ => by simp at h2
theorem fdsCells_at : ∀ (fs : List Fd) (pvs : List Value) (i : Nat) (f : Fd) (pv : Value) (j : Nat) (u : Value), fs[i]? = some f → pvs[i]? = some pv → (fdCells f pv)[j]? = some u → (fdsCells fs pvs)[i * 5 + j]? = some u
  | m :: fs, k :: pvs, 0, f, pv, j, u, h1, h2, h3 => by
    simp at h1 h2
    subst h1
    subst h2
    simp only [fdsCells]
    rw [List.getElem?_append_left (by have := (List.getElem?_eq_some_iff.1 h3).1; omega), Nat.zero_mul, Nat.zero_add]
    exact h3
  | m :: fs, k :: pvs, i + 1, f, pv, j, u, h1, h2, h3 => by
    simp only [fdsCells]
    rw [List.getElem?_append_right (by simp [fdCells]; omega), show (i + 1) * 5 + j - (fdCells m k).length = i * 5 + j by simp [fdCells]; omega]
    exact fdsCells_at fs pvs i f pv j u (by simpa using h1) (by simpa using h2) h3
  | [], _, i, _, _, _, _, h1, _, _ => by simp at h1
  | _ :: _, [], i, _, _, _, _, _, h2, _ => by simp at h2
theorem prCells_at : ∀ (ps : List Pr) (i : Nat) (p : Pr), ps[i]? = some p → (prCells ps)[3 * i]? = some (.string p.1) ∧ (prCells ps)[3 * i + 1]? = some (.int .i64 (p.2.1 : Int)) ∧ (prCells ps)[3 * i + 2]? = some (.int .u8 (p.2.2 : Int))
  | q :: ps, 0, p, h => by
    simp at h
    subst h
    exact ⟨rfl, rfl, rfl⟩
  | q :: ps, i + 1, p, h => by
    have := prCells_at ps i p (by simpa using h)
    rw [show 3 * (i + 1) = 3 * i + 3 by omega]
    exact this
  | [], i, p, h => by simp at h
theorem par_row {w : World} {base : Nat} {pv : Value} {ps : List Pr} (h : w.ownsRow base 84 3 pv ps.length (prCells ps)) : ParsAt w pv (ps.map fun p => (p.1, (p.2.1 : Int), (p.2.2 : Int))) := by
  have hl : (ps.map fun p => (p.1, (p.2.1 : Int), (p.2.2 : Int))).length = ps.length := by simp
  rcases h.2 with ⟨hv, h0⟩ | ⟨g, cap, cur, hv, _⟩
  · have : ps = [] := List.eq_nil_of_length_eq_zero h0
    subst this
    exact ⟨none, 0, hv, .inl rfl⟩
  · subst hv
    refine ⟨some ⟨g, 0, none⟩, cap, by rw [hl], .inr ⟨g, 0, rfl, (h.lt g rfl).2, fun j p hp => ?_⟩⟩
    rw [List.getElem?_map] at hp
    cases he : ps[j]? with
    | none => rw [he] at hp; cases hp
    | some q =>
      rw [he] at hp
      simp at hp
      subst hp
      have hj : j < ps.length := (List.getElem?_eq_some_iff.1 he).1
      have hc := prCells_at ps j q he
      rw [Nat.zero_add, h.cellAt (j * 3) (by omega), h.cellAt (j * 3 + 1) (by omega), h.cellAt (j * 3 + 2) (by omega), Nat.mul_comm j 3]
      exact hc
/-- The parser's tree is one that Right can read. -/
theorem tree_of {w : World} {base : Nat} {nv fv : Value} {kvs pvs : List Value} {ns : List Nd} {fs : List Fd} (hN : NodesIn w base nv kvs ns) (hF : FuncsIn w base fv pvs fs) (hf : fineT ns fs = true) : TreeAt w nv fv kvs pvs (ns.map ndNr) (fs.map fdFr) := by
  unfold fineT at hf
  simp only [Bool.and_eq_true, decide_eq_true_eq, List.all_eq_true] at hf
  obtain ⟨⟨⟨f1, f2⟩, f3⟩, f4⟩ := hf
  have hml : maxLen = 9223372036854775807 := by decide
  refine { nods := ?_, funs := ?_, nok := ?_, fok := ?_, nl := by simp; omega, fl := by simp; omega }
  · rcases hN.own.2 with ⟨hv, h0⟩ | ⟨g, cap, cur, hv, _⟩
    · have : ns = [] := List.eq_nil_of_length_eq_zero h0
      subst this
      exact ⟨none, 0, hv, .inl rfl⟩
    · refine ⟨some ⟨g, 0, none⟩, cap, by rw [hv]; simp, .inr ⟨g, 0, rfl, ?_⟩⟩
      have hown := hN.own
      rw [hv] at hown
      refine ⟨(hown.lt g rfl).2, by simp [hN.len], fun i n kv h1 h2 j u hj => ?_, fun i n kv h1 h2 => ?_⟩
      · rw [List.getElem?_map] at h1
        cases he : ns[i]? with
        | none => rw [he] at h1; cases h1
        | some m =>
          rw [he] at h1
          simp at h1
          subst h1
          have := hown.cells (g := g) rfl (8 * i + j) u (ndsCells_at ns kvs i m kv j u he h2 hj)
          simpa [Addr.add_lit] using this
      · rw [List.getElem?_map] at h1
        cases he : ns[i]? with
        | none => rw [he] at h1; cases h1
        | some m =>
          rw [he] at h1
          simp at h1
          subst h1
          exact kid_row (hN.kid i m kv he h2)
  · rcases hF.own.2 with ⟨hv, h0⟩ | ⟨g, cap, cur, hv, _⟩
    · have : fs = [] := List.eq_nil_of_length_eq_zero h0
      subst this
      exact ⟨none, 0, hv, .inl rfl⟩
    · refine ⟨some ⟨g, 0, none⟩, cap, by rw [hv]; simp, .inr ⟨g, 0, rfl, ?_⟩⟩
      have hown := hF.own
      rw [hv] at hown
      refine ⟨(hown.lt g rfl).2, by simp [hF.len], fun i f pv h1 h2 => ?_, fun i f pv h1 h2 => ?_⟩
      · rw [List.getElem?_map] at h1
        cases he : fs[i]? with
        | none => rw [he] at h1; cases h1
        | some m =>
          rw [he] at h1
          simp at h1
          subst h1
          have hc : ∀ j u, (fdCells m pv)[j]? = some u → w.cell? ⟨g, 0 + i * 5 + j, none⟩ = some u := fun j u hj => by
            have := hown.cells (g := g) rfl (i * 5 + j) u (fdsCells_at fs pvs i m pv j u he h2 hj)
            simpa [Addr.add_lit] using this
          exact ⟨hc 0 _ rfl, hc 1 _ rfl, hc 2 _ rfl, hc 3 _ rfl, hc 4 _ rfl⟩
      · rw [List.getElem?_map] at h1
        cases he : fs[i]? with
        | none => rw [he] at h1; cases h1
        | some m =>
          rw [he] at h1
          simp at h1
          subst h1
          exact par_row (hF.par i m pv he h2)
  · intro n hn
    obtain ⟨m, hm, rfl⟩ := List.mem_map.1 hn
    have := f3 m hm
    unfold fineNd at this
    simp only [Bool.and_eq_true, decide_eq_true_eq] at this
    refine ⟨⟨by show (0 : Int) ≤ (m.bits : Int); omega, by show (m.bits : Int) < _; omega⟩, by show m.name.size ≤ _; omega, by show (asInts m.kids).length < _; simp; omega, by show (0 : Int) ≤ (m.kind : Int); omega⟩
  · intro f hf
    obtain ⟨m, hm, rfl⟩ := List.mem_map.1 hf
    have := f4 m hm
    unfold fineFd at this
    simp only [Bool.and_eq_true, decide_eq_true_eq, List.all_eq_true] at this
    refine ⟨by show m.name.size ≤ _; omega, fun p hp => ?_, by show (m.pars.map _).length < _; simp; omega⟩
    obtain ⟨q, hq, rfl⟩ := List.mem_map.1 hp
    have := this.2 q hq
    show q.1.size ≤ _
    omega
end Go.Proofs.YtbejgachdhfakaaGreatDoor
/- The laws' own examples. -/
namespace Go.Proofs.YtbejgachdhfakaaGreatDoor
open Go.RowKit

def srcA : List UInt8 := [102, 117, 110, 99, 32, 102, 40, 97, 32, 105, 54, 52, 41, 32, 98, 111, 111, 108, 32, 123, 32, 114, 101, 116, 117, 114, 110, 32, 97, 60, 49, 43, 50, 59, 32, 125]
def srcB : List UInt8 := [102, 117, 110, 99, 32, 102, 40, 41, 32, 105, 54, 52, 32, 123, 32, 97, 32, 98, 59, 32, 125]
noncomputable def awakeB : Bool :=
  match runOf srcA with
  | some (.ok [f] st) => decide (st.nodes.length = 7) && decide (f.body = 6) && fineT st.nodes [f] && rightT (st.nodes.map ndNr) [fdFr f]
  | _ => false
set_option maxHeartbeats 0 in
theorem awake_run : awakeB = true := by decide +kernel
set_option maxHeartbeats 0 in
theorem stop_run : stopsB srcB 130 17 = true := by decide +kernel
theorem stops_of {l : List UInt8} {c p : Nat} (h : stopsB l c p = true) : runOf l = some (.err c p) := by
  unfold stopsB at h
  split at h
  · next c' p' he =>
    rw [Bool.and_eq_true, decide_eq_true_eq, decide_eq_true_eq] at h
    rw [he, h.1, h.2]
  · cases h
theorem taken_of {l : List UInt8} (h : takenB l = true) : ∃ fs st, runOf l = some (.ok fs st) ∧ fineT st.nodes fs = true ∧ rightT (st.nodes.map ndNr) (fs.map fdFr) = true := by
  unfold takenB at h
  split at h
  · next fs st he =>
    rw [Bool.and_eq_true] at h
    exact ⟨fs, st, he, h.1, h.2⟩
  · cases h
/-- The tables and the variables that the road reads. -/
structure GlobAll (w : World) : Prop where
  ops : OpsAt w 1
  shp : ShapesAt w
  glb : GlobsAt w
  lt : 5 < w.heap.size
theorem GlobAll.below {w w' : World} (h : GlobAll w) (hb : Below w.heap.size w w') : GlobAll w' := by
  have h5 := h.lt
  have hx : ∀ j, w'.cell? ⟨1, j, none⟩ = w.cell? ⟨1, j, none⟩ := fun j => hb.cell (p := ⟨1, j, none⟩) (by show 1 < _; omega)
  exact ⟨fun i o ho => by rw [hx, hx, hx, hx]; exact h.ops i o ho, h.shp.same fun j => hb.cell (p := ⟨0, j, none⟩) (by show 0 < _; omega), h.glb.below h5 hb, Nat.lt_of_lt_of_le h5 hb.size⟩
theorem eql_flt (x0 x1 y0 y1 : Int) (w : World) : (binOp .eql 26 (.agg #[.int .i64 x0, .int .i64 x1]) (.agg #[.int .i64 y0, .int .i64 y1])).run Tryz.prog w = .ok (.bool (x0 == y0 && x1 == y1)) w := by
  have hS : Tryz.prog.underlying 26 = some (.struct (Tryz.prog.fieldsOf 26)) := by kernel_rfl
  have hp : Tryz.prog.stoodInHeld 26 = false := by kernel_rfl
  rw [run_eql_struct, show (10000 : Nat) = 9999 + 1 from rfl, run_equalIn_agg w 9999 26 _ _ hS hp]
  simp only [Program.fieldsOf, Tryz.underlying26]
  go_simp
  by_cases h1 : x0 = y0 <;> by_cases h2 : x1 = y1 <;> simp [h1, h2]
theorem box2 {w : World} {b : Nat} {x0 x1 : Value} (h : Box w b [x0, x1]) : w.cell? ⟨b, 0, none⟩ = some x0 ∧ w.cell? ⟨b, 1, none⟩ = some x1 := ⟨h.cell 0 _ rfl, h.cell 1 _ rfl⟩
theorem two_boxes (w : World) (x0 x1 y0 y1 : Value) (t u : TypeId) : Below w.heap.size w ((w.alloc (.cells #[x0, x1] t)).alloc (.cells #[y0, y1] u)) ∧ Box ((w.alloc (.cells #[x0, x1] t)).alloc (.cells #[y0, y1] u)) w.heap.size [x0, x1] ∧ Box ((w.alloc (.cells #[x0, x1] t)).alloc (.cells #[y0, y1] u)) (w.heap.size + 1) [y0, y1] := by
  refine ⟨(nBelow _ _ _).trans ((nBelow _ _ _).mono (by simp)), (Box.new w [x0, x1] t).below (nBelow _ _ _), ?_⟩
  have := Box.new (w.alloc (.cells #[x0, x1] t)) [y0, y1] u
  rwa [show (w.alloc (.cells #[x0, x1] t)).heap.size = w.heap.size + 1 by simp] at this
theorem body_cell {w : World} {base gf cf : Nat} {pvs : List Value} {f : Fd} (h : FuncsIn w base (.slice (some ⟨gf, 0, none⟩) 1 cf) pvs [f]) (h6 : f.body = 6) : w.cell? ⟨gf, 4, none⟩ = some (.int .i64 6) := by
  have hl := h.len
  match pvs, hl with
  | [pv], _ =>
    have := h.own.cells (g := gf) rfl 4 (.int .i64 (f.body : Int)) rfl
    rw [h6] at this
    simpa [Addr.add_lit] using this
/-- Right of what Parse has told. -/
theorem right_of {w w1 : World} {nv fv : Value} {kvs pvs : List Value} {ns : List Nd} {fs : List Fd} (hw : GlobAll w) (hb : Below w.heap.size w w1) (hN : NodesIn w1 w.heap.size nv kvs ns) (hF : FuncsIn w1 w.heap.size fv pvs fs) (hf : fineT ns fs = true) (hr : rightT (ns.map ndNr) (fs.map fdFr) = true) :
    ∀ W, Below w1.heap.size w1 W → Calls Tryz.prog 10 #[.agg #[nv, fv]] W fun e w' => e = .returned (.bool true) ∧ Below W.heap.size W w' := by
  intro W hW
  have hg := (hw.below hb).below hW
  have := right_any' nv fv kvs pvs _ _ W (tree_of (hN.up (Nat.le_refl _) fun k _ hk => hW.block k hk) (hF.up (Nat.le_refl _) fun k _ hk => hW.block k hk) hf) hg.ops hg.shp (by have := hg.lt; omega)
  rwa [hr] at this
set_option maxRecDepth 100000 in
set_option maxHeartbeats 2000000 in
theorem awake_any (w : World) (hw : GlobAll w) : Calls Tryz.prog 7 #[] w fun e w' => e = .returned (.bool true) ∧ Below w.heap.size w w' := by
  obtain ⟨f, st, hrun, h7, h6, hfine, hright⟩ : ∃ f st, runOf srcA = some (.ok [f] st) ∧ st.nodes.length = 7 ∧ f.body = 6 ∧ fineT st.nodes [f] = true ∧ rightT (st.nodes.map ndNr) [fdFr f] = true := by
    have h := awake_run
    unfold awakeB at h
    split at h
    · next f st he =>
      simp only [Bool.and_eq_true, decide_eq_true_eq] at h
      exact ⟨f, st, he, h.1.1.1, h.1.1.2, h.1.2, h.2⟩
    · cases h
  have HA : Hid (Calls Tryz.prog 9 #[.string ⟨#[102, 117, 110, 99, 32, 102, 40, 97, 32, 105, 54, 52, 41, 32, 98, 111, 111, 108, 32, 123, 32, 114, 101, 116, 117, 114, 110, 32, 97, 60, 49, 43, 50, 59, 32, 125]⟩] w (PostParse w (.ok [f] st))) := parse_run (l := srcA) (by decide) hrun (by intro h; cases h) ⟨hw.ops, hw.glb⟩ hw.lt
  have HB : Hid (∀ W, GlobAll W → Calls Tryz.prog 9 #[.string ⟨#[102, 117, 110, 99, 32, 102, 40, 41, 32, 105, 54, 52, 32, 123, 32, 97, 32, 98, 59, 32, 125]⟩] W (PostParse W (.err 130 17))) := fun W hW => parse_run (l := srcB) (by decide) (stops_of stop_run) (by intro h; cases h) ⟨hW.ops, hW.glb⟩ hW.lt
  have heq := eql_flt
  have HH : Hid _ := And.intro h7 (And.intro h6 (And.intro hfine hright))
  have HW : Hid _ := hw
  clear hrun h7 h6 hfine hright hw
  unfold PostParse at HA HB
  dsimp only at HA HB
  go_enter Tryz.func7, Tryz.ntmps7
  go_wp2_with (first | (go_at_call 9; have hh := HT1; clear hh; refine Calls.mono (by exact HB.out _ (HW.out.below (HB1.out.trans (HT1.out.1.mono HB1.out.size)))) ?_; rintro e w2 ⟨rfl, hb2⟩; obtain ⟨p0, p1⟩ := box2 (HT1.out.2.1.below hb2); obtain ⟨q0, q1⟩ := box2 (HT1.out.2.2.below hb2); have pl := (HT1.out.2.1.below hb2).lt; have ql := (HT1.out.2.2.below hb2).lt; have hb12 := HT1.out.1.trans (hb2.mono HT1.out.1.size); have hbd2 := (hb12.cell (p := ⟨gf, 4, none⟩) hgf).trans hbody; have hgf2 : gf < w2.heap.size := Nat.lt_of_lt_of_le hgf hb12.size; have HB12 : Hid _ := hb12; have HT2 : Hid _ := two_boxes w2 (.slice none 0 0) (.slice none 0 0) (.int .i64 130) (.int .i64 17) 32 26; clear hb2 hb12 hbody) | (go_at_call 9; refine Calls.mono (by exact HA.out) ?_; rintro e w1 ⟨nv, fv, kvs, pvs, rfl, hN, hF, hb1⟩; have HN : Hid _ := hN; have HF : Hid _ := hF; have HB1 : Hid _ := hb1; have hno := hN.own; rw [HH.out.1] at hno; obtain ⟨gn, cn, rfl, _, _, _, _⟩ := own_form hno; obtain ⟨gf, cf, rfl, _, hgf, _, _⟩ := own_form hF.own; have hbody := body_cell hF HH.out.2.1; clear hN hF hno hb1 HA; have T1 := two_boxes w1 (.slice (some ⟨gn, 0, none⟩) 7 cn) (.slice (some ⟨gf, 0, none⟩) 1 cf) (.int .i64 0) (.int .i64 0) 32 26; have HT1 : Hid _ := T1; have HR : Hid _ := right_of HW.out HB1.out HN.out HF.out HH.out.2.2.1 HH.out.2.2.2; clear T1) | (go_at_call 10; refine Calls.mono (by exact HR.out _ (HB12.out.trans (HT2.out.1.mono HB12.out.size))) ?_; rintro e w3 ⟨rfl, hb3⟩; obtain ⟨r0, r1⟩ := box2 (HT2.out.2.2.below hb3); have HB3 : Hid _ := (HB1.out.trans (HB12.out.mono HB1.out.size)).trans ((HT2.out.1.trans (hb3.mono HT2.out.1.size)).mono (Nat.le_trans HB1.out.size HB12.out.size)); clear hb3))
  go_ret
  exact ⟨rfl, HB3.out⟩
end Go.Proofs.YtbejgachdhfakaaGreatDoor
/- As deep as may be, and one more. -/
namespace Go.Proofs.YtbejgachdhfakaaGreatDoor
open Go.RowKit

theorem nest_all {k n : Nat} (hk : k < 5) (hn : n < 40) : nestOk k n = true := by
  match k, hk with
  | 0, _ => exact nest_0 n hn
  | 1, _ => exact nest_1 n hn
  | 2, _ => exact nest_2 n hn
  | 3, _ => exact nest_3 n hn
  | 4, _ => exact nest_4 n hn
theorem if_all {n : Nat} (hn : n < 40) : ifOk n = true := by
  by_cases h1 : n < 12
  · exact if_lo n h1
  by_cases h2 : n < 15
  · have := if_12s (n - 12) (by omega)
    rwa [show 12 + (n - 12) = n by omega] at this
  by_cases h3 : n < 18
  · have := if_15s (n - 15) (by omega)
    rwa [show 15 + (n - 15) = n by omega] at this
  by_cases h4 : n < 21
  · have := if_18s (n - 18) (by omega)
    rwa [show 18 + (n - 18) = n by omega] at this
  obtain ⟨m, rfl⟩ : ∃ m, n = 21 + m := ⟨n - 21, by omega⟩
  match m, hn with
  | 0, _ => exact if_21
  | 1, _ => exact if_22
  | 2, _ => exact if_23
  | 3, _ => exact if_24
  | 4, _ => exact if_25
  | 5, _ => exact if_26
  | 6, _ => exact if_27
  | 7, _ => exact if_28
  | 8, _ => exact if_29
  | 9, _ => exact if_30
  | 10, _ => exact if_31
  | 11, _ => exact if_32
  | 12, _ => exact if_33
  | 13, _ => exact if_34
  | 14, _ => exact if_35
  | 15, _ => exact if_36
  | 16, _ => exact if_37
  | 17, _ => exact if_38
  | 18, _ => exact if_39
  | m + 19, h => omega
theorem rep_next (n : Nat) (x : List UInt8) : rep (n + 1) x = rep n x ++ x := by
  unfold rep
  rw [List.replicate_succ', List.flatten_append]
  simp
theorem rep_len (n : Nat) (x : List UInt8) : (rep n x).length = n * x.length := by
  induction n with
  | zero => simp [rep]
  | succ n ih => rw [rep_next, List.length_append, ih, Nat.succ_mul]
set_option maxRecDepth 100000 in
theorem pick_any (x n : Int) (w : World) (hn : n = 40 ∨ n = 5) : Calls Tryz.prog 14 #[.int .i64 x, .int .i64 n] w fun e w' => e = .returned (.int .i64 (x % n)) ∧ w' = w := by
  rcases hn with rfl | rfl
  · by_cases hx : 0 ≤ x
    · have e : x.tmod 40 = x % 40 := Int.tmod_eq_emod_of_nonneg hx
      have e0 : 0 ≤ x % 40 := by omega
      have e1 : ¬ x % 40 < 0 := by omega
      go_enter Tryz.func14, Tryz.ntmps14
      go_wp2
      go_ret
      exact ⟨rfl, rfl⟩
    · obtain ⟨y, rfl⟩ : ∃ y, x = -y := ⟨-x, by omega⟩
      have e : (-y).tmod 40 = -(y % 40) := by rw [Int.neg_tmod, Int.tmod_eq_emod_of_nonneg (by omega)]
      obtain ⟨m, hm⟩ : ∃ m, m = y % 40 := ⟨_, rfl⟩
      rw [← hm] at e
      have HM : Hid (m = y % 40) := hm
      have m0 : 0 ≤ m := by omega
      have m1 : m < 40 := by omega
      clear hm
      by_cases hz : m = 0
      · subst hz
        have e2 : (-y).tmod 40 = 0 := by rw [e]; rfl
        clear e
        go_enter Tryz.func14, Tryz.ntmps14
        go_wp2
        go_ret
        exact ⟨ret_int (by have := HM.out; omega), rfl⟩
      · have hneg : -m < 0 := by omega
        go_enter Tryz.func14, Tryz.ntmps14
        go_wp2
        go_ret
        exact ⟨ret_int (by have := HM.out; first | omega | (unfold wrap64; omega)), rfl⟩
  · by_cases hx : 0 ≤ x
    · have e : x.tmod 5 = x % 5 := Int.tmod_eq_emod_of_nonneg hx
      have e0 : 0 ≤ x % 5 := by omega
      have e1 : ¬ x % 5 < 0 := by omega
      go_enter Tryz.func14, Tryz.ntmps14
      go_wp2
      go_ret
      exact ⟨rfl, rfl⟩
    · obtain ⟨y, rfl⟩ : ∃ y, x = -y := ⟨-x, by omega⟩
      have e : (-y).tmod 5 = -(y % 5) := by rw [Int.neg_tmod, Int.tmod_eq_emod_of_nonneg (by omega)]
      obtain ⟨m, hm⟩ : ∃ m, m = y % 5 := ⟨_, rfl⟩
      rw [← hm] at e
      have HM : Hid (m = y % 5) := hm
      have m0 : 0 ≤ m := by omega
      have m1 : m < 5 := by omega
      clear hm
      by_cases hz : m = 0
      · subst hz
        have e2 : (-y).tmod 5 = 0 := by rw [e]; rfl
        clear e
        go_enter Tryz.func14, Tryz.ntmps14
        go_wp2
        go_ret
        exact ⟨ret_int (by have := HM.out; omega), rfl⟩
      · have hneg : -m < 0 := by omega
        go_enter Tryz.func14, Tryz.ntmps14
        go_wp2
        go_ret
        exact ⟨ret_int (by have := HM.out; first | omega | (unfold wrap64; omega)), rfl⟩
theorem str_add (x y : List UInt8) : (⟨x.toArray⟩ : ByteArray) ++ ⟨y.toArray⟩ = ⟨(x ++ y).toArray⟩ := by
  apply ByteArray.ext
  simp
theorem nest_len (k n : Nat) (hn : n < 40) : (nestSrc k n).length ≤ 65536 := by
  have ha : (nestA k).length ≤ 3 := by unfold nestA; split <;> simp
  have hb : (nestB k).length ≤ 1 := by unfold nestB; split <;> simp
  unfold nestSrc
  simp only [List.length_append, rep_len, List.length_cons, List.length_nil]
  have h1 : n * (nestA k).length ≤ 40 * 3 := Nat.mul_le_mul (by omega) ha
  have h2 : n * (nestB k).length ≤ 40 * 1 := Nat.mul_le_mul (by omega) hb
  omega
theorem if_len (n : Nat) (hn : n < 40) : (ifSrc n).length ≤ 65536 := by
  unfold ifSrc
  simp only [List.length_append, rep_len, List.length_cons, List.length_nil]
  omega
/-- What a run tells, as Parse hands it back. -/
def RunTold (_l : List UInt8) (ok : Bool) (c p : Nat) (w : World) (e : Ending) (w' : World) : Prop :=
  Below w.heap.size w w' ∧ if ok = true then (∃ nv fv, e = .returned (.tuple #[.agg #[nv, fv], .agg #[.int .i64 0, .int .i64 0]]) ∧ (∃ a n c, nv = .slice a n c) ∧ (∃ a n c, fv = .slice a n c) ∧ ∀ W, Below w'.heap.size w' W → Calls Tryz.prog 10 #[.agg #[nv, fv]] W fun e w' => e = .returned (.bool true) ∧ Below W.heap.size W w')
    else e = .returned (.tuple #[.agg #[.slice none 0 0, .slice none 0 0], .agg #[.int .i64 (c : Int), .int .i64 (p : Int)]])
theorem run_told {l : List UInt8} (hl : l.length ≤ 65536) (ok : Bool) (c p : Nat) (h : if ok = true then takenB l = true else stopsB l c p = true) {w : World} (hw : GlobAll w) {s : ByteArray} (hs : s = ⟨l.toArray⟩) : Calls Tryz.prog 9 #[.string s] w (RunTold l ok c p w) := by
  subst hs
  cases ok with
  | true =>
    obtain ⟨fs, st, hr, hf, hright⟩ := taken_of h
    refine (parse_run hl hr (by intro h; cases h) ⟨hw.ops, hw.glb⟩ hw.lt).mono ?_
    rintro e w' ⟨nv, fv, kvs, pvs, rfl, hN, hF, hb⟩
    exact ⟨hb, nv, fv, rfl, own_slice hN.own, own_slice hF.own, right_of hw hb hN hF hf hright⟩
  | false =>
    refine (parse_run hl (stops_of h) (by intro h; cases h) ⟨hw.ops, hw.glb⟩ hw.lt).mono ?_
    rintro e w' ⟨rfl, hb⟩
    exact ⟨hb, rfl⟩
theorem told_no {P : Prop} {e : Ending} {c p : Nat} {x y : Int} (h : if false = true then P else e = .returned (.tuple #[.agg #[.slice none 0 0, .slice none 0 0], .agg #[.int .i64 (c : Int), .int .i64 (p : Int)]])) (hx : (c : Int) = x) (hy : (p : Int) = y) : e = .returned (.tuple #[.agg #[.slice none 0 0, .slice none 0 0], .agg #[.int .i64 x, .int .i64 y]]) := by
  rw [if_neg (by simp)] at h
  rw [h, hx, hy]
theorem below3 {w w0 w1 w2 W : World} (h0 : Below w.heap.size w w0) (h1 : Below w0.heap.size w0 w1) (h2 : Below w1.heap.size w1 w2) (h3 : Below w2.heap.size w2 W) : Below w.heap.size w W :=
  ((h0.trans (h1.mono h0.size)).trans (h2.mono (Nat.le_trans h0.size h1.size))).trans (h3.mono (Nat.le_trans h0.size (Nat.le_trans h1.size h2.size)))
theorem below5 {w w0 w1 w2 W w3 w4 : World} (h0 : Below w.heap.size w w0) (h1 : Below w0.heap.size w0 w1) (h2 : Below w1.heap.size w1 w2) (h3 : Below w2.heap.size w2 W) (h4 : Below W.heap.size W w3) (h5 : Below w3.heap.size w3 w4) : Below w.heap.size w w4 :=
  have h := below3 h0 h1 h2 h3
  (h.trans (h4.mono h.size)).trans (h5.mono (Nat.le_trans h.size h4.size))
theorem add_ex {X Y : ByteArray} {x y : List UInt8} (hX : X = ⟨x.toArray⟩) (hY : Y = ⟨y.toArray⟩) (hl : x.length + y.length ≤ 100000) : ∃ Z : ByteArray, (∀ W, (Op.stringOp .add X Y).run Tryz.prog W = .ok (.string Z) W) ∧ Z = ⟨(x ++ y).toArray⟩ := by
  refine ⟨X ++ Y, fun W => run_string_add_sum W X Y ?_, by rw [hX, hY, str_add]⟩
  subst hX
  subst hY
  show x.toArray.size + y.toArray.size ≤ _
  simp
  omega
set_option maxRecDepth 100000 in
set_option maxHeartbeats 8000000 in
theorem nests_walk (what many : Int) (w : World) (hw : GlobAll w) : Calls Tryz.prog 5 #[.int .i64 what, .int .i64 many] w fun e w' => e = .returned (.bool true) ∧ Below w.heap.size w w' := by
  obtain ⟨n, hn⟩ : ∃ n : Nat, many % 40 = n := ⟨(many % 40).toNat, by omega⟩
  obtain ⟨k, hk⟩ : ∃ k : Nat, what % 5 = k := ⟨(what % 5).toNat, by omega⟩
  have hn40 : n < 40 := by omega
  have hk5 : k < 5 := by omega
  have HP1 : Hid (∀ (x m : Int) (W : World), x = many → m = 40 → Calls Tryz.prog 14 #[.int .i64 x, .int .i64 m] W fun e w' => e = .returned (.int .i64 (n : Int)) ∧ w' = W) := fun x m W hx hm => by subst hx; subst hm; have := pick_any x 40 W (.inl rfl); rwa [hn] at this
  have HP2 : Hid (∀ (x m : Int) (W : World), x = what → m = 5 → Calls Tryz.prog 14 #[.int .i64 x, .int .i64 m] W fun e w' => e = .returned (.int .i64 (k : Int)) ∧ w' = W) := fun x m W hx hm => by subst hx; subst hm; have := pick_any x 5 W (.inr rfl); rwa [hk] at this
  have HAW : Hid (Calls Tryz.prog 7 #[] w fun e w' => e = .returned (.bool true) ∧ Below w.heap.size w w') := awake_any w hw
  obtain ⟨ok, hok⟩ : ∃ ok, ok = decide (n < 32) := ⟨_, rfl⟩
  have HOK : Hid (ok = decide (n < 32)) := hok
  have HQ1 : Hid (∀ W s, GlobAll W → s = ⟨(nestSrc k n).toArray⟩ → Calls Tryz.prog 9 #[.string s] W (RunTold (nestSrc k n) ok 132 (22 + 31 * (nestA k).length + (nestA k).length - 1) W)) := fun W s hW hs => run_told (nest_len k n hn40) ok _ _ (by
    have := nest_all hk5 hn40
    unfold nestOk at this
    rw [hok]
    by_cases h : n < 32
    · rw [if_pos h] at this; simpa [h] using this
    · rw [if_neg h] at this; simpa [h] using this) hW hs
  have HQ2 : Hid (∀ W s, GlobAll W → s = ⟨(ifSrc n).toArray⟩ → Calls Tryz.prog 9 #[.string s] W (RunTold (ifSrc n) ok 132 301 W)) := fun W s hW hs => run_told (if_len n hn40) ok _ _ (by
    have := if_all hn40
    unfold ifOk at this
    rw [hok]
    by_cases h : n < 32
    · rw [if_pos h] at this; simpa [h] using this
    · rw [if_neg h] at this; simpa [h] using this) hW hs
  have heq := eql_flt
  have HW : Hid _ := hw
  have hn40' : (n : Int) < 40 := by omega
  clear hw hn hk hok
  unfold RunTold at HQ1 HQ2
  rcases (by omega : k = 0 ∨ k = 1 ∨ k = 2 ∨ k = 3 ∨ k = 4) with rfl | rfl | rfl | rfl | rfl
  · go_enter Tryz.func5, Tryz.ntmps5
    go_wp2_with (first | (go_at_call 7; refine Calls.mono (by exact HAW.out) ?_; rintro e w0 ⟨rfl, hb0⟩; have HB0 : Hid _ := hb0; have HG0 : Hid _ := HW.out.below hb0; clear hb0) | (go_at_call 14; first | (refine Calls.mono (by exact HP1.out _ _ _ rfl rfl) ?_; rintro e w' ⟨rfl, rfl⟩) | (refine Calls.mono (by exact HP2.out _ _ _ rfl rfl) ?_; rintro e w' ⟨rfl, rfl⟩)))
    clear HP1 HP2 HAW
    go_loop [6, 7, 10] (fun v6 v7 vi => ∃ (i : Nat) (S T : ByteArray), v6 = .string S ∧ v7 = .string T ∧ vi = .int .i64 i ∧ i ≤ n ∧ Hid (S = ⟨(rep i [40]).toArray⟩ ∧ T = ⟨(rep i [41]).toArray⟩)) (fun _ _ vi => n - (intOf vi).toNat)
    case atStart => exact ⟨0, _, _, rfl, rfl, rfl, by omega, rfl, rfl⟩
    case round =>
      obtain ⟨i, S, T, rfl, rfl, rfl, hi, hST⟩ := hrel
      by_cases hin : i < n
      · have hin' : (i : Int) < n := by omega
        obtain ⟨S', hS1, hS2⟩ := add_ex hST.out.1 (Y := ⟨#[40]⟩) (y := [40]) rfl (by simp [rep_len]; omega)
        obtain ⟨T', hT1, hT2⟩ := add_ex hST.out.2 (Y := ⟨#[41]⟩) (y := [41]) rfl (by simp [rep_len]; omega)
        have HN : Hid _ := And.intro hS2 hT2
        clear hS2 hT2 HQ1 HQ2
        go_wp2
        exact ⟨⟨i + 1, S', T', rfl, rfl, by first | rfl | (congr 1; omega), by omega, by rw [HN.out.1, rep_next], by rw [HN.out.2, rep_next]⟩, by simp [intOf]; omega⟩
      · obtain rfl : i = n := by omega
        obtain ⟨Z1, hz1, hz1e⟩ := add_ex (X := ⟨#[102, 117, 110, 99, 32, 102, 40, 41, 32, 105, 54, 52, 32, 123, 32, 114, 101, 116, 117, 114, 110, 32]⟩) (x := [102, 117, 110, 99, 32, 102, 40, 41, 32, 105, 54, 52, 32, 123, 32, 114, 101, 116, 117, 114, 110, 32]) rfl hST.out.1 (by simp [rep_len]; omega)
        obtain ⟨Z2, hz2, hz2e⟩ := add_ex hz1e (Y := ⟨#[49]⟩) (y := [49]) rfl (by simp [rep_len]; omega)
        obtain ⟨Z3, hz3, hz3e⟩ := add_ex hz2e hST.out.2 (by simp [rep_len]; omega)
        obtain ⟨Z4, hz4, hz4e⟩ := add_ex hz3e (Y := ⟨#[59, 32, 125]⟩) (y := [59, 32, 125]) rfl (by simp [rep_len]; omega)
        have HZ4 : Hid (Z4 = ⟨(nestSrc 0 i).toArray⟩) := hz4e
        clear hz1e hz2e hz3e hz4e hST
        cases ok with
        | true =>
          have hn32 : (i : Int) + 1 ≤ 32 := by have := of_decide_eq_true HOK.out.symm; omega
          simp only [if_true] at HQ1 HQ2
          go_wp2_with (first | (go_at_call 9; refine Calls.mono (by exact HQ1.out _ _ HG0.out HZ4.out) ?_; rintro e w1 ⟨hb1, nv, fv, rfl, ⟨n1, n2, n3, rfl⟩, ⟨f1, f2, f3, rfl⟩, hR1⟩; have HR1 : Hid _ := hR1; clear hR1; have HB1 : Hid _ := hb1; have HT1 : Hid _ := two_boxes w1 (.slice n1 n2 n3) (.slice f1 f2 f3) (.int .i64 0) (.int .i64 0) 32 26; clear hb1))
          go_loop [13, 14, 15] (fun v13 v14 vi => ∃ (j : Nat) (S T : ByteArray), v13 = .string S ∧ v14 = .string T ∧ vi = .int .i64 j ∧ j ≤ i ∧ Hid (S = ⟨([102, 117, 110, 99, 32, 102, 40, 41, 32, 105, 54, 52, 32, 123] ++ rep j [105, 102, 32, 116, 114, 117, 101, 32, 123]).toArray⟩ ∧ T = ⟨([125] ++ rep j [125]).toArray⟩)) (fun _ _ vi => i - (intOf vi).toNat)
          case atStart => exact ⟨0, _, _, rfl, rfl, rfl, by omega, rfl, rfl⟩
          case round =>
            obtain ⟨j, S, T, rfl, rfl, rfl, hj, hST⟩ := hrel
            by_cases hjn : j < i
            · have hjn' : (j : Int) < i := by omega
              obtain ⟨S', hS1, hS2⟩ := add_ex hST.out.1 (Y := ⟨#[105, 102, 32, 116, 114, 117, 101, 32, 123]⟩) (y := [105, 102, 32, 116, 114, 117, 101, 32, 123]) rfl (by simp [rep_len]; omega)
              obtain ⟨T', hT1, hT2⟩ := add_ex hST.out.2 (Y := ⟨#[125]⟩) (y := [125]) rfl (by simp [rep_len]; omega)
              have HN : Hid _ := And.intro hS2 hT2
              clear hS2 hT2 HQ1 HQ2
              go_wp2
              exact ⟨⟨j + 1, S', T', rfl, rfl, by first | rfl | (congr 1; omega), by omega, by rw [HN.out.1, rep_next, List.append_assoc], by rw [HN.out.2, rep_next, List.append_assoc]⟩, by simp [intOf]; omega⟩
            · obtain rfl : j = i := by omega
              obtain ⟨Y1, hY1, hY1e⟩ := add_ex hST.out.1 hST.out.2 (by simp [rep_len]; omega)
              have HY1 : Hid (Y1 = ⟨(ifSrc j).toArray⟩) := hY1e
              clear hY1e HQ1
              go_wp2_with (first | (go_at_call 9; refine Calls.mono (by exact HQ2.out _ _ (HG0.out.below (HB1.out.trans (HT1.out.1.mono HB1.out.size))) HY1.out) ?_; rintro e w2 ⟨hb2, nv, fv, rfl, ⟨m1, m2, m3, rfl⟩, ⟨g1, g2, g3, rfl⟩, hR2⟩; have HR2 : Hid _ := hR2; clear hR2; have HB12 : Hid _ := HT1.out.1.trans (hb2.mono HT1.out.1.size); obtain ⟨p0, p1⟩ := box2 (HT1.out.2.1.below hb2); obtain ⟨q0, q1⟩ := box2 (HT1.out.2.2.below hb2); have pl := (HT1.out.2.1.below hb2).lt; have ql := (HT1.out.2.2.below hb2).lt; have HT2 : Hid _ := two_boxes w2 (.slice m1 m2 m3) (.slice g1 g2 g3) (.int .i64 0) (.int .i64 0) 32 26; clear hb2) | (go_at_call 10; have hh := HB3; clear hh; refine Calls.mono (by exact HR2.out _ ((HT2.out.1.trans (HB3.out.mono HT2.out.1.size)))) ?_; rintro e w4 ⟨rfl, hb4⟩; have HB4 : Hid _ := hb4; clear hb4) | (go_at_call 10; refine Calls.mono (by exact HR1.out _ (HB12.out.trans (HT2.out.1.mono HB12.out.size))) ?_; rintro e w3 ⟨rfl, hb3⟩; obtain ⟨z0, z1⟩ := box2 (HT2.out.2.1.below hb3); have HB3 : Hid _ := hb3; clear hb3))
              go_ret
              exact ⟨rfl, below5 HB0.out HB1.out HB12.out HT2.out.1 HB3.out HB4.out⟩
        | false =>
          have hn32 : ¬ (i : Int) + 1 ≤ 32 := by have := of_decide_eq_false HOK.out.symm; omega
          replace HQ1 : Hid (∀ W s, GlobAll W → s = ⟨(nestSrc 0 i).toArray⟩ → Calls Tryz.prog 9 #[.string s] W fun e w' => Below W.heap.size W w' ∧ e = .returned (.tuple #[.agg #[.slice none 0 0, .slice none 0 0], .agg #[.int .i64 132, .int .i64 53]])) := fun W s h1 h2 => (HQ1.out W s h1 h2).mono fun e w' hh => ⟨hh.1, told_no hh.2 rfl rfl⟩
          replace HQ2 : Hid (∀ W s, GlobAll W → s = ⟨(ifSrc i).toArray⟩ → Calls Tryz.prog 9 #[.string s] W fun e w' => Below W.heap.size W w' ∧ e = .returned (.tuple #[.agg #[.slice none 0 0, .slice none 0 0], .agg #[.int .i64 132, .int .i64 301]])) := fun W s h1 h2 => (HQ2.out W s h1 h2).mono fun e w' hh => ⟨hh.1, told_no hh.2 rfl rfl⟩
          go_wp2_with (first | (go_at_call 9; refine Calls.mono (by exact HQ1.out _ _ HG0.out HZ4.out) ?_; rintro e w1 ⟨hb1, rfl⟩; have HB1 : Hid _ := hb1; have HT1 : Hid _ := two_boxes w1 (.slice none 0 0) (.slice none 0 0) (.int .i64 132) (.int .i64 53) 32 26; clear hb1))
          go_loop [13, 14, 15] (fun v13 v14 vi => ∃ (j : Nat) (S T : ByteArray), v13 = .string S ∧ v14 = .string T ∧ vi = .int .i64 j ∧ j ≤ i ∧ Hid (S = ⟨([102, 117, 110, 99, 32, 102, 40, 41, 32, 105, 54, 52, 32, 123] ++ rep j [105, 102, 32, 116, 114, 117, 101, 32, 123]).toArray⟩ ∧ T = ⟨([125] ++ rep j [125]).toArray⟩)) (fun _ _ vi => i - (intOf vi).toNat)
          case atStart => exact ⟨0, _, _, rfl, rfl, rfl, by omega, rfl, rfl⟩
          case round =>
            obtain ⟨j, S, T, rfl, rfl, rfl, hj, hST⟩ := hrel
            by_cases hjn : j < i
            · have hjn' : (j : Int) < i := by omega
              obtain ⟨S', hS1, hS2⟩ := add_ex hST.out.1 (Y := ⟨#[105, 102, 32, 116, 114, 117, 101, 32, 123]⟩) (y := [105, 102, 32, 116, 114, 117, 101, 32, 123]) rfl (by simp [rep_len]; omega)
              obtain ⟨T', hT1, hT2⟩ := add_ex hST.out.2 (Y := ⟨#[125]⟩) (y := [125]) rfl (by simp [rep_len]; omega)
              have HN : Hid _ := And.intro hS2 hT2
              clear hS2 hT2 HQ1 HQ2
              go_wp2
              exact ⟨⟨j + 1, S', T', rfl, rfl, by first | rfl | (congr 1; omega), by omega, by rw [HN.out.1, rep_next, List.append_assoc], by rw [HN.out.2, rep_next, List.append_assoc]⟩, by simp [intOf]; omega⟩
            · obtain rfl : j = i := by omega
              obtain ⟨Y1, hY1, hY1e⟩ := add_ex hST.out.1 hST.out.2 (by simp [rep_len]; omega)
              have HY1 : Hid (Y1 = ⟨(ifSrc j).toArray⟩) := hY1e
              clear hY1e HQ1
              go_wp2_with (first | (go_at_call 9; refine Calls.mono (by exact HQ2.out _ _ (HG0.out.below (HB1.out.trans (HT1.out.1.mono HB1.out.size))) HY1.out) ?_; rintro e w2 ⟨hb2, rfl⟩; have HB12 : Hid _ := HT1.out.1.trans (hb2.mono HT1.out.1.size); obtain ⟨p0, p1⟩ := box2 (HT1.out.2.1.below hb2); obtain ⟨q0, q1⟩ := box2 (HT1.out.2.2.below hb2); have pl := (HT1.out.2.1.below hb2).lt; have ql := (HT1.out.2.2.below hb2).lt; have HT2 : Hid _ := two_boxes w2 (.slice none 0 0) (.slice none 0 0) (.int .i64 132) (.int .i64 301) 32 26; clear hb2))
              go_ret
              exact ⟨rfl, below3 HB0.out HB1.out HB12.out HT2.out.1⟩
  · go_enter Tryz.func5, Tryz.ntmps5
    go_wp2_with (first | (go_at_call 7; refine Calls.mono (by exact HAW.out) ?_; rintro e w0 ⟨rfl, hb0⟩; have HB0 : Hid _ := hb0; have HG0 : Hid _ := HW.out.below hb0; clear hb0) | (go_at_call 14; first | (refine Calls.mono (by exact HP1.out _ _ _ rfl rfl) ?_; rintro e w' ⟨rfl, rfl⟩) | (refine Calls.mono (by exact HP2.out _ _ _ rfl rfl) ?_; rintro e w' ⟨rfl, rfl⟩)))
    clear HP1 HP2 HAW
    go_loop [6, 7, 10] (fun v6 v7 vi => ∃ (i : Nat) (S T : ByteArray), v6 = .string S ∧ v7 = .string T ∧ vi = .int .i64 i ∧ i ≤ n ∧ Hid (S = ⟨(rep i [45]).toArray⟩ ∧ T = ⟨(rep i []).toArray⟩)) (fun _ _ vi => n - (intOf vi).toNat)
    case atStart => exact ⟨0, _, _, rfl, rfl, rfl, by omega, rfl, rfl⟩
    case round =>
      obtain ⟨i, S, T, rfl, rfl, rfl, hi, hST⟩ := hrel
      by_cases hin : i < n
      · have hin' : (i : Int) < n := by omega
        obtain ⟨S', hS1, hS2⟩ := add_ex hST.out.1 (Y := ⟨#[45]⟩) (y := [45]) rfl (by simp [rep_len]; omega)
        obtain ⟨T', hT1, hT2⟩ := add_ex hST.out.2 (Y := ⟨#[]⟩) (y := []) rfl (by simp [rep_len])
        have HN : Hid _ := And.intro hS2 hT2
        clear hS2 hT2 HQ1 HQ2
        go_wp2
        exact ⟨⟨i + 1, S', T', rfl, rfl, by first | rfl | (congr 1; omega), by omega, by rw [HN.out.1, rep_next], by rw [HN.out.2, rep_next]⟩, by simp [intOf]; omega⟩
      · obtain rfl : i = n := by omega
        obtain ⟨Z1, hz1, hz1e⟩ := add_ex (X := ⟨#[102, 117, 110, 99, 32, 102, 40, 41, 32, 105, 54, 52, 32, 123, 32, 114, 101, 116, 117, 114, 110, 32]⟩) (x := [102, 117, 110, 99, 32, 102, 40, 41, 32, 105, 54, 52, 32, 123, 32, 114, 101, 116, 117, 114, 110, 32]) rfl hST.out.1 (by simp [rep_len]; omega)
        obtain ⟨Z2, hz2, hz2e⟩ := add_ex hz1e (Y := ⟨#[49]⟩) (y := [49]) rfl (by simp [rep_len]; omega)
        obtain ⟨Z3, hz3, hz3e⟩ := add_ex hz2e hST.out.2 (by simp [rep_len]; omega)
        obtain ⟨Z4, hz4, hz4e⟩ := add_ex hz3e (Y := ⟨#[59, 32, 125]⟩) (y := [59, 32, 125]) rfl (by simp [rep_len]; omega)
        have HZ4 : Hid (Z4 = ⟨(nestSrc 1 i).toArray⟩) := hz4e
        clear hz1e hz2e hz3e hz4e hST
        cases ok with
        | true =>
          have hn32 : (i : Int) + 1 ≤ 32 := by have := of_decide_eq_true HOK.out.symm; omega
          simp only [if_true] at HQ1 HQ2
          go_wp2_with (first | (go_at_call 9; refine Calls.mono (by exact HQ1.out _ _ HG0.out HZ4.out) ?_; rintro e w1 ⟨hb1, nv, fv, rfl, ⟨n1, n2, n3, rfl⟩, ⟨f1, f2, f3, rfl⟩, hR1⟩; have HR1 : Hid _ := hR1; clear hR1; have HB1 : Hid _ := hb1; have HT1 : Hid _ := two_boxes w1 (.slice n1 n2 n3) (.slice f1 f2 f3) (.int .i64 0) (.int .i64 0) 32 26; clear hb1))
          go_loop [13, 14, 15] (fun v13 v14 vi => ∃ (j : Nat) (S T : ByteArray), v13 = .string S ∧ v14 = .string T ∧ vi = .int .i64 j ∧ j ≤ i ∧ Hid (S = ⟨([102, 117, 110, 99, 32, 102, 40, 41, 32, 105, 54, 52, 32, 123] ++ rep j [105, 102, 32, 116, 114, 117, 101, 32, 123]).toArray⟩ ∧ T = ⟨([125] ++ rep j [125]).toArray⟩)) (fun _ _ vi => i - (intOf vi).toNat)
          case atStart => exact ⟨0, _, _, rfl, rfl, rfl, by omega, rfl, rfl⟩
          case round =>
            obtain ⟨j, S, T, rfl, rfl, rfl, hj, hST⟩ := hrel
            by_cases hjn : j < i
            · have hjn' : (j : Int) < i := by omega
              obtain ⟨S', hS1, hS2⟩ := add_ex hST.out.1 (Y := ⟨#[105, 102, 32, 116, 114, 117, 101, 32, 123]⟩) (y := [105, 102, 32, 116, 114, 117, 101, 32, 123]) rfl (by simp [rep_len]; omega)
              obtain ⟨T', hT1, hT2⟩ := add_ex hST.out.2 (Y := ⟨#[125]⟩) (y := [125]) rfl (by simp [rep_len]; omega)
              have HN : Hid _ := And.intro hS2 hT2
              clear hS2 hT2 HQ1 HQ2
              go_wp2
              exact ⟨⟨j + 1, S', T', rfl, rfl, by first | rfl | (congr 1; omega), by omega, by rw [HN.out.1, rep_next, List.append_assoc], by rw [HN.out.2, rep_next, List.append_assoc]⟩, by simp [intOf]; omega⟩
            · obtain rfl : j = i := by omega
              obtain ⟨Y1, hY1, hY1e⟩ := add_ex hST.out.1 hST.out.2 (by simp [rep_len]; omega)
              have HY1 : Hid (Y1 = ⟨(ifSrc j).toArray⟩) := hY1e
              clear hY1e HQ1
              go_wp2_with (first | (go_at_call 9; refine Calls.mono (by exact HQ2.out _ _ (HG0.out.below (HB1.out.trans (HT1.out.1.mono HB1.out.size))) HY1.out) ?_; rintro e w2 ⟨hb2, nv, fv, rfl, ⟨m1, m2, m3, rfl⟩, ⟨g1, g2, g3, rfl⟩, hR2⟩; have HR2 : Hid _ := hR2; clear hR2; have HB12 : Hid _ := HT1.out.1.trans (hb2.mono HT1.out.1.size); obtain ⟨p0, p1⟩ := box2 (HT1.out.2.1.below hb2); obtain ⟨q0, q1⟩ := box2 (HT1.out.2.2.below hb2); have pl := (HT1.out.2.1.below hb2).lt; have ql := (HT1.out.2.2.below hb2).lt; have HT2 : Hid _ := two_boxes w2 (.slice m1 m2 m3) (.slice g1 g2 g3) (.int .i64 0) (.int .i64 0) 32 26; clear hb2) | (go_at_call 10; have hh := HB3; clear hh; refine Calls.mono (by exact HR2.out _ ((HT2.out.1.trans (HB3.out.mono HT2.out.1.size)))) ?_; rintro e w4 ⟨rfl, hb4⟩; have HB4 : Hid _ := hb4; clear hb4) | (go_at_call 10; refine Calls.mono (by exact HR1.out _ (HB12.out.trans (HT2.out.1.mono HB12.out.size))) ?_; rintro e w3 ⟨rfl, hb3⟩; obtain ⟨z0, z1⟩ := box2 (HT2.out.2.1.below hb3); have HB3 : Hid _ := hb3; clear hb3))
              go_ret
              exact ⟨rfl, below5 HB0.out HB1.out HB12.out HT2.out.1 HB3.out HB4.out⟩
        | false =>
          have hn32 : ¬ (i : Int) + 1 ≤ 32 := by have := of_decide_eq_false HOK.out.symm; omega
          replace HQ1 : Hid (∀ W s, GlobAll W → s = ⟨(nestSrc 1 i).toArray⟩ → Calls Tryz.prog 9 #[.string s] W fun e w' => Below W.heap.size W w' ∧ e = .returned (.tuple #[.agg #[.slice none 0 0, .slice none 0 0], .agg #[.int .i64 132, .int .i64 53]])) := fun W s h1 h2 => (HQ1.out W s h1 h2).mono fun e w' hh => ⟨hh.1, told_no hh.2 rfl rfl⟩
          replace HQ2 : Hid (∀ W s, GlobAll W → s = ⟨(ifSrc i).toArray⟩ → Calls Tryz.prog 9 #[.string s] W fun e w' => Below W.heap.size W w' ∧ e = .returned (.tuple #[.agg #[.slice none 0 0, .slice none 0 0], .agg #[.int .i64 132, .int .i64 301]])) := fun W s h1 h2 => (HQ2.out W s h1 h2).mono fun e w' hh => ⟨hh.1, told_no hh.2 rfl rfl⟩
          go_wp2_with (first | (go_at_call 9; refine Calls.mono (by exact HQ1.out _ _ HG0.out HZ4.out) ?_; rintro e w1 ⟨hb1, rfl⟩; have HB1 : Hid _ := hb1; have HT1 : Hid _ := two_boxes w1 (.slice none 0 0) (.slice none 0 0) (.int .i64 132) (.int .i64 53) 32 26; clear hb1))
          go_loop [13, 14, 15] (fun v13 v14 vi => ∃ (j : Nat) (S T : ByteArray), v13 = .string S ∧ v14 = .string T ∧ vi = .int .i64 j ∧ j ≤ i ∧ Hid (S = ⟨([102, 117, 110, 99, 32, 102, 40, 41, 32, 105, 54, 52, 32, 123] ++ rep j [105, 102, 32, 116, 114, 117, 101, 32, 123]).toArray⟩ ∧ T = ⟨([125] ++ rep j [125]).toArray⟩)) (fun _ _ vi => i - (intOf vi).toNat)
          case atStart => exact ⟨0, _, _, rfl, rfl, rfl, by omega, rfl, rfl⟩
          case round =>
            obtain ⟨j, S, T, rfl, rfl, rfl, hj, hST⟩ := hrel
            by_cases hjn : j < i
            · have hjn' : (j : Int) < i := by omega
              obtain ⟨S', hS1, hS2⟩ := add_ex hST.out.1 (Y := ⟨#[105, 102, 32, 116, 114, 117, 101, 32, 123]⟩) (y := [105, 102, 32, 116, 114, 117, 101, 32, 123]) rfl (by simp [rep_len]; omega)
              obtain ⟨T', hT1, hT2⟩ := add_ex hST.out.2 (Y := ⟨#[125]⟩) (y := [125]) rfl (by simp [rep_len]; omega)
              have HN : Hid _ := And.intro hS2 hT2
              clear hS2 hT2 HQ1 HQ2
              go_wp2
              exact ⟨⟨j + 1, S', T', rfl, rfl, by first | rfl | (congr 1; omega), by omega, by rw [HN.out.1, rep_next, List.append_assoc], by rw [HN.out.2, rep_next, List.append_assoc]⟩, by simp [intOf]; omega⟩
            · obtain rfl : j = i := by omega
              obtain ⟨Y1, hY1, hY1e⟩ := add_ex hST.out.1 hST.out.2 (by simp [rep_len]; omega)
              have HY1 : Hid (Y1 = ⟨(ifSrc j).toArray⟩) := hY1e
              clear hY1e HQ1
              go_wp2_with (first | (go_at_call 9; refine Calls.mono (by exact HQ2.out _ _ (HG0.out.below (HB1.out.trans (HT1.out.1.mono HB1.out.size))) HY1.out) ?_; rintro e w2 ⟨hb2, rfl⟩; have HB12 : Hid _ := HT1.out.1.trans (hb2.mono HT1.out.1.size); obtain ⟨p0, p1⟩ := box2 (HT1.out.2.1.below hb2); obtain ⟨q0, q1⟩ := box2 (HT1.out.2.2.below hb2); have pl := (HT1.out.2.1.below hb2).lt; have ql := (HT1.out.2.2.below hb2).lt; have HT2 : Hid _ := two_boxes w2 (.slice none 0 0) (.slice none 0 0) (.int .i64 132) (.int .i64 301) 32 26; clear hb2))
              go_ret
              exact ⟨rfl, below3 HB0.out HB1.out HB12.out HT2.out.1⟩
  · go_enter Tryz.func5, Tryz.ntmps5
    go_wp2_with (first | (go_at_call 7; refine Calls.mono (by exact HAW.out) ?_; rintro e w0 ⟨rfl, hb0⟩; have HB0 : Hid _ := hb0; have HG0 : Hid _ := HW.out.below hb0; clear hb0) | (go_at_call 14; first | (refine Calls.mono (by exact HP1.out _ _ _ rfl rfl) ?_; rintro e w' ⟨rfl, rfl⟩) | (refine Calls.mono (by exact HP2.out _ _ _ rfl rfl) ?_; rintro e w' ⟨rfl, rfl⟩)))
    clear HP1 HP2 HAW
    go_loop [6, 7, 10] (fun v6 v7 vi => ∃ (i : Nat) (S T : ByteArray), v6 = .string S ∧ v7 = .string T ∧ vi = .int .i64 i ∧ i ≤ n ∧ Hid (S = ⟨(rep i [102, 40]).toArray⟩ ∧ T = ⟨(rep i [41]).toArray⟩)) (fun _ _ vi => n - (intOf vi).toNat)
    case atStart => exact ⟨0, _, _, rfl, rfl, rfl, by omega, rfl, rfl⟩
    case round =>
      obtain ⟨i, S, T, rfl, rfl, rfl, hi, hST⟩ := hrel
      by_cases hin : i < n
      · have hin' : (i : Int) < n := by omega
        obtain ⟨S', hS1, hS2⟩ := add_ex hST.out.1 (Y := ⟨#[102, 40]⟩) (y := [102, 40]) rfl (by simp [rep_len]; omega)
        obtain ⟨T', hT1, hT2⟩ := add_ex hST.out.2 (Y := ⟨#[41]⟩) (y := [41]) rfl (by simp [rep_len]; omega)
        have HN : Hid _ := And.intro hS2 hT2
        clear hS2 hT2 HQ1 HQ2
        go_wp2
        exact ⟨⟨i + 1, S', T', rfl, rfl, by first | rfl | (congr 1; omega), by omega, by rw [HN.out.1, rep_next], by rw [HN.out.2, rep_next]⟩, by simp [intOf]; omega⟩
      · obtain rfl : i = n := by omega
        obtain ⟨Z1, hz1, hz1e⟩ := add_ex (X := ⟨#[102, 117, 110, 99, 32, 102, 40, 41, 32, 105, 54, 52, 32, 123, 32, 114, 101, 116, 117, 114, 110, 32]⟩) (x := [102, 117, 110, 99, 32, 102, 40, 41, 32, 105, 54, 52, 32, 123, 32, 114, 101, 116, 117, 114, 110, 32]) rfl hST.out.1 (by simp [rep_len]; omega)
        obtain ⟨Z2, hz2, hz2e⟩ := add_ex hz1e (Y := ⟨#[49]⟩) (y := [49]) rfl (by simp [rep_len]; omega)
        obtain ⟨Z3, hz3, hz3e⟩ := add_ex hz2e hST.out.2 (by simp [rep_len]; omega)
        obtain ⟨Z4, hz4, hz4e⟩ := add_ex hz3e (Y := ⟨#[59, 32, 125]⟩) (y := [59, 32, 125]) rfl (by simp [rep_len]; omega)
        have HZ4 : Hid (Z4 = ⟨(nestSrc 2 i).toArray⟩) := hz4e
        clear hz1e hz2e hz3e hz4e hST
        cases ok with
        | true =>
          have hn32 : (i : Int) + 1 ≤ 32 := by have := of_decide_eq_true HOK.out.symm; omega
          simp only [if_true] at HQ1 HQ2
          go_wp2_with (first | (go_at_call 9; refine Calls.mono (by exact HQ1.out _ _ HG0.out HZ4.out) ?_; rintro e w1 ⟨hb1, nv, fv, rfl, ⟨n1, n2, n3, rfl⟩, ⟨f1, f2, f3, rfl⟩, hR1⟩; have HR1 : Hid _ := hR1; clear hR1; have HB1 : Hid _ := hb1; have HT1 : Hid _ := two_boxes w1 (.slice n1 n2 n3) (.slice f1 f2 f3) (.int .i64 0) (.int .i64 0) 32 26; clear hb1))
          go_loop [13, 14, 15] (fun v13 v14 vi => ∃ (j : Nat) (S T : ByteArray), v13 = .string S ∧ v14 = .string T ∧ vi = .int .i64 j ∧ j ≤ i ∧ Hid (S = ⟨([102, 117, 110, 99, 32, 102, 40, 41, 32, 105, 54, 52, 32, 123] ++ rep j [105, 102, 32, 116, 114, 117, 101, 32, 123]).toArray⟩ ∧ T = ⟨([125] ++ rep j [125]).toArray⟩)) (fun _ _ vi => i - (intOf vi).toNat)
          case atStart => exact ⟨0, _, _, rfl, rfl, rfl, by omega, rfl, rfl⟩
          case round =>
            obtain ⟨j, S, T, rfl, rfl, rfl, hj, hST⟩ := hrel
            by_cases hjn : j < i
            · have hjn' : (j : Int) < i := by omega
              obtain ⟨S', hS1, hS2⟩ := add_ex hST.out.1 (Y := ⟨#[105, 102, 32, 116, 114, 117, 101, 32, 123]⟩) (y := [105, 102, 32, 116, 114, 117, 101, 32, 123]) rfl (by simp [rep_len]; omega)
              obtain ⟨T', hT1, hT2⟩ := add_ex hST.out.2 (Y := ⟨#[125]⟩) (y := [125]) rfl (by simp [rep_len]; omega)
              have HN : Hid _ := And.intro hS2 hT2
              clear hS2 hT2 HQ1 HQ2
              go_wp2
              exact ⟨⟨j + 1, S', T', rfl, rfl, by first | rfl | (congr 1; omega), by omega, by rw [HN.out.1, rep_next, List.append_assoc], by rw [HN.out.2, rep_next, List.append_assoc]⟩, by simp [intOf]; omega⟩
            · obtain rfl : j = i := by omega
              obtain ⟨Y1, hY1, hY1e⟩ := add_ex hST.out.1 hST.out.2 (by simp [rep_len]; omega)
              have HY1 : Hid (Y1 = ⟨(ifSrc j).toArray⟩) := hY1e
              clear hY1e HQ1
              go_wp2_with (first | (go_at_call 9; refine Calls.mono (by exact HQ2.out _ _ (HG0.out.below (HB1.out.trans (HT1.out.1.mono HB1.out.size))) HY1.out) ?_; rintro e w2 ⟨hb2, nv, fv, rfl, ⟨m1, m2, m3, rfl⟩, ⟨g1, g2, g3, rfl⟩, hR2⟩; have HR2 : Hid _ := hR2; clear hR2; have HB12 : Hid _ := HT1.out.1.trans (hb2.mono HT1.out.1.size); obtain ⟨p0, p1⟩ := box2 (HT1.out.2.1.below hb2); obtain ⟨q0, q1⟩ := box2 (HT1.out.2.2.below hb2); have pl := (HT1.out.2.1.below hb2).lt; have ql := (HT1.out.2.2.below hb2).lt; have HT2 : Hid _ := two_boxes w2 (.slice m1 m2 m3) (.slice g1 g2 g3) (.int .i64 0) (.int .i64 0) 32 26; clear hb2) | (go_at_call 10; have hh := HB3; clear hh; refine Calls.mono (by exact HR2.out _ ((HT2.out.1.trans (HB3.out.mono HT2.out.1.size)))) ?_; rintro e w4 ⟨rfl, hb4⟩; have HB4 : Hid _ := hb4; clear hb4) | (go_at_call 10; refine Calls.mono (by exact HR1.out _ (HB12.out.trans (HT2.out.1.mono HB12.out.size))) ?_; rintro e w3 ⟨rfl, hb3⟩; obtain ⟨z0, z1⟩ := box2 (HT2.out.2.1.below hb3); have HB3 : Hid _ := hb3; clear hb3))
              go_ret
              exact ⟨rfl, below5 HB0.out HB1.out HB12.out HT2.out.1 HB3.out HB4.out⟩
        | false =>
          have hn32 : ¬ (i : Int) + 1 ≤ 32 := by have := of_decide_eq_false HOK.out.symm; omega
          replace HQ1 : Hid (∀ W s, GlobAll W → s = ⟨(nestSrc 2 i).toArray⟩ → Calls Tryz.prog 9 #[.string s] W fun e w' => Below W.heap.size W w' ∧ e = .returned (.tuple #[.agg #[.slice none 0 0, .slice none 0 0], .agg #[.int .i64 132, .int .i64 85]])) := fun W s h1 h2 => (HQ1.out W s h1 h2).mono fun e w' hh => ⟨hh.1, told_no hh.2 rfl rfl⟩
          replace HQ2 : Hid (∀ W s, GlobAll W → s = ⟨(ifSrc i).toArray⟩ → Calls Tryz.prog 9 #[.string s] W fun e w' => Below W.heap.size W w' ∧ e = .returned (.tuple #[.agg #[.slice none 0 0, .slice none 0 0], .agg #[.int .i64 132, .int .i64 301]])) := fun W s h1 h2 => (HQ2.out W s h1 h2).mono fun e w' hh => ⟨hh.1, told_no hh.2 rfl rfl⟩
          go_wp2_with (first | (go_at_call 9; refine Calls.mono (by exact HQ1.out _ _ HG0.out HZ4.out) ?_; rintro e w1 ⟨hb1, rfl⟩; have HB1 : Hid _ := hb1; have HT1 : Hid _ := two_boxes w1 (.slice none 0 0) (.slice none 0 0) (.int .i64 132) (.int .i64 85) 32 26; clear hb1))
          go_loop [13, 14, 15] (fun v13 v14 vi => ∃ (j : Nat) (S T : ByteArray), v13 = .string S ∧ v14 = .string T ∧ vi = .int .i64 j ∧ j ≤ i ∧ Hid (S = ⟨([102, 117, 110, 99, 32, 102, 40, 41, 32, 105, 54, 52, 32, 123] ++ rep j [105, 102, 32, 116, 114, 117, 101, 32, 123]).toArray⟩ ∧ T = ⟨([125] ++ rep j [125]).toArray⟩)) (fun _ _ vi => i - (intOf vi).toNat)
          case atStart => exact ⟨0, _, _, rfl, rfl, rfl, by omega, rfl, rfl⟩
          case round =>
            obtain ⟨j, S, T, rfl, rfl, rfl, hj, hST⟩ := hrel
            by_cases hjn : j < i
            · have hjn' : (j : Int) < i := by omega
              obtain ⟨S', hS1, hS2⟩ := add_ex hST.out.1 (Y := ⟨#[105, 102, 32, 116, 114, 117, 101, 32, 123]⟩) (y := [105, 102, 32, 116, 114, 117, 101, 32, 123]) rfl (by simp [rep_len]; omega)
              obtain ⟨T', hT1, hT2⟩ := add_ex hST.out.2 (Y := ⟨#[125]⟩) (y := [125]) rfl (by simp [rep_len]; omega)
              have HN : Hid _ := And.intro hS2 hT2
              clear hS2 hT2 HQ1 HQ2
              go_wp2
              exact ⟨⟨j + 1, S', T', rfl, rfl, by first | rfl | (congr 1; omega), by omega, by rw [HN.out.1, rep_next, List.append_assoc], by rw [HN.out.2, rep_next, List.append_assoc]⟩, by simp [intOf]; omega⟩
            · obtain rfl : j = i := by omega
              obtain ⟨Y1, hY1, hY1e⟩ := add_ex hST.out.1 hST.out.2 (by simp [rep_len]; omega)
              have HY1 : Hid (Y1 = ⟨(ifSrc j).toArray⟩) := hY1e
              clear hY1e HQ1
              go_wp2_with (first | (go_at_call 9; refine Calls.mono (by exact HQ2.out _ _ (HG0.out.below (HB1.out.trans (HT1.out.1.mono HB1.out.size))) HY1.out) ?_; rintro e w2 ⟨hb2, rfl⟩; have HB12 : Hid _ := HT1.out.1.trans (hb2.mono HT1.out.1.size); obtain ⟨p0, p1⟩ := box2 (HT1.out.2.1.below hb2); obtain ⟨q0, q1⟩ := box2 (HT1.out.2.2.below hb2); have pl := (HT1.out.2.1.below hb2).lt; have ql := (HT1.out.2.2.below hb2).lt; have HT2 : Hid _ := two_boxes w2 (.slice none 0 0) (.slice none 0 0) (.int .i64 132) (.int .i64 301) 32 26; clear hb2))
              go_ret
              exact ⟨rfl, below3 HB0.out HB1.out HB12.out HT2.out.1⟩
  · go_enter Tryz.func5, Tryz.ntmps5
    go_wp2_with (first | (go_at_call 7; refine Calls.mono (by exact HAW.out) ?_; rintro e w0 ⟨rfl, hb0⟩; have HB0 : Hid _ := hb0; have HG0 : Hid _ := HW.out.below hb0; clear hb0) | (go_at_call 14; first | (refine Calls.mono (by exact HP1.out _ _ _ rfl rfl) ?_; rintro e w' ⟨rfl, rfl⟩) | (refine Calls.mono (by exact HP2.out _ _ _ rfl rfl) ?_; rintro e w' ⟨rfl, rfl⟩)))
    clear HP1 HP2 HAW
    go_loop [6, 7, 10] (fun v6 v7 vi => ∃ (i : Nat) (S T : ByteArray), v6 = .string S ∧ v7 = .string T ∧ vi = .int .i64 i ∧ i ≤ n ∧ Hid (S = ⟨(rep i [97, 91]).toArray⟩ ∧ T = ⟨(rep i [93]).toArray⟩)) (fun _ _ vi => n - (intOf vi).toNat)
    case atStart => exact ⟨0, _, _, rfl, rfl, rfl, by omega, rfl, rfl⟩
    case round =>
      obtain ⟨i, S, T, rfl, rfl, rfl, hi, hST⟩ := hrel
      by_cases hin : i < n
      · have hin' : (i : Int) < n := by omega
        obtain ⟨S', hS1, hS2⟩ := add_ex hST.out.1 (Y := ⟨#[97, 91]⟩) (y := [97, 91]) rfl (by simp [rep_len]; omega)
        obtain ⟨T', hT1, hT2⟩ := add_ex hST.out.2 (Y := ⟨#[93]⟩) (y := [93]) rfl (by simp [rep_len]; omega)
        have HN : Hid _ := And.intro hS2 hT2
        clear hS2 hT2 HQ1 HQ2
        go_wp2
        exact ⟨⟨i + 1, S', T', rfl, rfl, by first | rfl | (congr 1; omega), by omega, by rw [HN.out.1, rep_next], by rw [HN.out.2, rep_next]⟩, by simp [intOf]; omega⟩
      · obtain rfl : i = n := by omega
        obtain ⟨Z1, hz1, hz1e⟩ := add_ex (X := ⟨#[102, 117, 110, 99, 32, 102, 40, 41, 32, 105, 54, 52, 32, 123, 32, 114, 101, 116, 117, 114, 110, 32]⟩) (x := [102, 117, 110, 99, 32, 102, 40, 41, 32, 105, 54, 52, 32, 123, 32, 114, 101, 116, 117, 114, 110, 32]) rfl hST.out.1 (by simp [rep_len]; omega)
        obtain ⟨Z2, hz2, hz2e⟩ := add_ex hz1e (Y := ⟨#[49]⟩) (y := [49]) rfl (by simp [rep_len]; omega)
        obtain ⟨Z3, hz3, hz3e⟩ := add_ex hz2e hST.out.2 (by simp [rep_len]; omega)
        obtain ⟨Z4, hz4, hz4e⟩ := add_ex hz3e (Y := ⟨#[59, 32, 125]⟩) (y := [59, 32, 125]) rfl (by simp [rep_len]; omega)
        have HZ4 : Hid (Z4 = ⟨(nestSrc 3 i).toArray⟩) := hz4e
        clear hz1e hz2e hz3e hz4e hST
        cases ok with
        | true =>
          have hn32 : (i : Int) + 1 ≤ 32 := by have := of_decide_eq_true HOK.out.symm; omega
          simp only [if_true] at HQ1 HQ2
          go_wp2_with (first | (go_at_call 9; refine Calls.mono (by exact HQ1.out _ _ HG0.out HZ4.out) ?_; rintro e w1 ⟨hb1, nv, fv, rfl, ⟨n1, n2, n3, rfl⟩, ⟨f1, f2, f3, rfl⟩, hR1⟩; have HR1 : Hid _ := hR1; clear hR1; have HB1 : Hid _ := hb1; have HT1 : Hid _ := two_boxes w1 (.slice n1 n2 n3) (.slice f1 f2 f3) (.int .i64 0) (.int .i64 0) 32 26; clear hb1))
          go_loop [13, 14, 15] (fun v13 v14 vi => ∃ (j : Nat) (S T : ByteArray), v13 = .string S ∧ v14 = .string T ∧ vi = .int .i64 j ∧ j ≤ i ∧ Hid (S = ⟨([102, 117, 110, 99, 32, 102, 40, 41, 32, 105, 54, 52, 32, 123] ++ rep j [105, 102, 32, 116, 114, 117, 101, 32, 123]).toArray⟩ ∧ T = ⟨([125] ++ rep j [125]).toArray⟩)) (fun _ _ vi => i - (intOf vi).toNat)
          case atStart => exact ⟨0, _, _, rfl, rfl, rfl, by omega, rfl, rfl⟩
          case round =>
            obtain ⟨j, S, T, rfl, rfl, rfl, hj, hST⟩ := hrel
            by_cases hjn : j < i
            · have hjn' : (j : Int) < i := by omega
              obtain ⟨S', hS1, hS2⟩ := add_ex hST.out.1 (Y := ⟨#[105, 102, 32, 116, 114, 117, 101, 32, 123]⟩) (y := [105, 102, 32, 116, 114, 117, 101, 32, 123]) rfl (by simp [rep_len]; omega)
              obtain ⟨T', hT1, hT2⟩ := add_ex hST.out.2 (Y := ⟨#[125]⟩) (y := [125]) rfl (by simp [rep_len]; omega)
              have HN : Hid _ := And.intro hS2 hT2
              clear hS2 hT2 HQ1 HQ2
              go_wp2
              exact ⟨⟨j + 1, S', T', rfl, rfl, by first | rfl | (congr 1; omega), by omega, by rw [HN.out.1, rep_next, List.append_assoc], by rw [HN.out.2, rep_next, List.append_assoc]⟩, by simp [intOf]; omega⟩
            · obtain rfl : j = i := by omega
              obtain ⟨Y1, hY1, hY1e⟩ := add_ex hST.out.1 hST.out.2 (by simp [rep_len]; omega)
              have HY1 : Hid (Y1 = ⟨(ifSrc j).toArray⟩) := hY1e
              clear hY1e HQ1
              go_wp2_with (first | (go_at_call 9; refine Calls.mono (by exact HQ2.out _ _ (HG0.out.below (HB1.out.trans (HT1.out.1.mono HB1.out.size))) HY1.out) ?_; rintro e w2 ⟨hb2, nv, fv, rfl, ⟨m1, m2, m3, rfl⟩, ⟨g1, g2, g3, rfl⟩, hR2⟩; have HR2 : Hid _ := hR2; clear hR2; have HB12 : Hid _ := HT1.out.1.trans (hb2.mono HT1.out.1.size); obtain ⟨p0, p1⟩ := box2 (HT1.out.2.1.below hb2); obtain ⟨q0, q1⟩ := box2 (HT1.out.2.2.below hb2); have pl := (HT1.out.2.1.below hb2).lt; have ql := (HT1.out.2.2.below hb2).lt; have HT2 : Hid _ := two_boxes w2 (.slice m1 m2 m3) (.slice g1 g2 g3) (.int .i64 0) (.int .i64 0) 32 26; clear hb2) | (go_at_call 10; have hh := HB3; clear hh; refine Calls.mono (by exact HR2.out _ ((HT2.out.1.trans (HB3.out.mono HT2.out.1.size)))) ?_; rintro e w4 ⟨rfl, hb4⟩; have HB4 : Hid _ := hb4; clear hb4) | (go_at_call 10; refine Calls.mono (by exact HR1.out _ (HB12.out.trans (HT2.out.1.mono HB12.out.size))) ?_; rintro e w3 ⟨rfl, hb3⟩; obtain ⟨z0, z1⟩ := box2 (HT2.out.2.1.below hb3); have HB3 : Hid _ := hb3; clear hb3))
              go_ret
              exact ⟨rfl, below5 HB0.out HB1.out HB12.out HT2.out.1 HB3.out HB4.out⟩
        | false =>
          have hn32 : ¬ (i : Int) + 1 ≤ 32 := by have := of_decide_eq_false HOK.out.symm; omega
          replace HQ1 : Hid (∀ W s, GlobAll W → s = ⟨(nestSrc 3 i).toArray⟩ → Calls Tryz.prog 9 #[.string s] W fun e w' => Below W.heap.size W w' ∧ e = .returned (.tuple #[.agg #[.slice none 0 0, .slice none 0 0], .agg #[.int .i64 132, .int .i64 85]])) := fun W s h1 h2 => (HQ1.out W s h1 h2).mono fun e w' hh => ⟨hh.1, told_no hh.2 rfl rfl⟩
          replace HQ2 : Hid (∀ W s, GlobAll W → s = ⟨(ifSrc i).toArray⟩ → Calls Tryz.prog 9 #[.string s] W fun e w' => Below W.heap.size W w' ∧ e = .returned (.tuple #[.agg #[.slice none 0 0, .slice none 0 0], .agg #[.int .i64 132, .int .i64 301]])) := fun W s h1 h2 => (HQ2.out W s h1 h2).mono fun e w' hh => ⟨hh.1, told_no hh.2 rfl rfl⟩
          go_wp2_with (first | (go_at_call 9; refine Calls.mono (by exact HQ1.out _ _ HG0.out HZ4.out) ?_; rintro e w1 ⟨hb1, rfl⟩; have HB1 : Hid _ := hb1; have HT1 : Hid _ := two_boxes w1 (.slice none 0 0) (.slice none 0 0) (.int .i64 132) (.int .i64 85) 32 26; clear hb1))
          go_loop [13, 14, 15] (fun v13 v14 vi => ∃ (j : Nat) (S T : ByteArray), v13 = .string S ∧ v14 = .string T ∧ vi = .int .i64 j ∧ j ≤ i ∧ Hid (S = ⟨([102, 117, 110, 99, 32, 102, 40, 41, 32, 105, 54, 52, 32, 123] ++ rep j [105, 102, 32, 116, 114, 117, 101, 32, 123]).toArray⟩ ∧ T = ⟨([125] ++ rep j [125]).toArray⟩)) (fun _ _ vi => i - (intOf vi).toNat)
          case atStart => exact ⟨0, _, _, rfl, rfl, rfl, by omega, rfl, rfl⟩
          case round =>
            obtain ⟨j, S, T, rfl, rfl, rfl, hj, hST⟩ := hrel
            by_cases hjn : j < i
            · have hjn' : (j : Int) < i := by omega
              obtain ⟨S', hS1, hS2⟩ := add_ex hST.out.1 (Y := ⟨#[105, 102, 32, 116, 114, 117, 101, 32, 123]⟩) (y := [105, 102, 32, 116, 114, 117, 101, 32, 123]) rfl (by simp [rep_len]; omega)
              obtain ⟨T', hT1, hT2⟩ := add_ex hST.out.2 (Y := ⟨#[125]⟩) (y := [125]) rfl (by simp [rep_len]; omega)
              have HN : Hid _ := And.intro hS2 hT2
              clear hS2 hT2 HQ1 HQ2
              go_wp2
              exact ⟨⟨j + 1, S', T', rfl, rfl, by first | rfl | (congr 1; omega), by omega, by rw [HN.out.1, rep_next, List.append_assoc], by rw [HN.out.2, rep_next, List.append_assoc]⟩, by simp [intOf]; omega⟩
            · obtain rfl : j = i := by omega
              obtain ⟨Y1, hY1, hY1e⟩ := add_ex hST.out.1 hST.out.2 (by simp [rep_len]; omega)
              have HY1 : Hid (Y1 = ⟨(ifSrc j).toArray⟩) := hY1e
              clear hY1e HQ1
              go_wp2_with (first | (go_at_call 9; refine Calls.mono (by exact HQ2.out _ _ (HG0.out.below (HB1.out.trans (HT1.out.1.mono HB1.out.size))) HY1.out) ?_; rintro e w2 ⟨hb2, rfl⟩; have HB12 : Hid _ := HT1.out.1.trans (hb2.mono HT1.out.1.size); obtain ⟨p0, p1⟩ := box2 (HT1.out.2.1.below hb2); obtain ⟨q0, q1⟩ := box2 (HT1.out.2.2.below hb2); have pl := (HT1.out.2.1.below hb2).lt; have ql := (HT1.out.2.2.below hb2).lt; have HT2 : Hid _ := two_boxes w2 (.slice none 0 0) (.slice none 0 0) (.int .i64 132) (.int .i64 301) 32 26; clear hb2))
              go_ret
              exact ⟨rfl, below3 HB0.out HB1.out HB12.out HT2.out.1⟩
  · go_enter Tryz.func5, Tryz.ntmps5
    go_wp2_with (first | (go_at_call 7; refine Calls.mono (by exact HAW.out) ?_; rintro e w0 ⟨rfl, hb0⟩; have HB0 : Hid _ := hb0; have HG0 : Hid _ := HW.out.below hb0; clear hb0) | (go_at_call 14; first | (refine Calls.mono (by exact HP1.out _ _ _ rfl rfl) ?_; rintro e w' ⟨rfl, rfl⟩) | (refine Calls.mono (by exact HP2.out _ _ _ rfl rfl) ?_; rintro e w' ⟨rfl, rfl⟩)))
    clear HP1 HP2 HAW
    go_loop [6, 7, 10] (fun v6 v7 vi => ∃ (i : Nat) (S T : ByteArray), v6 = .string S ∧ v7 = .string T ∧ vi = .int .i64 i ∧ i ≤ n ∧ Hid (S = ⟨(rep i [117, 56, 40]).toArray⟩ ∧ T = ⟨(rep i [41]).toArray⟩)) (fun _ _ vi => n - (intOf vi).toNat)
    case atStart => exact ⟨0, _, _, rfl, rfl, rfl, by omega, rfl, rfl⟩
    case round =>
      obtain ⟨i, S, T, rfl, rfl, rfl, hi, hST⟩ := hrel
      by_cases hin : i < n
      · have hin' : (i : Int) < n := by omega
        obtain ⟨S', hS1, hS2⟩ := add_ex hST.out.1 (Y := ⟨#[117, 56, 40]⟩) (y := [117, 56, 40]) rfl (by simp [rep_len]; omega)
        obtain ⟨T', hT1, hT2⟩ := add_ex hST.out.2 (Y := ⟨#[41]⟩) (y := [41]) rfl (by simp [rep_len]; omega)
        have HN : Hid _ := And.intro hS2 hT2
        clear hS2 hT2 HQ1 HQ2
        go_wp2
        exact ⟨⟨i + 1, S', T', rfl, rfl, by first | rfl | (congr 1; omega), by omega, by rw [HN.out.1, rep_next], by rw [HN.out.2, rep_next]⟩, by simp [intOf]; omega⟩
      · obtain rfl : i = n := by omega
        obtain ⟨Z1, hz1, hz1e⟩ := add_ex (X := ⟨#[102, 117, 110, 99, 32, 102, 40, 41, 32, 105, 54, 52, 32, 123, 32, 114, 101, 116, 117, 114, 110, 32]⟩) (x := [102, 117, 110, 99, 32, 102, 40, 41, 32, 105, 54, 52, 32, 123, 32, 114, 101, 116, 117, 114, 110, 32]) rfl hST.out.1 (by simp [rep_len]; omega)
        obtain ⟨Z2, hz2, hz2e⟩ := add_ex hz1e (Y := ⟨#[49]⟩) (y := [49]) rfl (by simp [rep_len]; omega)
        obtain ⟨Z3, hz3, hz3e⟩ := add_ex hz2e hST.out.2 (by simp [rep_len]; omega)
        obtain ⟨Z4, hz4, hz4e⟩ := add_ex hz3e (Y := ⟨#[59, 32, 125]⟩) (y := [59, 32, 125]) rfl (by simp [rep_len]; omega)
        have HZ4 : Hid (Z4 = ⟨(nestSrc 4 i).toArray⟩) := hz4e
        clear hz1e hz2e hz3e hz4e hST
        cases ok with
        | true =>
          have hn32 : (i : Int) + 1 ≤ 32 := by have := of_decide_eq_true HOK.out.symm; omega
          simp only [if_true] at HQ1 HQ2
          go_wp2_with (first | (go_at_call 9; refine Calls.mono (by exact HQ1.out _ _ HG0.out HZ4.out) ?_; rintro e w1 ⟨hb1, nv, fv, rfl, ⟨n1, n2, n3, rfl⟩, ⟨f1, f2, f3, rfl⟩, hR1⟩; have HR1 : Hid _ := hR1; clear hR1; have HB1 : Hid _ := hb1; have HT1 : Hid _ := two_boxes w1 (.slice n1 n2 n3) (.slice f1 f2 f3) (.int .i64 0) (.int .i64 0) 32 26; clear hb1))
          go_loop [13, 14, 15] (fun v13 v14 vi => ∃ (j : Nat) (S T : ByteArray), v13 = .string S ∧ v14 = .string T ∧ vi = .int .i64 j ∧ j ≤ i ∧ Hid (S = ⟨([102, 117, 110, 99, 32, 102, 40, 41, 32, 105, 54, 52, 32, 123] ++ rep j [105, 102, 32, 116, 114, 117, 101, 32, 123]).toArray⟩ ∧ T = ⟨([125] ++ rep j [125]).toArray⟩)) (fun _ _ vi => i - (intOf vi).toNat)
          case atStart => exact ⟨0, _, _, rfl, rfl, rfl, by omega, rfl, rfl⟩
          case round =>
            obtain ⟨j, S, T, rfl, rfl, rfl, hj, hST⟩ := hrel
            by_cases hjn : j < i
            · have hjn' : (j : Int) < i := by omega
              obtain ⟨S', hS1, hS2⟩ := add_ex hST.out.1 (Y := ⟨#[105, 102, 32, 116, 114, 117, 101, 32, 123]⟩) (y := [105, 102, 32, 116, 114, 117, 101, 32, 123]) rfl (by simp [rep_len]; omega)
              obtain ⟨T', hT1, hT2⟩ := add_ex hST.out.2 (Y := ⟨#[125]⟩) (y := [125]) rfl (by simp [rep_len]; omega)
              have HN : Hid _ := And.intro hS2 hT2
              clear hS2 hT2 HQ1 HQ2
              go_wp2
              exact ⟨⟨j + 1, S', T', rfl, rfl, by first | rfl | (congr 1; omega), by omega, by rw [HN.out.1, rep_next, List.append_assoc], by rw [HN.out.2, rep_next, List.append_assoc]⟩, by simp [intOf]; omega⟩
            · obtain rfl : j = i := by omega
              obtain ⟨Y1, hY1, hY1e⟩ := add_ex hST.out.1 hST.out.2 (by simp [rep_len]; omega)
              have HY1 : Hid (Y1 = ⟨(ifSrc j).toArray⟩) := hY1e
              clear hY1e HQ1
              go_wp2_with (first | (go_at_call 9; refine Calls.mono (by exact HQ2.out _ _ (HG0.out.below (HB1.out.trans (HT1.out.1.mono HB1.out.size))) HY1.out) ?_; rintro e w2 ⟨hb2, nv, fv, rfl, ⟨m1, m2, m3, rfl⟩, ⟨g1, g2, g3, rfl⟩, hR2⟩; have HR2 : Hid _ := hR2; clear hR2; have HB12 : Hid _ := HT1.out.1.trans (hb2.mono HT1.out.1.size); obtain ⟨p0, p1⟩ := box2 (HT1.out.2.1.below hb2); obtain ⟨q0, q1⟩ := box2 (HT1.out.2.2.below hb2); have pl := (HT1.out.2.1.below hb2).lt; have ql := (HT1.out.2.2.below hb2).lt; have HT2 : Hid _ := two_boxes w2 (.slice m1 m2 m3) (.slice g1 g2 g3) (.int .i64 0) (.int .i64 0) 32 26; clear hb2) | (go_at_call 10; have hh := HB3; clear hh; refine Calls.mono (by exact HR2.out _ ((HT2.out.1.trans (HB3.out.mono HT2.out.1.size)))) ?_; rintro e w4 ⟨rfl, hb4⟩; have HB4 : Hid _ := hb4; clear hb4) | (go_at_call 10; refine Calls.mono (by exact HR1.out _ (HB12.out.trans (HT2.out.1.mono HB12.out.size))) ?_; rintro e w3 ⟨rfl, hb3⟩; obtain ⟨z0, z1⟩ := box2 (HT2.out.2.1.below hb3); have HB3 : Hid _ := hb3; clear hb3))
              go_ret
              exact ⟨rfl, below5 HB0.out HB1.out HB12.out HT2.out.1 HB3.out HB4.out⟩
        | false =>
          have hn32 : ¬ (i : Int) + 1 ≤ 32 := by have := of_decide_eq_false HOK.out.symm; omega
          replace HQ1 : Hid (∀ W s, GlobAll W → s = ⟨(nestSrc 4 i).toArray⟩ → Calls Tryz.prog 9 #[.string s] W fun e w' => Below W.heap.size W w' ∧ e = .returned (.tuple #[.agg #[.slice none 0 0, .slice none 0 0], .agg #[.int .i64 132, .int .i64 117]])) := fun W s h1 h2 => (HQ1.out W s h1 h2).mono fun e w' hh => ⟨hh.1, told_no hh.2 rfl rfl⟩
          replace HQ2 : Hid (∀ W s, GlobAll W → s = ⟨(ifSrc i).toArray⟩ → Calls Tryz.prog 9 #[.string s] W fun e w' => Below W.heap.size W w' ∧ e = .returned (.tuple #[.agg #[.slice none 0 0, .slice none 0 0], .agg #[.int .i64 132, .int .i64 301]])) := fun W s h1 h2 => (HQ2.out W s h1 h2).mono fun e w' hh => ⟨hh.1, told_no hh.2 rfl rfl⟩
          go_wp2_with (first | (go_at_call 9; refine Calls.mono (by exact HQ1.out _ _ HG0.out HZ4.out) ?_; rintro e w1 ⟨hb1, rfl⟩; have HB1 : Hid _ := hb1; have HT1 : Hid _ := two_boxes w1 (.slice none 0 0) (.slice none 0 0) (.int .i64 132) (.int .i64 117) 32 26; clear hb1))
          go_loop [13, 14, 15] (fun v13 v14 vi => ∃ (j : Nat) (S T : ByteArray), v13 = .string S ∧ v14 = .string T ∧ vi = .int .i64 j ∧ j ≤ i ∧ Hid (S = ⟨([102, 117, 110, 99, 32, 102, 40, 41, 32, 105, 54, 52, 32, 123] ++ rep j [105, 102, 32, 116, 114, 117, 101, 32, 123]).toArray⟩ ∧ T = ⟨([125] ++ rep j [125]).toArray⟩)) (fun _ _ vi => i - (intOf vi).toNat)
          case atStart => exact ⟨0, _, _, rfl, rfl, rfl, by omega, rfl, rfl⟩
          case round =>
            obtain ⟨j, S, T, rfl, rfl, rfl, hj, hST⟩ := hrel
            by_cases hjn : j < i
            · have hjn' : (j : Int) < i := by omega
              obtain ⟨S', hS1, hS2⟩ := add_ex hST.out.1 (Y := ⟨#[105, 102, 32, 116, 114, 117, 101, 32, 123]⟩) (y := [105, 102, 32, 116, 114, 117, 101, 32, 123]) rfl (by simp [rep_len]; omega)
              obtain ⟨T', hT1, hT2⟩ := add_ex hST.out.2 (Y := ⟨#[125]⟩) (y := [125]) rfl (by simp [rep_len]; omega)
              have HN : Hid _ := And.intro hS2 hT2
              clear hS2 hT2 HQ1 HQ2
              go_wp2
              exact ⟨⟨j + 1, S', T', rfl, rfl, by first | rfl | (congr 1; omega), by omega, by rw [HN.out.1, rep_next, List.append_assoc], by rw [HN.out.2, rep_next, List.append_assoc]⟩, by simp [intOf]; omega⟩
            · obtain rfl : j = i := by omega
              obtain ⟨Y1, hY1, hY1e⟩ := add_ex hST.out.1 hST.out.2 (by simp [rep_len]; omega)
              have HY1 : Hid (Y1 = ⟨(ifSrc j).toArray⟩) := hY1e
              clear hY1e HQ1
              go_wp2_with (first | (go_at_call 9; refine Calls.mono (by exact HQ2.out _ _ (HG0.out.below (HB1.out.trans (HT1.out.1.mono HB1.out.size))) HY1.out) ?_; rintro e w2 ⟨hb2, rfl⟩; have HB12 : Hid _ := HT1.out.1.trans (hb2.mono HT1.out.1.size); obtain ⟨p0, p1⟩ := box2 (HT1.out.2.1.below hb2); obtain ⟨q0, q1⟩ := box2 (HT1.out.2.2.below hb2); have pl := (HT1.out.2.1.below hb2).lt; have ql := (HT1.out.2.2.below hb2).lt; have HT2 : Hid _ := two_boxes w2 (.slice none 0 0) (.slice none 0 0) (.int .i64 132) (.int .i64 301) 32 26; clear hb2))
              go_ret
              exact ⟨rfl, below3 HB0.out HB1.out HB12.out HT2.out.1⟩
end Go.Proofs.YtbejgachdhfakaaGreatDoor
