/- append of as many noughts onto a row of one's own. -/
import Derived.Test.YtcggbedjhglmmaaGreatDoorLPlainM
import Derived.Lib.AppendZerosOnto
import Derived.Maps.AppendAt
import Derived.Test.YtcggbedjhglmmaaGreatDoorLMemM
import Derived.Shelf.Spec.TrailingZeros
import Derived.Test.YtcggbedjhglmmaaGreatDoorTie
import Derived.ProofKit
import Derived.OpenShut
import Derived.LaidMore
import Derived.Lay
namespace Go.Proofs.YtcggbedjhglmmaaGreatDoor
open Go.RowKit

theorem zeroCells_one (z : Value) (n : Nat) : (Builtin.zeroCells #[z] n).toList = List.replicate n z := by
  apply List.ext_getElem?
  intro j
  by_cases hj : j < n
  · simp [Builtin.zeroCells, hj, Nat.mod_one]
  · simp [Builtin.zeroCells, hj]
theorem append_zeros {P : Program} (w : World) (base : Nat) (t tn ty e : TypeId) (i : TypeInfo) (z : Value) (kn : IntKind) (ht : P.underlying t = some (.slice e)) (htn : P.underlying tn = some (.int kn)) (hi : P.info? e = some i) (hz : i.zero = some z) (hzc : z.cells = #[z]) (hz1 : z.oneCell' = true) (hs1 : i.size = 1) (hby : i.bytes = 8)
    (v : Value) (n : Nat) (xs : List Value) (hown : w.ownsRow base e 1 v n xs) (m : Nat) (h0 : 0 < m) (hb : n + m ≤ 10000000000) (hbase : base ≤ w.heap.size) :
    ∃ v' w', (Builtin.append_ #[t, tn] ty #[v, .int .i64 (m : Int)]).run P w = .ok v' w' ∧ w'.ownsRow base e 1 v' (n + m) (xs ++ List.replicate m z) ∧ w.grownBy w' v.ownBlock ∧ (v'.ownBlock = v.ownBlock ∨ v'.ownBlock = some w.heap.size) := by
  have hmx : n + m ≤ maxLen := by unfold maxLen; omega
  have hlen : (xs ++ List.replicate m z).length = (n + m) * 1 := by rw [List.length_append, hown.1, List.length_replicate]; omega
  have grown : ∀ (old : Nat) (row : Option Nat),
      (w.drew.alloc (.cells (xs.toArray ++ Builtin.zeroCells z.cells m ++ Builtin.zeroCells z.cells (grownCap w (n + m) old e - (n + m))) e)).ownsRow base e 1
        (.slice (some ⟨w.heap.size, 0, none⟩) (n + m) (grownCap w (n + m) old e)) (n + m) (xs ++ List.replicate m z) ∧
      w.grownBy (w.drew.alloc (.cells (xs.toArray ++ Builtin.zeroCells z.cells m ++ Builtin.zeroCells z.cells (grownCap w (n + m) old e - (n + m))) e)) row := by
    intro old row
    have hge := grownCap_ge w (n + m) old e
    have hcm : grownCap w (n + m) old e ≤ maxLen := grownCap_le_maxLen w (n + m) old e hmx
    refine ⟨⟨hlen, .inr ⟨w.heap.size, _, _, rfl, hbase, heap_alloc_new w.drew _, hge, hcm, ?_, ?_⟩⟩, ⟨rfl, rfl, rfl, by simp, fun k hk _ => _root_.Go.heap_alloc_old w.drew _ hk⟩⟩
    · rw [hzc]
      simp only [Array.size_append, List.size_toArray, size_zeroCells, hown.1]
      simp
      omega
    · rw [hzc]
      simp only [Array.toList_append, zeroCells_one]
      rw [← hlen]
      exact List.take_left
  have hks : 0 < i.size := by omega
  rcases hown.2 with ⟨rfl, rfl⟩ | ⟨g, cap, cur, rfl, hbg, hg, hnc, hcm, hcs, htake⟩
  · have hx : xs = [] := List.eq_nil_of_length_eq_zero (by simpa using hown.1)
    subst hx
    have hr := Lib.run_append_nil_zeros (P := P) w t tn ty e i z .i64 kn ht htn hi hz m h0 hks (by omega) (by rw [hby]; omega)
    have hgr := grown 0 (Value.ownBlock (.slice none 0 0))
    simp only [Nat.zero_add, List.nil_append] at hgr ⊢
    rw [show (([] : List Value).toArray ++ Builtin.zeroCells z.cells m) = Builtin.zeroCells z.cells m from Array.empty_append] at hgr
    exact ⟨_, _, hr, hgr.1, hgr.2, Or.inr rfl⟩
  · by_cases hroom : n + m ≤ cap
    · have hfit : n * 1 + (List.replicate m z).length ≤ cur.size := by rw [hcs, List.length_replicate]; omega
      have hst := run_storeCells_at P g (n * 1) e (List.replicate m z) 0 cur w hg (by simpa using hfit) (by intro u hu; rw [List.eq_of_mem_replicate hu]; exact hz1)
      have hw : IntKind.i64.wrap (m : Int) = m := by rw [IntKind.wrap_i64]; omega
      have hneg : ¬ ((m : Int) < 0) := by omega
      have h48i : ¬ (281474976710656 < (m : Int) * ((8 : Nat) : Int)) := by omega
      have hm0 : m ≠ 0 := by omega
      have hzl : (Builtin.zeroCells #[z] m).toList = List.replicate m z := zeroCells_one z m
      have hr : (Builtin.append_ #[t, tn] ty #[.slice (some ⟨g, 0, none⟩) n cap, .int .i64 (m : Int)]).run P w = .ok (.slice (some ⟨g, 0, none⟩) (n + m) cap) (w.setRow g (cur.toList.take (n * 1) ++ List.replicate m z ++ cur.toList.drop (n * 1 + (List.replicate m z).length)).toArray) := by
        simp only [Nat.add_zero] at hst
        simp [Builtin.append_, run_underlying ht, run_underlying htn, sizeOf, typeInfo, zeroValue, hi, hz, hs1, hby, asInt, asIntOf, hw, hneg, hm0, hroom, hzc, hzl, Addr.add_lit]
        simp at hst
        first | exact hst | (rw [if_neg (by omega)]; simp [hst]) | simp [hst]
      refine ⟨_, _, hr, ⟨hlen, .inr ⟨g, cap, _, rfl, hbg, setRow_heap w g cur _ e _ hg, hroom, hcm, ?_, ?_⟩⟩, ⟨rfl, rfl, rfl, by simp, fun k _ hk => setRow_other w g k _ (fun e => hk (by simp [Value.ownBlock, e]))⟩, Or.inl rfl⟩
      · simp only [List.size_toArray, List.length_append, List.length_take, List.length_drop, Array.length_toList]
        omega
      · rw [htake, ← hlen]
        exact List.take_left
    · have holds : ∀ j u, xs[j]? = some u → w.drew.cell? ((⟨g, 0, none⟩ : Addr).add j) = some u := hown.cells (g := g) rfl
      have hfc := run_firstCells_some (P := P) w.drew i.size n ⟨g, 0, none⟩ n cap xs (by rw [hs1]; exact hown.1) holds
      have hr := Lib.run_append_grow_zeros (P := P) w t tn ty e i z .i64 kn ht htn hi hz (some ⟨g, 0, none⟩) n cap xs hfc m h0 hks (by omega) (by omega) (by rw [hby]; omega) (growslice_fits (by omega) (by rw [hby]; omega))
      have hgr := grown cap (Value.ownBlock (.slice (some ⟨g, 0, none⟩) n cap))
      exact ⟨_, _, hr, hgr.1, hgr.2, Or.inr rfl⟩
end Go.Proofs.YtcggbedjhglmmaaGreatDoor
/- The library's own: trailing noughts, ones, room; a word's bits told behind a row. -/
namespace Go.Proofs.YtcggbedjhglmmaaGreatDoor
open Go.RowKit

theorem wpList_append_zeros {P : Program} {ops : Array Oper} {rest : List Oper} {o : Oper} {a : Act} {w : World} {Q : Exit → Act → World → Prop} (hgd : o.guard = none) (s x : Operand) (t tn : TypeId)
    (ho : o.op = .call { callee := .builtin .append, args := #[s, x], argTypes := #[t, tn] })
    (base : Nat) (e : TypeId) (i : TypeInfo) (z : Value) (kn : IntKind) (ht : P.underlying t = some (.slice e)) (htn : P.underlying tn = some (.int kn)) (hi : P.info? e = some i) (hz : i.zero = some z) (hzc : z.cells = #[z]) (hz1 : z.oneCell' = true) (hs1 : i.size = 1) (hby : i.bytes = 8)
    (v : Value) (n : Nat) (xs : List Value) (hs : a.eval s = v) (hown : w.ownsRow base e 1 v n xs) (m : Nat) (hx : a.eval x = .int .i64 (m : Int)) (h0 : 0 < m) (hb : n + m ≤ 10000000000) (hbase : base ≤ w.heap.size)
    (h : ∀ v' w', w'.ownsRow base e 1 v' (n + m) (xs ++ List.replicate m z) → w.grownBy w' v.ownBlock → (v'.ownBlock = v.ownBlock ∨ v'.ownBlock = some w.heap.size) → wpList P ops Q rest (a.put o.dst v') w') :
    wpList P ops Q (o :: rest) a w := by
  refine wpList_plain hgd fun K hK => ?_
  obtain ⟨v', w', hr, h2, h3, h5⟩ := append_zeros (P := P) w base t tn o.type e i z kn ht htn hi hz hzc hz1 hs1 hby v n xs hown m h0 hb hbase
  unfold Oper.wp execOp
  simp only [ho, resolve, invoke, builtin, Sem.run_bind, Sem.run_pure, Result.andThen_ok, List.map_toArray, List.map_cons, List.map_nil, hs, hx, hr]
  exact hK _ _ (h v' w' h2 h3 h5)

/-- the table of places -/
def TzAt (w : World) : Prop := 0 < w.heap.size ∧ ∀ j, j < Lib.deBruijn64tab.length → w.cell? ⟨0, j, none⟩ = some (.int .u8 (Lib.deBruijn64tab.getD j 0))
theorem TzAt.below {w w' : World} (h : TzAt w) (hb : Below w.heap.size w w') : TzAt w' := ⟨Nat.lt_of_lt_of_le h.1 hb.size, fun j hj => (hb.cell (p := ⟨0, j, none⟩) h.1).trans (h.2 j hj)⟩
set_option maxHeartbeats 1000000 in
theorem tz_core (x k idx : Nat) (w : World) (hx0 : ((x : Int) == 0) = false)
    (key : IntKind.u64.wrap (bits BinOp.and IntKind.u64 (x : Int) (IntKind.u64.wrap (-(x : Int))) * 285870213051353865) / 288230376151711744 = (idx : Int))
    (hi : idx < 64) (hk : k < 64) (hcell : w.cell? ⟨0, idx, none⟩ = some (.int .u8 k)) :
    Calls Tryz.prog 75 #[.int .u64 x] w fun e w' => e = .returned (.int .i64 k) ∧ w' = w := by
  go_enter Tryz.func75, Tryz.ntmps75
  go_wp2_with (simp only [key])
  go_ret
  exact ⟨rfl, rfl⟩
theorem tz_any (x : Nat) (hx : x < 2 ^ 64) (hx0 : x ≠ 0) (w : World) (hT : TzAt w) : Calls Tryz.prog 75 #[.int .u64 x] w fun e w' => e = .returned (.int .i64 (Lib.ctz 64 x : Nat)) ∧ w' = w := by
  obtain ⟨hlow, hk⟩ := Lib.lowest_bit 64 x hx0 hx
  obtain ⟨hi, htab⟩ := Lib.deBruijn64_at _ hk
  have hcell := hT.2 _ hi
  rw [htab] at hcell
  exact tz_core x _ _ w (by simp; omega) (tz64_key x _ (by omega) hx0 hlow) hi hk hcell
theorem and127 (z : Int) : ∃ c : Nat, c ≤ 127 ∧ bits .and .i64 z 127 = (c : Int) := by
  refine ⟨(BitVec.ofInt 64 z &&& BitVec.ofInt 64 127).toNat, ?_, ?_⟩
  · rw [BitVec.toNat_and]
    exact Nat.le_trans Nat.and_le_right (by decide)
  · have h : (BitVec.ofInt 64 z &&& BitVec.ofInt 64 127).toNat ≤ 127 := by
      rw [BitVec.toNat_and]
      exact Nat.le_trans Nat.and_le_right (by decide)
    show IntKind.i64.wrap ((BitVec.ofInt 64 z &&& BitVec.ofInt 64 127).toNat : Int) = _
    rw [IntKind.wrap_i64]
    omega
set_option maxRecDepth 100000 in
set_option maxHeartbeats 1000000 in
theorem ones_any (x : Nat) (w : World) : Calls Tryz.prog 74 #[.int .u64 x] w fun e w' => (∃ c : Nat, c ≤ 127 ∧ e = .returned (.int .i64 c)) ∧ w' = w := by
  go_enter Tryz.func74, Tryz.ntmps74
  go_wp2
  go_ret
  refine ⟨?_, rfl⟩
  refine (fun {z : Int} (h : ∃ c : Nat, c ≤ 127 ∧ bits .and .i64 z 127 = (c : Int)) => show ∃ c : Nat, c ≤ 127 ∧ Ending.returned (.int .i64 (bits .and .i64 z 127)) = .returned (.int .i64 c) from h.elim fun c hc => ⟨c, hc.1, by rw [hc.2]⟩) (and127 _)
end Go.Proofs.YtcggbedjhglmmaaGreatDoor
/- What the listed variable gives: the table's cells. -/
namespace Go.Proofs.YtcggbedjhglmmaaGreatDoor
open Go.ChangeShapes Go.WideShapes Go.ChangeAt Go.RowKit

theorem laid_at {P : Program} {w : World} : ∀ {laid : List (String × DataW Unit)} {ps : List MemPlace}, DataW.LaidVars P w laid ps → ∀ {n : String} {d : DataW Unit}, (n, d) ∈ laid → ∃ g t cs fuel p, P.globalNamed n = some g ∧ (P.globals[g]?).map (·.type) = some t ∧ w.var? P n = some cs ∧ DataW.trod (fun _ => ()) P w 0 (fun _ => true) false fuel t cs.toList = some (d, p)
  | (n0, d0) :: r, ps, h, n, d, hm => by
    obtain ⟨g, t, cs, fuel, p, q, h1, h2, h3, h4, h5, _⟩ := h
    rcases List.mem_cons.1 hm with he | hm
    · cases he
      exact ⟨g, t, cs, fuel, p, h1, h2, h3, h4⟩
    · exact laid_at h5 hm
  | [], _, _, _, _, hm => by cases hm
theorem parts_data : (Rows.laid_smithy_graph_partsOf : DataW Unit) = .agg (hasL.map fun h => .agg [.lit (.bool h.op), .lit (.bool h.dst), .lit (.bool h.bits), .lit (.bool h.ref), .lit (.int .i64 h.least), .lit (.int .i64 h.most)]) := by rfl
theorem take_one {l : List Value} {j : Nat} {v : Value} (h : (l.drop j).take 1 = [v]) : l[j]? = some v := by
  have h0 : ((l.drop j).take 1)[0]? = some v := by rw [h]; rfl
  simpa using h0
theorem chunk_at {l : List Value} {a n j : Nat} {v : Value} (hj : j < n) (h : ((l.drop a).take n)[j]? = some v) : l[a + j]? = some v := by
  rw [List.getElem?_take, if_pos hj, List.getElem?_drop] at h
  exact h
theorem cI1 : Tryz.prog.cellsOf 3 = 1 := by kernel_rfl
theorem cB1 : Tryz.prog.cellsOf 4 = 1 := by kernel_rfl
theorem cellq_of {W : World} {g : Nat} {cs : Array Value} (hcell : ∀ j, W.cell? ⟨g, j, none⟩ = cs[j]?) {a n j c : Nat} {v : Value} (hj : j < n) (hc : c = 1) (h : (((cs.toList.drop a).take n).drop j).take c = [v]) : W.cell? ⟨g, a + j, none⟩ = some v := by
  subst hc
  rw [hcell]
  have := chunk_at hj (take_one h)
  simpa using this
theorem parts_of {W : World} (h : laidMet Tryz.prog [("math/bits.deBruijn64tab", Rows.laid_math_bits_deBruijn64tab), ("smithy/graph.partsOf", Rows.laid_smithy_graph_partsOf)] W) : PartsAt W := by
  obtain ⟨ps, h, _, _⟩ := h
  obtain ⟨g, t, cs, fuel, p, hg, ht, hv, hd⟩ := laid_at h (n := "smithy/graph.partsOf") (d := Rows.laid_smithy_graph_partsOf) (by simp)
  obtain rfl := Option.some.inj ((show Tryz.prog.globalNamed "smithy/graph.partsOf" = some 1 by kernel_rfl).symm.trans hg)
  obtain rfl := Option.some.inj ((show (Tryz.prog.globals[1]?).map (·.type) = some 140 by kernel_rfl).symm.trans ht)
  have hcell := fun j => World.var?_cell hg hv j
  rw [parts_data] at hd
  obtain ⟨xs, m, _, ex, _, hl, hel⟩ := DataW.trod_array (show Tryz.prog.underlying 140 = some (.array 11 139) by kernel_rfl) hd
  have e3 := (DataW.agg.inj (Prod.mk.inj ex).1).symm
  have c6 : Tryz.prog.cellsOf 139 = 6 := by kernel_rfl
  have main : ∀ (i : Nat) (o : Has), hasL[i]? = some o → W.cell? ⟨1, i * 6, none⟩ = some (.bool o.op) ∧ W.cell? ⟨1, i * 6 + 1, none⟩ = some (.bool o.dst) ∧ W.cell? ⟨1, i * 6 + 2, none⟩ = some (.bool o.bits) ∧ W.cell? ⟨1, i * 6 + 3, none⟩ = some (.bool o.ref) ∧ W.cell? ⟨1, i * 6 + 4, none⟩ = some (.int .i64 o.least) ∧ W.cell? ⟨1, i * 6 + 5, none⟩ = some (.int .i64 o.most) := by
    intro i o hi
    have h11 : i < 11 := by have := (List.getElem?_eq_some_iff.1 hi).1; simpa [hasL] using this
    have hE := hel i h11
    rw [c6, List.getElem?_eq_getElem (by omega)] at hE
    obtain ⟨ys, m2, _, ey, _, hl2, hel2⟩ := DataW.trod_struct Tryz.underlying139 hE
    have e4 : (xs.map (·.1))[i]? = some (.agg [.lit (.bool o.op), .lit (.bool o.dst), .lit (.bool o.bits), .lit (.bool o.ref), .lit (.int .i64 o.least), .lit (.int .i64 o.most)]) := by rw [e3, List.getElem?_map, hi]; rfl
    rw [List.getElem?_map, List.getElem?_eq_getElem (by omega : i < xs.length), ey] at e4
    have e5 := DataW.agg.inj (Option.some.inj e4)
    match ys, hl2, e5, hel2 with
    | [y0, y1, y2, y3, y4, y5], _, e5, hel2 =>
      simp only [List.map_cons, List.map_nil, List.cons.injEq, and_true] at e5
      obtain ⟨n0, s1, s2⟩ := DataW.trod_bool Tryz.underlying4 (hel2 0 _ rfl)
      obtain ⟨n1, a1, a2⟩ := DataW.trod_bool Tryz.underlying4 (hel2 1 _ rfl)
      obtain ⟨n2, b1, b2⟩ := DataW.trod_bool Tryz.underlying4 (hel2 2 _ rfl)
      obtain ⟨n3, d1, d2⟩ := DataW.trod_bool Tryz.underlying4 (hel2 3 _ rfl)
      obtain ⟨n4, f1, f2, _⟩ := DataW.trod_int Tryz.underlying3 (hel2 4 _ rfl)
      obtain ⟨n5, g1, g2, _⟩ := DataW.trod_int Tryz.underlying3 (hel2 5 _ rfl)
      have q0 := cellq_of hcell (by omega : 0 < 6) cB1 s1
      have q1 := cellq_of hcell (by omega : 1 < 6) cB1 a1
      have q2 := cellq_of hcell (by omega : 2 < 6) cB1 b1
      have q3 := cellq_of hcell (by omega : 3 < 6) cB1 d1
      have q4 := cellq_of hcell (by omega : 4 < 6) cI1 f1
      have q5 := cellq_of hcell (by omega : 5 < 6) cI1 g1
      rw [s2, a2, b2, d2, f2, g2] at e5
      simp only [DataW.lit.injEq, Lit.bool.injEq, Lit.int.injEq, true_and] at e5
      obtain ⟨r0, r1, r2, r3, r4, r5⟩ := e5
      refine ⟨?_, ?_, ?_, ?_, ?_, ?_⟩
      · rw [← r0]; exact q0
      · rw [← r1]; exact q1
      · rw [← r2]; exact q2
      · rw [← r3]; exact q3
      · rw [← r4]; exact q4
      · rw [← r5]; exact q5
  refine ⟨?_, main⟩
  have h1 := (main 0 _ rfl).1
  rcases Nat.lt_or_ge 1 W.heap.size with h0 | h0
  · exact h0
  · simp [World.cell?, Array.getElem?_eq_none (show W.heap.size ≤ 1 by omega)] at h1
theorem tz_data : (Rows.laid_math_bits_deBruijn64tab : DataW Unit) = .agg (Lib.deBruijn64tab.map fun x : Nat => .lit (.int .u8 (x : Int))) := by rfl
theorem tz_of {W : World} (h : laidMet Tryz.prog [("math/bits.deBruijn64tab", Rows.laid_math_bits_deBruijn64tab), ("smithy/graph.partsOf", Rows.laid_smithy_graph_partsOf)] W) : TzAt W := by
  obtain ⟨ps, h, _, _⟩ := h
  obtain ⟨g, t, cs, fuel, p, hg, ht, hv, hd⟩ := laid_at h (n := "math/bits.deBruijn64tab") (d := Rows.laid_math_bits_deBruijn64tab) (by simp)
  obtain rfl := Option.some.inj ((show Tryz.prog.globalNamed "math/bits.deBruijn64tab" = some 0 by kernel_rfl).symm.trans hg)
  obtain rfl := Option.some.inj ((show (Tryz.prog.globals[0]?).map (·.type) = some 122 by kernel_rfl).symm.trans ht)
  have hcell := fun j => World.var?_cell hg hv j
  rw [tz_data] at hd
  obtain ⟨xs, m, _, ex, _, hl, hel⟩ := DataW.trod_array (show Tryz.prog.underlying 122 = some (.array 64 5) by kernel_rfl) hd
  have e3 := (DataW.agg.inj (Prod.mk.inj ex).1).symm
  have c1 : Tryz.prog.cellsOf 5 = 1 := by kernel_rfl
  have hlen : Lib.deBruijn64tab.length = 64 := by decide
  have main : ∀ j, j < Lib.deBruijn64tab.length → W.cell? ⟨0, j, none⟩ = some (.int .u8 (Lib.deBruijn64tab.getD j 0)) := fun j hj => by
    have hE := hel j (by omega)
    rw [c1, List.getElem?_eq_getElem (by omega)] at hE
    obtain ⟨n0, s1, s2, _⟩ := DataW.trod_int Tryz.underlying5 hE
    have e4 : (xs.map (·.1))[j]? = some (.lit (.int .u8 (Lib.deBruijn64tab.getD j 0))) := by rw [e3, List.getElem?_map, List.getElem?_eq_getElem hj]; simp [List.getElem?_eq_getElem hj]
    rw [List.getElem?_map, List.getElem?_eq_getElem (by omega : j < xs.length)] at e4
    rw [s2] at e4
    simp only [Option.map_some, Option.some.injEq, DataW.lit.injEq, Lit.int.injEq, true_and] at e4
    rw [Nat.mul_one] at s1
    have h7 := take_one s1
    rw [hcell, ← e4]
    simpa using h7
  refine ⟨?_, main⟩
  have h1 := main 0 (by decide)
  rcases Nat.eq_zero_or_pos W.heap.size with h0 | h0
  · simp [World.cell?, Array.getElem?_eq_none (show W.heap.size ≤ 0 by omega)] at h1
  · exact h0
end Go.Proofs.YtcggbedjhglmmaaGreatDoor
