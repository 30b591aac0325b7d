/- A graph that comes in: its reading gives its rows in memory. -/
import Derived.Test.YtdgpdmohfnealaaGreatDoorGMemM
import Derived.Test.YtdgpdmohfnealaaGreatDoorGBoxM
import Derived.ProofKit
import Derived.OpenShut
import Derived.DataShut
import Derived.SizedLaws
import Derived.Lib.LaidU8
namespace Go.Proofs.YtdgpdmohfnealaaGreatDoor
open Go.RowKit Go.ChangeShapes

theorem flat_get {sz : Nat} : ∀ {css : List (List Value)}, (∀ c ∈ css, c.length = sz) → ∀ {k : Nat} {u : Value}, css.flatten[k]? = some u → ∃ i j c, k = i * sz + j ∧ css[i]? = some c ∧ c[j]? = some u
  | [], _, k, u, h => by simp at h
  | c :: css, hl, k, u, h => by
    have hc := hl c (by simp)
    rw [List.flatten_cons] at h
    by_cases hk : k < c.length
    · rw [List.getElem?_append_left hk] at h
      exact ⟨0, k, c, by omega, rfl, h⟩
    · rw [List.getElem?_append_right (by omega), hc] at h
      obtain ⟨i, j, c2, e, h1, h2⟩ := flat_get (fun c hm => hl c (by simp [hm])) h
      refine ⟨i + 1, j, c2, ?_, by simpa using h1, h2⟩
      rw [Nat.add_mul]
      omega
theorem weightsAll_mem {H : Type} {P : Program} {e : TypeId} : ∀ {l : List (DataW H)} {d : DataW H}, d ∈ l → ∀ n ∈ d.weights P e, n ∈ DataW.weightsAll P e l
  | d' :: r, d, hd, n, hn => by
    simp only [DataW.weightsAll, List.mem_append]
    rcases List.mem_cons.1 hd with rfl | h
    · exact Or.inl hn
    · exact Or.inr (weightsAll_mem h n hn)
theorem field {H : Type} {enc : TypeId × Value → H} {P : Program} {w : World} {spare : Nat → Bool} {held : Bool} {t : TypeId} {fs : Array Field} {fuel : Nat} {cs : List Value} {x : DataW H × List MemPlace} (ht : P.underlying t = some (.struct fs)) (h : DataW.trod enc P w 0 spare held fuel t cs = some x) (hw : ∀ n ∈ x.1.weights P t, n ≤ reachBytes)
    {i ty off sz : Nat} (hi : (fs[i]?).map (fun f => (f.type, f.offset)) = some (ty, off)) (hc : P.cellsOf ty = sz) : ∃ m y, DataW.trod enc P w 0 spare held m ty ((cs.drop off).take sz) = some y ∧ ∀ n ∈ y.1.weights P ty, n ≤ reachBytes := by
  obtain ⟨xs, m, _, rfl, _, hl, hf⟩ := DataW.trod_struct ht h
  obtain ⟨f, hfi, he⟩ := Option.map_eq_some_iff.1 hi
  cases he
  have h1 := hf i f hfi
  have hil : i < xs.length := by rw [hl]; exact (Array.getElem?_eq_some_iff.1 hfi).1
  rw [hc, List.getElem?_eq_getElem hil] at h1
  refine ⟨m, _, h1, fun n hn => hw n ?_⟩
  simp only [DataW.weights, ht]
  refine DataW.weights_mem_each (j := i) (t := f.type) (d := xs[i].1) ?_ ?_ n hn
  · rw [List.getElem?_map, Array.getElem?_toList, hfi]; rfl
  · rw [List.getElem?_map, List.getElem?_eq_getElem hil]; rfl
theorem row_of {H : Type} {enc : TypeId × Value → H} {P : Program} {w : World} {spare : Nat → Bool} {held : Bool} {t e : TypeId} {sz fuel : Nat} {cs : List Value} {x : DataW H × List MemPlace} (ht : P.underlying t = some (.slice e)) (hc : P.cellsOf e = sz) (hs : 0 < sz) (hbz : 0 < P.bytesOf e) (h : DataW.trod enc P w 0 spare held fuel t cs = some x) (hw : ∀ n ∈ x.1.weights P t, n ≤ reachBytes) :
    ∃ (v : Value) (css : List (List Value)) (m : Nat), cs = [v] ∧ RowAt w v css.length css.flatten ∧ ∀ c ∈ css, c.length = sz ∧ ∃ y, DataW.trod enc P w 0 spare held m e c = some y ∧ ∀ n ∈ y.1.weights P e, n ≤ reachBytes := by
  rcases DataW.trod_slice ht h with ⟨rfl, _⟩ | ⟨a, len, cap, elems, rest, n, _, rfl, rfl, _, hl, hm, hlen, hel, _, _⟩
  · exact ⟨_, [], 0, rfl, ⟨none, 0, rfl, ⟨Nat.le_refl _, by simp⟩, .inl rfl⟩, by simp⟩
  · rw [hc] at hel
    have hlen47 : len ≤ 140737488355328 := by
      have h9 := hw ((elems.length + rest.length) * P.bytesOf e) (by simp [DataW.weights, ht])
      have h8 : elems.length ≤ (elems.length + rest.length) * P.bytesOf e := Nat.le_trans (Nat.le_add_right _ _) (Nat.le_mul_of_pos_right _ hbz)
      have h7 : reachBytes ≤ 140737488355328 := by decide
      omega
    have helw : ∀ y ∈ elems, ∀ n ∈ y.1.weights P e, n ≤ reachBytes := fun y hy n hn => hw n (by
      simp only [DataW.weights, ht, List.mem_cons, List.mem_append]
      exact Or.inr (Or.inl (weightsAll_mem (List.mem_map.2 ⟨y, hy, rfl⟩) n hn)))
    have each : ∀ i, i < len → ∃ c y, w.cells? 0 (a.add (i * sz)) sz = some c ∧ DataW.trod enc P w 0 spare held n e c = some y ∧ ∀ n ∈ y.1.weights P e, n ≤ reachBytes := fun i hi => by
      have h1 := hel i hi
      rw [List.getElem?_eq_getElem (by omega), Option.bind_eq_some_iff] at h1
      obtain ⟨c, h2, h3⟩ := h1
      exact ⟨c, _, h2, h3, helw _ (List.getElem_mem _)⟩
    have hcell : ∀ i c, w.cells? 0 (a.add (i * sz)) sz = some c → c.length = sz ∧ ∀ j u, c[j]? = some u → w.cell? ((a.add (i * sz)).add j) = some u := fun i c hcc => by
      unfold World.cells? at hcc
      rw [if_pos (Nat.zero_le _)] at hcc
      have l1 : c.length = sz := by simpa using mapM_some_length hcc
      refine ⟨l1, fun j u hj => ?_⟩
      have hj' : j < sz := by have := (List.getElem?_eq_some_iff.1 hj).1; omega
      rw [mapM_some_get hcc j j (by simp [hj'])]
      exact hj
    refine ⟨_, (List.range len).map fun i => (w.cells? 0 (a.add (i * sz)) sz).getD [], n, rfl, ⟨some a, cap, by simp, ⟨by simpa using hl, by simpa using hlen47⟩, ?_⟩, ?_⟩
    · by_cases h0 : len = 0
      · left; simp [h0]
      · right
        obtain ⟨c0, y0, e0, _⟩ := each 0 (by omega)
        have l0 := (hcell 0 c0 e0).1
        have r0 := (hcell 0 c0 e0).2 0 (c0[0]'(by omega)) (List.getElem?_eq_getElem _)
        have ea : (a.add (0 * sz)).add 0 = a := by simp [Addr.add]
        rw [ea] at r0
        obtain ⟨b, o, sp⟩ := a
        have := cell_spot r0
        subst this
        refine ⟨b, o, rfl, ?_, fun k u hk => ?_⟩
        · rcases Nat.lt_or_ge b w.heap.size with h1 | h1
          · exact h1
          · simp [World.cell?, Array.getElem?_eq_none h1] at r0
        · obtain ⟨i, j, c, rfl, hi, hj⟩ := flat_get (sz := sz) (fun c hm => by
            obtain ⟨i, hi, rfl⟩ := List.mem_map.1 hm
            obtain ⟨c, y, e1, _, _⟩ := each i (by simpa using hi)
            rw [e1]
            exact (hcell i c e1).1) hk
          rw [List.getElem?_map] at hi
          have hil : i < len := by
            rcases Nat.lt_or_ge i len with h1 | h1
            · exact h1
            · rw [List.getElem?_eq_none (by simpa using h1)] at hi; cases hi
          obtain ⟨c2, y, e1, _⟩ := each i hil
          rw [List.getElem?_range hil] at hi
          simp only [Option.map_some, e1, Option.getD_some, Option.some.injEq] at hi
          subst hi
          have := (hcell i c2 e1).2 j u hj
          rw [Addr.add_lit, Addr.add_lit] at this
          rw [show o + (i * sz + j) = o + i * sz + j by omega]
          exact this
    · intro c hm
      obtain ⟨i, hi, rfl⟩ := List.mem_map.1 hm
      obtain ⟨c, y, e1, h2⟩ := each i (by simpa using hi)
      rw [e1]
      exact ⟨(hcell i c e1).1, y, h2⟩
theorem flat_pick {β : Type} (f : β → List Value) (Q : β → Prop) : ∀ css : List (List Value), (∀ c ∈ css, ∃ b, c = f b ∧ Q b) → ∃ bs : List β, css.length = bs.length ∧ css.flatten = bs.flatMap f ∧ ∀ b ∈ bs, Q b
  | [], _ => ⟨[], rfl, rfl, by simp⟩
  | c :: css, h => by
    obtain ⟨b, e, hq⟩ := h c (by simp)
    obtain ⟨bs, h1, h2, h3⟩ := flat_pick f Q css fun c hm => h c (by simp [hm])
    refine ⟨b :: bs, by simp [h1], by rw [List.flatten_cons, List.flatMap_cons, h2, e], ?_⟩
    intro x hx
    rcases List.mem_cons.1 hx with rfl | hx
    · exact hq
    · exact h3 x hx
theorem flat_one {β : Type} (g : β → Value) : ∀ l : List β, (l.flatMap fun z => [g z]) = l.map g
  | [] => rfl
  | x :: l => by rw [List.flatMap_cons, flat_one g l]; rfl
theorem ints_of {H : Type} {enc : TypeId × Value → H} {P : Program} {w : World} {spare : Nat → Bool} {held : Bool} {t e : TypeId} {k : IntKind} {fuel : Nat} {cs : List Value} {x : DataW H × List MemPlace} (ht : P.underlying t = some (.slice e)) (he : P.underlying e = some (.int k)) (hc : P.cellsOf e = 1) (hbz : 0 < P.bytesOf e) (h : DataW.trod enc P w 0 spare held fuel t cs = some x) (hw : ∀ n ∈ x.1.weights P t, n ≤ reachBytes) :
    ∃ (v : Value) (l : List Int), cs = [v] ∧ RowAt w v l.length (l.map fun z => Value.int k z) := by
  obtain ⟨v, css, m, e1, hr, hq⟩ := row_of ht hc (by omega) hbz h hw
  obtain ⟨l, h1, h2, _⟩ := flat_pick (fun z => [Value.int k z]) (fun _ => True) css fun c hm => by
    obtain ⟨_, y, hy, _⟩ := hq c hm
    obtain ⟨z, hz, _⟩ := DataW.trod_int he hy
    exact ⟨z, hz, trivial⟩
  rw [h1, h2, flat_one] at hr
  exact ⟨v, l, e1, hr⟩
theorem len6 {cs : List Value} (h : cs.length = 6) : ∃ a b c d e f, cs = [a, b, c, d, e, f] := by
  match cs, h with
  | [a, b, c, d, e, f], _ => exact ⟨a, b, c, d, e, f, rfl⟩
theorem len2 {cs : List Value} (h : cs.length = 2) : ∃ a b, cs = [a, b] := by
  match cs, h with
  | [a, b], _ => exact ⟨a, b, rfl⟩
theorem u8K : Tryz.prog.underlying 49 = some (.int .u8) := by kernel_rfl
theorem u8O : Tryz.prog.underlying 50 = some (.int .u8) := by kernel_rfl
theorem u8T : Tryz.prog.underlying 35 = some (.int .u8) := by kernel_rfl
theorem u8E : Tryz.prog.underlying 43 = some (.int .u8) := by kernel_rfl
theorem u8P : Tryz.prog.underlying 25 = some (.int .u8) := by kernel_rfl
theorem i64I : Tryz.prog.underlying 3 = some (.int .i64) := by kernel_rfl
theorem u64U : Tryz.prog.underlying 24 = some (.int .u64) := by kernel_rfl
theorem slI : Tryz.prog.underlying 34 = some (.slice 3) := by kernel_rfl
theorem slT : Tryz.prog.underlying 36 = some (.slice 35) := by kernel_rfl
theorem slA : Tryz.prog.underlying 37 = some (.slice 68) := by kernel_rfl
theorem slN : Tryz.prog.underlying 42 = some (.slice 52) := by kernel_rfl
theorem slB : Tryz.prog.underlying 38 = some (.slice 48) := by kernel_rfl
theorem ar2 : Tryz.prog.underlying 44 = some (.array 2 3) := by kernel_rfl
theorem bzI : 0 < Tryz.prog.bytesOf 3 := by rw [show Tryz.prog.bytesOf 3 = 8 by kernel_rfl]; omega
theorem bzT : 0 < Tryz.prog.bytesOf 35 := by rw [show Tryz.prog.bytesOf 35 = 1 by kernel_rfl]; omega
theorem bzA : 0 < Tryz.prog.bytesOf 68 := by rw [show Tryz.prog.bytesOf 68 = 16 by kernel_rfl]; omega
theorem bzN : 0 < Tryz.prog.bytesOf 52 := by rw [show Tryz.prog.bytesOf 52 = 56 by kernel_rfl]; omega
theorem bzB : 0 < Tryz.prog.bytesOf 48 := by rw [show Tryz.prog.bytesOf 48 = 64 by kernel_rfl]; omega
theorem one_i {H : Type} {enc : TypeId × Value → H} {w : World} {spare : Nat → Bool} {held : Bool} {off : Nat} {cs : List Value} {t : TypeId} {k : IntKind} {m : Nat} {y : DataW H × List MemPlace} (hu : Tryz.prog.underlying t = some (.int k)) (h : DataW.trod enc Tryz.prog w 0 spare held m t ((cs.drop off).take 1) = some y) : ∃ n, cs[off]? = some (.int k n) ∧ (Lit.int k n).wf = true := by
  obtain ⟨n, e, _, hw⟩ := DataW.trod_int hu h
  have h0 : ((cs.drop off).take 1)[0]? = some (.int k n) := by rw [e]; rfl
  exact ⟨n, by simpa using h0, hw⟩
theorem one_v {off : Nat} {cs : List Value} {v : Value} (h : (cs.drop off).take 1 = [v]) : cs[off]? = some v := by
  have h0 : ((cs.drop off).take 1)[0]? = some v := by rw [h]; rfl
  simpa using h0
theorem in_of {H : Type} {enc : TypeId × Value → H} {w : World} {spare : Nat → Bool} {held : Bool} {m : Nat} {c : List Value} {y : DataW H × List MemPlace} (h : DataW.trod enc Tryz.prog w 0 spare held m 52 c = some y) (hl : c.length = 6) (hw : ∀ n ∈ y.1.weights Tryz.prog 52, n ≤ reachBytes) : ∃ b : In × Value, c = inCells b.1 b.2 ∧ IntsAt w b.2 b.1.args ∧ 0 ≤ b.1.bits ∧ b.1.bits < 18446744073709551616 := by
  obtain ⟨_, y0, q0, _⟩ := field Tryz.underlying52 h hw (i := 0) (ty := 49) (off := 0) (sz := 1) rfl (by kernel_rfl)
  obtain ⟨_, y1, q1, _⟩ := field Tryz.underlying52 h hw (i := 1) (ty := 50) (off := 1) (sz := 1) rfl (by kernel_rfl)
  obtain ⟨_, y2, q2, _⟩ := field Tryz.underlying52 h hw (i := 2) (ty := 3) (off := 2) (sz := 1) rfl (by kernel_rfl)
  obtain ⟨_, y3, q3, w3⟩ := field Tryz.underlying52 h hw (i := 3) (ty := 34) (off := 3) (sz := 1) rfl (by kernel_rfl)
  obtain ⟨_, y4, q4, _⟩ := field Tryz.underlying52 h hw (i := 4) (ty := 24) (off := 4) (sz := 1) rfl (by kernel_rfl)
  obtain ⟨_, y5, q5, _⟩ := field Tryz.underlying52 h hw (i := 5) (ty := 3) (off := 5) (sz := 1) rfl (by kernel_rfl)
  obtain ⟨i0, e0, _⟩ := one_i u8K q0
  obtain ⟨i1, e1, _⟩ := one_i u8O q1
  obtain ⟨i2, e2, _⟩ := one_i i64I q2
  obtain ⟨v3, l3, e3, r3⟩ := ints_of slI i64I (by kernel_rfl) bzI q3 w3
  obtain ⟨i4, e4, w4⟩ := one_i u64U q4
  obtain ⟨i5, e5, _⟩ := one_i i64I q5
  have e3 := one_v e3
  obtain ⟨a0, a1, a2, a3, a4, a5, rfl⟩ := len6 hl
  cases e0; cases e1; cases e2; cases e3; cases e4; cases e5
  have hb := (Lit.wf_int_iff .u64 i4).1 w4
  have hb1 : (0 : Int) ≤ i4 := hb.1
  have hb2 : i4 ≤ (18446744073709551615 : Int) := hb.2
  exact ⟨(⟨i0, i1, i2, l3, i4, i5⟩, v3), rfl, r3, hb1, by show i4 < 18446744073709551616; omega⟩
theorem ins_flat : ∀ bs : List (In × Value), (bs.flatMap fun b => inCells b.1 b.2) = insCells (bs.map (·.1)) (bs.map (·.2))
  | [] => rfl
  | b :: bs => by rw [List.flatMap_cons, ins_flat bs]; rfl
theorem ins_of {H : Type} {enc : TypeId × Value → H} {w : World} {spare : Nat → Bool} {held : Bool} {m : Nat} {c : List Value} {y : DataW H × List MemPlace} (h : DataW.trod enc Tryz.prog w 0 spare held m 42 c = some y) (hw : ∀ n ∈ y.1.weights Tryz.prog 42, n ≤ reachBytes) : ∃ (v : Value) (l : List In), c = [v] ∧ InsAt w v l := by
  obtain ⟨v, css, m2, e1, hr, hq⟩ := row_of slN (show Tryz.prog.cellsOf 52 = 6 by kernel_rfl) (by omega) bzN h hw
  obtain ⟨bs, h1, h2, h3⟩ := flat_pick (fun b : In × Value => inCells b.1 b.2) (fun b => IntsAt w b.2 b.1.args ∧ 0 ≤ b.1.bits ∧ b.1.bits < 18446744073709551616) css fun c hm => by
    obtain ⟨hl, y, hy, hwy⟩ := hq c hm
    exact in_of hy hl hwy
  rw [h1, h2, ins_flat] at hr
  refine ⟨v, bs.map (·.1), e1, ⟨?_, bs.map (·.2), by simp, by simpa using hr, ?_⟩⟩
  · intro x hx
    obtain ⟨b, hb, rfl⟩ := List.mem_map.1 hx
    exact (h3 b hb).2
  · intro i x a hx ha
    rw [List.getElem?_map] at hx ha
    obtain ⟨b, hb, rfl⟩ := Option.map_eq_some_iff.1 hx
    rw [hb] at ha
    cases ha
    exact (h3 b (List.mem_of_getElem? hb)).1
theorem bl_of {H : Type} {enc : TypeId × Value → H} {w : World} {spare : Nat → Bool} {held : Bool} {m : Nat} {c : List Value} {y : DataW H × List MemPlace} (h : DataW.trod enc Tryz.prog w 0 spare held m 48 c = some y) (hl : c.length = 6) (hw : ∀ n ∈ y.1.weights Tryz.prog 48, n ≤ reachBytes) : ∃ b : Bl × Value, c = blCells b.1 b.2 ∧ InsAt w b.2 b.1.ins := by
  obtain ⟨_, y0, q0, w0⟩ := field Tryz.underlying48 h hw (i := 0) (ty := 42) (off := 0) (sz := 1) rfl (by kernel_rfl)
  obtain ⟨_, y1, q1, w1⟩ := field Tryz.underlying48 h hw (i := 1) (ty := 46) (off := 1) (sz := 5) rfl (by kernel_rfl)
  obtain ⟨iv, l, e0, hI⟩ := ins_of q0 w0
  have e0 := one_v e0
  obtain ⟨_, z0, p0, _⟩ := field Tryz.underlying46 q1 w1 (i := 0) (ty := 43) (off := 0) (sz := 1) rfl (by kernel_rfl)
  obtain ⟨_, z1, p1, _⟩ := field Tryz.underlying46 q1 w1 (i := 1) (ty := 3) (off := 1) (sz := 1) rfl (by kernel_rfl)
  obtain ⟨_, z2, p2, _⟩ := field Tryz.underlying46 q1 w1 (i := 2) (ty := 44) (off := 2) (sz := 2) rfl (by kernel_rfl)
  obtain ⟨_, z3, p3, _⟩ := field Tryz.underlying46 q1 w1 (i := 3) (ty := 25) (off := 4) (sz := 1) rfl (by kernel_rfl)
  obtain ⟨a0, a1, a2, a3, a4, a5, rfl⟩ := len6 hl
  obtain ⟨j0, f0, _⟩ := one_i u8E p0
  obtain ⟨j1, f1, _⟩ := one_i i64I p1
  obtain ⟨j4, f4, _⟩ := one_i u8P p3
  obtain ⟨xs, m3, _, _, _, hx, hel⟩ := DataW.trod_array ar2 p2
  have g0 := hel 0 (by omega)
  have g1 := hel 1 (by omega)
  rw [show Tryz.prog.cellsOf 3 = 1 by kernel_rfl, List.getElem?_eq_getElem (by omega)] at g0 g1
  obtain ⟨j2, f2, _⟩ := one_i i64I g0
  obtain ⟨j3, f3, _⟩ := one_i i64I g1
  cases e0; cases f0; cases f1; cases f2; cases f3; cases f4
  exact ⟨(⟨l, ⟨j0, j1, j2, j3, j4⟩⟩, iv), rfl, hI⟩
theorem bls_flat : ∀ bs : List (Bl × Value), (bs.flatMap fun b => blCells b.1 b.2) = blsCells (bs.map (·.1)) (bs.map (·.2))
  | [] => rfl
  | b :: bs => by rw [List.flatMap_cons, bls_flat bs]; rfl
theorem bls_of {H : Type} {enc : TypeId × Value → H} {w : World} {spare : Nat → Bool} {held : Bool} {m : Nat} {c : List Value} {y : DataW H × List MemPlace} (h : DataW.trod enc Tryz.prog w 0 spare held m 38 c = some y) (hw : ∀ n ∈ y.1.weights Tryz.prog 38, n ≤ reachBytes) : ∃ (v : Value) (l : List Bl), c = [v] ∧ BlsAt w v l := by
  obtain ⟨v, css, m2, e1, hr, hq⟩ := row_of slB (show Tryz.prog.cellsOf 48 = 6 by kernel_rfl) (by omega) bzB h hw
  obtain ⟨bs, h1, h2, h3⟩ := flat_pick (fun b : Bl × Value => blCells b.1 b.2) (fun b => InsAt w b.2 b.1.ins) css fun c hm => by
    obtain ⟨hl, y, hy, hwy⟩ := hq c hm
    exact bl_of hy hl hwy
  rw [h1, h2, bls_flat] at hr
  refine ⟨v, bs.map (·.1), e1, ⟨bs.map (·.2), by simp, by simpa using hr, ?_⟩⟩
  intro i x a hx ha
  rw [List.getElem?_map] at hx ha
  obtain ⟨b, hb, rfl⟩ := Option.map_eq_some_iff.1 hx
  rw [hb] at ha
  cases ha
  exact h3 b (List.mem_of_getElem? hb)
theorem ars_flat : ∀ bs : List (Int × Int), (bs.flatMap fun b => [bytV b.1, intV b.2]) = arrCells bs
  | [] => rfl
  | b :: bs => by rw [List.flatMap_cons, ars_flat bs]; rfl
theorem ars_of {H : Type} {enc : TypeId × Value → H} {w : World} {spare : Nat → Bool} {held : Bool} {m : Nat} {c : List Value} {y : DataW H × List MemPlace} (h : DataW.trod enc Tryz.prog w 0 spare held m 37 c = some y) (hw : ∀ n ∈ y.1.weights Tryz.prog 37, n ≤ reachBytes) : ∃ (v : Value) (l : List (Int × Int)), c = [v] ∧ ArrsAt w v l := by
  obtain ⟨v, css, m2, e1, hr, hq⟩ := row_of slA (show Tryz.prog.cellsOf 68 = 2 by kernel_rfl) (by omega) bzA h hw
  obtain ⟨bs, h1, h2, _⟩ := flat_pick (fun b : Int × Int => [bytV b.1, intV b.2]) (fun _ => True) css fun c hm => by
    obtain ⟨hl, y, hy, hwy⟩ := hq c hm
    obtain ⟨_, z0, p0, _⟩ := field (show Tryz.prog.underlying 68 = _ from Tryz.underlying68) hy hwy (i := 0) (ty := 35) (off := 0) (sz := 1) rfl (by kernel_rfl)
    obtain ⟨_, z1, p1, _⟩ := field (show Tryz.prog.underlying 68 = _ from Tryz.underlying68) hy hwy (i := 1) (ty := 3) (off := 1) (sz := 1) rfl (by kernel_rfl)
    obtain ⟨j0, f0, _⟩ := one_i u8T p0
    obtain ⟨j1, f1, _⟩ := one_i i64I p1
    obtain ⟨a0, a1, rfl⟩ := len2 hl
    cases f0; cases f1
    exact ⟨(j0, j1), rfl, trivial⟩
  rw [h1, h2, ars_flat] at hr
  exact ⟨v, bs, e1, hr⟩
theorem gr_of {H : Type} {enc : TypeId × Value → H} {w : World} {spare : Nat → Bool} {held : Bool} {m : Nat} {c : List Value} {y : DataW H × List MemPlace} (h : DataW.trod enc Tryz.prog w 0 spare held m 40 c = some y) (hl : c.length = 6) (hw : ∀ n ∈ y.1.weights Tryz.prog 40, n ≤ reachBytes) : ∃ (G : Gr) (pv vv av bv : Value), c = [.string G.name, pv, bytV G.result, vv, av, bv] ∧ GrAt w pv vv av bv G := by
  obtain ⟨_, y0, q0, _⟩ := field Tryz.underlying40 h hw (i := 0) (ty := 9) (off := 0) (sz := 1) rfl (by kernel_rfl)
  obtain ⟨_, y1, q1, w1⟩ := field Tryz.underlying40 h hw (i := 1) (ty := 34) (off := 1) (sz := 1) rfl (by kernel_rfl)
  obtain ⟨_, y2, q2, _⟩ := field Tryz.underlying40 h hw (i := 2) (ty := 35) (off := 2) (sz := 1) rfl (by kernel_rfl)
  obtain ⟨_, y3, q3, w3⟩ := field Tryz.underlying40 h hw (i := 3) (ty := 36) (off := 3) (sz := 1) rfl (by kernel_rfl)
  obtain ⟨_, y4, q4, w4⟩ := field Tryz.underlying40 h hw (i := 4) (ty := 37) (off := 4) (sz := 1) rfl (by kernel_rfl)
  obtain ⟨_, y5, q5, w5⟩ := field Tryz.underlying40 h hw (i := 5) (ty := 38) (off := 5) (sz := 1) rfl (by kernel_rfl)
  obtain ⟨s, e0, _, _⟩ := DataW.trod_string (show Tryz.prog.underlying 9 = some .string by kernel_rfl) q0
  obtain ⟨v1, l1, e1, r1⟩ := ints_of slI i64I (by kernel_rfl) bzI q1 w1
  obtain ⟨i2, e2, _⟩ := one_i u8T q2
  obtain ⟨v3, l3, e3, r3⟩ := ints_of slT u8T (by kernel_rfl) bzT q3 w3
  obtain ⟨v4, l4, e4, r4⟩ := ars_of q4 w4
  obtain ⟨v5, l5, e5, r5⟩ := bls_of q5 w5
  have e0 := one_v e0
  have e1 := one_v e1
  have e3 := one_v e3
  have e4 := one_v e4
  have e5 := one_v e5
  obtain ⟨a0, a1, a2, a3, a4, a5, rfl⟩ := len6 hl
  cases e0; cases e1; cases e2; cases e3; cases e4; cases e5
  exact ⟨⟨s, l1, i2, l3, l4, l5⟩, v1, v3, v4, v5, rfl, ⟨r1, r3, r4, r5⟩⟩
end Go.Proofs.YtdgpdmohfnealaaGreatDoor
