/- A graph that comes in: its reading gives its rows in memory. -/
import Derived.Test.YtcggbedjhglmmaaGreatDoorGMemM
import Derived.Test.YtcggbedjhglmmaaGreatDoorGBoxM
import Derived.ProofKit
import Derived.OpenShut
import Derived.DataShut
import Derived.SizedLaws
import Derived.Lib.LaidU8
import Derived.Test.YtcggbedjhglmmaaGreatDoorShelf
import Derived.Sort.OwnSortedInts
import Derived.Test.YtcggbedjhglmmaaGreatDoorLPlainM
namespace Go.Proofs.YtcggbedjhglmmaaGreatDoor
open Go.RowKit Go.ChangeShapes

theorem flat_get {sz : Nat} : ∀ {css : List (List Value)}, (∀ c ∈ css, c.length = sz) → ∀ {k : Nat} {u : Value}, css.flatten[k]? = some u → ∃ i j c, k = i * sz + j ∧ css[i]? = some c ∧ c[j]? = some u
  | [], _, k, u, h => by simp at h
  | c :: css, hl, k, u, h => by
    have hc := hl c (by simp)
    rw [List.flatten_cons] at h
    by_cases hk : k < c.length
    · rw [List.getElem?_append_left hk] at h
      exact ⟨0, k, c, by omega, rfl, h⟩
    · rw [List.getElem?_append_right (by omega), hc] at h
      obtain ⟨i, j, c2, e, h1, h2⟩ := flat_get (fun c hm => hl c (by simp [hm])) h
      refine ⟨i + 1, j, c2, ?_, by simpa using h1, h2⟩
      rw [Nat.add_mul]
      omega
theorem weightsAll_mem {H : Type} {P : Program} {e : TypeId} : ∀ {l : List (DataW H)} {d : DataW H}, d ∈ l → ∀ n ∈ d.weights P e, n ∈ DataW.weightsAll P e l
  | d' :: r, d, hd, n, hn => by
    simp only [DataW.weightsAll, List.mem_append]
    rcases List.mem_cons.1 hd with rfl | h
    · exact Or.inl hn
    · exact Or.inr (weightsAll_mem h n hn)
theorem field {H : Type} {enc : TypeId × Value → H} {P : Program} {w : World} {spare : Nat → Bool} {held : Bool} {t : TypeId} {fs : Array Field} {fuel : Nat} {cs : List Value} {x : DataW H × List MemPlace} (ht : P.underlying t = some (.struct fs)) (h : DataW.trod enc P w 0 spare held fuel t cs = some x) (hw : ∀ n ∈ x.1.weights P t, n ≤ reachBytes)
    {i ty off sz : Nat} (hi : (fs[i]?).map (fun f => (f.type, f.offset)) = some (ty, off)) (hc : P.cellsOf ty = sz) : ∃ m y, DataW.trod enc P w 0 spare held m ty ((cs.drop off).take sz) = some y ∧ ∀ n ∈ y.1.weights P ty, n ≤ reachBytes := by
  obtain ⟨xs, m, _, rfl, _, hl, hf⟩ := DataW.trod_struct ht h
  obtain ⟨f, hfi, he⟩ := Option.map_eq_some_iff.1 hi
  cases he
  have h1 := hf i f hfi
  have hil : i < xs.length := by rw [hl]; exact (Array.getElem?_eq_some_iff.1 hfi).1
  rw [hc, List.getElem?_eq_getElem hil] at h1
  refine ⟨m, _, h1, fun n hn => hw n ?_⟩
  simp only [DataW.weights, ht]
  refine DataW.weights_mem_each (j := i) (t := f.type) (d := xs[i].1) ?_ ?_ n hn
  · rw [List.getElem?_map, Array.getElem?_toList, hfi]; rfl
  · rw [List.getElem?_map, List.getElem?_eq_getElem hil]; rfl
theorem row_of {H : Type} {enc : TypeId × Value → H} {P : Program} {w : World} {spare : Nat → Bool} {held : Bool} {t e : TypeId} {sz fuel : Nat} {cs : List Value} {x : DataW H × List MemPlace} (ht : P.underlying t = some (.slice e)) (hc : P.cellsOf e = sz) (hs : 0 < sz) (hbz : 0 < P.bytesOf e) (h : DataW.trod enc P w 0 spare held fuel t cs = some x) (hw : ∀ n ∈ x.1.weights P t, n ≤ reachBytes) :
    ∃ (v : Value) (css : List (List Value)) (m : Nat), cs = [v] ∧ RowAt w v css.length css.flatten ∧ ∀ c ∈ css, c.length = sz ∧ ∃ y, DataW.trod enc P w 0 spare held m e c = some y ∧ ∀ n ∈ y.1.weights P e, n ≤ reachBytes := by
  rcases DataW.trod_slice ht h with ⟨rfl, _⟩ | ⟨a, len, cap, elems, rest, n, _, rfl, rfl, _, hl, hm, hlen, hel, _, _⟩
  · exact ⟨_, [], 0, rfl, ⟨none, 0, rfl, ⟨Nat.le_refl _, by simp⟩, .inl rfl⟩, by simp⟩
  · rw [hc] at hel
    have hlen47 : len ≤ 140737488355328 := by
      have h9 := hw ((elems.length + rest.length) * P.bytesOf e) (by simp [DataW.weights, ht])
      have h8 : elems.length ≤ (elems.length + rest.length) * P.bytesOf e := Nat.le_trans (Nat.le_add_right _ _) (Nat.le_mul_of_pos_right _ hbz)
      have h7 : reachBytes ≤ 140737488355328 := by decide
      omega
    have helw : ∀ y ∈ elems, ∀ n ∈ y.1.weights P e, n ≤ reachBytes := fun y hy n hn => hw n (by
      simp only [DataW.weights, ht, List.mem_cons, List.mem_append]
      exact Or.inr (Or.inl (weightsAll_mem (List.mem_map.2 ⟨y, hy, rfl⟩) n hn)))
    have each : ∀ i, i < len → ∃ c y, w.cells? 0 (a.add (i * sz)) sz = some c ∧ DataW.trod enc P w 0 spare held n e c = some y ∧ ∀ n ∈ y.1.weights P e, n ≤ reachBytes := fun i hi => by
      have h1 := hel i hi
      rw [List.getElem?_eq_getElem (by omega), Option.bind_eq_some_iff] at h1
      obtain ⟨c, h2, h3⟩ := h1
      exact ⟨c, _, h2, h3, helw _ (List.getElem_mem _)⟩
    have hcell : ∀ i c, w.cells? 0 (a.add (i * sz)) sz = some c → c.length = sz ∧ ∀ j u, c[j]? = some u → w.cell? ((a.add (i * sz)).add j) = some u := fun i c hcc => by
      unfold World.cells? at hcc
      rw [if_pos (Nat.zero_le _)] at hcc
      have l1 : c.length = sz := by simpa using mapM_some_length hcc
      refine ⟨l1, fun j u hj => ?_⟩
      have hj' : j < sz := by have := (List.getElem?_eq_some_iff.1 hj).1; omega
      rw [mapM_some_get hcc j j (by simp [hj'])]
      exact hj
    refine ⟨_, (List.range len).map fun i => (w.cells? 0 (a.add (i * sz)) sz).getD [], n, rfl, ⟨some a, cap, by simp, ⟨by simpa using hl, by simpa using hlen47⟩, ?_⟩, ?_⟩
    · by_cases h0 : len = 0
      · left; simp [h0]
      · right
        obtain ⟨c0, y0, e0, _⟩ := each 0 (by omega)
        have l0 := (hcell 0 c0 e0).1
        have r0 := (hcell 0 c0 e0).2 0 (c0[0]'(by omega)) (List.getElem?_eq_getElem _)
        have ea : (a.add (0 * sz)).add 0 = a := by simp [Addr.add]
        rw [ea] at r0
        obtain ⟨b, o, sp⟩ := a
        have := cell_spot r0
        subst this
        refine ⟨b, o, rfl, ?_, fun k u hk => ?_⟩
        · rcases Nat.lt_or_ge b w.heap.size with h1 | h1
          · exact h1
          · simp [World.cell?, Array.getElem?_eq_none h1] at r0
        · obtain ⟨i, j, c, rfl, hi, hj⟩ := flat_get (sz := sz) (fun c hm => by
            obtain ⟨i, hi, rfl⟩ := List.mem_map.1 hm
            obtain ⟨c, y, e1, _, _⟩ := each i (by simpa using hi)
            rw [e1]
            exact (hcell i c e1).1) hk
          rw [List.getElem?_map] at hi
          have hil : i < len := by
            rcases Nat.lt_or_ge i len with h1 | h1
            · exact h1
            · rw [List.getElem?_eq_none (by simpa using h1)] at hi; cases hi
          obtain ⟨c2, y, e1, _⟩ := each i hil
          rw [List.getElem?_range hil] at hi
          simp only [Option.map_some, e1, Option.getD_some, Option.some.injEq] at hi
          subst hi
          have := (hcell i c2 e1).2 j u hj
          rw [Addr.add_lit, Addr.add_lit] at this
          rw [show o + (i * sz + j) = o + i * sz + j by omega]
          exact this
    · intro c hm
      obtain ⟨i, hi, rfl⟩ := List.mem_map.1 hm
      obtain ⟨c, y, e1, h2⟩ := each i (by simpa using hi)
      rw [e1]
      exact ⟨(hcell i c e1).1, y, h2⟩
theorem flat_pick {β : Type} (f : β → List Value) (Q : β → Prop) : ∀ css : List (List Value), (∀ c ∈ css, ∃ b, c = f b ∧ Q b) → ∃ bs : List β, css.length = bs.length ∧ css.flatten = bs.flatMap f ∧ ∀ b ∈ bs, Q b
  | [], _ => ⟨[], rfl, rfl, by simp⟩
  | c :: css, h => by
    obtain ⟨b, e, hq⟩ := h c (by simp)
    obtain ⟨bs, h1, h2, h3⟩ := flat_pick f Q css fun c hm => h c (by simp [hm])
    refine ⟨b :: bs, by simp [h1], by rw [List.flatten_cons, List.flatMap_cons, h2, e], ?_⟩
    intro x hx
    rcases List.mem_cons.1 hx with rfl | hx
    · exact hq
    · exact h3 x hx
theorem flat_one {β : Type} (g : β → Value) : ∀ l : List β, (l.flatMap fun z => [g z]) = l.map g
  | [] => rfl
  | x :: l => by rw [List.flatMap_cons, flat_one g l]; rfl
theorem ints_of {H : Type} {enc : TypeId × Value → H} {P : Program} {w : World} {spare : Nat → Bool} {held : Bool} {t e : TypeId} {k : IntKind} {fuel : Nat} {cs : List Value} {x : DataW H × List MemPlace} (ht : P.underlying t = some (.slice e)) (he : P.underlying e = some (.int k)) (hc : P.cellsOf e = 1) (hbz : 0 < P.bytesOf e) (h : DataW.trod enc P w 0 spare held fuel t cs = some x) (hw : ∀ n ∈ x.1.weights P t, n ≤ reachBytes) :
    ∃ (v : Value) (l : List Int), cs = [v] ∧ RowAt w v l.length (l.map fun z => Value.int k z) := by
  obtain ⟨v, css, m, e1, hr, hq⟩ := row_of ht hc (by omega) hbz h hw
  obtain ⟨l, h1, h2, _⟩ := flat_pick (fun z => [Value.int k z]) (fun _ => True) css fun c hm => by
    obtain ⟨_, y, hy, _⟩ := hq c hm
    obtain ⟨z, hz, _⟩ := DataW.trod_int he hy
    exact ⟨z, hz, trivial⟩
  rw [h1, h2, flat_one] at hr
  exact ⟨v, l, e1, hr⟩
theorem len6 {cs : List Value} (h : cs.length = 6) : ∃ a b c d e f, cs = [a, b, c, d, e, f] := by
  match cs, h with
  | [a, b, c, d, e, f], _ => exact ⟨a, b, c, d, e, f, rfl⟩
theorem len2 {cs : List Value} (h : cs.length = 2) : ∃ a b, cs = [a, b] := by
  match cs, h with
  | [a, b], _ => exact ⟨a, b, rfl⟩
theorem u8K : Tryz.prog.underlying 50 = some (.int .u8) := by kernel_rfl
theorem u8O : Tryz.prog.underlying 51 = some (.int .u8) := by kernel_rfl
theorem u8T : Tryz.prog.underlying 23 = some (.int .u8) := by kernel_rfl
theorem u8E : Tryz.prog.underlying 42 = some (.int .u8) := by kernel_rfl
theorem u8P : Tryz.prog.underlying 44 = some (.int .u8) := by kernel_rfl
theorem i64I : Tryz.prog.underlying 3 = some (.int .i64) := by kernel_rfl
theorem u64U : Tryz.prog.underlying 52 = some (.int .u64) := by kernel_rfl
theorem slI : Tryz.prog.underlying 22 = some (.slice 3) := by kernel_rfl
theorem slT : Tryz.prog.underlying 24 = some (.slice 23) := by kernel_rfl
theorem slA : Tryz.prog.underlying 25 = some (.slice 110) := by kernel_rfl
theorem slN : Tryz.prog.underlying 41 = some (.slice 54) := by kernel_rfl
theorem slB : Tryz.prog.underlying 26 = some (.slice 48) := by kernel_rfl
theorem ar2 : Tryz.prog.underlying 43 = some (.array 2 3) := by kernel_rfl
theorem bzI : 0 < Tryz.prog.bytesOf 3 := by rw [show Tryz.prog.bytesOf 3 = 8 by kernel_rfl]; omega
theorem bzT : 0 < Tryz.prog.bytesOf 23 := by rw [show Tryz.prog.bytesOf 23 = 1 by kernel_rfl]; omega
theorem bzA : 0 < Tryz.prog.bytesOf 110 := by rw [show Tryz.prog.bytesOf 110 = 16 by kernel_rfl]; omega
theorem bzN : 0 < Tryz.prog.bytesOf 54 := by rw [show Tryz.prog.bytesOf 54 = 56 by kernel_rfl]; omega
theorem bzB : 0 < Tryz.prog.bytesOf 48 := by rw [show Tryz.prog.bytesOf 48 = 64 by kernel_rfl]; omega
theorem one_i {H : Type} {enc : TypeId × Value → H} {w : World} {spare : Nat → Bool} {held : Bool} {off : Nat} {cs : List Value} {t : TypeId} {k : IntKind} {m : Nat} {y : DataW H × List MemPlace} (hu : Tryz.prog.underlying t = some (.int k)) (h : DataW.trod enc Tryz.prog w 0 spare held m t ((cs.drop off).take 1) = some y) : ∃ n, cs[off]? = some (.int k n) ∧ (Lit.int k n).wf = true := by
  obtain ⟨n, e, _, hw⟩ := DataW.trod_int hu h
  have h0 : ((cs.drop off).take 1)[0]? = some (.int k n) := by rw [e]; rfl
  exact ⟨n, by simpa using h0, hw⟩
theorem one_v {off : Nat} {cs : List Value} {v : Value} (h : (cs.drop off).take 1 = [v]) : cs[off]? = some v := by
  have h0 : ((cs.drop off).take 1)[0]? = some v := by rw [h]; rfl
  simpa using h0
theorem in_of {H : Type} {enc : TypeId × Value → H} {w : World} {spare : Nat → Bool} {held : Bool} {m : Nat} {c : List Value} {y : DataW H × List MemPlace} (h : DataW.trod enc Tryz.prog w 0 spare held m 54 c = some y) (hl : c.length = 6) (hw : ∀ n ∈ y.1.weights Tryz.prog 54, n ≤ reachBytes) : ∃ b : In × Value, c = inCells b.1 b.2 ∧ IntsAt w b.2 b.1.args ∧ 0 ≤ b.1.bits ∧ b.1.bits < 18446744073709551616 := by
  obtain ⟨_, y0, q0, _⟩ := field Tryz.underlying54 h hw (i := 0) (ty := 50) (off := 0) (sz := 1) rfl (by kernel_rfl)
  obtain ⟨_, y1, q1, _⟩ := field Tryz.underlying54 h hw (i := 1) (ty := 51) (off := 1) (sz := 1) rfl (by kernel_rfl)
  obtain ⟨_, y2, q2, _⟩ := field Tryz.underlying54 h hw (i := 2) (ty := 3) (off := 2) (sz := 1) rfl (by kernel_rfl)
  obtain ⟨_, y3, q3, w3⟩ := field Tryz.underlying54 h hw (i := 3) (ty := 22) (off := 3) (sz := 1) rfl (by kernel_rfl)
  obtain ⟨_, y4, q4, _⟩ := field Tryz.underlying54 h hw (i := 4) (ty := 52) (off := 4) (sz := 1) rfl (by kernel_rfl)
  obtain ⟨_, y5, q5, _⟩ := field Tryz.underlying54 h hw (i := 5) (ty := 3) (off := 5) (sz := 1) rfl (by kernel_rfl)
  obtain ⟨i0, e0, _⟩ := one_i u8K q0
  obtain ⟨i1, e1, _⟩ := one_i u8O q1
  obtain ⟨i2, e2, _⟩ := one_i i64I q2
  obtain ⟨v3, l3, e3, r3⟩ := ints_of slI i64I (by kernel_rfl) bzI q3 w3
  obtain ⟨i4, e4, w4⟩ := one_i u64U q4
  obtain ⟨i5, e5, _⟩ := one_i i64I q5
  have e3 := one_v e3
  obtain ⟨a0, a1, a2, a3, a4, a5, rfl⟩ := len6 hl
  cases e0; cases e1; cases e2; cases e3; cases e4; cases e5
  have hb := (Lit.wf_int_iff .u64 i4).1 w4
  have hb1 : (0 : Int) ≤ i4 := hb.1
  have hb2 : i4 ≤ (18446744073709551615 : Int) := hb.2
  exact ⟨(⟨i0, i1, i2, l3, i4, i5⟩, v3), rfl, r3, hb1, by show i4 < 18446744073709551616; omega⟩
theorem ins_flat : ∀ bs : List (In × Value), (bs.flatMap fun b => inCells b.1 b.2) = insCells (bs.map (·.1)) (bs.map (·.2))
  | [] => rfl
  | b :: bs => by rw [List.flatMap_cons, ins_flat bs]; rfl
theorem ins_of {H : Type} {enc : TypeId × Value → H} {w : World} {spare : Nat → Bool} {held : Bool} {m : Nat} {c : List Value} {y : DataW H × List MemPlace} (h : DataW.trod enc Tryz.prog w 0 spare held m 41 c = some y) (hw : ∀ n ∈ y.1.weights Tryz.prog 41, n ≤ reachBytes) : ∃ (v : Value) (l : List In), c = [v] ∧ InsAt w v l := by
  obtain ⟨v, css, m2, e1, hr, hq⟩ := row_of slN (show Tryz.prog.cellsOf 54 = 6 by kernel_rfl) (by omega) bzN h hw
  obtain ⟨bs, h1, h2, h3⟩ := flat_pick (fun b : In × Value => inCells b.1 b.2) (fun b => IntsAt w b.2 b.1.args ∧ 0 ≤ b.1.bits ∧ b.1.bits < 18446744073709551616) css fun c hm => by
    obtain ⟨hl, y, hy, hwy⟩ := hq c hm
    exact in_of hy hl hwy
  rw [h1, h2, ins_flat] at hr
  refine ⟨v, bs.map (·.1), e1, ⟨?_, bs.map (·.2), by simp, by simpa using hr, ?_⟩⟩
  · intro x hx
    obtain ⟨b, hb, rfl⟩ := List.mem_map.1 hx
    exact (h3 b hb).2
  · intro i x a hx ha
    rw [List.getElem?_map] at hx ha
    obtain ⟨b, hb, rfl⟩ := Option.map_eq_some_iff.1 hx
    rw [hb] at ha
    cases ha
    exact (h3 b (List.mem_of_getElem? hb)).1
theorem bl_of {H : Type} {enc : TypeId × Value → H} {w : World} {spare : Nat → Bool} {held : Bool} {m : Nat} {c : List Value} {y : DataW H × List MemPlace} (h : DataW.trod enc Tryz.prog w 0 spare held m 48 c = some y) (hl : c.length = 6) (hw : ∀ n ∈ y.1.weights Tryz.prog 48, n ≤ reachBytes) : ∃ b : Bl × Value, c = blCells b.1 b.2 ∧ InsAt w b.2 b.1.ins := by
  obtain ⟨_, y0, q0, w0⟩ := field Tryz.underlying48 h hw (i := 0) (ty := 41) (off := 0) (sz := 1) rfl (by kernel_rfl)
  obtain ⟨_, y1, q1, w1⟩ := field Tryz.underlying48 h hw (i := 1) (ty := 46) (off := 1) (sz := 5) rfl (by kernel_rfl)
  obtain ⟨iv, l, e0, hI⟩ := ins_of q0 w0
  have e0 := one_v e0
  obtain ⟨_, z0, p0, _⟩ := field Tryz.underlying46 q1 w1 (i := 0) (ty := 42) (off := 0) (sz := 1) rfl (by kernel_rfl)
  obtain ⟨_, z1, p1, _⟩ := field Tryz.underlying46 q1 w1 (i := 1) (ty := 3) (off := 1) (sz := 1) rfl (by kernel_rfl)
  obtain ⟨_, z2, p2, _⟩ := field Tryz.underlying46 q1 w1 (i := 2) (ty := 43) (off := 2) (sz := 2) rfl (by kernel_rfl)
  obtain ⟨_, z3, p3, _⟩ := field Tryz.underlying46 q1 w1 (i := 3) (ty := 44) (off := 4) (sz := 1) rfl (by kernel_rfl)
  obtain ⟨a0, a1, a2, a3, a4, a5, rfl⟩ := len6 hl
  obtain ⟨j0, f0, _⟩ := one_i u8E p0
  obtain ⟨j1, f1, _⟩ := one_i i64I p1
  obtain ⟨j4, f4, _⟩ := one_i u8P p3
  obtain ⟨xs, m3, _, _, _, hx, hel⟩ := DataW.trod_array ar2 p2
  have g0 := hel 0 (by omega)
  have g1 := hel 1 (by omega)
  rw [show Tryz.prog.cellsOf 3 = 1 by kernel_rfl, List.getElem?_eq_getElem (by omega)] at g0 g1
  obtain ⟨j2, f2, _⟩ := one_i i64I g0
  obtain ⟨j3, f3, _⟩ := one_i i64I g1
  cases e0; cases f0; cases f1; cases f2; cases f3; cases f4
  exact ⟨(⟨l, ⟨j0, j1, j2, j3, j4⟩⟩, iv), rfl, hI⟩
theorem bls_flat : ∀ bs : List (Bl × Value), (bs.flatMap fun b => blCells b.1 b.2) = blsCells (bs.map (·.1)) (bs.map (·.2))
  | [] => rfl
  | b :: bs => by rw [List.flatMap_cons, bls_flat bs]; rfl
theorem bls_of {H : Type} {enc : TypeId × Value → H} {w : World} {spare : Nat → Bool} {held : Bool} {m : Nat} {c : List Value} {y : DataW H × List MemPlace} (h : DataW.trod enc Tryz.prog w 0 spare held m 26 c = some y) (hw : ∀ n ∈ y.1.weights Tryz.prog 26, n ≤ reachBytes) : ∃ (v : Value) (l : List Bl), c = [v] ∧ BlsAt w v l := by
  obtain ⟨v, css, m2, e1, hr, hq⟩ := row_of slB (show Tryz.prog.cellsOf 48 = 6 by kernel_rfl) (by omega) bzB h hw
  obtain ⟨bs, h1, h2, h3⟩ := flat_pick (fun b : Bl × Value => blCells b.1 b.2) (fun b => InsAt w b.2 b.1.ins) css fun c hm => by
    obtain ⟨hl, y, hy, hwy⟩ := hq c hm
    exact bl_of hy hl hwy
  rw [h1, h2, bls_flat] at hr
  refine ⟨v, bs.map (·.1), e1, ⟨bs.map (·.2), by simp, by simpa using hr, ?_⟩⟩
  intro i x a hx ha
  rw [List.getElem?_map] at hx ha
  obtain ⟨b, hb, rfl⟩ := Option.map_eq_some_iff.1 hx
  rw [hb] at ha
  cases ha
  exact h3 b (List.mem_of_getElem? hb)
theorem ars_flat : ∀ bs : List (Int × Int), (bs.flatMap fun b => [bytV b.1, intV b.2]) = arrCells bs
  | [] => rfl
  | b :: bs => by rw [List.flatMap_cons, ars_flat bs]; rfl
theorem ars_of {H : Type} {enc : TypeId × Value → H} {w : World} {spare : Nat → Bool} {held : Bool} {m : Nat} {c : List Value} {y : DataW H × List MemPlace} (h : DataW.trod enc Tryz.prog w 0 spare held m 25 c = some y) (hw : ∀ n ∈ y.1.weights Tryz.prog 25, n ≤ reachBytes) : ∃ (v : Value) (l : List (Int × Int)), c = [v] ∧ ArrsAt w v l := by
  obtain ⟨v, css, m2, e1, hr, hq⟩ := row_of slA (show Tryz.prog.cellsOf 110 = 2 by kernel_rfl) (by omega) bzA h hw
  obtain ⟨bs, h1, h2, _⟩ := flat_pick (fun b : Int × Int => [bytV b.1, intV b.2]) (fun _ => True) css fun c hm => by
    obtain ⟨hl, y, hy, hwy⟩ := hq c hm
    obtain ⟨_, z0, p0, _⟩ := field (show Tryz.prog.underlying 110 = _ from Tryz.underlying110) hy hwy (i := 0) (ty := 23) (off := 0) (sz := 1) rfl (by kernel_rfl)
    obtain ⟨_, z1, p1, _⟩ := field (show Tryz.prog.underlying 110 = _ from Tryz.underlying110) hy hwy (i := 1) (ty := 3) (off := 1) (sz := 1) rfl (by kernel_rfl)
    obtain ⟨j0, f0, _⟩ := one_i u8T p0
    obtain ⟨j1, f1, _⟩ := one_i i64I p1
    obtain ⟨a0, a1, rfl⟩ := len2 hl
    cases f0; cases f1
    exact ⟨(j0, j1), rfl, trivial⟩
  rw [h1, h2, ars_flat] at hr
  exact ⟨v, bs, e1, hr⟩
theorem gr_of {H : Type} {enc : TypeId × Value → H} {w : World} {spare : Nat → Bool} {held : Bool} {m : Nat} {c : List Value} {y : DataW H × List MemPlace} (h : DataW.trod enc Tryz.prog w 0 spare held m 28 c = some y) (hl : c.length = 6) (hw : ∀ n ∈ y.1.weights Tryz.prog 28, n ≤ reachBytes) : ∃ (G : Gr) (pv vv av bv : Value), c = [.string G.name, pv, bytV G.result, vv, av, bv] ∧ GrAt w pv vv av bv G := by
  obtain ⟨_, y0, q0, _⟩ := field Tryz.underlying28 h hw (i := 0) (ty := 9) (off := 0) (sz := 1) rfl (by kernel_rfl)
  obtain ⟨_, y1, q1, w1⟩ := field Tryz.underlying28 h hw (i := 1) (ty := 22) (off := 1) (sz := 1) rfl (by kernel_rfl)
  obtain ⟨_, y2, q2, _⟩ := field Tryz.underlying28 h hw (i := 2) (ty := 23) (off := 2) (sz := 1) rfl (by kernel_rfl)
  obtain ⟨_, y3, q3, w3⟩ := field Tryz.underlying28 h hw (i := 3) (ty := 24) (off := 3) (sz := 1) rfl (by kernel_rfl)
  obtain ⟨_, y4, q4, w4⟩ := field Tryz.underlying28 h hw (i := 4) (ty := 25) (off := 4) (sz := 1) rfl (by kernel_rfl)
  obtain ⟨_, y5, q5, w5⟩ := field Tryz.underlying28 h hw (i := 5) (ty := 26) (off := 5) (sz := 1) rfl (by kernel_rfl)
  obtain ⟨s, e0, _, _⟩ := DataW.trod_string (show Tryz.prog.underlying 9 = some .string by kernel_rfl) q0
  obtain ⟨v1, l1, e1, r1⟩ := ints_of slI i64I (by kernel_rfl) bzI q1 w1
  obtain ⟨i2, e2, _⟩ := one_i u8T q2
  obtain ⟨v3, l3, e3, r3⟩ := ints_of slT u8T (by kernel_rfl) bzT q3 w3
  obtain ⟨v4, l4, e4, r4⟩ := ars_of q4 w4
  obtain ⟨v5, l5, e5, r5⟩ := bls_of q5 w5
  have e0 := one_v e0
  have e1 := one_v e1
  have e3 := one_v e3
  have e4 := one_v e4
  have e5 := one_v e5
  obtain ⟨a0, a1, a2, a3, a4, a5, rfl⟩ := len6 hl
  cases e0; cases e1; cases e2; cases e3; cases e4; cases e5
  exact ⟨⟨s, l1, i2, l3, l4, l5⟩, v1, v3, v4, v5, rfl, ⟨r1, r3, r4, r5⟩⟩
end Go.Proofs.YtcggbedjhglmmaaGreatDoor
/- The library's sorting, compacting and turning round, of a row of one's own; what follows a block. -/
namespace Go.Proofs.YtcggbedjhglmmaaGreatDoor
open Go.RowKit Go.Sort

theorem grow_none (w : World) : grow w #[] = w := by simp [grow]
theorem grownBy_refl (w : World) (r : Option Nat) : w.grownBy w r := ⟨rfl, rfl, rfl, Nat.le_refl _, fun _ _ _ => rfl⟩
theorem sort_own {w : World} {base : Nat} {v : Value} {l : List Int} (h : OwnI w base v l) (hl : l.length ≤ 1000000000) :
    Calls Tryz.prog 53 #[v] w fun e w' => e = .returned (.tuple #[]) ∧ OwnI w' base v (l.mergeSort fun x y => decide (x ≤ y)) ∧ w.grownBy w' v.ownBlock := by
  rcases h.2 with ⟨rfl, h0⟩ | ⟨g, cap, cur, rfl, h1, hh, h2, h3, h4, h5⟩
  · have hn : l = [] := List.eq_nil_of_length_eq_zero h0
    subst hn
    refine (Tryz.slices_Sort_int_none none 0 w).mono ?_
    rintro e w' ⟨rfl, rfl⟩
    exact ⟨rfl, by simpa using h, grownBy_refl _ _⟩
  · have hH := holds_of_blockI hh (by simpa using h5)
    refine (Tryz.slices_Sort_int g 0 cap l w hH (Array.getElem?_eq_some_iff.1 hh).1 (by omega)).mono ?_
    rintro e w' ⟨rfl, n, os, rfl⟩
    refine ⟨rfl, ?_, grownBy_sortedI _⟩
    have := ownsRow_sortedI (ts := l.mergeSort fun x y => decide (x ≤ y)) (n := n) (os := os) (by simp) h1 hh h2 h3 h4
    show World.ownsRow _ _ _ _ _ _ _
    rw [List.length_mergeSort]
    exact this
theorem compact_own {w : World} {base : Nat} {v : Value} {l : List Int} (h : OwnI w base v l) (hl : l.length ≤ 1000000000) :
    Calls Tryz.prog 54 #[v] w fun e w' => ∃ v', e = .returned v' ∧ OwnI w' base v' (Lib.compact l) ∧ w.grownBy w' v.ownBlock ∧ v'.ownBlock = v.ownBlock := by
  rcases h.2 with ⟨rfl, h0⟩ | ⟨g, cap, cur, rfl, h1, hh, h2, h3, h4, h5⟩
  · have hn : l = [] := List.eq_nil_of_length_eq_zero h0
    subst hn
    refine (Tryz.slices_Compact_int_empty none 0 w).mono ?_
    rintro e w' ⟨rfl, rfl⟩
    exact ⟨_, rfl, by simpa [Lib.compact, Lib.compactUpTo] using h, grownBy_refl _ _, rfl⟩
  · have hH := holds_of_blockI hh (by simpa using h5)
    refine (Tryz.slices_Compact_int g 0 cap l w hH (by omega) h2).mono ?_
    rintro e w' ⟨rfl, n, rfl⟩
    rw [← grow_none (putRow _ _ _ _ _)]
    have hle := Lib.compact_length_le l
    refine ⟨_, rfl, ?_, grownBy_sortedI _, rfl⟩
    have := ownsRow_sortedI (ts := Lib.compact l ++ List.replicate (l.length - (Lib.compact l).length) 0) (n := n) (os := #[]) (by simp; omega) h1 hh h2 h3 h4
    show World.ownsRow _ _ _ _ _ _ _
    refine ⟨by simp, ?_⟩
    rcases this.2 with ⟨hx, _⟩ | ⟨g', cap', cur', hv, k1, kk, k2, k3, k4, k5⟩
    · cases hx
    · injection hv with e1 e2 e3
      cases e1
      subst e3
      refine .inr ⟨g, cap, cur', rfl, k1, kk, by omega, k3, k4, ?_⟩
      have h6 := congrArg (List.take (Lib.compact l).length) k5
      rw [List.take_take, Nat.min_eq_left (by omega), List.map_append] at h6
      rw [Nat.mul_one, h6, List.take_left' (by simp)]
theorem compact_sort (t : Tm) : Lib.compact ((namedT t).mergeSort fun x y => decide (x ≤ y)) = nextT t := by
  unfold namedT nextT
  have c0 : Lib.compact ([] : List Int) = [] := rfl
  have c1 : ∀ x : Int, Lib.compact [x] = [x] := fun x => by simp [Lib.compact, Lib.compactUpTo, List.range_succ, Lib.keeps]
  have c2 : ∀ x y : Int, Lib.compact [x, y] = if x = y then [x] else [x, y] := fun x y => by
    by_cases h : x = y
    · subst h; simp [Lib.compact, Lib.compactUpTo, List.range_succ, Lib.keeps]
    · have h' : ¬ y = x := fun e => h e.symm
      simp [Lib.compact, Lib.compactUpTo, List.range_succ, Lib.keeps, h, h']
  have s2 : ∀ x y : Int, [x, y].mergeSort (fun a b => decide (a ≤ b)) = if x ≤ y then [x, y] else [y, x] := fun x y => by
    by_cases h : x ≤ y <;> simp [List.mergeSort, List.MergeSort.Internal.splitInTwo, h]
  by_cases h1 : t.kind = 1
  · simp only [h1, if_true, List.mergeSort_singleton, c1]
  · by_cases h2 : t.kind = 2
    · simp only [h2, if_true, show ¬ ((2 : Int) = 1) by omega, if_false, s2]
      by_cases e : t.t0 = t.t1
      · simp [e, c2]
      · by_cases l : t.t0 ≤ t.t1
        · have : t.t0 < t.t1 := by omega
          simp [e, l, c2, this]
        · have : ¬ t.t0 < t.t1 := by omega
          have e' : ¬ t.t1 = t.t0 := fun x => e x.symm
          simp [e, l, c2, this, e']
    · simp only [h1, h2, if_false, List.mergeSort_nil, c0]
abbrev blArr (iv : Value) (t : Tm) : Array Value := #[iv, .int .u8 t.kind, .int .i64 t.arg, .int .i64 t.t0, .int .i64 t.t1, .int .u8 t.trap]
theorem named_len (t : Tm) : (namedT t).length ≤ 2 := by
  unfold namedT
  repeat' split
  all_goals simp
theorem below_grown {w w1 w2 : World} {row : Option Nat} (h : Below w.heap.size w w1) (hg : w1.grownBy w2 row) (hr : ∀ g, row = some g → w.heap.size ≤ g) : Below w.heap.size w w2 :=
  ⟨hg.os.trans h.os, hg.tape.trans h.tape, hg.output.trans h.output, Nat.le_trans h.size hg.size, fun k hk => (hg.block k (Nat.lt_of_lt_of_le hk h.size) (fun e => by have := hr k e.symm; omega)).trans (h.block k hk)⟩
theorem next_any (iv : Value) (t : Tm) (w : World) : Calls Tryz.prog 28 #[.agg (blArr iv t)] w fun e w' => ∃ v, e = .returned v ∧ OwnI w' w.heap.size v (nextT t) ∧ Below w.heap.size w w' := by
  have hN := fun W => named_any t W
  have hS : Hid (∀ (W : World) (v : Value), OwnI W w.heap.size v (namedT t) → _) := fun W v h => sort_own h (by have := named_len t; omega)
  have hC : Hid (∀ (W : World) (v : Value), OwnI W w.heap.size v ((namedT t).mergeSort fun x y => decide (x ≤ y)) → _) := fun W v h => compact_own h (by have := named_len t; simp; omega)
  have hX := compact_sort t
  rw [← hX]
  clear hX
  generalize (namedT t).mergeSort (fun x y => decide (x ≤ y)) = l2 at *
  generalize namedT t = l1 at *
  generalize Lib.compact l2 = l3 at *
  obtain ⟨k, a, x, y, z⟩ := t
  have HN : Hid (∀ W, Calls Tryz.prog 52 #[.agg #[.int .u8 k, .int .i64 a, .int .i64 x, .int .i64 y, .int .u8 z]] W fun e w' => ∃ v, e = .returned v ∧ OwnI w' W.heap.size v l1 ∧ Below W.heap.size W w') := hN
  show Calls _ _ #[.agg #[iv, .int .u8 k, .int .i64 a, .int .i64 x, .int .i64 y, .int .u8 z]] _ _
  have HB : Hid (Below w.heap.size w (w.alloc (.cells #[iv, .int .u8 k, .int .i64 a, .int .i64 x, .int .i64 y, .int .u8 z] 48))) := below_alloc (Below.refl _ _) _
  clear hN
  go_enter Tryz.func28, Tryz.ntmps28
  go_wp2_with (first
    | (go_at_call 52; refine Calls.mono (HN.out _) ?_; rintro e w1 ⟨v, rfl, ho1, hb1⟩; have HO1 : Hid (OwnI w1 w.heap.size v l1) := own_mono ho1 HB.out.size; have HB1 : Hid (Below w.heap.size w w1) := below_trans HB.out hb1; clear ho1 hb1)
    | (go_at_call 53; refine (hS.out _ _ HO1.out).mono ?_; rintro e w2 ⟨rfl, ho2, hg2⟩; have HO2 : Hid _ := ho2; have HG2 : Hid _ := hg2; clear ho2 hg2)
    | (go_at_call 54; refine (hC.out _ _ HO2.out).mono ?_; rintro e w3 ⟨v3, rfl, ho3, hg3, hb3⟩; have HO3 : Hid _ := ho3; have HG3 : Hid _ := hg3; clear ho3 hg3 hb3))
  go_ret
  refine ⟨v3, rfl, HO3.out, ?_⟩
  have hr : ∀ g, v.ownBlock = some g → w.heap.size ≤ g := fun g hg => (HO1.out.lt g hg).1
  exact below_grown (below_grown HB1.out HG2.out hr) HG3.out hr
end Go.Proofs.YtcggbedjhglmmaaGreatDoor
/- Live variables of a graph, plain: what a block does to a variable first, what phis ask, the rows that are told. No program. -/
namespace Go.Proofs.YtcggbedjhglmmaaGreatDoor

def setsI (x : In) : Bool := x.kind != 7 && x.kind != 8 && x.kind != 10
/-- 1: it asks it first, 2: it sets it first, 0: neither -/
def firstI (v : Int) : List In → Nat
  | [] => 0
  | x :: l => if x.kind ≠ 1 ∧ v ∈ x.args then 1 else if setsI x = true ∧ x.dst = v then 2 else firstI v l
def asksT (t : Tm) (v : Int) : Bool := (t.kind == 2 || t.kind == 3) && t.arg == v
def firstB (b : Bl) (v : Int) : Nat := if firstI v b.ins = 0 then (if asksT b.tm v = true then 1 else 0) else firstI v b.ins
theorem firstI_le (v : Int) : ∀ l : List In, firstI v l ≤ 2
  | [] => by simp [firstI]
  | x :: l => by 
    unfold firstI; split
    · omega
    · split
      · omega
      · exact firstI_le v l
theorem firstB_le (b : Bl) (v : Int) : firstB b v ≤ 2 := by
  unfold firstB; have := firstI_le v b.ins; split
  · split <;> omega
  · exact this
/-- where it is not asked first, it passes just if nothing sets it -/
theorem firstI_pass (v : Int) : ∀ l : List In, firstI v l ≠ 1 → (firstI v l = 0 ↔ ¬ ∃ x ∈ l, setsI x = true ∧ x.dst = v)
  | [], _ => by simp [firstI]
  | x :: l, h => by
    unfold firstI at h ⊢
    by_cases h1 : x.kind ≠ 1 ∧ v ∈ x.args
    · rw [if_pos h1] at h; exact absurd rfl h
    · rw [if_neg h1] at h ⊢
      by_cases h2 : setsI x = true ∧ x.dst = v
      · rw [if_pos h2]; simp [h2]
      · rw [if_neg h2] at h ⊢
        rw [firstI_pass v l h]
        simp only [List.mem_cons, exists_eq_or_imp, h2, false_or]
theorem firstB_pass (b : Bl) (v : Int) (h : firstB b v ≠ 1) : firstB b v = 0 ↔ ¬ ∃ x ∈ b.ins, setsI x = true ∧ x.dst = v := by
  unfold firstB at h ⊢
  by_cases h0 : firstI v b.ins = 0
  · rw [if_pos h0] at h ⊢
    by_cases h1 : asksT b.tm v = true
    · rw [if_pos h1] at h; exact absurd rfl h
    · rw [if_neg h1]
      have := (firstI_pass v b.ins (by omega)).1 h0
      exact ⟨fun _ => this, fun _ => rfl⟩
  · rw [if_neg h0] at h ⊢
    exact firstI_pass v b.ins h
/-- first asked: nothing in front of it sets it -/
theorem firstI_ask (v : Int) : ∀ l : List In, firstI v l = 1 → ∃ x ∈ l, x.kind ≠ 1 ∧ v ∈ x.args
  | [], h => by simp [firstI] at h
  | x :: l, h => by
    unfold firstI at h
    by_cases h1 : x.kind ≠ 1 ∧ v ∈ x.args
    · exact ⟨x, List.mem_cons_self, h1⟩
    · rw [if_neg h1] at h
      by_cases h2 : setsI x = true ∧ x.dst = v
      · rw [if_pos h2] at h; omega
      · rw [if_neg h2] at h
        obtain ⟨y, m, hy⟩ := firstI_ask v l h
        exact ⟨y, List.mem_cons_of_mem _ m, hy⟩
theorem firstB_ask (b : Bl) (v : Int) (h : firstB b v = 1) : (∃ x ∈ b.ins, x.kind ≠ 1 ∧ v ∈ x.args) ∨ asksT b.tm v = true := by
  unfold firstB at h
  by_cases h0 : firstI v b.ins = 0
  · rw [if_pos h0] at h
    by_cases h1 : asksT b.tm v = true
    · exact .inr h1
    · rw [if_neg h1] at h; omega
  · rw [if_neg h0] at h; exact .inl (firstI_ask v _ h)

def blk (bs : List Bl) (i : Nat) : Bl := bs.getD i default
/-- a phi of the block 'to' asks v for the block 'fr' -/
def phiAsk (bs : List Bl) (ah : List (List Int)) (fr to : Nat) (v : Int) : Prop :=
  ∃ k : Nat, (ah.getD to [])[k]? = some (fr : Int) ∧ ∃ x ∈ (blk bs to).ins, x.kind = 1 ∧ x.args[k]? = some v
def nxB (bs : List Bl) (i : Nat) : List Nat := (nextT (blk bs i).tm).map Int.toNat
def phiOut (bs : List Bl) (ah : List (List Int)) (v : Int) (i : Nat) : Prop := ∃ j ∈ nxB bs i, phiAsk bs ah i j v
abbrev liveIn (bs : List Bl) (ah : List (List Int)) (v : Int) (i : Nat) : Prop := Lin (nxB bs) (fun i => firstB (blk bs i) v = 1) (fun i => firstB (blk bs i) v = 0) (phiOut bs ah v) i
abbrev liveOut (bs : List Bl) (ah : List (List Int)) (v : Int) (i : Nat) : Prop := Lout (nxB bs) (fun i => firstB (blk bs i) v = 1) (fun i => firstB (blk bs i) v = 0) (phiOut bs ah v) i
/-- out of a block: into one next to it, or asked there by a phi -/
theorem liveOut_iff {bs : List Bl} {ah : List (List Int)} {v : Int} {i : Nat} : liveOut bs ah v i ↔ ∃ j ∈ nxB bs i, liveIn bs ah v j ∨ phiAsk bs ah i j v := by
  constructor
  · rintro (⟨j, m, h⟩ | ⟨j, m, h⟩)
    · exact ⟨j, m, .inr h⟩
    · exact ⟨j, m, .inl h⟩
  · rintro ⟨j, m, h | h⟩
    · exact .inr ⟨j, m, h⟩
    · exact .inl ⟨j, m, h⟩
/-- into a block: asked there, or out of it -/
theorem liveIn_here {bs : List Bl} {ah : List (List Int)} {v : Int} {i : Nat} (h : liveIn bs ah v i) : firstB (blk bs i) v = 1 ∨ liveOut bs ah v i := by
  rcases lin_iff.1 h with h | ⟨_, h⟩
  · exact .inl h
  · exact .inr h
/-- what is live somewhere is asked somewhere -/
theorem live_asked {bs : List Bl} {ah : List (List Int)} {v : Int} {i : Nat} (h : liveIn bs ah v i) :
    ∃ k, (∃ x ∈ (blk bs k).ins, v ∈ x.args) ∨ asksT (blk bs k).tm v = true := by
  refine Classical.byContradiction fun hn => ?_
  refine lin_none (fun k hk => hn ?_) (fun k hk => hn ?_) h
  · rcases firstB_ask _ _ hk with ⟨x, m, _, hv⟩ | h
    · exact ⟨k, .inl ⟨x, m, hv⟩⟩
    · exact ⟨k, .inr h⟩
  · obtain ⟨j, _, t, _, x, m, _, hx⟩ := hk
    exact ⟨j, .inl ⟨x, m, List.mem_of_getElem? hx⟩⟩

noncomputable def decL (p : Prop) : Bool := @decide p (Classical.propDecidable p)
theorem decL_iff {p : Prop} : decL p = true ↔ p := by unfold decL; simp
/-- rows of variables, rising: those below n of which p holds -/
noncomputable def rowV (p : Int → Prop) (n : Nat) : List Int := ((List.range n).map Int.ofNat).filter fun v => decL (p v)
theorem rowV_zero (p : Int → Prop) : rowV p 0 = [] := rfl
theorem rowV_succ (p : Int → Prop) (n : Nat) : rowV p (n + 1) = rowV p n ++ (if decL (p (n : Int)) = true then [(n : Int)] else []) := by
  unfold rowV
  rw [List.range_succ, List.map_append, List.filter_append]
  congr 1
  simp only [List.map_cons, List.map_nil, List.filter_cons, List.filter_nil]
  rfl
theorem rowV_mem {p : Int → Prop} {n : Nat} {v : Int} : v ∈ rowV p n ↔ (0 ≤ v ∧ v < (n : Int)) ∧ p v := by
  unfold rowV
  rw [List.mem_filter, decL_iff, List.mem_map]
  constructor
  · rintro ⟨⟨k, hk, e⟩, h⟩
    have := List.mem_range.1 hk
    have e' : v = (k : Int) := e.symm
    exact ⟨⟨by omega, by omega⟩, h⟩
  · rintro ⟨⟨h0, h1⟩, h⟩
    exact ⟨⟨v.toNat, List.mem_range.2 (by omega), by show ((v.toNat : Nat) : Int) = v; omega⟩, h⟩
theorem rowV_len (p : Int → Prop) (n : Nat) : (rowV p n).length ≤ n := by
  unfold rowV
  exact Nat.le_trans (List.length_filter_le _ _) (by simp)
theorem rowV_congr {p q : Int → Prop} {n : Nat} (h : ∀ v : Int, 0 ≤ v → v < (n : Int) → (p v ↔ q v)) : rowV p n = rowV q n := by
  induction n with
  | zero => rfl
  | succ n ih =>
    rw [rowV_succ, rowV_succ, ih fun v h0 h1 => h v h0 (by omega)]
    have e : decL (p (n : Int)) = decL (q (n : Int)) := by
      rw [Bool.eq_iff_iff, decL_iff, decL_iff]; exact h n (by omega) (by omega)
    rw [e]
noncomputable def intoL (bs : List Bl) (ah : List (List Int)) (n : Nat) : List (List Int) := (List.range bs.length).map fun i => rowV (fun v => liveIn bs ah v i) n
noncomputable def outL (bs : List Bl) (ah : List (List Int)) (n : Nat) : List (List Int) := (List.range bs.length).map fun i => rowV (fun v => liveOut bs ah v i) n
end Go.Proofs.YtcggbedjhglmmaaGreatDoor
