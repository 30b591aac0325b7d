/- A graph that comes in: its reading gives its rows in memory. -/
import Derived.Test.YtajaijilfclhpaaGreatDoorGBoxM
import Derived.ProofKit
import Derived.OpenShut
import Derived.DataShut
import Derived.SizedLaws
import Derived.Lib.LaidU8
namespace Go.Proofs.YtajaijilfclhpaaGreatDoor
open Go.RowKit Go.ChangeShapes

theorem flat_get {sz : Nat} : ∀ {css : List (List Value)}, (∀ c ∈ css, c.length = sz) → ∀ {k : Nat} {u : Value}, css.flatten[k]? = some u → ∃ i j c, k = i * sz + j ∧ css[i]? = some c ∧ c[j]? = some u
 | [], _, k, u, h => by simp at h
 | c :: css, hl, k, u, h => by
  have hc := hl c (by simp)
  rw [List.flatten_cons] at h
  by_cases hk : k < c.length
  ·rw [List.getElem?_append_left hk] at h
   exact ⟨0, k, c, by omega, rfl, h⟩
  ·rw [List.getElem?_append_right (by omega), hc] at h
   obtain ⟨i, j, c2, e, h1, h2⟩ := flat_get (fun c hm => hl c (by simp [hm])) h
   refine ⟨i + 1, j, c2, ?_, by simpa using h1, h2⟩
   rw [Nat.add_mul]
   omega
theorem weightsAll_mem {H : Type} {P : Program} {e : TypeId} : ∀ {l : List (DataW H)} {d : DataW H}, d ∈ l → ∀ n ∈ d.weights P e, n ∈ DataW.weightsAll P e l
 | d' :: r, d, hd, n, hn => by
  simp only [DataW.weightsAll, List.mem_append]
  rcases List.mem_cons.1 hd with rfl | h
  ·exact Or.inl hn
  ·exact Or.inr (weightsAll_mem h n hn)
theorem field {H : Type} {enc : TypeId × Value → H} {P : Program} {w : World} {spare : Nat → Bool} {held : Bool} {t : TypeId} {fs : Array Field} {fuel : Nat} {cs : List Value} {x : DataW H × List MemPlace} (ht : P.underlying t = some (.struct fs)) (h : DataW.trod enc P w 0 spare held fuel t cs = some x) (hw : ∀ n ∈ x.1.weights P t, n ≤ reachBytes)
  {i ty off sz : Nat} (hi : (fs[i]?).map (fun f => (f.type, f.offset)) = some (ty, off)) (hc : P.cellsOf ty = sz) : ∃ m y, DataW.trod enc P w 0 spare held m ty ((cs.drop off).take sz) = some y ∧ ∀ n ∈ y.1.weights P ty, n ≤ reachBytes := by
 obtain ⟨xs, m, _, rfl, _, hl, hf⟩ := DataW.trod_struct ht h
 obtain ⟨f, hfi, he⟩ := Option.map_eq_some_iff.1 hi
 cases he
 have h1 := hf i f hfi
 have hil : i < xs.length := by rw [hl]; exact (Array.getElem?_eq_some_iff.1 hfi).1
 rw [hc, List.getElem?_eq_getElem hil] at h1
 refine ⟨m, _, h1, fun n hn => hw n ?_⟩
 simp only [DataW.weights, ht]
 refine DataW.weights_mem_each (j := i) (t := f.type) (d := xs[i].1) ?_ ?_ n hn
 ·rw [List.getElem?_map, Array.getElem?_toList, hfi]; rfl
 ·rw [List.getElem?_map, List.getElem?_eq_getElem hil]; rfl
theorem row_of {H : Type} {enc : TypeId × Value → H} {P : Program} {w : World} {spare : Nat → Bool} {held : Bool} {t e : TypeId} {sz fuel : Nat} {cs : List Value} {x : DataW H × List MemPlace} (ht : P.underlying t = some (.slice e)) (hc : P.cellsOf e = sz) (hs : 0 < sz) (hbz : 0 < P.bytesOf e) (h : DataW.trod enc P w 0 spare held fuel t cs = some x) (hw : ∀ n ∈ x.1.weights P t, n ≤ reachBytes) :
  ∃ (v : Value) (css : List (List Value)) (m : Nat), cs = [v] ∧ RowAt w v css.length css.flatten ∧ ∀ c ∈ css, c.length = sz ∧ ∃ y, DataW.trod enc P w 0 spare held m e c = some y ∧ ∀ n ∈ y.1.weights P e, n ≤ reachBytes := by
 rcases DataW.trod_slice ht h with ⟨rfl, _⟩ | ⟨a, len, cap, elems, rest, n, _, rfl, rfl, _, hl, hm, hlen, hel, _, _⟩
 ·exact ⟨_, [], 0, rfl, ⟨none, 0, rfl, ⟨Nat.le_refl _, by simp⟩, .inl rfl⟩, by simp⟩
 ·rw [hc] at hel
  have hlen47 : len ≤ 140737488355328 := by
   have h9 := hw ((elems.length + rest.length) * P.bytesOf e) (by simp [DataW.weights, ht])
   have h8 : elems.length ≤ (elems.length + rest.length) * P.bytesOf e := Nat.le_trans (Nat.le_add_right _ _) (Nat.le_mul_of_pos_right _ hbz)
   have h7 : reachBytes ≤ 140737488355328 := by decide
   omega
  have helw : ∀ y ∈ elems, ∀ n ∈ y.1.weights P e, n ≤ reachBytes := fun y hy n hn => hw n (by
   simp only [DataW.weights, ht, List.mem_cons, List.mem_append]
   exact Or.inr (Or.inl (weightsAll_mem (List.mem_map.2 ⟨y, hy, rfl⟩) n hn)))
  have each : ∀ i, i < len → ∃ c y, w.cells? 0 (a.add (i * sz)) sz = some c ∧ DataW.trod enc P w 0 spare held n e c = some y ∧ ∀ n ∈ y.1.weights P e, n ≤ reachBytes := fun i hi => by
   have h1 := hel i hi
   rw [List.getElem?_eq_getElem (by omega), Option.bind_eq_some_iff] at h1
   obtain ⟨c, h2, h3⟩ := h1
   exact ⟨c, _, h2, h3, helw _ (List.getElem_mem _)⟩
  have hcell : ∀ i c, w.cells? 0 (a.add (i * sz)) sz = some c → c.length = sz ∧ ∀ j u, c[j]? = some u → w.cell? ((a.add (i * sz)).add j) = some u := fun i c hcc => by
   unfold World.cells? at hcc
   rw [if_pos (Nat.zero_le _)] at hcc
   have l1 : c.length = sz := by simpa using mapM_some_length hcc
   refine ⟨l1, fun j u hj => ?_⟩
   have hj' : j < sz := by have := (List.getElem?_eq_some_iff.1 hj).1; omega
   rw [mapM_some_get hcc j j (by simp [hj'])]
   exact hj
  refine ⟨_, (List.range len).map fun i => (w.cells? 0 (a.add (i * sz)) sz).getD [], n, rfl, ⟨some a, cap, by simp, ⟨by simpa using hl, by simpa using hlen47⟩, ?_⟩, ?_⟩
  ·by_cases h0 : len = 0
   ·left; simp [h0]
   ·right
    obtain ⟨c0, y0, e0, _⟩ := each 0 (by omega)
    have l0 := (hcell 0 c0 e0).1
    have r0 := (hcell 0 c0 e0).2 0 (c0[0]'(by omega)) (List.getElem?_eq_getElem _)
    have ea : (a.add (0 * sz)).add 0 = a := by simp [Addr.add]
    rw [ea] at r0
    obtain ⟨b, o, sp⟩ := a
    have := cell_spot r0
    subst this
    refine ⟨b, o, rfl, ?_, fun k u hk => ?_⟩
    ·rcases Nat.lt_or_ge b w.heap.size with h1 | h1
     ·exact h1
     ·simp [World.cell?, Array.getElem?_eq_none h1] at r0
    ·obtain ⟨i, j, c, rfl, hi, hj⟩ := flat_get (sz := sz) (fun c hm => by
      obtain ⟨i, hi, rfl⟩ := List.mem_map.1 hm
      obtain ⟨c, y, e1, _, _⟩ := each i (by simpa using hi)
      rw [e1]
      exact (hcell i c e1).1) hk
     rw [List.getElem?_map] at hi
     have hil : i < len := by
      rcases Nat.lt_or_ge i len with h1 | h1
      ·exact h1
      ·rw [List.getElem?_eq_none (by simpa using h1)] at hi; cases hi
     obtain ⟨c2, y, e1, _⟩ := each i hil
     rw [List.getElem?_range hil] at hi
     simp only [Option.map_some, e1, Option.getD_some, Option.some.injEq] at hi
     subst hi
     have := (hcell i c2 e1).2 j u hj
     rw [Addr.add_lit, Addr.add_lit] at this
     rw [show o + (i * sz + j) = o + i * sz + j by omega]
     exact this
  ·intro c hm
   obtain ⟨i, hi, rfl⟩ := List.mem_map.1 hm
   obtain ⟨c, y, e1, h2⟩ := each i (by simpa using hi)
   rw [e1]
   exact ⟨(hcell i c e1).1, y, h2⟩
theorem flat_pick {β : Type} (f : β → List Value) (Q : β → Prop) : ∀ css : List (List Value), (∀ c ∈ css, ∃ b, c = f b ∧ Q b) → ∃ bs : List β, css.length = bs.length ∧ css.flatten = bs.flatMap f ∧ ∀ b ∈ bs, Q b
 | [], _ => ⟨[], rfl, rfl, by simp⟩
 | c :: css, h => by
  obtain ⟨b, e, hq⟩ := h c (by simp)
  obtain ⟨bs, h1, h2, h3⟩ := flat_pick f Q css fun c hm => h c (by simp [hm])
  refine ⟨b :: bs, by simp [h1], by rw [List.flatten_cons, List.flatMap_cons, h2, e], ?_⟩
  intro x hx
  rcases List.mem_cons.1 hx with rfl | hx
  ·exact hq
  ·exact h3 x hx
theorem flat_one {β : Type} (g : β → Value) : ∀ l : List β, (l.flatMap fun z => [g z]) = l.map g
 | [] => rfl
 | x :: l => by rw [List.flatMap_cons, flat_one g l]; rfl
theorem ints_of {H : Type} {enc : TypeId × Value → H} {P : Program} {w : World} {spare : Nat → Bool} {held : Bool} {t e : TypeId} {k : IntKind} {fuel : Nat} {cs : List Value} {x : DataW H × List MemPlace} (ht : P.underlying t = some (.slice e)) (he : P.underlying e = some (.int k)) (hc : P.cellsOf e = 1) (hbz : 0 < P.bytesOf e) (h : DataW.trod enc P w 0 spare held fuel t cs = some x) (hw : ∀ n ∈ x.1.weights P t, n ≤ reachBytes) :
  ∃ (v : Value) (l : List Int), cs = [v] ∧ RowAt w v l.length (l.map fun z => Value.int k z) := by
 obtain ⟨v, css, m, e1, hr, hq⟩ := row_of ht hc (by omega) hbz h hw
 obtain ⟨l, h1, h2, _⟩ := flat_pick (fun z => [Value.int k z]) (fun _ => True) css fun c hm => by
  obtain ⟨_, y, hy, _⟩ := hq c hm
  obtain ⟨z, hz, _⟩ := DataW.trod_int he hy
  exact ⟨z, hz, trivial⟩
 rw [h1, h2, flat_one] at hr
 exact ⟨v, l, e1, hr⟩
theorem len6 {cs : List Value} (h : cs.length = 6) : ∃ a b c d e f, cs = [a, b, c, d, e, f] := by
 match cs, h with
 | [a, b, c, d, e, f], _ => exact ⟨a, b, c, d, e, f, rfl⟩
theorem len2 {cs : List Value} (h : cs.length = 2) : ∃ a b, cs = [a, b] := by
 match cs, h with
 | [a, b], _ => exact ⟨a, b, rfl⟩
theorem u8K : Tryz.prog.underlying 51 = some (.int .u8) := by kernel_rfl
theorem u8O : Tryz.prog.underlying 52 = some (.int .u8) := by kernel_rfl
theorem u8T : Tryz.prog.underlying 23 = some (.int .u8) := by kernel_rfl
theorem u8E : Tryz.prog.underlying 57 = some (.int .u8) := by kernel_rfl
theorem u8P : Tryz.prog.underlying 59 = some (.int .u8) := by kernel_rfl
theorem i64I : Tryz.prog.underlying 3 = some (.int .i64) := by kernel_rfl
theorem u64U : Tryz.prog.underlying 53 = some (.int .u64) := by kernel_rfl
theorem slI : Tryz.prog.underlying 22 = some (.slice 3) := by kernel_rfl
theorem slT : Tryz.prog.underlying 24 = some (.slice 23) := by kernel_rfl
theorem slA : Tryz.prog.underlying 25 = some (.slice 50) := by kernel_rfl
theorem slN : Tryz.prog.underlying 56 = some (.slice 55) := by kernel_rfl
theorem slB : Tryz.prog.underlying 26 = some (.slice 63) := by kernel_rfl
theorem ar2 : Tryz.prog.underlying 58 = some (.array 2 3) := by kernel_rfl
theorem bzI : 0 < Tryz.prog.bytesOf 3 := by rw [show Tryz.prog.bytesOf 3 = 8 by kernel_rfl]; omega
theorem bzT : 0 < Tryz.prog.bytesOf 23 := by rw [show Tryz.prog.bytesOf 23 = 1 by kernel_rfl]; omega
theorem bzA : 0 < Tryz.prog.bytesOf 50 := by rw [show Tryz.prog.bytesOf 50 = 16 by kernel_rfl]; omega
theorem bzN : 0 < Tryz.prog.bytesOf 55 := by rw [show Tryz.prog.bytesOf 55 = 56 by kernel_rfl]; omega
theorem bzB : 0 < Tryz.prog.bytesOf 63 := by rw [show Tryz.prog.bytesOf 63 = 64 by kernel_rfl]; omega
theorem one_i {H : Type} {enc : TypeId × Value → H} {w : World} {spare : Nat → Bool} {held : Bool} {off : Nat} {cs : List Value} {t : TypeId} {k : IntKind} {m : Nat} {y : DataW H × List MemPlace} (hu : Tryz.prog.underlying t = some (.int k)) (h : DataW.trod enc Tryz.prog w 0 spare held m t ((cs.drop off).take 1) = some y) : ∃ n, cs[off]? = some (.int k n) ∧ (Lit.int k n).wf = true := by
 obtain ⟨n, e, _, hw⟩ := DataW.trod_int hu h
 have h0 : ((cs.drop off).take 1)[0]? = some (.int k n) := by rw [e]; rfl
 exact ⟨n, by simpa using h0, hw⟩
theorem one_v {off : Nat} {cs : List Value} {v : Value} (h : (cs.drop off).take 1 = [v]) : cs[off]? = some v := by
 have h0 : ((cs.drop off).take 1)[0]? = some v := by rw [h]; rfl
 simpa using h0
theorem in_of {H : Type} {enc : TypeId × Value → H} {w : World} {spare : Nat → Bool} {held : Bool} {m : Nat} {c : List Value} {y : DataW H × List MemPlace} (h : DataW.trod enc Tryz.prog w 0 spare held m 55 c = some y) (hl : c.length = 6) (hw : ∀ n ∈ y.1.weights Tryz.prog 55, n ≤ reachBytes) : ∃ b : In × Value, c = inCells b.1 b.2 ∧ IntsAt w b.2 b.1.args ∧ 0 ≤ b.1.bits ∧ b.1.bits < 18446744073709551616 := by
 obtain ⟨_, y0, q0, _⟩ := field Tryz.underlying55 h hw (i := 0) (ty := 51) (off := 0) (sz := 1) rfl (by kernel_rfl)
 obtain ⟨_, y1, q1, _⟩ := field Tryz.underlying55 h hw (i := 1) (ty := 52) (off := 1) (sz := 1) rfl (by kernel_rfl)
 obtain ⟨_, y2, q2, _⟩ := field Tryz.underlying55 h hw (i := 2) (ty := 3) (off := 2) (sz := 1) rfl (by kernel_rfl)
 obtain ⟨_, y3, q3, w3⟩ := field Tryz.underlying55 h hw (i := 3) (ty := 22) (off := 3) (sz := 1) rfl (by kernel_rfl)
 obtain ⟨_, y4, q4, _⟩ := field Tryz.underlying55 h hw (i := 4) (ty := 53) (off := 4) (sz := 1) rfl (by kernel_rfl)
 obtain ⟨_, y5, q5, _⟩ := field Tryz.underlying55 h hw (i := 5) (ty := 3) (off := 5) (sz := 1) rfl (by kernel_rfl)
 obtain ⟨i0, e0, _⟩ := one_i u8K q0
 obtain ⟨i1, e1, _⟩ := one_i u8O q1
 obtain ⟨i2, e2, _⟩ := one_i i64I q2
 obtain ⟨v3, l3, e3, r3⟩ := ints_of slI i64I (by kernel_rfl) bzI q3 w3
 obtain ⟨i4, e4, w4⟩ := one_i u64U q4
 obtain ⟨i5, e5, _⟩ := one_i i64I q5
 have e3 := one_v e3
 obtain ⟨a0, a1, a2, a3, a4, a5, rfl⟩ := len6 hl
 cases e0; cases e1; cases e2; cases e3; cases e4; cases e5
 have hb := (Lit.wf_int_iff .u64 i4).1 w4
 have hb1 : (0 : Int) ≤ i4 := hb.1
 have hb2 : i4 ≤ (18446744073709551615 : Int) := hb.2
 exact ⟨(⟨i0, i1, i2, l3, i4, i5⟩, v3), rfl, r3, hb1, by show i4 < 18446744073709551616; omega⟩
theorem ins_flat : ∀ bs : List (In × Value), (bs.flatMap fun b => inCells b.1 b.2) = insCells (bs.map (·.1)) (bs.map (·.2))
 | [] => rfl
 | b :: bs => by rw [List.flatMap_cons, ins_flat bs]; rfl
theorem ins_of {H : Type} {enc : TypeId × Value → H} {w : World} {spare : Nat → Bool} {held : Bool} {m : Nat} {c : List Value} {y : DataW H × List MemPlace} (h : DataW.trod enc Tryz.prog w 0 spare held m 56 c = some y) (hw : ∀ n ∈ y.1.weights Tryz.prog 56, n ≤ reachBytes) : ∃ (v : Value) (l : List In), c = [v] ∧ InsAt w v l := by
 obtain ⟨v, css, m2, e1, hr, hq⟩ := row_of slN (show Tryz.prog.cellsOf 55 = 6 by kernel_rfl) (by omega) bzN h hw
 obtain ⟨bs, h1, h2, h3⟩ := flat_pick (fun b : In × Value => inCells b.1 b.2) (fun b => IntsAt w b.2 b.1.args ∧ 0 ≤ b.1.bits ∧ b.1.bits < 18446744073709551616) css fun c hm => by
  obtain ⟨hl, y, hy, hwy⟩ := hq c hm
  exact in_of hy hl hwy
 rw [h1, h2, ins_flat] at hr
 refine ⟨v, bs.map (·.1), e1, ⟨?_, bs.map (·.2), by simp, by simpa using hr, ?_⟩⟩
 ·intro x hx
  obtain ⟨b, hb, rfl⟩ := List.mem_map.1 hx
  exact (h3 b hb).2
 ·intro i x a hx ha
  rw [List.getElem?_map] at hx ha
  obtain ⟨b, hb, rfl⟩ := Option.map_eq_some_iff.1 hx
  rw [hb] at ha
  cases ha
  exact (h3 b (List.mem_of_getElem? hb)).1
theorem bl_of {H : Type} {enc : TypeId × Value → H} {w : World} {spare : Nat → Bool} {held : Bool} {m : Nat} {c : List Value} {y : DataW H × List MemPlace} (h : DataW.trod enc Tryz.prog w 0 spare held m 63 c = some y) (hl : c.length = 6) (hw : ∀ n ∈ y.1.weights Tryz.prog 63, n ≤ reachBytes) : ∃ b : Bl × Value, c = blCells b.1 b.2 ∧ InsAt w b.2 b.1.ins := by
 obtain ⟨_, y0, q0, w0⟩ := field Tryz.underlying63 h hw (i := 0) (ty := 56) (off := 0) (sz := 1) rfl (by kernel_rfl)
 obtain ⟨_, y1, q1, w1⟩ := field Tryz.underlying63 h hw (i := 1) (ty := 61) (off := 1) (sz := 5) rfl (by kernel_rfl)
 obtain ⟨iv, l, e0, hI⟩ := ins_of q0 w0
 have e0 := one_v e0
 obtain ⟨_, z0, p0, _⟩ := field Tryz.underlying61 q1 w1 (i := 0) (ty := 57) (off := 0) (sz := 1) rfl (by kernel_rfl)
 obtain ⟨_, z1, p1, _⟩ := field Tryz.underlying61 q1 w1 (i := 1) (ty := 3) (off := 1) (sz := 1) rfl (by kernel_rfl)
 obtain ⟨_, z2, p2, _⟩ := field Tryz.underlying61 q1 w1 (i := 2) (ty := 58) (off := 2) (sz := 2) rfl (by kernel_rfl)
 obtain ⟨_, z3, p3, _⟩ := field Tryz.underlying61 q1 w1 (i := 3) (ty := 59) (off := 4) (sz := 1) rfl (by kernel_rfl)
 obtain ⟨a0, a1, a2, a3, a4, a5, rfl⟩ := len6 hl
 obtain ⟨j0, f0, _⟩ := one_i u8E p0
 obtain ⟨j1, f1, _⟩ := one_i i64I p1
 obtain ⟨j4, f4, _⟩ := one_i u8P p3
 obtain ⟨xs, m3, _, _, _, hx, hel⟩ := DataW.trod_array ar2 p2
 have g0 := hel 0 (by omega)
 have g1 := hel 1 (by omega)
 rw [show Tryz.prog.cellsOf 3 = 1 by kernel_rfl, List.getElem?_eq_getElem (by omega)] at g0 g1
 obtain ⟨j2, f2, _⟩ := one_i i64I g0
 obtain ⟨j3, f3, _⟩ := one_i i64I g1
 cases e0; cases f0; cases f1; cases f2; cases f3; cases f4
 exact ⟨(⟨l, ⟨j0, j1, j2, j3, j4⟩⟩, iv), rfl, hI⟩
theorem bls_flat : ∀ bs : List (Bl × Value), (bs.flatMap fun b => blCells b.1 b.2) = blsCells (bs.map (·.1)) (bs.map (·.2))
 | [] => rfl
 | b :: bs => by rw [List.flatMap_cons, bls_flat bs]; rfl
theorem bls_of {H : Type} {enc : TypeId × Value → H} {w : World} {spare : Nat → Bool} {held : Bool} {m : Nat} {c : List Value} {y : DataW H × List MemPlace} (h : DataW.trod enc Tryz.prog w 0 spare held m 26 c = some y) (hw : ∀ n ∈ y.1.weights Tryz.prog 26, n ≤ reachBytes) : ∃ (v : Value) (l : List Bl), c = [v] ∧ BlsAt w v l := by
 obtain ⟨v, css, m2, e1, hr, hq⟩ := row_of slB (show Tryz.prog.cellsOf 63 = 6 by kernel_rfl) (by omega) bzB h hw
 obtain ⟨bs, h1, h2, h3⟩ := flat_pick (fun b : Bl × Value => blCells b.1 b.2) (fun b => InsAt w b.2 b.1.ins) css fun c hm => by
  obtain ⟨hl, y, hy, hwy⟩ := hq c hm
  exact bl_of hy hl hwy
 rw [h1, h2, bls_flat] at hr
 refine ⟨v, bs.map (·.1), e1, ⟨bs.map (·.2), by simp, by simpa using hr, ?_⟩⟩
 intro i x a hx ha
 rw [List.getElem?_map] at hx ha
 obtain ⟨b, hb, rfl⟩ := Option.map_eq_some_iff.1 hx
 rw [hb] at ha
 cases ha
 exact h3 b (List.mem_of_getElem? hb)
theorem ars_flat : ∀ bs : List (Int × Int), (bs.flatMap fun b => [bytV b.1, intV b.2]) = arrCells bs
 | [] => rfl
 | b :: bs => by rw [List.flatMap_cons, ars_flat bs]; rfl
theorem ars_of {H : Type} {enc : TypeId × Value → H} {w : World} {spare : Nat → Bool} {held : Bool} {m : Nat} {c : List Value} {y : DataW H × List MemPlace} (h : DataW.trod enc Tryz.prog w 0 spare held m 25 c = some y) (hw : ∀ n ∈ y.1.weights Tryz.prog 25, n ≤ reachBytes) : ∃ (v : Value) (l : List (Int × Int)), c = [v] ∧ ArrsAt w v l := by
 obtain ⟨v, css, m2, e1, hr, hq⟩ := row_of slA (show Tryz.prog.cellsOf 50 = 2 by kernel_rfl) (by omega) bzA h hw
 obtain ⟨bs, h1, h2, _⟩ := flat_pick (fun b : Int × Int => [bytV b.1, intV b.2]) (fun _ => True) css fun c hm => by
  obtain ⟨hl, y, hy, hwy⟩ := hq c hm
  obtain ⟨_, z0, p0, _⟩ := field (show Tryz.prog.underlying 50 = _ from Tryz.underlying50) hy hwy (i := 0) (ty := 23) (off := 0) (sz := 1) rfl (by kernel_rfl)
  obtain ⟨_, z1, p1, _⟩ := field (show Tryz.prog.underlying 50 = _ from Tryz.underlying50) hy hwy (i := 1) (ty := 3) (off := 1) (sz := 1) rfl (by kernel_rfl)
  obtain ⟨j0, f0, _⟩ := one_i u8T p0
  obtain ⟨j1, f1, _⟩ := one_i i64I p1
  obtain ⟨a0, a1, rfl⟩ := len2 hl
  cases f0; cases f1
  exact ⟨(j0, j1), rfl, trivial⟩
 rw [h1, h2, ars_flat] at hr
 exact ⟨v, bs, e1, hr⟩
theorem gr_of {H : Type} {enc : TypeId × Value → H} {w : World} {spare : Nat → Bool} {held : Bool} {m : Nat} {c : List Value} {y : DataW H × List MemPlace} (h : DataW.trod enc Tryz.prog w 0 spare held m 28 c = some y) (hl : c.length = 6) (hw : ∀ n ∈ y.1.weights Tryz.prog 28, n ≤ reachBytes) : ∃ (G : Gr) (pv vv av bv : Value), c = [.string G.name, pv, bytV G.result, vv, av, bv] ∧ GrAt w pv vv av bv G := by
 obtain ⟨_, y0, q0, _⟩ := field Tryz.underlying28 h hw (i := 0) (ty := 9) (off := 0) (sz := 1) rfl (by kernel_rfl)
 obtain ⟨_, y1, q1, w1⟩ := field Tryz.underlying28 h hw (i := 1) (ty := 22) (off := 1) (sz := 1) rfl (by kernel_rfl)
 obtain ⟨_, y2, q2, _⟩ := field Tryz.underlying28 h hw (i := 2) (ty := 23) (off := 2) (sz := 1) rfl (by kernel_rfl)
 obtain ⟨_, y3, q3, w3⟩ := field Tryz.underlying28 h hw (i := 3) (ty := 24) (off := 3) (sz := 1) rfl (by kernel_rfl)
 obtain ⟨_, y4, q4, w4⟩ := field Tryz.underlying28 h hw (i := 4) (ty := 25) (off := 4) (sz := 1) rfl (by kernel_rfl)
 obtain ⟨_, y5, q5, w5⟩ := field Tryz.underlying28 h hw (i := 5) (ty := 26) (off := 5) (sz := 1) rfl (by kernel_rfl)
 obtain ⟨s, e0, _, _⟩ := DataW.trod_string (show Tryz.prog.underlying 9 = some .string by kernel_rfl) q0
 obtain ⟨v1, l1, e1, r1⟩ := ints_of slI i64I (by kernel_rfl) bzI q1 w1
 obtain ⟨i2, e2, _⟩ := one_i u8T q2
 obtain ⟨v3, l3, e3, r3⟩ := ints_of slT u8T (by kernel_rfl) bzT q3 w3
 obtain ⟨v4, l4, e4, r4⟩ := ars_of q4 w4
 obtain ⟨v5, l5, e5, r5⟩ := bls_of q5 w5
 have e0 := one_v e0
 have e1 := one_v e1
 have e3 := one_v e3
 have e4 := one_v e4
 have e5 := one_v e5
 obtain ⟨a0, a1, a2, a3, a4, a5, rfl⟩ := len6 hl
 cases e0; cases e1; cases e2; cases e3; cases e4; cases e5
 exact ⟨⟨s, l1, i2, l3, l4, l5⟩, v1, v3, v4, v5, rfl, ⟨r1, r3, r4, r5⟩⟩
end Go.Proofs.YtajaijilfclhpaaGreatDoor
/- What is needed: plain. -/
namespace Go.Proofs.YtajaijilfclhpaaGreatDoor

/-- The instructions that stay in any case. -/
def staysK (k : Int) : Bool := k == 7 || k == 8 || k == 9 || k == 10
def setsK (k : Int) : Bool := !(k == 7) && !(k == 8) && !(k == 10)
def asksT (t : Tm) : Bool := t.kind == 2 || t.kind == 3
/-- The variables that something hangs on. -/
inductive NeedP (G : Gr) : Int → Prop
 | term {b : Bl} : b ∈ G.blocks → asksT b.tm = true → NeedP G b.tm.arg
 | stay {b : Bl} {x : In} {a : Int} : b ∈ G.blocks → x ∈ b.ins → staysK x.kind = true → a ∈ x.args → NeedP G a
 | sets {b : Bl} {x : In} {a : Int} : b ∈ G.blocks → x ∈ b.ins → setsK x.kind = true → NeedP G x.dst → a ∈ x.args → NeedP G a
/-- As a list, for each variable. -/
noncomputable def needL (G : Gr) : List Bool := (List.range G.vars.length).map fun (v : Nat) => @decide (NeedP G (v : Int)) (Classical.propDecidable _)
theorem needL_len (G : Gr) : (needL G).length = G.vars.length := by simp [needL]
theorem needL_at {G : Gr} {v : Nat} (hv : v < G.vars.length) : (needL G)[v]? = some (@decide (NeedP G (v : Int)) (Classical.propDecidable _)) := by
 unfold needL
 rw [List.getElem?_map, List.getElem?_range hv]
 rfl
abbrev atB (out : List Bool) (v : Int) : Bool := out.getD v.toNat false
/-- What a block asks, as far as is known what is needed. -/
def askI (out : List Bool) (x : In) : List Int := if staysK x.kind || (setsK x.kind && atB out x.dst) then x.args else []
def askB (out : List Bool) (b : Bl) : List Int := (if asksT b.tm then [b.tm.arg] else []) ++ b.ins.flatMap (askI out)
def Snd (G : Gr) (out : List Bool) : Prop := out.length = G.vars.length ∧ ∀ v : Nat, out.getD v false = true → NeedP G (v : Int)
/-- Every variable that is asked is one of the graph's. -/
structure InR (G : Gr) : Prop where
 term : ∀ b ∈ G.blocks, asksT b.tm = true → 0 ≤ b.tm.arg ∧ b.tm.arg < G.vars.length
 arg : ∀ b ∈ G.blocks, ∀ x ∈ b.ins, (staysK x.kind || setsK x.kind) = true → ∀ a ∈ x.args, 0 ≤ a ∧ a < G.vars.length
 dst : ∀ b ∈ G.blocks, ∀ x ∈ b.ins, staysK x.kind = false → 0 ≤ x.dst ∧ x.dst < G.vars.length
theorem ask_in {G : Gr} (h : InR G) {out : List Bool} {b : Bl} (hb : b ∈ G.blocks) : ∀ a ∈ askB out b, 0 ≤ a ∧ a < G.vars.length := fun a ha => by
 unfold askB at ha
 rcases List.mem_append.1 ha with ha | ha
 ·by_cases ht : asksT b.tm = true
  ·rw [if_pos ht] at ha
   rw [List.mem_singleton.1 ha]
   exact h.term b hb ht
  ·rw [if_neg ht] at ha
   cases ha
 ·obtain ⟨x, hx, ha⟩ := List.mem_flatMap.1 ha
  unfold askI at ha
  by_cases hk : (staysK x.kind || (setsK x.kind && atB out x.dst)) = true
  ·rw [if_pos hk] at ha
   refine h.arg b hb x hx ?_ a ha
   cases h1 : staysK x.kind
   ·rw [h1] at hk
    simp at hk
    simp [hk.1]
   ·rfl
  ·rw [if_neg hk] at ha
   cases ha
theorem ask_need {G : Gr} (h : InR G) {out : List Bool} (hs : Snd G out) {b : Bl} (hb : b ∈ G.blocks) : ∀ a ∈ askB out b, NeedP G a := fun a ha => by
 unfold askB at ha
 rcases List.mem_append.1 ha with ha | ha
 ·by_cases ht : asksT b.tm = true
  ·rw [if_pos ht] at ha
   rw [List.mem_singleton.1 ha]
   exact .term hb ht
  ·rw [if_neg ht] at ha
   cases ha
 ·obtain ⟨x, hx, ha⟩ := List.mem_flatMap.1 ha
  unfold askI at ha
  by_cases hk : (staysK x.kind || (setsK x.kind && atB out x.dst)) = true
  ·rw [if_pos hk] at ha
   cases h1 : staysK x.kind
   ·rw [h1] at hk
    simp at hk
    have hd := h.dst b hb x hx h1
    have := hs.2 x.dst.toNat hk.2
    rw [Int.toNat_of_nonneg hd.1] at this
    exact .sets hb hx hk.1 this ha
   ·exact .stay hb hx h1 ha
  ·rw [if_neg hk] at ha
   cases ha
def Cls (G : Gr) (out : List Bool) : Prop := ∀ b ∈ G.blocks, ∀ a ∈ askB out b, atB out a = true
theorem need_of {G : Gr} {out : List Bool} (hc : Cls G out) {v : Int} (hv : NeedP G v) : atB out v = true := by
 induction hv with
 | term hb ht => exact hc _ hb _ (List.mem_append.2 (.inl (by rw [if_pos ht]; exact List.mem_singleton.2 rfl)))
 | stay hb hx hk ha => exact hc _ hb _ (List.mem_append.2 (.inr (List.mem_flatMap.2 ⟨_, hx, by unfold askI; rw [if_pos (by rw [hk]; rfl)]; exact ha⟩)))
 | sets hb hx hk _ ha ih => exact hc _ hb _ (List.mem_append.2 (.inr (List.mem_flatMap.2 ⟨_, hx, by unfold askI; rw [if_pos (by rw [hk, ih]; simp)]; exact ha⟩)))
theorem need_all {G : Gr} {out : List Bool} (hs : Snd G out) (hc : Cls G out) : out = needL G := by
 apply List.ext_getElem?
 intro v
 by_cases hv : v < G.vars.length
 ·rw [needL_at hv, List.getElem?_eq_getElem (by rw [hs.1]; exact hv)]
  have e : out.getD v false = out[v]'(by rw [hs.1]; exact hv) := by simp [List.getD, List.getElem?_eq_getElem (show v < out.length by rw [hs.1]; exact hv)]
  congr 1
  rw [← e]
  by_cases hn : NeedP G (v : Int)
  ·have := need_of hc hn
   unfold atB at this
   rw [Int.toNat_natCast] at this
   rw [this]
   simp [hn]
  ·cases h1 : out.getD v false
   ·simp [hn]
   ·exact absurd (hs.2 v h1) hn
 ·rw [List.getElem?_eq_none (by rw [hs.1]; omega), List.getElem?_eq_none (by rw [needL_len]; omega)]
/-- How many are not marked yet. -/
def cntN (out : List Bool) : Nat := (out.filter fun b => !b).length
theorem cnt_set {out : List Bool} {v : Nat} (hv : out[v]? = some false) : cntN (out.set v true) < cntN out := by
 unfold cntN
 induction out generalizing v with
 | nil => simp at hv
 | cons b l ih =>
  cases v with
  | zero =>
   simp at hv
   subst hv
   simp
  | succ v =>
   have := ih (v := v) (by simpa using hv)
   rw [List.set_cons_succ]
   cases b <;> simp <;> omega
theorem set_true {out : List Bool} {v : Nat} (h : out[v]? = some true) : out.set v true = out := by
 apply List.ext_getElem?
 intro i
 rw [List.getElem?_set]
 by_cases e : v = i
 ·subst e
  rw [if_pos rfl, h]
  simp [(List.getElem?_eq_some_iff.1 h).1]
 ·rw [if_neg e]
theorem Snd.mark {G : Gr} {out : List Bool} (h : Snd G out) {a : Int} (ha : NeedP G a) (h0 : 0 ≤ a) : Snd G (out.set a.toNat true) := by
 refine ⟨by simpa using h.1, fun v hv => ?_⟩
 by_cases e : a.toNat = v
 ·rw [← e, Int.toNat_of_nonneg h0]
  exact ha
 ·refine h.2 v ?_
  rw [List.getD_eq_getElem?_getD, List.getElem?_set, if_neg e] at hv
  rwa [List.getD_eq_getElem?_getD]
/-- How a round over all blocks stands: out0 is where it began; i blocks are behind it, and k of what the next one asks. -/
structure Pass (G : Gr) (out0 : List Bool) (i : Nat) (l : List Int) (out : List Bool) (c : Bool) : Prop where
 snd : Snd G out
 same : c = false → out = out0 ∧ (∀ (j : Nat) (b : Bl), j < i → G.blocks[j]? = some b → ∀ a ∈ askB out0 b, atB out0 a = true) ∧ ∀ a ∈ l, atB out0 a = true
 less : c = true → cntN out < cntN out0
theorem Pass.start {G : Gr} {out : List Bool} (h : Snd G out) : Pass G out 0 [] out false := ⟨h, fun _ => ⟨rfl, fun j b hj => by omega, fun a ha => by cases ha⟩, fun h => by cases h⟩
theorem Pass.mark {G : Gr} {out0 out : List Bool} {i : Nat} {l : List Int} {c : Bool} (h : Pass G out0 i l out c) {a : Int} (ha : NeedP G a) (h0 : 0 ≤ a) (h1 : a < G.vars.length) : Pass G out0 i (l ++ [a]) (out.set a.toNat true) (c || !(atB out a)) := by
 have hlt : a.toNat < out.length := by rw [h.snd.1]; omega
 have hg : out[a.toNat]? = some (atB out a) := by
  unfold atB
  simp [List.getD, List.getElem?_eq_getElem hlt]
 refine ⟨h.snd.mark ha h0, fun hc => ?_, fun hc => ?_⟩
 ·have hc1 : c = false := by cases c <;> simp at hc ⊢
  have hc2 : atB out a = true := by rw [hc1] at hc; simpa using hc
  obtain ⟨e1, e2, e3⟩ := h.same hc1
  rw [hc2] at hg
  refine ⟨by rw [set_true hg]; exact e1, e2, fun x hx => ?_⟩
  rcases List.mem_append.1 hx with hx | hx
  ·exact e3 x hx
  ·rw [List.mem_singleton.1 hx, ← e1]
   exact hc2
 ·cases hb : atB out a
  ·rw [hb] at hg
   have h2 := cnt_set hg
   cases hc1 : c
   ·obtain ⟨e1, _⟩ := h.same hc1
    rw [e1] at h2 ⊢
    exact h2
   ·have := h.less hc1
    omega
  ·rw [hb] at hc hg
   rw [set_true hg]
   exact h.less (by simpa using hc)
theorem Pass.next {G : Gr} {out0 out outb : List Bool} {i : Nat} {c : Bool} {b : Bl} (hb : G.blocks[i]? = some b) (h : Pass G out0 i (askB outb b) out c) (he : c = false → outb = out0) : Pass G out0 (i + 1) [] out c :=
 ⟨h.snd, fun hc => by
  obtain ⟨e1, e2, e3⟩ := h.same hc
  refine ⟨e1, fun j b' hj hb' a ha => ?_, fun a ha => by cases ha⟩
  by_cases e : j = i
  ·subst e
   rw [hb] at hb'
   cases hb'
   exact e3 a (by rw [he hc]; exact ha)
  ·exact e2 j b' (by omega) hb' a ha, h.less⟩
theorem Pass.done {G : Gr} {out0 out : List Bool} (h : Pass G out0 G.blocks.length [] out false) : out = needL G := by
 obtain ⟨e1, e2, _⟩ := h.same rfl
 refine need_all h.snd fun b hb a ha => ?_
 obtain ⟨j, hj⟩ := List.getElem?_of_mem hb
 rw [e1] at ha ⊢
 exact e2 j b (List.getElem?_eq_some_iff.1 hj).1 hj a ha
end Go.Proofs.YtajaijilfclhpaaGreatDoor
