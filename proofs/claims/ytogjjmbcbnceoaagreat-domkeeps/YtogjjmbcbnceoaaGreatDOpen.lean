/- Nets and lists that come in: their reading gives their rows in memory. -/
import Derived.Test.YtogjjmbcbnceoaaGreatDMem
import Derived.ProofKit
import Derived.OpenShut
import Derived.DataShut
import Derived.SizedLaws
import Derived.Lib.LaidU8
namespace Go.Proofs.YtogjjmbcbnceoaaGreat
open Go.RowKit Go.ChangeShapes

theorem flat_get {sz : Nat} : ∀ {css : List (List Value)}, (∀ c ∈ css, c.length = sz) → ∀ {k : Nat} {u : Value}, css.flatten[k]? = some u → ∃ i j c, k = i * sz + j ∧ css[i]? = some c ∧ c[j]? = some u
  | [], _, k, u, h => by simp at h
  | c :: css, hl, k, u, h => by
    have hc := hl c (by simp)
    rw [List.flatten_cons] at h
    by_cases hk : k < c.length
    · rw [List.getElem?_append_left hk] at h
      exact ⟨0, k, c, by omega, rfl, h⟩
    · rw [List.getElem?_append_right (by omega), hc] at h
      obtain ⟨i, j, c2, e, h1, h2⟩ := flat_get (fun c hm => hl c (by simp [hm])) h
      refine ⟨i + 1, j, c2, ?_, by simpa using h1, h2⟩
      rw [Nat.add_mul]
      omega
theorem weightsAll_mem {H : Type} {P : Program} {e : TypeId} : ∀ {l : List (DataW H)} {d : DataW H}, d ∈ l → ∀ n ∈ d.weights P e, n ∈ DataW.weightsAll P e l
  | d' :: r, d, hd, n, hn => by
    simp only [DataW.weightsAll, List.mem_append]
    rcases List.mem_cons.1 hd with rfl | h
    · exact Or.inl hn
    · exact Or.inr (weightsAll_mem h n hn)
theorem row_of {H : Type} {enc : TypeId × Value → H} {P : Program} {w : World} {spare : Nat → Bool} {held : Bool} {t e : TypeId} {sz fuel : Nat} {cs : List Value} {x : DataW H × List MemPlace} (ht : P.underlying t = some (.slice e)) (hc : P.cellsOf e = sz) (hs : 0 < sz) (hbz : 0 < P.bytesOf e) (h : DataW.trod enc P w 0 spare held fuel t cs = some x) (hw : ∀ n ∈ x.1.weights P t, n ≤ reachBytes) :
    ∃ (v : Value) (css : List (List Value)) (m : Nat), cs = [v] ∧ RowAt w v css.length css.flatten ∧ ∀ c ∈ css, c.length = sz ∧ ∃ y, DataW.trod enc P w 0 spare held m e c = some y ∧ ∀ n ∈ y.1.weights P e, n ≤ reachBytes := by
  rcases DataW.trod_slice ht h with ⟨rfl, _⟩ | ⟨a, len, cap, elems, rest, n, _, rfl, rfl, _, hl, hm, hlen, hel, _, _⟩
  · exact ⟨_, [], 0, rfl, ⟨none, 0, rfl, ⟨Nat.le_refl _, by simp⟩, .inl rfl⟩, by simp⟩
  · rw [hc] at hel
    have hlen47 : len ≤ 140737488355328 := by
      have h9 := hw ((elems.length + rest.length) * P.bytesOf e) (by simp [DataW.weights, ht])
      have h8 : elems.length ≤ (elems.length + rest.length) * P.bytesOf e := Nat.le_trans (Nat.le_add_right _ _) (Nat.le_mul_of_pos_right _ hbz)
      have h7 : reachBytes ≤ 140737488355328 := by decide
      omega
    have helw : ∀ y ∈ elems, ∀ n ∈ y.1.weights P e, n ≤ reachBytes := fun y hy n hn => hw n (by
      simp only [DataW.weights, ht, List.mem_cons, List.mem_append]
      exact Or.inr (Or.inl (weightsAll_mem (List.mem_map.2 ⟨y, hy, rfl⟩) n hn)))
    have each : ∀ i, i < len → ∃ c y, w.cells? 0 (a.add (i * sz)) sz = some c ∧ DataW.trod enc P w 0 spare held n e c = some y ∧ ∀ n ∈ y.1.weights P e, n ≤ reachBytes := fun i hi => by
      have h1 := hel i hi
      rw [List.getElem?_eq_getElem (by omega), Option.bind_eq_some_iff] at h1
      obtain ⟨c, h2, h3⟩ := h1
      exact ⟨c, _, h2, h3, helw _ (List.getElem_mem _)⟩
    have hcell : ∀ i c, w.cells? 0 (a.add (i * sz)) sz = some c → c.length = sz ∧ ∀ j u, c[j]? = some u → w.cell? ((a.add (i * sz)).add j) = some u := fun i c hcc => by
      unfold World.cells? at hcc
      rw [if_pos (Nat.zero_le _)] at hcc
      have l1 : c.length = sz := by simpa using mapM_some_length hcc
      refine ⟨l1, fun j u hj => ?_⟩
      have hj' : j < sz := by have := (List.getElem?_eq_some_iff.1 hj).1; omega
      rw [mapM_some_get hcc j j (by simp [hj'])]
      exact hj
    refine ⟨_, (List.range len).map fun i => (w.cells? 0 (a.add (i * sz)) sz).getD [], n, rfl, ⟨some a, cap, by simp, ⟨by simpa using hl, by simpa using hlen47⟩, ?_⟩, ?_⟩
    · by_cases h0 : len = 0
      · left; simp [h0]
      · right
        obtain ⟨c0, y0, e0, _⟩ := each 0 (by omega)
        have l0 := (hcell 0 c0 e0).1
        have r0 := (hcell 0 c0 e0).2 0 (c0[0]'(by omega)) (List.getElem?_eq_getElem _)
        have ea : (a.add (0 * sz)).add 0 = a := by simp [Addr.add]
        rw [ea] at r0
        obtain ⟨b, o, sp⟩ := a
        have := cell_spot r0
        subst this
        refine ⟨b, o, rfl, ?_, fun k u hk => ?_⟩
        · rcases Nat.lt_or_ge b w.heap.size with h1 | h1
          · exact h1
          · simp [World.cell?, Array.getElem?_eq_none h1] at r0
        · obtain ⟨i, j, c, rfl, hi, hj⟩ := flat_get (sz := sz) (fun c hm => by
            obtain ⟨i, hi, rfl⟩ := List.mem_map.1 hm
            obtain ⟨c, y, e1, _, _⟩ := each i (by simpa using hi)
            rw [e1]
            exact (hcell i c e1).1) hk
          rw [List.getElem?_map] at hi
          have hil : i < len := by
            rcases Nat.lt_or_ge i len with h1 | h1
            · exact h1
            · rw [List.getElem?_eq_none (by simpa using h1)] at hi; cases hi
          obtain ⟨c2, y, e1, _⟩ := each i hil
          rw [List.getElem?_range hil] at hi
          simp only [Option.map_some, e1, Option.getD_some, Option.some.injEq] at hi
          subst hi
          have := (hcell i c2 e1).2 j u hj
          rw [Addr.add_lit, Addr.add_lit] at this
          rw [show o + (i * sz + j) = o + i * sz + j by omega]
          exact this
    · intro c hm
      obtain ⟨i, hi, rfl⟩ := List.mem_map.1 hm
      obtain ⟨c, y, e1, h2⟩ := each i (by simpa using hi)
      rw [e1]
      exact ⟨(hcell i c e1).1, y, h2⟩
theorem flat_pick {β : Type} (f : β → List Value) (Q : β → Prop) : ∀ css : List (List Value), (∀ c ∈ css, ∃ b, c = f b ∧ Q b) → ∃ bs : List β, css.length = bs.length ∧ css.flatten = bs.flatMap f ∧ ∀ b ∈ bs, Q b
  | [], _ => ⟨[], rfl, rfl, by simp⟩
  | c :: css, h => by
    obtain ⟨b, e, hq⟩ := h c (by simp)
    obtain ⟨bs, h1, h2, h3⟩ := flat_pick f Q css fun c hm => h c (by simp [hm])
    refine ⟨b :: bs, by simp [h1], by rw [List.flatten_cons, List.flatMap_cons, h2, e], ?_⟩
    intro x hx
    rcases List.mem_cons.1 hx with rfl | hx
    · exact hq
    · exact h3 x hx
theorem flat_one {β : Type} (g : β → Value) : ∀ l : List β, (l.flatMap fun z => [g z]) = l.map g
  | [] => rfl
  | x :: l => by rw [List.flatMap_cons, flat_one g l]; rfl
theorem ints_of {H : Type} {enc : TypeId × Value → H} {P : Program} {w : World} {spare : Nat → Bool} {held : Bool} {t e : TypeId} {k : IntKind} {fuel : Nat} {cs : List Value} {x : DataW H × List MemPlace} (ht : P.underlying t = some (.slice e)) (he : P.underlying e = some (.int k)) (hc : P.cellsOf e = 1) (hbz : 0 < P.bytesOf e) (h : DataW.trod enc P w 0 spare held fuel t cs = some x) (hw : ∀ n ∈ x.1.weights P t, n ≤ reachBytes) :
    ∃ (v : Value) (l : List Int), cs = [v] ∧ RowAt w v l.length (l.map fun z => Value.int k z) := by
  obtain ⟨v, css, m, e1, hr, hq⟩ := row_of ht hc (by omega) hbz h hw
  obtain ⟨l, h1, h2, _⟩ := flat_pick (fun z => [Value.int k z]) (fun _ => True) css fun c hm => by
    obtain ⟨_, y, hy, _⟩ := hq c hm
    obtain ⟨z, hz, _⟩ := DataW.trod_int he hy
    exact ⟨z, hz, trivial⟩
  rw [h1, h2, flat_one] at hr
  exact ⟨v, l, e1, hr⟩
theorem i64I : Tryz.prog.underlying 3 = some (.int .i64) := by kernel_rfl
theorem slI : Tryz.prog.underlying 23 = some (.slice 3) := by kernel_rfl
theorem slR : Tryz.prog.underlying 22 = some (.slice 23) := by kernel_rfl
theorem bzI : 0 < Tryz.prog.bytesOf 3 := by rw [show Tryz.prog.bytesOf 3 = 8 by kernel_rfl]; omega
theorem bzS : 0 < Tryz.prog.bytesOf 23 := by rw [show Tryz.prog.bytesOf 23 = 24 by kernel_rfl]; omega
theorem list_of {H : Type} {enc : TypeId × Value → H} {w : World} {spare : Nat → Bool} {held : Bool} {m : Nat} {c : List Value} {y : DataW H × List MemPlace} (h : DataW.trod enc Tryz.prog w 0 spare held m 23 c = some y) (hw : ∀ n ∈ y.1.weights Tryz.prog 23, n ≤ reachBytes) : ∃ (v : Value) (l : List Int), c = [v] ∧ IntsAt w v l :=
  ints_of slI i64I (by kernel_rfl) bzI h hw
theorem net_of {H : Type} {enc : TypeId × Value → H} {w : World} {spare : Nat → Bool} {held : Bool} {m : Nat} {c : List Value} {y : DataW H × List MemPlace} (h : DataW.trod enc Tryz.prog w 0 spare held m 22 c = some y) (hw : ∀ n ∈ y.1.weights Tryz.prog 22, n ≤ reachBytes) : ∃ (v : Value) (nx : List (List Int)), c = [v] ∧ NetAt w v nx := by
  obtain ⟨v, css, m2, e1, hr, hq⟩ := row_of slR (show Tryz.prog.cellsOf 23 = 1 by kernel_rfl) (by omega) bzS h hw
  obtain ⟨bs, h1, h2, h3⟩ := flat_pick (fun b : List Int × Value => [b.2]) (fun b => IntsAt w b.2 b.1) css fun c hm => by
    obtain ⟨_, y, hy, hwy⟩ := hq c hm
    obtain ⟨v, l, e, hi⟩ := list_of hy hwy
    exact ⟨(l, v), e, hi⟩
  rw [h1, h2, flat_one] at hr
  refine ⟨v, bs.map (·.1), e1, ⟨bs.map (·.2), by simp, by simpa using hr, ?_⟩⟩
  intro i x a hx ha
  rw [List.getElem?_map] at hx ha
  obtain ⟨b, hb, rfl⟩ := Option.map_eq_some_iff.1 hx
  rw [hb] at ha
  cases ha
  exact h3 b (List.mem_of_getElem? hb)
end Go.Proofs.YtogjjmbcbnceoaaGreat
