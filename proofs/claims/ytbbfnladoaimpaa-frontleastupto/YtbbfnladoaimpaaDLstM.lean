/- Nothing put to a list. -/
import Derived.Test.YtbbfnladoaimpaaDMem
import Derived.Deep.Upon
import Derived.ArgAppend
import Derived.Test.YtbbfnladoaimpaaDMarks
namespace Go.Proofs.Ytbbfnladoaimpaa
open Go.RowKit

theorem append_none (base : Option Addr) (n c : Nat) (hle : n ≤ c) (a : Option Addr) (c2 : Nat) (W : World) : (Builtin.append_ #[29, 29] 29 #[.slice base n c, .slice a 0 c2]).run Try.prog W = .ok (.slice base n c) W := by
  obtain ⟨i0, hi0, hz0, hz1, hz2⟩ := info_parts infoI
  refine run_append_nothing W 29 29 29 3 i0 Try.underlying29 hi0 base n c hle _ ?_
  refine ⟨.inl ⟨_, Try.underlying29⟩, fun w' => by simp [Builtin.lenOf], ?_, ?_, by simp, by simp⟩
  · cases a with
    | none => simp [Builtin.firstCells]
    | some a => simp [Builtin.firstCells]; first | rfl | simp [loadCells]
  · cases a with
    | none => simp [Builtin.firstCells]
    | some a => simp [Builtin.firstCells]; first | rfl | simp [loadCells]
theorem wpList_append_none {P : Program} (w : World) {ops : Array Oper} {rest : List Oper} {o : Oper} {a : Act} {Q : Exit → Act → World → Prop}
    (hg : o.guard = none) (s x : Operand) (t : TypeId) (hop : o.op = Op.call { callee := Callee.builtin Builtin.append, args := #[s, x], argTypes := #[t, t] }) (v y : Value) (hs : a.eval s = v) (hx : a.eval x = y)
    (hrun : (Builtin.append_ #[t, t] o.type #[v, y]).run P w = .ok v w) (hK : wpList P ops Q rest (a.put o.dst v) w) : wpList P ops Q (o :: rest) a w := by
  refine wpList_plain hg fun K hK' => ?_
  unfold Oper.wp
  simp [execOp, hop, resolve, invoke, builtin, hs, hx, hrun, Result.andThen]
  exact hK' _ _ hK
end Go.Proofs.Ytbbfnladoaimpaa
/- A list copied. -/
namespace Go.Proofs.Ytbbfnladoaimpaa
open Go.RowKit

set_option maxRecDepth 100000 in
set_option maxHeartbeats 1000000 in
theorem copy_any (l : List Int) (v : Value) (w : World) (h : IntsAt w v l) (hl : l.length ≤ 1000000) : Calls Try.prog 22 #[v] w fun e w' => ∃ v', e = .returned v' ∧ OwnI w' w.heap.size v' l ∧ Below w.heap.size w w' := by
  obtain ⟨a, c, rfl, _⟩ := h.form
  obtain ⟨i0, hi0, hz0, hz1, hz2⟩ := info_parts infoI
  by_cases h0 : l.length = 0
  · have e : l = [] := List.eq_nil_of_length_eq_zero h0
    subst e
    have hap := append_none none 0 0 (Nat.le_refl _) a c
    clear h
    go_enter Try.func22, Try.ntmps22
    go_wp2_with (at_builtin; go_loud (refine wpList_append_none _ rfl _ _ 29 rfl (.slice none 0 0) (.slice a 0 c) rfl rfl (hap _) ?_))
    go_ret
    exact ⟨_, rfl, World.ownsRow_nil _ _ _ _, Below.refl _ _⟩
  · obtain ⟨g, o, ha, hg, _⟩ := h.get (i := 0) (by omega)
    subst ha
    have HC : Hid (∀ j u, (l.map intV)[j]? = some u → w.cell? ⟨g, o + j, none⟩ = some u) := fun j u hj => by
      rw [List.getElem?_map] at hj
      obtain ⟨x, hx, rfl⟩ := Option.map_eq_some_iff.1 hj
      obtain ⟨g2, o2, e2, _, c2⟩ := h.get (i := j) ((List.getElem?_eq_some_iff.1 hx).1)
      cases e2
      have hd : l.getD j 0 = x := by unfold List.getD; rw [hx]; rfl
      rw [c2, hd]
    clear h
    go_enter Try.func22, Try.ntmps22
    go_wp2_with (at_builtin; go_loud (refine wpList_append_own_at _ rfl _ _ 29 rfl w.heap.size 3 i0 (.int .i64 0) 1 8 Try.underlying29 hi0 hz0 hz1 hz2 rfl (by decide) (.slice none 0 0) 0 [] rfl (World.ownsRow_nil _ _ _ _) ⟨g, o, none⟩ l.length c (l.map intV) rfl ?c0 ?c1 ?c2 ?c3 ?c4 ?c5 ?_))
    case c0 => simp
    case c1 => intro j u hj; rw [Addr.add_lit]; exact HC.out j u hj
    case c2 => intro u hu; obtain ⟨x, _, rfl⟩ := List.mem_map.1 hu; rfl
    case c3 => unfold maxLen; omega
    case c4 => omega
    case c5 => exact Nat.le_refl _
    intro v2 w2 ho hg2 _ hat
    have HF : Hid (Below w.heap.size w w2) := below_grown (Below.refl _ _) hg2 (fun q hq => by cases hq)
    have HO : Hid (OwnI w2 w.heap.size v2 l) := by
      show World.ownsRow _ _ _ _ _ _ _
      simpa using ho
    clear ho hg2 hat
    go_wp2
    go_ret
    exact ⟨v2, rfl, HO.out, HF.out⟩
end Go.Proofs.Ytbbfnladoaimpaa
/- The law FrontLeast: its run, given what the program's functions do. -/
namespace Go.Proofs.Ytbbfnladoaimpaa
open Go.RowKit

/-- A row put to a row of one's own. -/
theorem wpList_append_row (w : World) {ops : Array Oper} {rest : List Oper} {o : Oper} {a : Act} {Q : Exit → Act → World → Prop}
    (hg : o.guard = none) (s x : Operand) (hop : o.op = Op.call { callee := Callee.builtin Builtin.append, args := #[s, x], argTypes := #[29, 29] }) (hty : o.type = 29)
    (base : Nat) (v y : Value) (xs ys : List Int) (hs : a.eval s = v) (hx : a.eval x = y) (hv : OwnI w base v xs) (hy : IntsAt w y ys) (hl : xs.length + ys.length ≤ 1000000) (hb : base ≤ w.heap.size)
    (hK : ∀ v' w', OwnI w' base v' (xs ++ ys) → w.grownBy w' v.ownBlock → wpList Try.prog ops Q rest (a.put o.dst v') w') : wpList Try.prog ops Q (o :: rest) a w := by
  obtain ⟨i0, hi0, hz0, hz1, hz2⟩ := info_parts infoI
  obtain ⟨ya, yc, rfl, _⟩ := hy.form
  by_cases h0 : ys.length = 0
  · have e : ys = [] := List.eq_nil_of_length_eq_zero h0
    subst e
    obtain ⟨va, vc, hve, _⟩ := (OwnI.at' hv (by omega)).form
    have hcap : xs.length ≤ vc := by rw [hve] at hv; exact (OwnI.at' hv (by omega)).cap
    refine wpList_append_none w hg s x _ hop v _ hs hx ?_ (hK v w (by simpa using hv) ⟨rfl, rfl, rfl, Nat.le_refl _, fun _ _ _ => rfl⟩)
    rw [hve, hty]
    exact append_none va xs.length vc hcap ya yc w
  · obtain ⟨g, oo, ha, hg2, _⟩ := hy.get (i := 0) (by omega)
    subst ha
    refine wpList_append_own_at w hg s x _ hop base 3 i0 (.int .i64 0) 1 8 Try.underlying29 hi0 hz0 hz1 hz2 rfl (by decide) v xs.length (xs.map intV) hs hv ⟨g, oo, none⟩ ys.length yc (ys.map intV) hx (by simp) (fun j u hj => ?_) (fun u hu => ?_) (by unfold maxLen; omega) (by omega) hb (fun v' w' ho hgr _ _ => hK v' w' ?_ hgr)
    · rw [List.getElem?_map] at hj
      obtain ⟨z, hz, rfl⟩ := Option.map_eq_some_iff.1 hj
      obtain ⟨g2, o2, e2, _, c2⟩ := hy.get (i := j) ((List.getElem?_eq_some_iff.1 hz).1)
      cases e2
      have hd : ys.getD j 0 = z := by unfold List.getD; rw [hz]; rfl
      rw [Addr.add_lit, c2, hd]
    · obtain ⟨z, _, rfl⟩ := List.mem_map.1 hu; rfl
    · show World.ownsRow _ _ _ _ _ _ _
      simpa using ho
theorem joins_both {nx : List (List Int)} (hM : May nx) (P : List Int) : joinL nx (fun a => (a : Int) ∈ P ++ joinL nx fun a => (a : Int) ∈ P) = joinL nx fun a => (a : Int) ∈ P := by
  refine nodesL_congr fun b _ => ?_
  rw [← Jn.both (F := fun a => (a : Int) ∈ P)]
  have key : ∀ a : Nat, ((a : Int) ∈ P ++ joinL nx fun a => (a : Int) ∈ P) ↔ ((a : Int) ∈ P ∨ (a < nx.length ∧ Jn nx (fun a => (a : Int) ∈ P) a)) := fun a => by
    rw [List.mem_append]
    refine or_congr_right ?_
    unfold joinL
    rw [mem_nodesL]
    exact ⟨fun ⟨b, e, h1, h2⟩ => by have : a = b := by omega
                                    subst this; exact ⟨h1, h2⟩, fun ⟨h1, h2⟩ => ⟨a, rfl, h1, h2⟩⟩
  constructor
  · exact fun h => h.mono fun a ha => ((key a).1 ha).imp id fun h => h.2
  · intro h
    refine h.least (Q := fun b => Jn nx (fun a => (a : Int) ∈ P ++ joinL nx fun a => (a : Int) ∈ P) b) fun a b hab hf => ?_
    rcases hab with (h1 | h1) | h1
    · exact .base ((key a).2 (.inl h1)) hf
    · have hlt : a < nx.length := by
        obtain ⟨a', _, hf'⟩ := h1.from_
        exact (hf'.lt hM).2
      exact .base ((key a).2 (.inr ⟨hlt, h1⟩)) hf
    · exact .step h1 hf
theorem join_mem {nx : List (List Int)} {F : Nat → Prop} {x : Int} : x ∈ joinL nx F ↔ ∃ b : Nat, x = (b : Int) ∧ b < nx.length ∧ Jn nx F b := mem_nodesL
theorem join_in {nx : List (List Int)} (F : Nat → Prop) : AllIn nx.length (joinL nx F) := fun x hx => by
  obtain ⟨b, e, hb, _⟩ := join_mem.1 hx
  omega
/-- More to begin with make no fewer. -/
theorem join_more {nx : List (List Int)} {P : List Int} {y x : Int} (h : x ∈ joinL nx fun a => (a : Int) ∈ P) : amongB (joinL nx fun a => (a : Int) ∈ P ++ [y]) x = true := by
  obtain ⟨b, e, hb, hj⟩ := join_mem.1 h
  exact decide_eq_true (join_mem.2 ⟨b, e, hb, hj.mono fun a ha => List.mem_append.2 (.inl ha)⟩)
theorem join_up {nx : List (List Int)} {F : Nat → Prop} {i : Nat} (h : i + 1 < (joinL nx F).length) : (joinL nx F).getD i 0 < (joinL nx F).getD (i + 1) 0 := by
  have := List.pairwise_iff_getElem.1 (nodesL_up nx.length (Jn nx F)) i (i + 1) (by unfold joinL at h; omega) h (by omega)
  rw [getD_of (by omega), getD_of h]
  exact this
/-- Each of them is needed. -/
theorem join_need {nx : List (List Int)} (hM : May nx) {P : List Int} {x : Int} (h : x ∈ joinL nx fun a => (a : Int) ∈ P) : ∃ k, k < nx.length ∧ ((amongB P (k : Int) || amongB (joinL nx fun a => (a : Int) ∈ P) (k : Int)) && amongB (frontL nx k) x) = true := by
  obtain ⟨b, e, hb, hj⟩ := join_mem.1 h
  obtain ⟨a, ha, hf⟩ := hj.from_
  have hl := hf.lt hM
  refine ⟨a, hl.1, ?_⟩
  rw [Bool.and_eq_true, Bool.or_eq_true]
  refine ⟨ha.imp (fun h => decide_eq_true h) (fun h => decide_eq_true (join_mem.2 ⟨a, rfl, hl.1, h⟩)), decide_eq_true ?_⟩
  exact mem_nodesL.2 ⟨b, e, hb, hf⟩
/-- The fronts of what they are the joins of are in. -/
theorem join_has {nx : List (List Int)} {P : List Int} {a : Nat} (ha : (a : Int) ∈ P) {x : Int} (hx : x ∈ frontL nx a) : amongB (joinL nx fun a => (a : Int) ∈ P) x = true := by
  obtain ⟨b, e, hb, hf⟩ := mem_nodesL.1 hx
  exact decide_eq_true (join_mem.2 ⟨b, e, hb, .base ha hf⟩)
/-- Some node up to k. -/
def NeedTo (n : Nat) (f : Nat → Bool) : Bool := (List.range n).any f
theorem need_succ (n : Nat) (f : Nat → Bool) : NeedTo (n + 1) f = (NeedTo n f || f n) := by
  unfold NeedTo
  rw [List.range_succ, List.any_append]
  simp
theorem need_true {n : Nat} {f : Nat → Bool} (h : ∃ k, k < n ∧ f k = true) : NeedTo n f = true := by
  obtain ⟨k, h1, h2⟩ := h
  exact List.any_eq_true.2 ⟨k, List.mem_range.2 h1, h2⟩
end Go.Proofs.Ytbbfnladoaimpaa
