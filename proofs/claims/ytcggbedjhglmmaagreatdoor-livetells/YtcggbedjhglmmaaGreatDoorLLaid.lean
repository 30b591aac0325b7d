/- Marks: the last one, one more. -/
import Derived.Test.YtcggbedjhglmmaaGreatDoorGLaidNM
import Derived.Test.YtcggbedjhglmmaaGreatDoorLStr
namespace Go.Proofs.YtcggbedjhglmmaaGreatDoor
open Go.RowKit

def mkCells (m : Mk) : List Value := [nmV m.1, wd m.2]
theorem mkCells_len (m : Mk) : (mkCells m).length = 2 := rfl
abbrev MkRow (w : World) (base : Nat) (v : Value) (l : List Mk) : Prop := w.ownsRow base 87 2 v l.length (flat mkCells l)
theorem infoM : (Tryz.prog.info? 87).map (fun i => (i.zero, i.size, i.bytes)) = some (some (.agg #[.int .i64 0, .int .u64 0]), 2, 16) := by kernel_rfl
theorem ret_u64n {a b : Nat} (h : a = b) : Ending.returned (.int .u64 (a : Int)) = .returned (.int .u64 (b : Int)) := by rw [h]
theorem mk_last {w : World} {base g c n : Nat} {l : List Mk} {m : Mk} (hn : n = l.length + 1) (h : MkRow w base (.slice (some ⟨g, 0, none⟩) n c) (l ++ [m])) : w.cell? ⟨g, l.length * 2, none⟩ = some (nmV m.1) ∧ w.cell? ⟨g, l.length * 2 + 1, none⟩ = some (wd m.2) ∧ ∀ j, w.frozen? ⟨g, j, none⟩ = false := by
  subst hn
  have h2 : w.ownsRow base 87 2 (.slice (some ⟨g, 0, none⟩) (l.length + 1) c) (l.length + 1) (flat mkCells (l ++ [m])) := by have h3 : w.ownsRow base 87 2 (.slice (some ⟨g, 0, none⟩) (l.length + 1) c) (l ++ [m]).length (flat mkCells (l ++ [m])) := h; rwa [List.length_append] at h3
  have e : (l ++ [m])[l.length]? = some m := by simp
  refine ⟨?_, ?_, fun j => h2.frozenAt j⟩
  · rw [h2.cellAt (l.length * 2) (by omega)]
    exact flat_at mkCells_len (l ++ [m]) l.length 0 m (nmV m.1) e rfl
  · rw [h2.cellAt (l.length * 2 + 1) (by omega)]
    exact flat_at mkCells_len (l ++ [m]) l.length 1 m (wd m.2) e rfl
theorem mk_form {w : World} {base : Nat} {v : Value} {l : List Mk} {m : Mk} (h : MkRow w base v (l ++ [m])) : ∃ g c, v = .slice (some ⟨g, 0, none⟩) (l.length + 1) c ∧ l.length + 1 ≤ c ∧ c ≤ maxLen := by
  rcases own_shape h with ⟨_, e⟩ | ⟨g, c, e, e2, e3, _⟩
  · simp at e
  · exact ⟨g, c, by simpa using e, by simpa using e2, e3⟩
set_option maxRecDepth 100000 in
theorem last_any {w : World} {base : Nat} {v : Value} {l : List Mk} (h : MkRow w base v l) (hl : l.length ≤ 100000000) (i : Nat) :
    Calls Tryz.prog 71 #[v, .int .i64 (i : Int)] w fun e w' => e = .returned (.int .u64 (lastM l i : Nat)) ∧ w' = w := by
  rcases snoc_of l with rfl | ⟨l', m, rfl⟩
  · obtain ⟨a, c, rfl⟩ : ∃ a c, v = .slice a 0 c := by
      rcases own_shape h with ⟨e, _⟩ | ⟨g, c, e, _⟩
      · exact ⟨_, _, e⟩
      · exact ⟨_, _, e⟩
    have HR : Hid (lastM [] i = 0) := rfl
    clear h hl
    go_enter Tryz.func71, Tryz.ntmps71
    go_wp2
    go_ret
    exact ⟨by rw [HR.out]; rfl, rfl⟩
  · obtain ⟨g, c, rfl, hc, hm⟩ := mk_form h
    obtain ⟨c1, c2, cf⟩ := mk_last rfl h
    have HR : Hid (lastM (l' ++ [m]) i = if m.1 = i then m.2 else 0) := lastM_snoc l' m i
    have hb : (l'.length : Int) ≤ 100000000 := by simp at hl; omega
    clear h hl hm
    obtain ⟨m1, m2⟩ := m
    dsimp only at c1 c2 HR
    generalize lastM (l' ++ [(m1, m2)]) i = R at *
    generalize l'.length = ll at *
    by_cases he : m1 = i
    · subst he
      rw [if_pos rfl] at HR
      go_enter Tryz.func71, Tryz.ntmps71
      go_wp2
      go_ret
      exact ⟨ret_u64n HR.out.symm, rfl⟩
    · rw [if_neg he] at HR
      have he' : ((m1 : Int) == (i : Int)) = false := beq_false_of_ne (by omega)
      go_enter Tryz.func71, Tryz.ntmps71
      go_wp2
      go_ret
      exact ⟨by rw [HR.out]; rfl, rfl⟩
theorem grown_alloc {w w' : World} {o : Obj} {r : Option Nat} (h : (w.alloc o).grownBy w' r) : w.grownBy w' r :=
  ⟨h.os, h.tape, h.output, Nat.le_trans (by simp) h.size, fun k hk hr => (h.block k (Nat.lt_of_lt_of_le hk (by simp)) hr).trans ((below_alloc (Below.refl w.heap.size w) o).block k hk)⟩
set_option maxRecDepth 100000 in
set_option maxHeartbeats 1000000 in
theorem laid_any {w : World} {base : Nat} {v : Value} {l : List Mk} (h : MkRow w base v l) (hl : l.length ≤ 10000000) (hbs : base ≤ w.heap.size) (i x : Nat) (hx : x < 2 ^ 64) (hw : ∀ m ∈ l, m.2 < 2 ^ 64) :
    Calls Tryz.prog 39 #[v, .int .i64 (i : Int), .int .u64 (x : Int)] w fun e w' => ∃ v', e = .returned v' ∧ MkRow w' base v' (laidM l i x) ∧ w.grownBy w' v.ownBlock ∧ (∀ g, v'.ownBlock = some g → v.ownBlock = some g ∨ w.heap.size ≤ g) := by
  have HL : Hid (∀ W, W = w → Calls Tryz.prog 71 #[v, .int .i64 (i : Int)] W fun e w' => e = .returned (.int .u64 (lastM l i : Nat)) ∧ w' = W) := by rintro _ rfl; exact last_any h (by omega) i
  have hz := wd_zero (x := lastM l i)
  have HR : Hid (laidM l i x = if lastM l i = 0 then l ++ [(i, x)] else l.set (l.length - 1) (i, lastM l i ||| x)) := rfl
  by_cases h0 : lastM l i = 0
  · rw [decide_eq_true h0] at hz
    rw [if_pos h0] at HR
    obtain ⟨i0, hi0, hz0, hz1, hz2⟩ := info_parts infoM
    have HO : Hid (w.ownsRow base 87 2 v l.length (flat mkCells l)) := h
    clear h h0 hw
    generalize hll : l.length = ll at *
    generalize lastM l i = lm at *
    go_enter Tryz.func39, Tryz.ntmps39
    go_wp2_with (first
      | (go_at_call 71; refine Calls.mono (HL.out _ rfl) ?_; rintro e w1 ⟨rfl, hw1⟩; subst w1)
      | (at_builtin; go_loud (refine wpList_append_own_at _ rfl _ _ 62 rfl base 87 i0 (.agg #[.int .i64 0, .int .u64 0]) 2 16 Tryz.underlying62 hi0 hz0 hz1 hz2 rfl (by decide) _ ll (flat mkCells l) rfl (HO.out.alloc _) ⟨w.heap.size, 0, none⟩ 1 1 [nmV i, wd x] rfl rfl ?c1 ?c2 ?c3 ?c4 ?c5 ?_)))
    case c1 =>
      intro j u hj
      have := (Box.new w [nmV i, wd x] 87).cell j u hj
      rw [Addr.add_lit, Nat.zero_add]
      exact this
    case c2 => intro u hu; simp at hu; rcases hu with rfl | rfl <;> rfl
    case c3 => unfold maxLen; omega
    case c4 => omega
    case c5 => simp; omega
    intro v2 w2 ho hg2 _ hat
    obtain ⟨g2, cc2, rfl, _, _, _, _⟩ := own_form ho
    have HQ : Hid (MkRow w2 base (.slice (some ⟨g2, 0, none⟩) (ll + 1) cc2) (laidM l i x) ∧ w.grownBy w2 v.ownBlock ∧ (∀ g, (Value.slice (some ⟨g2, 0, none⟩) (ll + 1) cc2).ownBlock = some g → v.ownBlock = some g ∨ w.heap.size ≤ g)) := by
      refine ⟨?_, grown_alloc hg2, fun g hg => ?_⟩
      · rw [HR.out]
        show World.ownsRow _ _ _ _ _ _ _
        rw [flat_snoc, List.length_append, hll]
        exact ho
      · rcases hat with e | e
        · rw [e] at hg; exact .inl hg
        · rw [e] at hg; simp at hg; exact .inr (by omega)
    clear ho hg2 hat
    go_wp2
    go_ret
    exact ⟨_, rfl, HQ.out⟩
  · rw [decide_eq_false h0] at hz
    rw [if_neg h0] at HR
    rcases snoc_of l with rfl | ⟨l', m, rfl⟩
    · exact absurd rfl h0
    · obtain ⟨g, c, rfl, hc, hm⟩ := mk_form h
      obtain ⟨c1, c2, cf⟩ := mk_last rfl h
      have hm1 : m.1 = i := by rw [lastM_snoc] at h0; exact Classical.byContradiction fun e => h0 (if_neg e)
      have hlm : lastM (l' ++ [m]) i = m.2 := by rw [lastM_snoc, if_pos hm1]
      have hor := or_wd (hw m (by simp)) hx
      have f2 := cf (l'.length * 2 + 1)
      have hb : (l'.length : Int) ≤ 10000000 := by simp at hl; omega
      have HQ : Hid (MkRow (w.setCell ⟨g, l'.length * 2 + 1, none⟩ (wd (m.2 ||| x))) base (.slice (some ⟨g, 0, none⟩) (l'.length + 1) c) (laidM (l' ++ [m]) i x) ∧ w.grownBy (w.setCell ⟨g, l'.length * 2 + 1, none⟩ (wd (m.2 ||| x))) (Value.slice (some ⟨g, 0, none⟩) (l'.length + 1) c).ownBlock) := by
        have h2 : w.ownsRow base 87 2 (.slice (some ⟨g, 0, none⟩) (l'.length + 1) c) (l'.length + 1) (flat mkCells (l' ++ [m])) := by have h3 : w.ownsRow base 87 2 (.slice (some ⟨g, 0, none⟩) (l'.length + 1) c) (l' ++ [m]).length (flat mkCells (l' ++ [m])) := h; rwa [List.length_append] at h3
        obtain ⟨q1, q2⟩ := h2.stored (l'.length * 2 + 1) (wd (m.2 ||| x))
        refine ⟨?_, q2⟩
        rw [HR.out, hlm]
        show World.ownsRow _ _ _ _ _ _ _
        have e1 : (l' ++ [m]).length - 1 = l'.length := by simp
        have e2 := flat_set mkCells_len (l' ++ [m]) l'.length 1 m (i, m.2 ||| x) (wd (m.2 ||| x)) (by simp) (by omega) (by unfold mkCells; rw [hm1]; rfl)
        rw [e1, ← e2, List.length_set, List.length_append]
        exact q1
      rw [hlm] at HL hz
      clear h hl hm cf hw h0 HR hlm hc hm1
      obtain ⟨m1, m2⟩ := m
      dsimp only at *
      generalize l'.length = ll at *
      generalize m2 ||| x = y at *
      go_enter Tryz.func39, Tryz.ntmps39
      go_wp2_with (go_at_call 71; refine Calls.mono (HL.out _ rfl) ?_; rintro e w1 ⟨rfl, hw1⟩; subst w1)
      go_ret
      exact ⟨_, rfl, HQ.out.1, HQ.out.2, fun _ hg => .inl hg⟩
end Go.Proofs.YtcggbedjhglmmaaGreatDoor
