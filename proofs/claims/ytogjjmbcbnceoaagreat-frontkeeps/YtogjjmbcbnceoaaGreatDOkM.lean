/- append onto a row of one's own, as one step of a region that draws. -/
import Derived.Test.YtogjjmbcbnceoaaGreatDMem
import Derived.Test.YtogjjmbcbnceoaaGreatDSameN
namespace Go.Proofs.YtogjjmbcbnceoaaGreat
open Go.RowKit

theorem step_append_own {P : Program} {ops : Array Oper} {o : Oper} {a : Act} {w : World} {K : Act → World → Prop} {Q : Exit → Act → World → Prop} {E : Prop}
    (hg : o.guard = none) (s x : Operand) (t : TypeId) (hop : o.op = Op.call { callee := Callee.builtin Builtin.append, args := #[s, x], argTypes := #[t, t] })
    (base : Nat) (e : TypeId) (i : TypeInfo) (z : Value) (size bytes : Nat) (h1 : P.underlying t = some (.slice e)) (h2 : P.info? e = some i) (h3 : i.zero = some z) (h4 : i.size = size) (h5 : i.bytes = bytes) (h6 : z.cells.size = size) (h7 : 0 < size)
    (v : Value) (n : Nat) (xs : List Value) (hs : a.eval s = v) (hown : w.ownsRow base e size v n xs)
    (ad : Addr) (m c : Nat) (news : List Value) (hx : a.eval x = .slice (some ad) m c) (hn : news.length = m * size) (hc : ∀ j u, news[j]? = some u → w.cell? (ad.add j) = some u) (h1c : ∀ u ∈ news, u.oneCell' = true)
    (b1 : n + m ≤ maxLen) (b2 : (n + m) * bytes ≤ 140737488355328) (hbase : base ≤ w.heap.size)
    (hK : ∀ v' w', w'.ownsRow base e size v' (n + m) (xs ++ news) → w.grownBy w' v.ownBlock → (v'.ownBlock = v.ownBlock ∨ v'.ownBlock = some w.heap.size) → K (a.put o.dst v') w') :
    if Region.wanted o (yielded ops a.tmps) = true then Oper.wp P o a w K Q else E := by
  have hw : Region.wanted o (yielded ops a.tmps) = true := by simp [Region.wanted, hg]
  rw [if_pos hw]
  obtain ⟨v', w', hrun, r1, r2, _, r3⟩ := run_append_own_at (P := P) w base t o.type e i z size bytes h1 h2 h3 h4 h5 h6 h7 v n xs hown ad m c news hn hc h1c b1 b2 hbase
  unfold Oper.wp
  simp [execOp, hop, resolve, invoke, builtin, hs, hx, hrun, Result.andThen]
  exact hK v' w' r1 r2 r3
end Go.Proofs.YtogjjmbcbnceoaaGreat
/- What is asked of the program: Tree, Over, Under; going up a list, rows of what stands under (plain). -/
namespace Go.Proofs.YtogjjmbcbnceoaaGreat
open Go.RowKit

theorem overF_zero (t : List Int) (a b : Int) : overF t a 0 b = false := rfl
theorem overF_eq (t : List Int) (a : Int) (f : Nat) : overF t a (f + 1) a = true := by unfold overF; rw [if_pos rfl]
theorem overF_up {t : List Int} {a b : Int} {f : Nat} (hn : a ≠ b) (h : 0 ≤ t.getD b.toNat 0 ∧ t.getD b.toNat 0 < (t.length : Int)) : overF t a (f + 1) b = overF t a f (t.getD b.toNat 0) := by
  rw [overF, if_neg hn, if_pos h]
theorem overF_out {t : List Int} {a b : Int} {f : Nat} (hn : a ≠ b) (h : ¬ (0 ≤ t.getD b.toNat 0 ∧ t.getD b.toNat 0 < (t.length : Int))) : overF t a (f + 1) b = false := by
  rw [overF, if_neg hn, if_neg h]
def underF : List Int → Nat → List (List Int) → List (List Int)
  | [], _, rows => rows
  | x :: l, i, rows => underF l (i + 1) (putA (i : Int) rows x)
def underT (t : List Int) : List (List Int) := underF t 0 (List.replicate t.length [])
theorem under_drop {t : List Int} {i : Nat} (h : i < t.length) (rows : List (List Int)) : underF (t.drop i) i rows = underF (t.drop (i + 1)) (i + 1) (putA (i : Int) rows (t.getD i 0)) := by
  rw [getD_of h, List.drop_eq_getElem_cons h]
  rfl
theorem underF_len : ∀ (t : List Int) (i : Nat) (rows : List (List Int)), (underF t i rows).length = rows.length
  | [], _, _ => rfl
  | x :: t, i, rows => by unfold underF; rw [underF_len t, putA_len]
theorem underT_len (t : List Int) : (underT t).length = t.length := by unfold underT; rw [underF_len]; simp
theorem lens_putA1 (i : Int) (rows : List (List Int)) (to : Int) : lensA (putA i rows to) ≤ lensA rows + 1 := by
  unfold putA
  split
  · rename_i h
    obtain ⟨h1, h2⟩ := inB_iff.1 h
    rw [lens_modify _ _ _ (by omega)]
    omega
  · omega
theorem lens_underF : ∀ (t : List Int) (i : Nat) (rows : List (List Int)), lensA (underF t i rows) ≤ lensA rows + t.length
  | [], _, _ => by simp [underF]
  | x :: t, i, rows => by
    unfold underF
    have h1 := lens_underF t (i + 1) (putA (i : Int) rows x)
    have h2 := lens_putA1 (i : Int) rows x
    simp only [List.length_cons]
    omega
theorem lens_underT (t : List Int) : lensA (underT t) ≤ t.length := by
  have := lens_underF t 0 (List.replicate t.length [])
  rw [lens_rep] at this
  unfold underT
  omega
def TreeOk (nx : List (List Int)) : Prop := ∀ (v : Value) (w : World), NetAt w v nx → Calls Tryz.prog 9 #[v] w fun e w' => (May nx → ∃ v', e = .returned (.tuple #[v', .int .i64 0]) ∧ OwnI w' w.heap.size v' (treeL nx)) ∧ (¬ May nx → e = .returned (.tuple #[.slice none 0 0, .int .i64 4])) ∧ Below w.heap.size w w'
def OverOk : Prop := ∀ (t : List Int) (a b : Int) (v : Value) (w : World), IntsAt w v t → Calls Tryz.prog 11 #[v, .int .i64 a, .int .i64 b] w fun e w' => e = .returned (.bool (overL t a b)) ∧ ∃ k, w' = w.drewN k
def UnderOk (t : List Int) : Prop := ∀ (v : Value) (w : World), IntsAt w v t → Calls Tryz.prog 10 #[v] w fun e w' => ∃ v', e = .returned v' ∧ NetAt w' v' (underT t) ∧ Below w.heap.size w w'
end Go.Proofs.YtogjjmbcbnceoaaGreat
