/- Bytes that are gathered in a row of the call's own. -/
import Derived.Test.YtcinlpiidgbnaaaLies2
import Derived.Deep.RegionLaw
import Derived.Lib.AppendStr
import Derived.Laws.IdiomStrings
namespace Go.Proofs.Ytcinlpiidgbnaaa
open Go.RowKit

/-- append of a string's bytes onto a row of the call's own, as one step of a region that draws. -/
theorem step_append_str {P : Program} {ops : Array Oper} {o : Oper} {a : Act} {w : World} {K : Act → World → Prop} {Q : Exit → Act → World → Prop} {E : Prop}
    (hg : o.guard = none) (s x : Operand) (t u : TypeId) (hop : o.op = Op.call { callee := Callee.builtin Builtin.append, args := #[s, x], argTypes := #[t, u] })
    (base : Nat) (e : TypeId) (i : TypeInfo) (h1 : P.underlying t = some (.slice e)) (hu : P.underlying u = some .string) (h2 : P.info? e = some i) (h3 : i.zero = some (.int .u8 0)) (h4 : i.size = 1) (h5 : i.bytes = 1)
    (v : Value) (n : Nat) (xs : List Value) (hs : a.eval s = v) (hown : w.ownsRow base e 1 v n xs) (str : ByteArray) (hx : a.eval x = .string str)
    (b1 : n + str.size ≤ maxLen) (b2 : n + str.size ≤ 140737488355328) (hbase : base ≤ w.heap.size)
    (hK : ∀ v' w', w'.ownsRow base e 1 v' (n + str.size) (xs ++ Lib.strCells str) → w.grownBy w' v.ownBlock → K (a.put o.dst v') w') :
    if Region.wanted o (yielded ops a.tmps) = true then Oper.wp P o a w K Q else E := by
  have hw : Region.wanted o (yielded ops a.tmps) = true := by simp [Region.wanted, hg]
  rw [if_pos hw]
  obtain ⟨v', w', hrun, r1, r2, _⟩ := Lib.run_append_own_string (P := P) w base t u o.type e i h1 hu h2 h3 h4 h5 v n xs hown str b1 b2 hbase
  unfold Oper.wp
  simp [execOp, hop, resolve, invoke, builtin, hs, hx, hrun, Result.andThen]
  exact hK v' w' r1 r2

def byteCells (l : List UInt8) : List Value := l.map fun c => .int .u8 (c.toNat : Int)
theorem byteCells_str (s : ByteArray) : Lib.strCells s = byteCells s.data.toList := rfl
theorem byteCells_app (a b : List UInt8) : byteCells (a ++ b) = byteCells a ++ byteCells b := by simp [byteCells]
theorem joined_snoc {l gap : List UInt8} {ts : List Tok} {k : Nat} {t : Tok} (h : ts[k]? = some t) : joined l gap (ts.take (k + 1)) = joined l gap (ts.take k) ++ txt l t ++ gap := by
  obtain ⟨hk, he⟩ := List.getElem?_eq_some_iff.1 h
  rw [List.take_succ_eq_append_getElem hk, he]
  unfold joined
  rw [List.flatMap_append]
  simp
/-- The bytes of a row of the call's own, as a string. -/
theorem conv_own {w : World} {base g cap : Nat} {l : List UInt8} (h : w.ownsRow base 5 1 (.slice (some ⟨g, 0, none⟩) l.length cap) l.length (byteCells l)) (W : World) (hc : ∀ j, j < l.length → W.cell? ⟨g, j, none⟩ = w.cell? ⟨g, j, none⟩) (a n c : Nat) (hn : a + n ≤ l.length) :
    (convert 31 9 (.slice (some ⟨g, a, none⟩) n c)).run Try.prog W = .ok (.string ⟨((l.drop a).take n).toArray⟩) W := by
  have hl : ((l.drop a).take n).length = n := by simp; omega
  have := run_convert_bytes_back (P := Try.prog) W 31 9 5 ⟨g, a, none⟩ c ((l.drop a).take n) Try.underlying31 Try.underlying5 Try.underlying9 ?_
  · rw [hl] at this; exact this
  · intro j hj
    rw [hl] at hj
    have ea : (⟨g, a, none⟩ : Addr).add j = ⟨g, a + j, none⟩ := by simp [Addr.add_lit]
    rw [ea, hc (a + j) (by omega), h.cellAt (a + j) (by omega)]
    unfold byteCells
    rw [List.getElem?_map, List.getElem?_eq_getElem (by omega)]
    simp
end Go.Proofs.Ytcinlpiidgbnaaa
