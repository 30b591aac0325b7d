/- Graphs as plain data: ends, edges, what stands ahead, the walk that leaves blocks one by one. No program. -/
namespace Go.Proofs.YtkgjcjakadofpaaDoor

structure Tm where
  kind : Int
  arg : Int
  t0 : Int
  t1 : Int
  trap : Int
  deriving DecidableEq, Inhabited
structure In where
  kind : Int
  op : Int
  dst : Int
  args : List Int
  bits : Int
  ref : Int
  deriving DecidableEq, Inhabited
structure Bl where
  ins : List In
  tm : Tm
  deriving DecidableEq, Inhabited
structure Gr where
  name : ByteArray
  params : List Int
  result : Int
  vars : List Int
  arrs : List (Int × Int)
  blocks : List Bl
  deriving Inhabited

def inB (k : Int) (n : Nat) : Bool := decide (0 ≤ k ∧ k < (n : Int))
theorem inB_iff {k : Int} {n : Nat} : inB k n = true ↔ 0 ≤ k ∧ k < (n : Int) := by unfold inB; simp
def namedT (t : Tm) : List Int := if t.kind = 1 then [t.t0] else if t.kind = 2 then [t.t0, t.t1] else []
def nextT (t : Tm) : List Int := if t.kind = 1 then [t.t0] else if t.kind = 2 then (if t.t0 = t.t1 then [t.t0] else if t.t0 < t.t1 then [t.t0, t.t1] else [t.t1, t.t0]) else []
theorem next_named (t : Tm) (x : Int) : x ∈ nextT t ↔ x ∈ namedT t := by
  unfold nextT namedT
  by_cases h1 : t.kind = 1
  · simp [h1]
  · by_cases h2 : t.kind = 2
    · simp only [h2, if_true, show ¬ ((2 : Int) = 1) by omega, if_false]
      by_cases e : t.t0 = t.t1
      · simp [e]
      · by_cases l : t.t0 < t.t1
        · simp [e, l]
        · simp [e, l]; exact or_comm
    · simp [h1, h2]
theorem next_nodup (t : Tm) : (nextT t).Nodup := by
  unfold nextT
  split
  · simp
  · split
    · split
      · simp
      · split <;> simp <;> omega
    · simp
/-- One more edge to a block: its row. -/
def putA (i : Int) (rows : List (List Int)) (to : Int) : List (List Int) := if inB to rows.length then rows.modify to.toNat (· ++ [i]) else rows
def putsA (i : Int) (rows : List (List Int)) (l : List Int) : List (List Int) := l.foldl (putA i) rows
def aheadF : List Tm → Nat → List (List Int) → List (List Int)
  | [], _, rows => rows
  | t :: ts, i, rows => aheadF ts (i + 1) (putsA (i : Int) rows (nextT t))
def aheadT (ts : List Tm) : List (List Int) := aheadF ts 0 (List.replicate ts.length [])
def tms (bs : List Bl) : List Tm := bs.map (·.tm)
theorem putA_len (i : Int) (rows : List (List Int)) (to : Int) : (putA i rows to).length = rows.length := by unfold putA; split <;> simp
theorem putsA_len (i : Int) : ∀ (l : List Int) (rows : List (List Int)), (putsA i rows l).length = rows.length
  | [], _ => rfl
  | a :: l, rows => by unfold putsA; rw [List.foldl_cons]; exact (putsA_len i l _).trans (putA_len _ _ _)
theorem aheadF_len : ∀ (ts : List Tm) (i : Nat) (rows : List (List Int)), (aheadF ts i rows).length = rows.length
  | [], _, _ => rfl
  | t :: ts, i, rows => by unfold aheadF; rw [aheadF_len ts, putsA_len]
theorem aheadT_len (ts : List Tm) : (aheadT ts).length = ts.length := by unfold aheadT; rw [aheadF_len]; simp

/-- How many blocks and instructions. -/
def countG (bs : List Bl) : Nat := bs.length + (bs.map fun b => b.ins.length).sum

/-- The walk: from a block that is marked on; blocks are told as they are left. -/
def stepW (go : Nat → List Bool → List Int → List Bool × List Int) (s : List Bool × List Int) (to : Int) : List Bool × List Int :=
  if inB to s.1.length && !(s.1.getD to.toNat true) then go to.toNat (s.1.set to.toNat true) s.2 else s
def dfs (ts : List Tm) : Nat → Nat → List Bool → List Int → List Bool × List Int
  | 0, at', met, left => (met, left ++ [(at' : Int)])
  | f + 1, at', met, left =>
    let s := (namedT (ts.getD at' default)).foldl (stepW (dfs ts f)) (met, left)
    (s.1, s.2 ++ [(at' : Int)])
def orderT (ts : List Tm) : List Int :=
  if ts.length = 0 then [] else (dfs ts ts.length 0 ((List.replicate ts.length false).set 0 true) []).2.reverse
def cntF (met : List Bool) : Nat := met.count false
theorem cntF_set {met : List Bool} {k : Nat} (h : met.getD k true = false) : cntF (met.set k true) + 1 = cntF met := by
  unfold cntF
  have hk : k < met.length := by
    rcases Nat.lt_or_ge k met.length with h1 | h1
    · exact h1
    · simp [List.getD, List.getElem?_eq_none h1] at h
  have he : met[k] = false := by simpa [List.getD, List.getElem?_eq_getElem hk] using h
  rw [List.count_set hk, he]
  have : 0 < met.count false := List.count_pos_iff.2 (he ▸ List.getElem_mem hk)
  simp; omega
end Go.Proofs.YtkgjcjakadofpaaDoor
