/- Live variables of a graph, plain: what a block does to a variable first, what phis ask, the rows that are told. No program. -/
import Derived.Test.YtcggbedjhglmmaaDoorGMemM
import Derived.Test.YtcggbedjhglmmaaDoorLPlainM
namespace Go.Proofs.YtcggbedjhglmmaaDoor

def setsI (x : In) : Bool := x.kind != 7 && x.kind != 8 && x.kind != 10
/-- 1: it asks it first, 2: it sets it first, 0: neither -/
def firstI (v : Int) : List In → Nat
  | [] => 0
  | x :: l => if x.kind ≠ 1 ∧ v ∈ x.args then 1 else if setsI x = true ∧ x.dst = v then 2 else firstI v l
def asksT (t : Tm) (v : Int) : Bool := (t.kind == 2 || t.kind == 3) && t.arg == v
def firstB (b : Bl) (v : Int) : Nat := if firstI v b.ins = 0 then (if asksT b.tm v = true then 1 else 0) else firstI v b.ins
theorem firstI_le (v : Int) : ∀ l : List In, firstI v l ≤ 2
  | [] => by simp [firstI]
  | x :: l => by 
    unfold firstI; split
    · omega
    · split
      · omega
      · exact firstI_le v l
theorem firstB_le (b : Bl) (v : Int) : firstB b v ≤ 2 := by
  unfold firstB; have := firstI_le v b.ins; split
  · split <;> omega
  · exact this
/-- where it is not asked first, it passes just if nothing sets it -/
theorem firstI_pass (v : Int) : ∀ l : List In, firstI v l ≠ 1 → (firstI v l = 0 ↔ ¬ ∃ x ∈ l, setsI x = true ∧ x.dst = v)
  | [], _ => by simp [firstI]
  | x :: l, h => by
    unfold firstI at h ⊢
    by_cases h1 : x.kind ≠ 1 ∧ v ∈ x.args
    · rw [if_pos h1] at h; exact absurd rfl h
    · rw [if_neg h1] at h ⊢
      by_cases h2 : setsI x = true ∧ x.dst = v
      · rw [if_pos h2]; simp [h2]
      · rw [if_neg h2] at h ⊢
        rw [firstI_pass v l h]
        simp only [List.mem_cons, exists_eq_or_imp, h2, false_or]
theorem firstB_pass (b : Bl) (v : Int) (h : firstB b v ≠ 1) : firstB b v = 0 ↔ ¬ ∃ x ∈ b.ins, setsI x = true ∧ x.dst = v := by
  unfold firstB at h ⊢
  by_cases h0 : firstI v b.ins = 0
  · rw [if_pos h0] at h ⊢
    by_cases h1 : asksT b.tm v = true
    · rw [if_pos h1] at h; exact absurd rfl h
    · rw [if_neg h1]
      have := (firstI_pass v b.ins (by omega)).1 h0
      exact ⟨fun _ => this, fun _ => rfl⟩
  · rw [if_neg h0] at h ⊢
    exact firstI_pass v b.ins h
/-- first asked: nothing in front of it sets it -/
theorem firstI_ask (v : Int) : ∀ l : List In, firstI v l = 1 → ∃ x ∈ l, x.kind ≠ 1 ∧ v ∈ x.args
  | [], h => by simp [firstI] at h
  | x :: l, h => by
    unfold firstI at h
    by_cases h1 : x.kind ≠ 1 ∧ v ∈ x.args
    · exact ⟨x, List.mem_cons_self, h1⟩
    · rw [if_neg h1] at h
      by_cases h2 : setsI x = true ∧ x.dst = v
      · rw [if_pos h2] at h; omega
      · rw [if_neg h2] at h
        obtain ⟨y, m, hy⟩ := firstI_ask v l h
        exact ⟨y, List.mem_cons_of_mem _ m, hy⟩
theorem firstB_ask (b : Bl) (v : Int) (h : firstB b v = 1) : (∃ x ∈ b.ins, x.kind ≠ 1 ∧ v ∈ x.args) ∨ asksT b.tm v = true := by
  unfold firstB at h
  by_cases h0 : firstI v b.ins = 0
  · rw [if_pos h0] at h
    by_cases h1 : asksT b.tm v = true
    · exact .inr h1
    · rw [if_neg h1] at h; omega
  · rw [if_neg h0] at h; exact .inl (firstI_ask v _ h)

def blk (bs : List Bl) (i : Nat) : Bl := bs.getD i default
/-- a phi of the block 'to' asks v for the block 'fr' -/
def phiAsk (bs : List Bl) (ah : List (List Int)) (fr to : Nat) (v : Int) : Prop :=
  ∃ k : Nat, (ah.getD to [])[k]? = some (fr : Int) ∧ ∃ x ∈ (blk bs to).ins, x.kind = 1 ∧ x.args[k]? = some v
def nxB (bs : List Bl) (i : Nat) : List Nat := (nextT (blk bs i).tm).map Int.toNat
def phiOut (bs : List Bl) (ah : List (List Int)) (v : Int) (i : Nat) : Prop := ∃ j ∈ nxB bs i, phiAsk bs ah i j v
abbrev liveIn (bs : List Bl) (ah : List (List Int)) (v : Int) (i : Nat) : Prop := Lin (nxB bs) (fun i => firstB (blk bs i) v = 1) (fun i => firstB (blk bs i) v = 0) (phiOut bs ah v) i
abbrev liveOut (bs : List Bl) (ah : List (List Int)) (v : Int) (i : Nat) : Prop := Lout (nxB bs) (fun i => firstB (blk bs i) v = 1) (fun i => firstB (blk bs i) v = 0) (phiOut bs ah v) i
/-- out of a block: into one next to it, or asked there by a phi -/
theorem liveOut_iff {bs : List Bl} {ah : List (List Int)} {v : Int} {i : Nat} : liveOut bs ah v i ↔ ∃ j ∈ nxB bs i, liveIn bs ah v j ∨ phiAsk bs ah i j v := by
  constructor
  · rintro (⟨j, m, h⟩ | ⟨j, m, h⟩)
    · exact ⟨j, m, .inr h⟩
    · exact ⟨j, m, .inl h⟩
  · rintro ⟨j, m, h | h⟩
    · exact .inr ⟨j, m, h⟩
    · exact .inl ⟨j, m, h⟩
/-- into a block: asked there, or out of it -/
theorem liveIn_here {bs : List Bl} {ah : List (List Int)} {v : Int} {i : Nat} (h : liveIn bs ah v i) : firstB (blk bs i) v = 1 ∨ liveOut bs ah v i := by
  rcases lin_iff.1 h with h | ⟨_, h⟩
  · exact .inl h
  · exact .inr h
/-- what is live somewhere is asked somewhere -/
theorem live_asked {bs : List Bl} {ah : List (List Int)} {v : Int} {i : Nat} (h : liveIn bs ah v i) :
    ∃ k, (∃ x ∈ (blk bs k).ins, v ∈ x.args) ∨ asksT (blk bs k).tm v = true := by
  refine Classical.byContradiction fun hn => ?_
  refine lin_none (fun k hk => hn ?_) (fun k hk => hn ?_) h
  · rcases firstB_ask _ _ hk with ⟨x, m, _, hv⟩ | h
    · exact ⟨k, .inl ⟨x, m, hv⟩⟩
    · exact ⟨k, .inr h⟩
  · obtain ⟨j, _, t, _, x, m, _, hx⟩ := hk
    exact ⟨j, .inl ⟨x, m, List.mem_of_getElem? hx⟩⟩

noncomputable def decL (p : Prop) : Bool := @decide p (Classical.propDecidable p)
theorem decL_iff {p : Prop} : decL p = true ↔ p := by unfold decL; simp
/-- rows of variables, rising: those below n of which p holds -/
noncomputable def rowV (p : Int → Prop) (n : Nat) : List Int := ((List.range n).map Int.ofNat).filter fun v => decL (p v)
theorem rowV_zero (p : Int → Prop) : rowV p 0 = [] := rfl
theorem rowV_succ (p : Int → Prop) (n : Nat) : rowV p (n + 1) = rowV p n ++ (if decL (p (n : Int)) = true then [(n : Int)] else []) := by
  unfold rowV
  rw [List.range_succ, List.map_append, List.filter_append]
  congr 1
  simp only [List.map_cons, List.map_nil, List.filter_cons, List.filter_nil]
  rfl
theorem rowV_mem {p : Int → Prop} {n : Nat} {v : Int} : v ∈ rowV p n ↔ (0 ≤ v ∧ v < (n : Int)) ∧ p v := by
  unfold rowV
  rw [List.mem_filter, decL_iff, List.mem_map]
  constructor
  · rintro ⟨⟨k, hk, e⟩, h⟩
    have := List.mem_range.1 hk
    have e' : v = (k : Int) := e.symm
    exact ⟨⟨by omega, by omega⟩, h⟩
  · rintro ⟨⟨h0, h1⟩, h⟩
    exact ⟨⟨v.toNat, List.mem_range.2 (by omega), by show ((v.toNat : Nat) : Int) = v; omega⟩, h⟩
theorem rowV_len (p : Int → Prop) (n : Nat) : (rowV p n).length ≤ n := by
  unfold rowV
  exact Nat.le_trans (List.length_filter_le _ _) (by simp)
theorem rowV_congr {p q : Int → Prop} {n : Nat} (h : ∀ v : Int, 0 ≤ v → v < (n : Int) → (p v ↔ q v)) : rowV p n = rowV q n := by
  induction n with
  | zero => rfl
  | succ n ih =>
    rw [rowV_succ, rowV_succ, ih fun v h0 h1 => h v h0 (by omega)]
    have e : decL (p (n : Int)) = decL (q (n : Int)) := by
      rw [Bool.eq_iff_iff, decL_iff, decL_iff]; exact h n (by omega) (by omega)
    rw [e]
noncomputable def intoL (bs : List Bl) (ah : List (List Int)) (n : Nat) : List (List Int) := (List.range bs.length).map fun i => rowV (fun v => liveIn bs ah v i) n
noncomputable def outL (bs : List Bl) (ah : List (List Int)) (n : Nat) : List (List Int) := (List.range bs.length).map fun i => rowV (fun v => liveOut bs ah v i) n
end Go.Proofs.YtcggbedjhglmmaaDoor
