/- What is live in graphs that are written down: reckoned. -/
import Derived.Test.YtcggbedjhglmmaaGreatDoorLSm
namespace Go.Proofs.YtcggbedjhglmmaaGreatDoor
open Go.RowKit

def phiLF (bs : List Bl) (ah : List (List Int)) (v i : Nat) : Bool := (List.range bs.length).any fun j => (blk bs j).ins.any fun x => x.kind == 1 && (x.args.zip (ah.getD j [])).contains ((v : Int), (i : Int))
def linF (bs : List Bl) (ah : List (List Int)) (v : Nat) : Nat → Nat → Bool
  | 0, _ => false
  | f + 1, i => firstB (blk bs i) v == 1 || (firstB (blk bs i) v == 0 && (phiLF bs ah v i || (nxB bs i).any (linF bs ah v f)))
def outF (bs : List Bl) (ah : List (List Int)) (v f i : Nat) : Bool := phiLF bs ah v i || (nxB bs i).any (linF bs ah v f)
def okF (bs : List Bl) (ah : List (List Int)) (nv f : Nat) : Bool := (List.range nv).all fun v => (List.range bs.length).all fun i => !linF bs ah v (f + 1) i || linF bs ah v f i
theorem phiLF_iff {bs : List Bl} {ah : List (List Int)} (he : ∀ i j : Nat, (i : Int) ∈ ah.getD j [] ↔ j ∈ nxB bs i) (hl : ah.length = bs.length) {v i : Nat} : phiLF bs ah v i = true ↔ phiOut bs ah v i := by
  rw [← hand_iff (fun i j => (he i j).1) hl]
  unfold phiLF hasHand
  simp only [List.any_eq_true, List.mem_range, Bool.and_eq_true, beq_iff_eq, List.contains_iff_mem]
theorem linF_sound {bs : List Bl} {ah : List (List Int)} (he : ∀ i j : Nat, (i : Int) ∈ ah.getD j [] ↔ j ∈ nxB bs i) (hl : ah.length = bs.length) {v : Nat} : ∀ (f i : Nat), linF bs ah v f i = true → liveIn bs ah v i
  | 0, _, h => by simp [linF] at h
  | f + 1, i, h => by
    unfold linF at h
    simp only [Bool.or_eq_true, Bool.and_eq_true, beq_iff_eq, List.any_eq_true] at h
    rcases h with h | ⟨h0, h | ⟨j, hj, h⟩⟩
    · exact .ask h
    · exact .phi h0 ((phiLF_iff he hl).1 h)
    · exact .on h0 hj (linF_sound he hl f j h)
theorem linF_full {bs : List Bl} {ah : List (List Int)} (he : ∀ i j : Nat, (i : Int) ∈ ah.getD j [] ↔ j ∈ nxB bs i) (hl : ah.length = bs.length) (hnx : ∀ i, i < bs.length → ∀ j ∈ nxB bs i, j < bs.length) {nv f v : Nat} (hok : okF bs ah nv f = true) (hv : v < nv) {i : Nat} (h : liveIn bs ah v i) : i < bs.length → linF bs ah v f i = true := by
  have up : ∀ i, i < bs.length → linF bs ah v (f + 1) i = true → linF bs ah v f i = true := fun i hi h1 => by
    unfold okF at hok
    have h2 := List.all_eq_true.1 (List.all_eq_true.1 hok v (List.mem_range.2 hv)) i (List.mem_range.2 hi)
    rw [h1] at h2
    simpa using h2
  induction h with
  | @ask i a => intro hi; refine up i hi ?_; unfold linF; simp [a]
  | @phi i t p => intro hi; refine up i hi ?_; unfold linF; simp [t, (phiLF_iff he hl).2 p]
  | @on i j t m _ ih =>
    intro hi
    refine up i hi ?_
    have h1 := ih (hnx i hi j m)
    unfold linF
    simp only [Bool.or_eq_true, Bool.and_eq_true, beq_iff_eq, List.any_eq_true]
    exact .inr ⟨t, .inr ⟨j, m, h1⟩⟩
theorem rowV_dec {p : Int → Prop} {q : Nat → Bool} : ∀ {n : Nat}, (∀ v : Nat, v < n → (p (v : Int) ↔ q v = true)) → rowV p n = ((List.range n).filter q).map Int.ofNat
  | 0, _ => rfl
  | n + 1, h => by
    rw [rowV_succ, rowV_dec (n := n) fun v hv => h v (by omega), List.range_succ, List.filter_append, List.map_append]
    congr 1
    have := h n (by omega)
    by_cases hq : q n = true
    · rw [if_pos (decL_iff.2 (this.2 hq))]; simp [hq]
    · rw [if_neg (fun c => hq (this.1 (decL_iff.1 c)))]; simp [hq]
def inRows (bs : List Bl) (ah : List (List Int)) (nv f : Nat) : List (List Int) := (List.range bs.length).map fun i => ((List.range nv).filter fun v => linF bs ah v f i).map Int.ofNat
def outRows (bs : List Bl) (ah : List (List Int)) (nv f : Nat) : List (List Int) := (List.range bs.length).map fun i => ((List.range nv).filter fun v => outF bs ah v f i).map Int.ofNat
theorem rows_closed {G : Gr} (ha : aloneG G = true) {f : Nat} (hok : okF G.blocks (aheadT (tms G.blocks)) G.vars.length f = true) :
    ((List.range G.blocks.length).map fun i => rowV (fun v => liveIn G.blocks (aheadT (tms G.blocks)) v i) G.vars.length) = inRows G.blocks (aheadT (tms G.blocks)) G.vars.length f ∧
    ((List.range G.blocks.length).map fun i => rowV (fun v => liveOut G.blocks (aheadT (tms G.blocks)) v i) G.vars.length) = outRows G.blocks (aheadT (tms G.blocks)) G.vars.length f := by
  have hl : (aheadT (tms G.blocks)).length = G.blocks.length := by rw [aheadT_len]; simp [tms]
  have he : ∀ i j : Nat, (i : Int) ∈ (aheadT (tms G.blocks)).getD j [] ↔ j ∈ nxB G.blocks i := fun i j => nx_mem ha
  have hnx : ∀ i, i < G.blocks.length → ∀ j ∈ nxB G.blocks i, j < G.blocks.length := fun i _ j hj => (nx_lt ha hj).2
  have hin : ∀ i, i < G.blocks.length → ∀ v : Nat, v < G.vars.length → (liveIn G.blocks (aheadT (tms G.blocks)) v i ↔ linF G.blocks (aheadT (tms G.blocks)) v f i = true) := fun i hi v hv => ⟨fun h => linF_full he hl hnx hok hv h hi, linF_sound he hl f i⟩
  constructor
  · refine List.map_congr_left fun i hi => rowV_dec fun v hv => hin i (List.mem_range.1 hi) v hv
  · refine List.map_congr_left fun i hi => rowV_dec fun v hv => ?_
    have hi2 := List.mem_range.1 hi
    unfold outF
    simp only [Bool.or_eq_true, List.any_eq_true]
    constructor
    · rintro (p | ⟨j, m, h⟩)
      · exact .inl ((phiLF_iff he hl).2 p)
      · exact .inr ⟨j, m, (hin j (hnx i hi2 j m) v hv).1 h⟩
    · rintro (p | ⟨j, m, h⟩)
      · exact .inl ((phiLF_iff he hl).1 p)
      · exact .inr ⟨j, m, (hin j (hnx i hi2 j m) v hv).2 h⟩
def insK (r : Int) : List In := [⟨9, 0, 1, [2, 1], 0, r⟩]
def insF : List In := [⟨1, 0, 2, [0, 2], 0, 0⟩]
def oneG : Gr := ⟨⟨#[]⟩, [], 4, [4], [], [⟨[], ⟨3, 0, 0, 0, 0⟩⟩]⟩
def noG : Gr := ⟨⟨#[]⟩, [], 0, [], [], []⟩
theorem alone_small : aloneG (mkG insB insC) = true := by decide +kernel
theorem alone_call : aloneG (mkG (insK 4611686018427387904) insC) = true := by decide +kernel
theorem alone_low : aloneG (mkG (insK (-1)) insC) = false := by decide +kernel
theorem alone_few : aloneG (mkG insB insF) = false := by decide +kernel
theorem alone_one : aloneG oneG = true := by decide +kernel
theorem alone_no : aloneG noG = false := by decide +kernel
theorem ok_small : okF (mkG insB insC).blocks (aheadT (tms (mkG insB insC).blocks)) 3 6 = true := by decide +kernel
theorem ok_call : okF (mkG (insK 4611686018427387904) insC).blocks (aheadT (tms (mkG (insK 4611686018427387904) insC).blocks)) 3 6 = true := by decide +kernel
theorem ok_one : okF oneG.blocks (aheadT (tms oneG.blocks)) 1 6 = true := by decide +kernel
theorem rows_small : inRows (mkG insB insC).blocks (aheadT (tms (mkG insB insC).blocks)) 3 6 = [[0], [0], [2], [], [2]] ∧ outRows (mkG insB insC).blocks (aheadT (tms (mkG insB insC).blocks)) 3 6 = [[0, 2], [0], [2], [], [2]] := by decide +kernel
theorem rows_call : inRows (mkG (insK 4611686018427387904) insC).blocks (aheadT (tms (mkG (insK 4611686018427387904) insC).blocks)) 3 6 = [[0], [0, 1, 2], [2], [], [2]] ∧ (outRows (mkG (insK 4611686018427387904) insC).blocks (aheadT (tms (mkG (insK 4611686018427387904) insC).blocks)) 3 6).getD 0 [] = [0, 1, 2] ∧ (outRows (mkG (insK 4611686018427387904) insC).blocks (aheadT (tms (mkG (insK 4611686018427387904) insC).blocks)) 3 6).length = 5 := by decide +kernel
theorem rows_one : inRows oneG.blocks (aheadT (tms oneG.blocks)) 1 6 = [[0]] ∧ outRows oneG.blocks (aheadT (tms oneG.blocks)) 1 6 = [[]] := by decide +kernel
end Go.Proofs.YtcggbedjhglmmaaGreatDoor
