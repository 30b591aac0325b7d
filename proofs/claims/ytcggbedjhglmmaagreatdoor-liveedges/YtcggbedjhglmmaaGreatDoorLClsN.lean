/- The graph of the law of live, and others made of it. -/
import Derived.Test.YtcggbedjhglmmaaGreatDoorLLv
import Derived.Laws.Rows
namespace Go.Proofs.YtcggbedjhglmmaaGreatDoor
open Go.RowKit

def allocs (w : World) (os : List Obj) : World := os.foldl World.alloc w
theorem allocs_below : ∀ (os : List Obj) (w : World), Below w.heap.size w (allocs w os)
  | [], _ => Below.refl _ _
  | o :: os, w => below_trans (below_alloc (Below.refl _ _) o) (allocs_below os (w.alloc o))
theorem allocs_get : ∀ (os : List Obj) (w : World) (k : Nat) (o : Obj), os[k]? = some o → (allocs w os).heap[w.heap.size + k]? = some o
  | o' :: os, w, 0, o, h => by
    cases h
    have h1 := (allocs_below os (w.alloc o')).block w.heap.size (by simp)
    exact h1.trans (heap_alloc_new w o')
  | o' :: os, w, k + 1, o, h => by
    have h1 := allocs_get os (w.alloc o') k o (by simpa using h)
    rw [show (w.alloc o').heap.size = w.heap.size + 1 by simp, show w.heap.size + 1 + k = w.heap.size + (k + 1) by omega] at h1
    exact h1
theorem row_lit {W : World} {g : Nat} {cs : List Value} {t : TypeId} (n : Nat) (h : W.heap[g]? = some (.cells cs.toArray t)) (hn : n ≤ 1000) : RowAt W (.slice (some ⟨g, 0, none⟩) n n) n cs := by
  refine ⟨_, _, rfl, ⟨Nat.le_refl _, by omega⟩, .inr ⟨g, 0, rfl, (Array.getElem?_eq_some_iff.1 h).1, fun j u hj => ?_⟩⟩
  simp only [World.cell?, h]
  simpa using hj
theorem row_nil (W : World) (cs : List Value) : RowAt W (.slice none 0 0) 0 cs := ⟨_, _, rfl, ⟨Nat.le_refl _, by omega⟩, .inl rfl⟩
abbrev sl (g n : Nat) : Value := .slice (some ⟨g, 0, none⟩) n n
abbrev u64V (k : Int) : Value := .int .u64 k
def insA : List In := [⟨2, 0, 2, [], 5, 0⟩, ⟨4, 13, 1, [0, 2], 0, 0⟩]
def insB : List In := [⟨10, 0, 0, [0], 0, 0⟩]
def insC : List In := [⟨1, 0, 2, [0, 2, 2], 0, 0⟩]
def mkG (b c : List In) : Gr := ⟨⟨#[]⟩, [0], 4, [4, 1, 4], [], [⟨insA, ⟨2, 1, 2, 1, 0⟩⟩, ⟨b, ⟨1, 0, 3, 0, 0⟩⟩, ⟨[], ⟨1, 0, 3, 0, 0⟩⟩, ⟨c, ⟨3, 2, 0, 0, 0⟩⟩, ⟨[], ⟨1, 0, 3, 0, 0⟩⟩]⟩
def objs (N : Nat) : List Obj := [
  .cells #[.string ⟨#[]⟩, sl (N + 1) 1, bytV 4, sl (N + 2) 3, .slice none 0 0, sl (N + 9) 5] 28,
  .cells #[intV 0] 3,
  .cells #[bytV 4, bytV 1, bytV 4] 23,
  .cells #[intV 0, intV 2] 3,
  .cells #[bytV 2, bytV 0, intV 2, .slice none 0 0, u64V 5, intV 0, bytV 4, bytV 13, intV 1, sl (N + 3) 2, u64V 0, intV 0] 54,
  .cells #[intV 0] 3,
  .cells #[bytV 10, bytV 0, intV 0, sl (N + 5) 1, u64V 0, intV 0] 54,
  .cells #[intV 0, intV 2, intV 2] 3,
  .cells #[bytV 1, bytV 0, intV 2, sl (N + 7) 3, u64V 0, intV 0] 54,
  .cells #[sl (N + 4) 2, bytV 2, intV 1, intV 2, intV 1, bytV 0, sl (N + 6) 1, bytV 1, intV 0, intV 3, intV 0, bytV 0, .slice none 0 0, bytV 1, intV 0, intV 3, intV 0, bytV 0, sl (N + 8) 1, bytV 3, intV 2, intV 0, intV 0, bytV 0, .slice none 0 0, bytV 1, intV 0, intV 3, intV 0, bytV 0] 48]
/-- the graph in memory, where two of its blocks' instructions lie as they may -/
theorem mk_at {W : World} {N : Nat} {b c : List In} (g : ∀ k o, k ≠ 0 → k ≠ 6 → k ≠ 8 → (objs N)[k]? = some o → W.heap[N + k]? = some o) (hb : InsAt W (sl (N + 6) 1) b) (hc : InsAt W (sl (N + 8) 1) c) : GrAt W (sl (N + 1) 1) (sl (N + 2) 3) (.slice none 0 0) (sl (N + 9) 5) (mkG b c) := by
  have i0 : InsAt W (sl (N + 4) 2) insA := by
    refine ⟨by decide, [.slice none 0 0, sl (N + 3) 2], rfl, row_lit (t := 54) 2 (g 4 _ (by decide) (by decide) (by decide) rfl) (by omega), fun i x a hx ha => ?_⟩
    rcases i with _ | _ | i
    · cases hx; cases ha; exact row_nil _ _
    · cases hx; cases ha; exact row_lit (t := 3) 2 (g 3 _ (by decide) (by decide) (by decide) rfl) (by omega)
    · simp [insA] at hx
  have i2 : InsAt W (.slice none 0 0) [] := ⟨by simp, [], rfl, row_nil _ _, fun i x a hx ha => by simp at hx⟩
  refine ⟨row_lit (t := 3) 1 (g 1 _ (by decide) (by decide) (by decide) rfl) (by omega), row_lit (t := 23) 3 (g 2 _ (by decide) (by decide) (by decide) rfl) (by omega), row_nil _ _, ⟨[sl (N + 4) 2, sl (N + 6) 1, .slice none 0 0, sl (N + 8) 1, .slice none 0 0], rfl, row_lit (t := 48) 5 (g 9 _ (by decide) (by decide) (by decide) rfl) (by omega), fun i x a hx ha => ?_⟩⟩
  rcases i with _ | _ | _ | _ | _ | i
  · cases hx; cases ha; exact i0
  · cases hx; cases ha; exact hb
  · cases hx; cases ha; exact i2
  · cases hx; cases ha; exact hc
  · cases hx; cases ha; exact i2
  · simp [mkG] at hx
theorem insB_at {W : World} {N : Nat} (h5 : W.heap[N + 5]? = some (.cells #[intV 0] 3)) (h6 : W.heap[N + 6]? = some (.cells #[bytV 10, bytV 0, intV 0, sl (N + 5) 1, u64V 0, intV 0] 54)) : InsAt W (sl (N + 6) 1) insB := by
  refine ⟨by decide, [sl (N + 5) 1], rfl, row_lit (t := 54) 1 h6 (by omega), fun i x a hx ha => ?_⟩
  rcases i with _ | i
  · cases hx; cases ha; exact row_lit (t := 3) 1 h5 (by omega)
  · simp [insB] at hx
theorem insC_at {W : World} {N : Nat} (h7 : W.heap[N + 7]? = some (.cells #[intV 0, intV 2, intV 2] 3)) (h8 : W.heap[N + 8]? = some (.cells #[bytV 1, bytV 0, intV 2, sl (N + 7) 3, u64V 0, intV 0] 54)) : InsAt W (sl (N + 8) 1) insC := by
  refine ⟨by decide, [sl (N + 7) 3], rfl, row_lit (t := 54) 1 h8 (by omega), fun i x a hx ha => ?_⟩
  rcases i with _ | i
  · cases hx; cases ha; exact row_lit (t := 3) 3 h7 (by omega)
  · simp [insC] at hx
theorem small_at (w : World) : GrAt (allocs w (objs w.heap.size)) (sl (w.heap.size + 1) 1) (sl (w.heap.size + 2) 3) (.slice none 0 0) (sl (w.heap.size + 9) 5) (mkG insB insC) := by
  have g := fun k o (h : (objs w.heap.size)[k]? = some o) => allocs_get (objs w.heap.size) w k o h
  exact mk_at (fun k o _ _ _ h => g k o h) (insB_at (g 5 _ rfl) (g 6 _ rfl)) (insC_at (g 7 _ rfl) (g 8 _ rfl))
set_option maxRecDepth 100000 in
set_option maxHeartbeats 4000000 in
theorem small_any (w : World) : Calls Tryz.prog 16 #[] w fun e w' => e = .returned (.agg #[.string ⟨#[]⟩, sl (w.heap.size + 1) 1, .int .u8 4, sl (w.heap.size + 2) 3, .slice none 0 0, sl (w.heap.size + 9) 5]) ∧ w' = allocs w (objs w.heap.size) := by
  go_enter Tryz.func16, Tryz.ntmps16
  go_wp2
  change bodyPost _ _ _ _ _ (allocs w (objs w.heap.size))
  exact bodyPost_ret (results_cell_row rfl _ _ w.heap.size 28 #[.string ⟨#[]⟩, sl (w.heap.size + 1) 1, bytV 4, sl (w.heap.size + 2) 3, .slice none 0 0, sl (w.heap.size + 9) 5] _ _ rfl (allocs_get (objs w.heap.size) w 0 _ rfl) Tryz.underlying28 rfl (by rfl)) rfl ⟨rfl, rfl⟩
end Go.Proofs.YtcggbedjhglmmaaGreatDoor
/- What is live in graphs that are written down: reckoned. -/
namespace Go.Proofs.YtcggbedjhglmmaaGreatDoor
open Go.RowKit

def phiLF (bs : List Bl) (ah : List (List Int)) (v i : Nat) : Bool := (List.range bs.length).any fun j => (blk bs j).ins.any fun x => x.kind == 1 && (x.args.zip (ah.getD j [])).contains ((v : Int), (i : Int))
def linF (bs : List Bl) (ah : List (List Int)) (v : Nat) : Nat → Nat → Bool
  | 0, _ => false
  | f + 1, i => firstB (blk bs i) v == 1 || (firstB (blk bs i) v == 0 && (phiLF bs ah v i || (nxB bs i).any (linF bs ah v f)))
def outF (bs : List Bl) (ah : List (List Int)) (v f i : Nat) : Bool := phiLF bs ah v i || (nxB bs i).any (linF bs ah v f)
def okF (bs : List Bl) (ah : List (List Int)) (nv f : Nat) : Bool := (List.range nv).all fun v => (List.range bs.length).all fun i => !linF bs ah v (f + 1) i || linF bs ah v f i
theorem phiLF_iff {bs : List Bl} {ah : List (List Int)} (he : ∀ i j : Nat, (i : Int) ∈ ah.getD j [] ↔ j ∈ nxB bs i) (hl : ah.length = bs.length) {v i : Nat} : phiLF bs ah v i = true ↔ phiOut bs ah v i := by
  rw [← hand_iff (fun i j => (he i j).1) hl]
  unfold phiLF hasHand
  simp only [List.any_eq_true, List.mem_range, Bool.and_eq_true, beq_iff_eq, List.contains_iff_mem]
theorem linF_sound {bs : List Bl} {ah : List (List Int)} (he : ∀ i j : Nat, (i : Int) ∈ ah.getD j [] ↔ j ∈ nxB bs i) (hl : ah.length = bs.length) {v : Nat} : ∀ (f i : Nat), linF bs ah v f i = true → liveIn bs ah v i
  | 0, _, h => by simp [linF] at h
  | f + 1, i, h => by
    unfold linF at h
    simp only [Bool.or_eq_true, Bool.and_eq_true, beq_iff_eq, List.any_eq_true] at h
    rcases h with h | ⟨h0, h | ⟨j, hj, h⟩⟩
    · exact .ask h
    · exact .phi h0 ((phiLF_iff he hl).1 h)
    · exact .on h0 hj (linF_sound he hl f j h)
theorem linF_full {bs : List Bl} {ah : List (List Int)} (he : ∀ i j : Nat, (i : Int) ∈ ah.getD j [] ↔ j ∈ nxB bs i) (hl : ah.length = bs.length) (hnx : ∀ i, i < bs.length → ∀ j ∈ nxB bs i, j < bs.length) {nv f v : Nat} (hok : okF bs ah nv f = true) (hv : v < nv) {i : Nat} (h : liveIn bs ah v i) : i < bs.length → linF bs ah v f i = true := by
  have up : ∀ i, i < bs.length → linF bs ah v (f + 1) i = true → linF bs ah v f i = true := fun i hi h1 => by
    unfold okF at hok
    have h2 := List.all_eq_true.1 (List.all_eq_true.1 hok v (List.mem_range.2 hv)) i (List.mem_range.2 hi)
    rw [h1] at h2
    simpa using h2
  induction h with
  | @ask i a => intro hi; refine up i hi ?_; unfold linF; simp [a]
  | @phi i t p => intro hi; refine up i hi ?_; unfold linF; simp [t, (phiLF_iff he hl).2 p]
  | @on i j t m _ ih =>
    intro hi
    refine up i hi ?_
    have h1 := ih (hnx i hi j m)
    unfold linF
    simp only [Bool.or_eq_true, Bool.and_eq_true, beq_iff_eq, List.any_eq_true]
    exact .inr ⟨t, .inr ⟨j, m, h1⟩⟩
theorem rowV_dec {p : Int → Prop} {q : Nat → Bool} : ∀ {n : Nat}, (∀ v : Nat, v < n → (p (v : Int) ↔ q v = true)) → rowV p n = ((List.range n).filter q).map Int.ofNat
  | 0, _ => rfl
  | n + 1, h => by
    rw [rowV_succ, rowV_dec (n := n) fun v hv => h v (by omega), List.range_succ, List.filter_append, List.map_append]
    congr 1
    have := h n (by omega)
    by_cases hq : q n = true
    · rw [if_pos (decL_iff.2 (this.2 hq))]; simp [hq]
    · rw [if_neg (fun c => hq (this.1 (decL_iff.1 c)))]; simp [hq]
def inRows (bs : List Bl) (ah : List (List Int)) (nv f : Nat) : List (List Int) := (List.range bs.length).map fun i => ((List.range nv).filter fun v => linF bs ah v f i).map Int.ofNat
def outRows (bs : List Bl) (ah : List (List Int)) (nv f : Nat) : List (List Int) := (List.range bs.length).map fun i => ((List.range nv).filter fun v => outF bs ah v f i).map Int.ofNat
theorem rows_closed {G : Gr} (ha : aloneG G = true) {f : Nat} (hok : okF G.blocks (aheadT (tms G.blocks)) G.vars.length f = true) :
    ((List.range G.blocks.length).map fun i => rowV (fun v => liveIn G.blocks (aheadT (tms G.blocks)) v i) G.vars.length) = inRows G.blocks (aheadT (tms G.blocks)) G.vars.length f ∧
    ((List.range G.blocks.length).map fun i => rowV (fun v => liveOut G.blocks (aheadT (tms G.blocks)) v i) G.vars.length) = outRows G.blocks (aheadT (tms G.blocks)) G.vars.length f := by
  have hl : (aheadT (tms G.blocks)).length = G.blocks.length := by rw [aheadT_len]; simp [tms]
  have he : ∀ i j : Nat, (i : Int) ∈ (aheadT (tms G.blocks)).getD j [] ↔ j ∈ nxB G.blocks i := fun i j => nx_mem ha
  have hnx : ∀ i, i < G.blocks.length → ∀ j ∈ nxB G.blocks i, j < G.blocks.length := fun i _ j hj => (nx_lt ha hj).2
  have hin : ∀ i, i < G.blocks.length → ∀ v : Nat, v < G.vars.length → (liveIn G.blocks (aheadT (tms G.blocks)) v i ↔ linF G.blocks (aheadT (tms G.blocks)) v f i = true) := fun i hi v hv => ⟨fun h => linF_full he hl hnx hok hv h hi, linF_sound he hl f i⟩
  constructor
  · refine List.map_congr_left fun i hi => rowV_dec fun v hv => hin i (List.mem_range.1 hi) v hv
  · refine List.map_congr_left fun i hi => rowV_dec fun v hv => ?_
    have hi2 := List.mem_range.1 hi
    unfold outF
    simp only [Bool.or_eq_true, List.any_eq_true]
    constructor
    · rintro (p | ⟨j, m, h⟩)
      · exact .inl ((phiLF_iff he hl).2 p)
      · exact .inr ⟨j, m, (hin j (hnx i hi2 j m) v hv).1 h⟩
    · rintro (p | ⟨j, m, h⟩)
      · exact .inl ((phiLF_iff he hl).1 p)
      · exact .inr ⟨j, m, (hin j (hnx i hi2 j m) v hv).2 h⟩
def insK (r : Int) : List In := [⟨9, 0, 1, [2, 1], 0, r⟩]
def insF : List In := [⟨1, 0, 2, [0, 2], 0, 0⟩]
def oneG : Gr := ⟨⟨#[]⟩, [], 4, [4], [], [⟨[], ⟨3, 0, 0, 0, 0⟩⟩]⟩
def noG : Gr := ⟨⟨#[]⟩, [], 0, [], [], []⟩
theorem alone_small : aloneG (mkG insB insC) = true := by decide +kernel
theorem alone_call : aloneG (mkG (insK 4611686018427387904) insC) = true := by decide +kernel
theorem alone_low : aloneG (mkG (insK (-1)) insC) = false := by decide +kernel
theorem alone_few : aloneG (mkG insB insF) = false := by decide +kernel
theorem alone_one : aloneG oneG = true := by decide +kernel
theorem alone_no : aloneG noG = false := by decide +kernel
theorem ok_small : okF (mkG insB insC).blocks (aheadT (tms (mkG insB insC).blocks)) 3 6 = true := by decide +kernel
theorem ok_call : okF (mkG (insK 4611686018427387904) insC).blocks (aheadT (tms (mkG (insK 4611686018427387904) insC).blocks)) 3 6 = true := by decide +kernel
theorem ok_one : okF oneG.blocks (aheadT (tms oneG.blocks)) 1 6 = true := by decide +kernel
theorem rows_small : inRows (mkG insB insC).blocks (aheadT (tms (mkG insB insC).blocks)) 3 6 = [[0], [0], [2], [], [2]] ∧ outRows (mkG insB insC).blocks (aheadT (tms (mkG insB insC).blocks)) 3 6 = [[0, 2], [0], [2], [], [2]] := by decide +kernel
theorem rows_call : inRows (mkG (insK 4611686018427387904) insC).blocks (aheadT (tms (mkG (insK 4611686018427387904) insC).blocks)) 3 6 = [[0], [0, 1, 2], [2], [], [2]] ∧ (outRows (mkG (insK 4611686018427387904) insC).blocks (aheadT (tms (mkG (insK 4611686018427387904) insC).blocks)) 3 6).getD 0 [] = [0, 1, 2] ∧ (outRows (mkG (insK 4611686018427387904) insC).blocks (aheadT (tms (mkG (insK 4611686018427387904) insC).blocks)) 3 6).length = 5 := by decide +kernel
theorem rows_one : inRows oneG.blocks (aheadT (tms oneG.blocks)) 1 6 = [[0]] ∧ outRows oneG.blocks (aheadT (tms oneG.blocks)) 1 6 = [[]] := by decide +kernel
end Go.Proofs.YtcggbedjhglmmaaGreatDoor
