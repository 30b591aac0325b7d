/- Run: what it tells. -/
import Derived.Test.YtknbgpgefeahlaaGreatDoorURunGM
namespace Go.Proofs.YtknbgpgefeahlaaGreatDoor
open Go.RowKit

/-- A run of a program, step by step. -/
def stH (P : List Gr) (lim dep g : Nat) (ws : List Int) (n : Nat) : HS × Bool := HS.iter P lim dep n (HS.first P lim dep g ws)
/-- A program that is small enough. -/
structure Small (P : List Gr) (C : Nat) : Prop where
  blks : ∀ g, (P.getD g default).blocks.length ≤ 100000
  cells : ∀ g, cellsOf (P.getD g default) ≤ C
  capC : C ≤ 1000000
  ins : most P 1000000
theorem getD_ge {α : Type} {l : List α} {i : Nat} {d : α} (h : l.length ≤ i) : l.getD i d = d := by
  rw [List.getD, List.getElem?_eq_none h]
  rfl
theorem bits_at {w : World} {v : Value} {P : List Gr} (h : GrsAt w v P) : ∀ g t k, Sc.word ((((P.getD g default).blocks.getD t default).ins).getD k default).bits := fun g t k => by
  have d0 : Sc.word (default : In).bits := Sc.word_zero
  rcases Nat.lt_or_ge g P.length with hg | hg
  · obtain ⟨a, c, rfl, _⟩ := h.form
    obtain ⟨_, _, pv, vv, av, bv, _, _, _, _, _, _, _, _, hG⟩ := h.get hg
    rcases Nat.lt_or_ge t (P.getD g default).blocks.length with ht | ht
    · obtain ⟨_, _, _, _, _, _, ba, bc, _, _, _, rfl, _, _, _, _⟩ := hG.openF
      obtain ⟨_, _, iv, _, _, _, _, _, _, _, _, hins⟩ := hG.bs.get ht
      rcases Nat.lt_or_ge k ((P.getD g default).blocks.getD t default).ins.length with hk | hk
      · exact hins.wf _ (mem_getD hk)
      · have e : (((P.getD g default).blocks.getD t default).ins).getD k default = default := getD_ge hk
        rw [e]
        exact d0
    · have e : (P.getD g default).blocks.getD t default = default := getD_ge ht
      rw [e]
      exact d0
  · have e : P.getD g default = default := getD_ge hg
    rw [e]
    exact d0
theorem flat_nil : ∀ n : Nat, flat prCells (List.replicate n ((.slice none 0 0 : Value), (.slice none 0 0 : Value))) = List.replicate (n * 2) (.slice none 0 0)
  | 0 => rfl
  | n + 1 => by
    have := flat_nil n
    unfold flat at this ⊢
    rw [List.replicate_succ, List.flatMap_cons, this, show (n + 1) * 2 = n * 2 + 1 + 1 by omega, List.replicate_succ, List.replicate_succ]
    rfl
theorem made_nil (n : Nat) : (madeCells #[(.slice none 0 0 : Value), .slice none 0 0] (n * 2)).toList = List.replicate (n * 2) (.slice none 0 0) := by
  refine List.ext_getElem (by simp [size_madeCells]) fun k h1 h2 => ?_
  rw [List.getElem_replicate]
  rcases Nat.mod_two_eq_zero_or_one k with hk | hk <;> simp [madeCells, hk]
def stZ (n : Nat) : St := ⟨List.replicate n none, [], [], [], [], 0, 0, 0, 0, 0⟩
def vZ (n : Nat) : Vals := ⟨.slice none 0 0, .slice none 0 0, .slice none 0 0, .slice none 0 0, .slice none 0 0, List.replicate n (.slice none 0 0, .slice none 0 0)⟩
def ssZ (E : Env) (n : Nat) : List Slot := [⟨.slice (some ⟨E.B, 0, none⟩) 1 1, 65, 14, 1, rnCells E (vZ n) (stZ n)⟩, ⟨.slice (some ⟨E.C, 0, none⟩) n n, 102, 2, n, flat prCells (vZ n).cl⟩, ⟨.slice none 0 0, 82, 5, 0, []⟩, ⟨.slice none 0 0, 129, 3, 0, []⟩, ⟨.slice none 0 0, 28, 1, 0, []⟩, ⟨.slice none 0 0, 28, 1, 0, []⟩, ⟨.slice none 0 0, 56, 2, 0, []⟩] ++ List.replicate n ⟨.slice none 0 0, 3, 1, 0, []⟩
theorem rn_start {W : World} {qa : Option Addr} {qc lim dep : Nat} {P : List Gr} (hp : GrsAt W (.slice qa P.length qc) P) (hn : P.length ≤ 64) :
    Rn ⟨W, W.heap.size + 1, W.heap.size, .slice qa P.length qc, P, lim, dep⟩ ((W.alloc (zCalled P.length)).alloc (.cells (rnArr (.slice qa P.length qc) lim dep W.heap.size P.length) 65)) (vZ P.length) (ssZ ⟨W, W.heap.size + 1, W.heap.size, .slice qa P.length qc, P, lim, dep⟩ P.length) (stZ P.length) := by
  obtain ⟨E, hE⟩ : ∃ E : Env, E = ⟨W, W.heap.size + 1, W.heap.size, .slice qa P.length qc, P, lim, dep⟩ := ⟨_, rfl⟩
  have hEB : E.B = W.heap.size + 1 := by rw [hE]
  have hEC : E.C = W.heap.size := by rw [hE]
  rw [← hE]
  have hs1 : (W.alloc (zCalled P.length)).heap.size = W.heap.size + 1 := by simp
  have o1 : (W.alloc (zCalled P.length)).ownsRow W.heap.size 102 2 (.slice (some ⟨W.heap.size, 0, none⟩) P.length P.length) P.length (flat prCells (vZ P.length).cl) := by
    have := World.ownsRow_lit (base := W.heap.size) (e := 102) (size := 2) W (madeCells #[.slice none 0 0, .slice none 0 0] (P.length * 2)) P.length (Nat.le_refl _) (by unfold maxLen; omega) (by simp [size_madeCells])
    rw [made_nil] at this
    show World.ownsRow _ _ _ _ _ _ (flat prCells (List.replicate P.length _))
    rw [flat_nil]
    exact this
  have o0 : ((W.alloc (zCalled P.length)).alloc (.cells (rnArr (.slice qa P.length qc) lim dep W.heap.size P.length) 65)).ownsRow W.heap.size 65 14 (.slice (some ⟨W.heap.size + 1, 0, none⟩) 1 1) 1 (rnCells E (vZ P.length) (stZ P.length)) := by
    have := World.ownsRow_lit (base := W.heap.size) (e := 65) (size := 14) (W.alloc (zCalled P.length)) (rnArr (.slice qa P.length qc) lim dep W.heap.size P.length) 1 (by rw [hs1]; omega) (by unfold maxLen; omega) (by rfl)
    rw [hs1] at this
    rw [hE]
    exact this
  have low : Below W.heap.size W ((W.alloc (zCalled P.length)).alloc (.cells (rnArr (.slice qa P.length qc) lim dep W.heap.size P.length) 65)) := below_alloc (below_alloc (Below.refl _ _) _) _
  have key : ∀ (i : Nat) (s : Slot), (ssZ E P.length)[i]? = some s → (i = 0 ∧ s = ⟨.slice (some ⟨W.heap.size + 1, 0, none⟩) 1 1, 65, 14, 1, rnCells E (vZ P.length) (stZ P.length)⟩) ∨ (i = 1 ∧ s = ⟨.slice (some ⟨W.heap.size, 0, none⟩) P.length P.length, 102, 2, P.length, flat prCells (vZ P.length).cl⟩) ∨ (s.v = .slice none 0 0 ∧ s.n = 0 ∧ s.cs = []) := fun i s hs => by
    unfold ssZ at hs
    rw [hEB, hEC] at hs
    rw [List.getElem?_append] at hs
    split at hs
    · rename_i hi
      rcases i with _ | _ | _ | _ | _ | _ | _ | i
      · left; simp at hs; exact ⟨rfl, hs.symm⟩
      · right; left; simp at hs; exact ⟨rfl, hs.symm⟩
      · right; right; simp at hs; rw [← hs]; exact ⟨rfl, rfl, rfl⟩
      · right; right; simp at hs; rw [← hs]; exact ⟨rfl, rfl, rfl⟩
      · right; right; simp at hs; rw [← hs]; exact ⟨rfl, rfl, rfl⟩
      · right; right; simp at hs; rw [← hs]; exact ⟨rfl, rfl, rfl⟩
      · right; right; simp at hs; rw [← hs]; exact ⟨rfl, rfl, rfl⟩
      · simp at hi; omega
    · have := List.eq_of_mem_replicate (List.mem_of_getElem? hs)
      rw [this]
      exact .inr (.inr ⟨rfl, rfl, rfl⟩)
  have hheap : Heap ((W.alloc (zCalled P.length)).alloc (.cells (rnArr (.slice qa P.length qc) lim dep W.heap.size P.length) 65)) W.heap.size (ssZ E P.length) := by
    refine ⟨fun i s hs => ?_, fun i j a b g hij ha hb hga hgb => ?_⟩
    · rcases key i s hs with ⟨_, rfl⟩ | ⟨_, rfl⟩ | ⟨h1, h2, h3⟩
      · exact o0
      · exact owns_below o1 (below_alloc (Below.refl _ _) _)
      · show World.ownsRow _ _ _ _ s.v s.n s.cs
        rw [h1, h2, h3]
        exact World.ownsRow_nil _ _ _ _
    · rcases key i a ha with ⟨rfl, rfl⟩ | ⟨rfl, rfl⟩ | ⟨h1, _, _⟩
      · rcases key j b hb with ⟨rfl, rfl⟩ | ⟨rfl, rfl⟩ | ⟨h1, _, _⟩
        · exact hij rfl
        · cases hga
          have : (some W.heap.size : Option Nat) = some (W.heap.size + 1) := hgb
          injection this
          omega
        · rw [h1] at hgb; cases hgb
      · rcases key j b hb with ⟨rfl, rfl⟩ | ⟨rfl, rfl⟩ | ⟨h1, _, _⟩
        · cases hga
          have : (some (W.heap.size + 1) : Option Nat) = some W.heap.size := hgb
          injection this
          omega
        · exact hij rfl
        · rw [h1] at hgb; cases hgb
      · rw [h1] at hga; cases hga
  have hP : E.P = P := by rw [hE]
  have hw0 : E.w0 = W := by rw [hE]
  refine ⟨by rw [hw0]; exact low, by rw [hE]; exact hp, by rw [hw0]; exact hheap, rfl, by rw [hP]; rfl, rfl, rfl, rfl, ⟨[], rfl⟩, rfl, by rw [hP]; simp [vZ], by rw [hP]; simp [stZ], fun i l hl => ?_, fun i hi => ?_⟩
  · exfalso
    have := List.eq_of_mem_replicate (List.mem_of_getElem? (show (List.replicate P.length (none : Option (List Int)))[i]? = _ from hl))
    cases this
  · have hil : i < P.length := by
      have := (List.getElem?_eq_some_iff.1 (show (List.replicate P.length (none : Option (List Int)))[i]? = _ from hi)).1
      simpa using this
    refine ⟨?_, ?_⟩
    · show (List.replicate P.length _)[i]? = _
      rw [List.getElem?_replicate, if_pos hil]
    · unfold ssZ
      rw [List.getElem?_append_right (by simp)]
      simp [hil]
theorem sim_start (P : List Gr) : Sim P (stZ P.length) HS.zero := ⟨⟨_, Hi.start rfl rfl rfl rfl⟩, rfl, rfl, rfl, rfl, rfl, rfl⟩
/-- A trace's value. -/
abbrev trArr (sv : Value) (H : HS) : Array Value := #[sv, .int .u8 H.fin, .int .u64 H.val, .int .u8 H.trap, .int .i64 (H.steps : Int), .int .i64 (H.deep : Int)]
theorem run_good {P : List Gr} {ppv : Value} {f : Int} {av : Value} {xs : List Int} {lim dep C N : Nat} {w : World} (hp : GrsAt w ppv P) (hP : PartsAt w) (hS : Small P C) (hdep : dep ≤ 1000000000) (hcap : dep * C ≤ 3000000) (ha : WordsAt w av xs) (hw : ∀ v, Sc.word (xs.getD v 0)) (hc : (checkT P).1 = 0) (ht : takesB P f xs = true)
    (hN : (stH P lim dep f.toNat xs N).2 = false) (hbd : ∀ n, (stH P lim dep f.toNat xs n).2 = true → (stH P lim dep f.toNat xs n).1.steps ≤ 1000000000000 ∧ (stH P lim dep f.toNat xs n).1.shows.length ≤ 1000000000) :
    Calls Tryz.prog 7 #[ppv, .int .i64 f, av, .int .i64 (lim : Int), .int .i64 (dep : Int)] w fun e w' => ∃ sv, e = .returned (.tuple #[.agg (trArr sv (stH P lim dep f.toNat xs N).1), .int .i64 0]) ∧ Below w.heap.size w w' ∧ w'.ownsRow w.heap.size 56 2 sv (stH P lim dep f.toNat xs N).1.shows.length (flat shCells (stH P lim dep f.toNat xs N).1.shows) := by
  have hok := pOk_of hc
  obtain ⟨qa, qc, rfl, _⟩ := hp.form
  have htk := ht
  unfold takesB at htk
  simp only [Bool.and_eq_true, decide_eq_true_eq] at htk
  obtain ⟨hin, hlen, _⟩ := htk
  obtain ⟨hf0, hfl⟩ := inB_iff.1 hin
  obtain ⟨g, rfl⟩ : ∃ g : Nat, f = (g : Int) := Int.eq_ofNat_of_zero_le hf0
  rw [Int.toNat_natCast] at hN hbd hlen ⊢
  have hgl : g < P.length := by omega
  obtain ⟨aa, ac, rfl, _⟩ := ha.form
  have hbits := bits_at hp
  have hrun := run_main_walk (qa := qa) (n := P.length) (qc := qc) (lim := lim) (dep := dep) (av := .slice aa xs.length ac) (f := (g : Int)) (w := w) (by have := hok.1; omega) (Q := fun sv x1 x2 x3 x4 x5 w6 => x1 = (stH P lim dep g xs N).1.fin ∧ x2 = (stH P lim dep g xs N).1.val ∧ x3 = (stH P lim dep g xs N).1.trap ∧ x4 = ((stH P lim dep g xs N).1.steps : Int) ∧ x5 = ((stH P lim dep g xs N).1.deep : Int) ∧ w6.ownsRow w.heap.size 56 2 sv (stH P lim dep g xs N).1.shows.length (flat shCells (stH P lim dep g xs N).1.shows))
    (fun W hW => ?_) (fun W hW => ?_) (fun W W2 hW hlt0 hW2 => ?_)
  · refine hrun.mono ?_
    rintro e w' ⟨sv, x1, x2, x3, x4, x5, rfl, hb, rfl, rfl, rfl, rfl, rfl, ho⟩
    exact ⟨sv, rfl, hb, ho⟩
  · refine (check_any P _ W (hp.below hW) (hP.below hW) (fun _ G hG => ?_)).mono ?_
    · obtain ⟨i, hi⟩ := List.getElem?_of_mem hG
      have := hS.blks i
      rw [getD_at hi] at this
      exact this
    · rintro e w' ⟨rfl, hb⟩
      rw [hc]
      exact ⟨⟨_, rfl⟩, hb⟩
  · refine (takes_any P _ _ _ xs W (hp.below hW) hok (ha.below hW) hw).mono ?_
    rintro e w' ⟨rfl, k, rfl⟩
    rw [ht]
    exact ⟨rfl, below_drewN (Below.refl _ _) k⟩
  · have hpW := hp.below hW
    have hRn := rn_start (lim := lim) (dep := dep) hpW hok.1
    rw [← hW2] at hRn
    have hB : RunB ⟨W, W.heap.size + 1, W.heap.size, .slice qa P.length qc, P, lim, dep⟩ C := ⟨hok, hbits, hS.blks, hS.cells, hS.capC, hcap, hdep, hS.ins⟩
    obtain ⟨pg, po, _, _, _, _, hqa, hlt, _⟩ := hpW.get hgl
    have haW := ha.below hW
    have := runner_any hB (pg := pg) (po := po) (np := P.length) (qc := qc) (by rw [← hqa]) hRn (sim_start P) (g := g) (N := N) hgl (aa := aa) (ac := ac) (ws := xs) hw (fun W' V' ss' S' hR _ _ i hi => by
      have hi' : i < xs.length := by rw [hlen]; exact hi
      obtain ⟨ag, ao, e1, e2, e3⟩ := haW.get hi'
      exact ⟨ag, ao, e1, (hR.low.cell (p := ⟨ag, ao + i, none⟩) e2).trans e3⟩) hN hbd
    dsimp only at this
    rw [← hlen] at this
    refine this.mono ?_
    rintro e w' ⟨rfl, V', ss', S', hR, hSm⟩
    obtain ⟨b0, b1, b2, b3, b4, b5, b6, b7, b8, b9, b10, b11, b12, b13⟩ := hR.box
    obtain ⟨sa, sc, _, _, _, hsv, _⟩ := own_ends (hR.heap.own 6 _ hR.s6) (Nat.zero_le _)
    dsimp only at hsv b8 b9 b10 b11 b12 b13
    rw [hsv] at b8
    have hs6 := hR.heap.own 6 _ hR.s6
    have hs7 : w'.ownsRow W.heap.size 56 2 V'.sv S'.shows.length (flat shCells S'.shows) := hs6
    rw [hsv] at hs7
    refine ⟨rfl, sa, _, sc, _, _, _, _, _, hR.low, b8, b9, b10, b11, b12, b13, hSm.fin, hSm.val, hSm.trap, by rw [hSm.steps]; rfl, by rw [hSm.deep]; rfl, ?_⟩
    have hshow : S'.shows = (stH P lim dep g xs N).1.shows := hSm.shows
    rw [← hshow]
    have hne : (Value.slice sa S'.shows.length sc).ownBlock ≠ some w.heap.size := fun hc => by
      have := (hs7.lt _ hc).1
      omega
    exact own_mono (owns_other (owns_other (owns_other (owns_other (owns_other (owns_other hs7 hne _) hne _) hne _) hne _) hne _) hne _) hW.size
end Go.Proofs.YtknbgpgefeahlaaGreatDoor
