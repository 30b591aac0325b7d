/- Run: what it tells. -/
import Derived.Test.YtdgpdmohfnealaaGreatDoorURunGM
namespace Go.Proofs.YtdgpdmohfnealaaGreatDoor
open Go.RowKit

/-- A run of a program, step by step. -/
def stH (P : List Gr) (lim dep g : Nat) (ws : List Int) (n : Nat) : HS × Bool := HS.iter P lim dep n (HS.first P lim dep g ws)
/-- A program that is small enough. -/
structure Small (P : List Gr) (C : Nat) : Prop where
  blks : ∀ g, (P.getD g default).blocks.length ≤ 100000
  cells : ∀ g, cellsOf (P.getD g default) ≤ C
  capC : C ≤ 1000000
  ins : most P 1000000
theorem getD_ge {α : Type} {l : List α} {i : Nat} {d : α} (h : l.length ≤ i) : l.getD i d = d := by
  rw [List.getD, List.getElem?_eq_none h]
  rfl
theorem bits_at {w : World} {v : Value} {P : List Gr} (h : GrsAt w v P) : ∀ g t k, Sc.word ((((P.getD g default).blocks.getD t default).ins).getD k default).bits := fun g t k => by
  have d0 : Sc.word (default : In).bits := Sc.word_zero
  rcases Nat.lt_or_ge g P.length with hg | hg
  · obtain ⟨a, c, rfl, _⟩ := h.form
    obtain ⟨_, _, pv, vv, av, bv, _, _, _, _, _, _, _, _, hG⟩ := h.get hg
    rcases Nat.lt_or_ge t (P.getD g default).blocks.length with ht | ht
    · obtain ⟨_, _, _, _, _, _, ba, bc, _, _, _, rfl, _, _, _, _⟩ := hG.openF
      obtain ⟨_, _, iv, _, _, _, _, _, _, _, _, hins⟩ := hG.bs.get ht
      rcases Nat.lt_or_ge k ((P.getD g default).blocks.getD t default).ins.length with hk | hk
      · exact hins.wf _ (mem_getD hk)
      · have e : (((P.getD g default).blocks.getD t default).ins).getD k default = default := getD_ge hk
        rw [e]
        exact d0
    · have e : (P.getD g default).blocks.getD t default = default := getD_ge ht
      rw [e]
      exact d0
  · have e : P.getD g default = default := getD_ge hg
    rw [e]
    exact d0
theorem flat_nil : ∀ n : Nat, flat prCells (List.replicate n ((.slice none 0 0 : Value), (.slice none 0 0 : Value))) = List.replicate (n * 2) (.slice none 0 0)
  | 0 => rfl
  | n + 1 => by
    have := flat_nil n
    unfold flat at this ⊢
    rw [List.replicate_succ, List.flatMap_cons, this, show (n + 1) * 2 = n * 2 + 1 + 1 by omega, List.replicate_succ, List.replicate_succ]
    rfl
theorem made_nil (n : Nat) : (madeCells #[(.slice none 0 0 : Value), .slice none 0 0] (n * 2)).toList = List.replicate (n * 2) (.slice none 0 0) := by
  refine List.ext_getElem (by simp [size_madeCells]) fun k h1 h2 => ?_
  rw [List.getElem_replicate]
  rcases Nat.mod_two_eq_zero_or_one k with hk | hk <;> simp [madeCells, hk]
def stZ (n : Nat) : St := ⟨List.replicate n none, [], [], [], [], 0, 0, 0, 0, 0⟩
def vZ (n : Nat) : Vals := ⟨.slice none 0 0, .slice none 0 0, .slice none 0 0, .slice none 0 0, .slice none 0 0, List.replicate n (.slice none 0 0, .slice none 0 0)⟩
def ssZ (E : Env) (n : Nat) : List Slot := [⟨.slice (some ⟨E.B, 0, none⟩) 1 1, 64, 14, 1, rnCells E (vZ n) (stZ n)⟩, ⟨.slice (some ⟨E.C, 0, none⟩) n n, 89, 2, n, flat prCells (vZ n).cl⟩, ⟨.slice none 0 0, 76, 5, 0, []⟩, ⟨.slice none 0 0, 113, 3, 0, []⟩, ⟨.slice none 0 0, 24, 1, 0, []⟩, ⟨.slice none 0 0, 24, 1, 0, []⟩, ⟨.slice none 0 0, 54, 2, 0, []⟩] ++ List.replicate n ⟨.slice none 0 0, 3, 1, 0, []⟩
theorem rn_start {W : World} {qa : Option Addr} {qc lim dep : Nat} {P : List Gr} (hp : GrsAt W (.slice qa P.length qc) P) (hn : P.length ≤ 64) :
    Rn ⟨W, W.heap.size + 1, W.heap.size, .slice qa P.length qc, P, lim, dep⟩ ((W.alloc (zCalled P.length)).alloc (.cells (rnArr (.slice qa P.length qc) lim dep W.heap.size P.length) 64)) (vZ P.length) (ssZ ⟨W, W.heap.size + 1, W.heap.size, .slice qa P.length qc, P, lim, dep⟩ P.length) (stZ P.length) := by
  obtain ⟨E, hE⟩ : ∃ E : Env, E = ⟨W, W.heap.size + 1, W.heap.size, .slice qa P.length qc, P, lim, dep⟩ := ⟨_, rfl⟩
  have hEB : E.B = W.heap.size + 1 := by rw [hE]
  have hEC : E.C = W.heap.size := by rw [hE]
  rw [← hE]
  have hs1 : (W.alloc (zCalled P.length)).heap.size = W.heap.size + 1 := by simp
  have o1 : (W.alloc (zCalled P.length)).ownsRow W.heap.size 89 2 (.slice (some ⟨W.heap.size, 0, none⟩) P.length P.length) P.length (flat prCells (vZ P.length).cl) := by
    have := World.ownsRow_lit (base := W.heap.size) (e := 89) (size := 2) W (madeCells #[.slice none 0 0, .slice none 0 0] (P.length * 2)) P.length (Nat.le_refl _) (by unfold maxLen; omega) (by simp [size_madeCells])
    rw [made_nil] at this
    show World.ownsRow _ _ _ _ _ _ (flat prCells (List.replicate P.length _))
    rw [flat_nil]
    exact this
  have o0 : ((W.alloc (zCalled P.length)).alloc (.cells (rnArr (.slice qa P.length qc) lim dep W.heap.size P.length) 64)).ownsRow W.heap.size 64 14 (.slice (some ⟨W.heap.size + 1, 0, none⟩) 1 1) 1 (rnCells E (vZ P.length) (stZ P.length)) := by
    have := World.ownsRow_lit (base := W.heap.size) (e := 64) (size := 14) (W.alloc (zCalled P.length)) (rnArr (.slice qa P.length qc) lim dep W.heap.size P.length) 1 (by rw [hs1]; omega) (by unfold maxLen; omega) (by rfl)
    rw [hs1] at this
    rw [hE]
    exact this
  have low : Below W.heap.size W ((W.alloc (zCalled P.length)).alloc (.cells (rnArr (.slice qa P.length qc) lim dep W.heap.size P.length) 64)) := below_alloc (below_alloc (Below.refl _ _) _) _
  have key : ∀ (i : Nat) (s : Slot), (ssZ E P.length)[i]? = some s → (i = 0 ∧ s = ⟨.slice (some ⟨W.heap.size + 1, 0, none⟩) 1 1, 64, 14, 1, rnCells E (vZ P.length) (stZ P.length)⟩) ∨ (i = 1 ∧ s = ⟨.slice (some ⟨W.heap.size, 0, none⟩) P.length P.length, 89, 2, P.length, flat prCells (vZ P.length).cl⟩) ∨ (s.v = .slice none 0 0 ∧ s.n = 0 ∧ s.cs = []) := fun i s hs => by
    unfold ssZ at hs
    rw [hEB, hEC] at hs
    rw [List.getElem?_append] at hs
    split at hs
    · rename_i hi
      rcases i with _ | _ | _ | _ | _ | _ | _ | i
      · left; simp at hs; exact ⟨rfl, hs.symm⟩
      · right; left; simp at hs; exact ⟨rfl, hs.symm⟩
      · right; right; simp at hs; rw [← hs]; exact ⟨rfl, rfl, rfl⟩
      · right; right; simp at hs; rw [← hs]; exact ⟨rfl, rfl, rfl⟩
      · right; right; simp at hs; rw [← hs]; exact ⟨rfl, rfl, rfl⟩
      · right; right; simp at hs; rw [← hs]; exact ⟨rfl, rfl, rfl⟩
      · right; right; simp at hs; rw [← hs]; exact ⟨rfl, rfl, rfl⟩
      · simp at hi; omega
    · have := List.eq_of_mem_replicate (List.mem_of_getElem? hs)
      rw [this]
      exact .inr (.inr ⟨rfl, rfl, rfl⟩)
  have hheap : Heap ((W.alloc (zCalled P.length)).alloc (.cells (rnArr (.slice qa P.length qc) lim dep W.heap.size P.length) 64)) W.heap.size (ssZ E P.length) := by
    refine ⟨fun i s hs => ?_, fun i j a b g hij ha hb hga hgb => ?_⟩
    · rcases key i s hs with ⟨_, rfl⟩ | ⟨_, rfl⟩ | ⟨h1, h2, h3⟩
      · exact o0
      · exact owns_below o1 (below_alloc (Below.refl _ _) _)
      · show World.ownsRow _ _ _ _ s.v s.n s.cs
        rw [h1, h2, h3]
        exact World.ownsRow_nil _ _ _ _
    · rcases key i a ha with ⟨rfl, rfl⟩ | ⟨rfl, rfl⟩ | ⟨h1, _, _⟩
      · rcases key j b hb with ⟨rfl, rfl⟩ | ⟨rfl, rfl⟩ | ⟨h1, _, _⟩
        · exact hij rfl
        · cases hga
          have : (some W.heap.size : Option Nat) = some (W.heap.size + 1) := hgb
          injection this
          omega
        · rw [h1] at hgb; cases hgb
      · rcases key j b hb with ⟨rfl, rfl⟩ | ⟨rfl, rfl⟩ | ⟨h1, _, _⟩
        · cases hga
          have : (some (W.heap.size + 1) : Option Nat) = some W.heap.size := hgb
          injection this
          omega
        · exact hij rfl
        · rw [h1] at hgb; cases hgb
      · rw [h1] at hga; cases hga
  have hP : E.P = P := by rw [hE]
  have hw0 : E.w0 = W := by rw [hE]
  refine ⟨by rw [hw0]; exact low, by rw [hE]; exact hp, by rw [hw0]; exact hheap, rfl, by rw [hP]; rfl, rfl, rfl, rfl, ⟨[], rfl⟩, rfl, by rw [hP]; simp [vZ], by rw [hP]; simp [stZ], fun i l hl => ?_, fun i hi => ?_⟩
  · exfalso
    have := List.eq_of_mem_replicate (List.mem_of_getElem? (show (List.replicate P.length (none : Option (List Int)))[i]? = _ from hl))
    cases this
  · have hil : i < P.length := by
      have := (List.getElem?_eq_some_iff.1 (show (List.replicate P.length (none : Option (List Int)))[i]? = _ from hi)).1
      simpa using this
    refine ⟨?_, ?_⟩
    · show (List.replicate P.length _)[i]? = _
      rw [List.getElem?_replicate, if_pos hil]
    · unfold ssZ
      rw [List.getElem?_append_right (by simp)]
      simp [hil]
theorem sim_start (P : List Gr) : Sim P (stZ P.length) HS.zero := ⟨⟨_, Hi.start rfl rfl rfl rfl⟩, rfl, rfl, rfl, rfl, rfl, rfl⟩
/-- A trace's value. -/
abbrev trArr (sv : Value) (H : HS) : Array Value := #[sv, .int .u8 H.fin, .int .u64 H.val, .int .u8 H.trap, .int .i64 (H.steps : Int), .int .i64 (H.deep : Int)]
theorem run_good {P : List Gr} {ppv : Value} {f : Int} {av : Value} {xs : List Int} {lim dep C N : Nat} {w : World} (hp : GrsAt w ppv P) (hP : PartsAt w) (hS : Small P C) (hdep : dep ≤ 1000000000) (hcap : dep * C ≤ 3000000) (ha : WordsAt w av xs) (hw : ∀ v, Sc.word (xs.getD v 0)) (hc : (checkT P).1 = 0) (ht : takesB P f xs = true)
    (hN : (stH P lim dep f.toNat xs N).2 = false) (hbd : ∀ n, (stH P lim dep f.toNat xs n).2 = true → (stH P lim dep f.toNat xs n).1.steps ≤ 1000000000000 ∧ (stH P lim dep f.toNat xs n).1.shows.length ≤ 1000000000) :
    Calls Tryz.prog 4 #[ppv, .int .i64 f, av, .int .i64 (lim : Int), .int .i64 (dep : Int)] w fun e w' => ∃ sv, e = .returned (.tuple #[.agg (trArr sv (stH P lim dep f.toNat xs N).1), .int .i64 0]) ∧ Below w.heap.size w w' ∧ w'.ownsRow w.heap.size 54 2 sv (stH P lim dep f.toNat xs N).1.shows.length (flat shCells (stH P lim dep f.toNat xs N).1.shows) := by
  have hok := pOk_of hc
  obtain ⟨qa, qc, rfl, _⟩ := hp.form
  have htk := ht
  unfold takesB at htk
  simp only [Bool.and_eq_true, decide_eq_true_eq] at htk
  obtain ⟨hin, hlen, _⟩ := htk
  obtain ⟨hf0, hfl⟩ := inB_iff.1 hin
  obtain ⟨g, rfl⟩ : ∃ g : Nat, f = (g : Int) := Int.eq_ofNat_of_zero_le hf0
  rw [Int.toNat_natCast] at hN hbd hlen ⊢
  have hgl : g < P.length := by omega
  obtain ⟨aa, ac, rfl, _⟩ := ha.form
  have hbits := bits_at hp
  have hrun := run_main_walk (qa := qa) (n := P.length) (qc := qc) (lim := lim) (dep := dep) (av := .slice aa xs.length ac) (f := (g : Int)) (w := w) (by have := hok.1; omega) (Q := fun sv x1 x2 x3 x4 x5 w6 => x1 = (stH P lim dep g xs N).1.fin ∧ x2 = (stH P lim dep g xs N).1.val ∧ x3 = (stH P lim dep g xs N).1.trap ∧ x4 = ((stH P lim dep g xs N).1.steps : Int) ∧ x5 = ((stH P lim dep g xs N).1.deep : Int) ∧ w6.ownsRow w.heap.size 54 2 sv (stH P lim dep g xs N).1.shows.length (flat shCells (stH P lim dep g xs N).1.shows))
    (fun W hW => ?_) (fun W hW => ?_) (fun W W2 hW hlt0 hW2 => ?_)
  · refine hrun.mono ?_
    rintro e w' ⟨sv, x1, x2, x3, x4, x5, rfl, hb, rfl, rfl, rfl, rfl, rfl, ho⟩
    exact ⟨sv, rfl, hb, ho⟩
  · refine (check_any P _ W (hp.below hW) (hP.below hW) (fun _ G hG => ?_)).mono ?_
    · obtain ⟨i, hi⟩ := List.getElem?_of_mem hG
      have := hS.blks i
      rw [getD_at hi] at this
      exact this
    · rintro e w' ⟨rfl, hb⟩
      rw [hc]
      exact ⟨⟨_, rfl⟩, hb⟩
  · refine (takes_any P _ _ _ xs W (hp.below hW) hok (ha.below hW) hw).mono ?_
    rintro e w' ⟨rfl, k, rfl⟩
    rw [ht]
    exact ⟨rfl, below_drewN (Below.refl _ _) k⟩
  · have hpW := hp.below hW
    have hRn := rn_start (lim := lim) (dep := dep) hpW hok.1
    rw [← hW2] at hRn
    have hB : RunB ⟨W, W.heap.size + 1, W.heap.size, .slice qa P.length qc, P, lim, dep⟩ C := ⟨hok, hbits, hS.blks, hS.cells, hS.capC, hcap, hdep, hS.ins⟩
    obtain ⟨pg, po, _, _, _, _, hqa, hlt, _⟩ := hpW.get hgl
    have haW := ha.below hW
    have := runner_any hB (pg := pg) (po := po) (np := P.length) (qc := qc) (by rw [← hqa]) hRn (sim_start P) (g := g) (N := N) hgl (aa := aa) (ac := ac) (ws := xs) hw (fun W' V' ss' S' hR _ _ i hi => by
      have hi' : i < xs.length := by rw [hlen]; exact hi
      obtain ⟨ag, ao, e1, e2, e3⟩ := haW.get hi'
      exact ⟨ag, ao, e1, (hR.low.cell (p := ⟨ag, ao + i, none⟩) e2).trans e3⟩) hN hbd
    dsimp only at this
    rw [← hlen] at this
    refine this.mono ?_
    rintro e w' ⟨rfl, V', ss', S', hR, hSm⟩
    obtain ⟨b0, b1, b2, b3, b4, b5, b6, b7, b8, b9, b10, b11, b12, b13⟩ := hR.box
    obtain ⟨sa, sc, _, _, _, hsv, _⟩ := own_ends (hR.heap.own 6 _ hR.s6) (Nat.zero_le _)
    dsimp only at hsv b8 b9 b10 b11 b12 b13
    rw [hsv] at b8
    have hs6 := hR.heap.own 6 _ hR.s6
    have hs7 : w'.ownsRow W.heap.size 54 2 V'.sv S'.shows.length (flat shCells S'.shows) := hs6
    rw [hsv] at hs7
    refine ⟨rfl, sa, _, sc, _, _, _, _, _, hR.low, b8, b9, b10, b11, b12, b13, hSm.fin, hSm.val, hSm.trap, by rw [hSm.steps]; rfl, by rw [hSm.deep]; rfl, ?_⟩
    have hshow : S'.shows = (stH P lim dep g xs N).1.shows := hSm.shows
    rw [← hshow]
    have hne : (Value.slice sa S'.shows.length sc).ownBlock ≠ some w.heap.size := fun hc => by
      have := (hs7.lt _ hc).1
      omega
    exact own_mono (owns_other (owns_other (owns_other (owns_other (owns_other (owns_other hs7 hne _) hne _) hne _) hne _) hne _) hne _) hW.size
end Go.Proofs.YtdgpdmohfnealaaGreatDoor
/- Traces that are alike; beginnings; picks. -/
namespace Go.Proofs.YtdgpdmohfnealaaGreatDoor
open Go.RowKit

def ShowsAt (w : World) (v : Value) (l : List (Int × Int)) : Prop := RowAt w v l.length (flat shCells l)
theorem ShowsAt.below {w w' : World} {v : Value} {l : List (Int × Int)} (h : ShowsAt w v l) (hb : Below w.heap.size w w') : ShowsAt w' v l := RowAt.below h hb
theorem shows_of {w : World} {base : Nat} {v : Value} {l : List (Int × Int)} (h : w.ownsRow base 54 2 v l.length (flat shCells l)) (hl : l.length ≤ 1000000000) : ShowsAt w v l := by
  rcases own_shape h with ⟨hv, hn⟩ | ⟨g, c, hv, hc, hm, _, hlt⟩
  · refine ⟨none, 0, ?_, ⟨by omega, by omega⟩, .inl hn⟩
    rw [hv, hn]
  · refine ⟨some ⟨g, 0, none⟩, c, hv, ⟨hc, by omega⟩, .inr ⟨g, 0, rfl, hlt, fun j u hu => ?_⟩⟩
    rw [hv] at h
    have hjl : j < l.length * 2 := by
      have := (List.getElem?_eq_some_iff.1 hu).1
      rw [flat_len shCells_len] at this
      exact this
    rw [Nat.zero_add, h.cellAt j hjl]
    exact hu
theorem ShowsAt.get {w : World} {a : Option Addr} {n c : Nat} {l : List (Int × Int)} (h : ShowsAt w (.slice a n c) l) {i : Nat} (hi : i < l.length) : ∃ g o, a = some ⟨g, o, none⟩ ∧ g < w.heap.size ∧ w.cell? ⟨g, o + i * 2, none⟩ = some (.int .u8 (l.getD i (0, 0)).1) ∧ w.cell? ⟨g, o + i * 2 + 1, none⟩ = some (.int .u64 (l.getD i (0, 0)).2) := by
  obtain ⟨a', c', hv, _, hc⟩ := h
  cases hv
  rcases hc with h0 | ⟨g, o, ha, hg, hc⟩
  · omega
  · have hx : l[i]? = some (l.getD i (0, 0)) := by simp [List.getD, List.getElem?_eq_getElem hi]
    exact ⟨g, o, ha, hg, hc _ _ (flat_at shCells_len l i 0 _ _ hx rfl), hc _ _ (flat_at shCells_len l i 1 _ _ hx rfl)⟩
theorem show_form {w : World} {v : Value} {l : List (Int × Int)} (h : ShowsAt w v l) : ∃ a c, v = .slice a l.length c ∧ l.length ≤ c ∧ l.length ≤ 140737488355328 := by
  obtain ⟨a, c, hv, hn, _⟩ := h
  exact ⟨a, c, hv, hn⟩
theorem neq_show (a b : Int) (w : World) : (binOp .neq 54 (.agg #[.int .u8 a, .int .u64 b]) (.agg #[.int .u8 a, .int .u64 b])).run Tryz.prog w = .ok (.bool false) w := by
  have hS : Tryz.prog.underlying 54 = some (.struct (Tryz.prog.fieldsOf 54)) := by kernel_rfl
  have hp : Tryz.prog.stoodInHeld 54 = false := by kernel_rfl
  rw [run_neq_struct, show (10000 : Nat) = 9999 + 1 from rfl, run_equalIn_agg w 9999 54 _ _ hS hp]
  simp only [Program.fieldsOf, Tryz.underlying54]
  go_simp
theorem drewN_two (w : World) (a b : Nat) : (w.drewN a).drewN b = w.drewN (a + b) := World.drewN_drewN w a b
set_option maxRecDepth 100000 in
set_option maxHeartbeats 1000000 in
theorem sameS_yes (l : List (Int × Int)) (v1 v2 : Value) (w : World) (h1 : ShowsAt w v1 l) (h2 : ShowsAt w v2 l) : Calls Tryz.prog 13 #[v1, v2] w fun e w' => e = .returned (.bool true) ∧ ∃ k, w' = w.drewN k := by
  obtain ⟨a1, c1, rfl, _, _⟩ := show_form h1
  obtain ⟨a2, c2, rfl, _, _⟩ := show_form h2
  have H1 : Hid (∀ i, i < l.length → _) := fun i hi => h1.get (i := i) hi
  have H2 : Hid (∀ i, i < l.length → _) := fun i hi => h2.get (i := i) hi
  clear h1 h2
  generalize l.length = n at *
  have hne := neq_show
  go_enter Tryz.func13, Tryz.ntmps13
  go_wp2
  go_loopw [5] (fun vi wr => ∃ i : Nat, vi = .int .i64 i ∧ i ≤ n ∧ Hid (∃ k, wr = w.drewN k)) (fun vi _ => n - (intOf vi).toNat)
  case atStart => exact ⟨0, rfl, by omega, 0, rfl⟩
  case round =>
    obtain ⟨i, rfl, hi, hr⟩ := hrel
    obtain ⟨q, hq⟩ := hr.out
    have HQ : Hid (wr = w.drewN q) := hq
    clear hq hr
    by_cases hin : i < n
    · obtain ⟨g1, o1, rfl, _, k0, k1⟩ := H1.out i hin
      obtain ⟨g2, o2, rfl, _, j0, j1⟩ := H2.out i hin
      have k0' := k0
      rw [show w.cell? ⟨g1, o1 + i * 2, none⟩ = wr.cell? ⟨g1, o1 + i * 2, none⟩ from by rw [HQ.out]; rfl] at k0'
      have k1' := k1
      rw [show w.cell? ⟨g1, o1 + i * 2 + 1, none⟩ = wr.cell? ⟨g1, o1 + i * 2 + 1, none⟩ from by rw [HQ.out]; rfl] at k1'
      have j0' := j0
      rw [show w.cell? ⟨g2, o2 + i * 2, none⟩ = wr.cell? ⟨g2, o2 + i * 2, none⟩ from by rw [HQ.out]; rfl] at j0'
      have j1' := j1
      rw [show w.cell? ⟨g2, o2 + i * 2 + 1, none⟩ = wr.cell? ⟨g2, o2 + i * 2 + 1, none⟩ from by rw [HQ.out]; rfl] at j1'
      have hin' : (i : Int) < n := by omega
      clear H1 H2
      go_wp2
      go_quiet (fail)
      go_wp2
      go_roundw
      case rel => exact ⟨i + 1, by first | rfl | (congr 1; omega), by omega, _, by rw [HQ.out]; exact drewN_two _ _ _⟩
      case measure => simp [intOf]; omega
    · obtain rfl : i = n := by omega
      clear H1 H2
      go_wp2
      go_ret
      exact ⟨rfl, q, HQ.out⟩
set_option maxRecDepth 100000 in
set_option maxHeartbeats 2000000 in
theorem sameTr_yes (l : List (Int × Int)) (v1 v2 : Value) (x1 x2 x3 x4 x5 : Int) (w : World) (h1 : ShowsAt w v1 l) (h2 : ShowsAt w v2 l) : Calls Tryz.prog 6 #[.agg #[v1, .int .u8 x1, .int .u64 x2, .int .u8 x3, .int .i64 x4, .int .i64 x5], .agg #[v2, .int .u8 x1, .int .u64 x2, .int .u8 x3, .int .i64 x4, .int .i64 x5]] w fun e w' => e = .returned (.bool true) ∧ Below w.heap.size w w' := by
  have HS : Hid (∀ W, Below w.heap.size w W → Calls Tryz.prog 13 #[v1, v2] W fun e w' => e = .returned (.bool true) ∧ ∃ k, w' = W.drewN k) := fun W hW => sameS_yes l v1 v2 W (h1.below hW) (h2.below hW)
  obtain ⟨a1, c1, rfl, _, _⟩ := show_form h1
  obtain ⟨a2, c2, rfl, _, _⟩ := show_form h2
  clear h1 h2
  generalize l.length = n at *
  go_enter Tryz.func6, Tryz.ntmps6
  go_wp2_with (go_at_call 13; refine Calls.mono (by exact HS.out _ (below_alloc (below_alloc (Below.refl _ _) _) _)) ?_; rintro e w1 ⟨rfl, k, rfl⟩)
  go_ret
  exact ⟨rfl, below_drewN (below_alloc (below_alloc (Below.refl _ _) _) _) _⟩
theorem prefix_shows {l l' : List (Int × Int)} (h : l <+: l') {w : World} {a : Option Addr} {c : Nat} (hs : ShowsAt w (.slice a l'.length c) l') : ShowsAt w (.slice a l.length c) l := by
  obtain ⟨t, rfl⟩ := h
  obtain ⟨a', c', hv, hn, hc⟩ := hs
  cases hv
  rw [List.length_append] at hn
  refine ⟨a, c, rfl, ⟨by omega, by omega⟩, ?_⟩
  rcases hc with h0 | ⟨g, o, ha, hg, hc⟩
  · left
    rw [List.length_append] at h0
    omega
  · refine .inr ⟨g, o, ha, hg, fun j u hu => hc j u ?_⟩
    unfold flat at hu ⊢
    rw [List.flatMap_append, List.getElem?_append_left (List.getElem?_eq_some_iff.1 hu).1]
    exact hu
theorem slice_shows {a : Option Addr} {n c f : Nat} (hf : f ≤ c) : ∀ W, (Instr.slice 22 (.slice a n c) none (some (.int .i64 (f : Int))) none).run Tryz.prog W = .ok (sliced a 0 f c 2) W := fun W => by
  have hs : ∀ W : World, (sizeOf (Tryz.prog.elem 22)).run Tryz.prog W = .ok 2 W := fun W => by kernel_rfl
  have hu : Tryz.prog.underlying 22 = some (.slice (Tryz.prog.elem 22)) := by kernel_rfl
  rw [run_slice_h W 22 _ n c hu .i64 f (by omega) (by omega), hs]
  simp [Result.andThen]
end Go.Proofs.YtdgpdmohfnealaaGreatDoor
/- Beginnings; picks: not here. -/
/- A run's end: there is one; what stands of it; more steps, a greater depth. -/
namespace Go.Proofs.YtdgpdmohfnealaaGreatDoor

theorem endN_ex (lim : Nat) : ∃ N : Nat, lim * 1000002 + 1000002 ≤ N := ⟨_, Nat.le_refl _⟩
noncomputable def endN (lim : Nat) : Nat := Classical.choose (endN_ex lim)
theorem endN_le (lim : Nat) : lim * 1000002 + 1000002 ≤ endN lim := Classical.choose_spec (endN_ex lim)
theorem pair_of {s : HS × Bool} (h : s.2 = false) : s = (s.1, false) := by
  cases s
  cases h
  rfl
noncomputable def endH (P : List Gr) (lim dep g : Nat) (ws : List Int) : HS := (stH P lim dep g ws (endN lim)).1
theorem stH_ends {P : List Gr} (hK : most P 1000000) (lim dep g : Nat) (ws : List Int) : (stH P lim dep g ws (endN lim)).2 = false := by
  cases hf : (HS.first P lim dep g ws).2 with
  | false => unfold stH; rw [HS.iter_stop hf]; exact hf
  | true =>
    refine iter_ends hK _ _ ?_
    obtain ⟨h1, h2, h3⟩ := begin_on hf
    have hm := mul_step (K := 1000000) h2
    have hr := rem_le hK ((Fr.new g).sets (argPairs (P.getD g default) ws))
    have hE := endN_le lim
    unfold HS.first
    rw [h3]
    unfold leftM
    dsimp only at hm ⊢
    rw [remF_cons, List.length_cons]
    have e : remF P HS.zero.frs = 0 := rfl
    have e2 : HS.zero.frs.length = 0 := rfl
    have e3 : HS.zero.steps = 0 := rfl
    rw [e, e2]
    rw [e3] at hm ⊢
    omega
theorem stH_stop {P : List Gr} {lim dep g : Nat} {ws : List Int} {a b : Nat} (ha : (stH P lim dep g ws a).2 = false) (hb : (stH P lim dep g ws b).2 = false) : stH P lim dep g ws a = stH P lim dep g ws b := by
  unfold stH at *
  rcases Nat.le_total a b with h | h
  · obtain ⟨c, rfl⟩ := Nat.exists_eq_add_of_le h
    rw [HS.iter_add, HS.iter_stop ha]
  · obtain ⟨c, rfl⟩ := Nat.exists_eq_add_of_le h
    rw [HS.iter_add, HS.iter_stop hb]
/-- What a run leans on. -/
structure Runs (P : List Gr) (g : Nat) (ws : List Int) : Prop where
  ok : POk P
  bits : ∀ g t k, Sc.word ((((P.getD g default).blocks.getD t default).ins).getD k default).bits
  gl : g < P.length
  ws : ∀ v, Sc.word (ws.getD v 0)
  most : most P 1000000
theorem stH_within {P : List Gr} {lim dep g : Nat} {ws : List Int} (hR : Runs P g ws) : ∀ n, Within lim dep (stH P lim dep g ws n)
  | 0 => begin_within (Nat.zero_le _) (Nat.zero_le _) (Nat.le_refl _) rfl g ws
  | n + 1 => by
    have ih := stH_within hR (lim := lim) (dep := dep) n
    unfold stH at ih ⊢
    cases hc : (HS.iter P lim dep n (HS.first P lim dep g ws)).2 with
    | false => rw [HS.iter_add P lim dep n 1, HS.iter_stop hc]; exact ih
    | true =>
      obtain ⟨_, h2, _⟩ := iter_ok hR.ok hR.bits hR.gl hR.ws n hc
      have e : HS.iter P lim dep (n + 1) (HS.first P lim dep g ws) = (HS.iter P lim dep n (HS.first P lim dep g ws)).1.next P lim dep := HS.iter_one (H := (HS.iter P lim dep n (HS.first P lim dep g ws)).1) (by rw [← hc])
      rw [e]
      exact next_within (P := P) ih.steps ih.deep ih.frs (ih.on hc) h2
theorem end_within {P : List Gr} {g : Nat} {ws : List Int} (hR : Runs P g ws) (lim dep : Nat) : Within lim dep (endH P lim dep g ws, false) := by
  have h := stH_within hR (lim := lim) (dep := dep) (endN lim)
  have e : stH P lim dep g ws (endN lim) = (endH P lim dep g ws, false) := pair_of (stH_ends hR.most lim dep g ws)
  rw [← e]
  exact h
theorem stH_bound {P : List Gr} {lim dep g K : Nat} {ws : List Int} (hR : Runs P g ws) (hK : most P K) (h1 : lim ≤ 1000000000000) (h2 : lim * K ≤ 1000000000) (n : Nat) (ht : (stH P lim dep g ws n).2 = true) : (stH P lim dep g ws n).1.steps ≤ 1000000000000 ∧ (stH P lim dep g ws n).1.shows.length ≤ 1000000000 := by
  have hw := (stH_within hR (lim := lim) (dep := dep) n).steps
  have hs : (stH P lim dep g ws n).1.shows.length ≤ (stH P lim dep g ws n).1.steps * K := first_shows hK n ht
  have h3 : (stH P lim dep g ws n).1.steps * K ≤ lim * K := Nat.mul_le_mul_right _ hw
  omega
theorem next_off {P : List Gr} {lim dep : Nat} {H : HS} (h : (H.next P lim dep).2 = false) : (H.next P lim dep).1.shows = H.shows := by
  have stp : ∀ H : HS, (H.step lim).1.shows = H.shows := fun H => by unfold HS.step; split <;> rfl
  have bgn : ∀ (H : HS) (g : Nat) (ws : List Int), (H.begin P lim dep g ws).1.shows = H.shows := fun H g ws => by
    unfold HS.begin
    split
    · rfl
    · exact stp _
  unfold HS.next at h ⊢
  split at h
  · rfl
  · rename_i f fs e
    split at h
    · rename_i q1
      rw [if_pos q1]
      split at h
      · rename_i q2
        rw [if_pos q2]
        exact bgn _ _ _
      · cases h
    · rename_i q1
      rw [if_neg q1]
      unfold HS.endT HS.enter HS.tell
      repeat' split
      all_goals rfl
theorem stH_shows {P : List Gr} {lim dep g K : Nat} {ws : List Int} (hR : Runs P g ws) (hK : most P K) : ∀ n, (stH P lim dep g ws n).1.shows.length ≤ lim * K
  | 0 => by
    have : (stH P lim dep g ws 0).1.shows = [] := by
      show (HS.first P lim dep g ws).1.shows = []
      unfold HS.first HS.begin HS.step
      repeat' split
      all_goals rfl
    rw [this]
    exact Nat.zero_le _
  | n + 1 => by
    cases hc : (stH P lim dep g ws (n + 1)).2 with
    | true =>
      have hw := (stH_within hR (lim := lim) (dep := dep) (n + 1)).steps
      have hs : (stH P lim dep g ws (n + 1)).1.shows.length ≤ (stH P lim dep g ws (n + 1)).1.steps * K := first_shows hK _ hc
      exact Nat.le_trans hs (Nat.mul_le_mul_right _ hw)
    | false =>
      have ih := stH_shows hR hK (lim := lim) (dep := dep) n
      unfold stH at hc ih ⊢
      cases hp : (HS.iter P lim dep n (HS.first P lim dep g ws)).2 with
      | false => rw [HS.iter_add P lim dep n 1, HS.iter_stop hp]; exact ih
      | true =>
        have e : HS.iter P lim dep (n + 1) (HS.first P lim dep g ws) = (HS.iter P lim dep n (HS.first P lim dep g ws)).1.next P lim dep := HS.iter_one (H := (HS.iter P lim dep n (HS.first P lim dep g ws)).1) (by rw [← hp])
        rw [e] at hc ⊢
        rw [next_off hc]
        exact ih
theorem end_of {P : List Gr} {lim dep g : Nat} {ws : List Int} (hK : most P 1000000) {n : Nat} (h : (stH P lim dep g ws n).2 = false) : endH P lim dep g ws = (stH P lim dep g ws n).1 := by
  unfold endH
  rw [stH_stop (stH_ends hK lim dep g ws) h]
theorem end_cmp {P : List Gr} {lim lim' dep dep' g : Nat} {ws : List Int} (hK : most P 1000000) (hl : lim ≤ lim') (hd : dep ≤ dep') : Cmp lim dep (endH P lim dep g ws, false) (endH P lim' dep' g ws, false) := by
  have up : ∀ (lim dep a b : Nat), a ≤ b → (stH P lim dep g ws a).2 = false → (stH P lim dep g ws b).2 = false := fun lim dep a b hab h0 => by
    obtain ⟨c, hc⟩ := Nat.exists_eq_add_of_le hab
    rw [hc]
    unfold stH at h0 ⊢
    rw [HS.iter_add, HS.iter_stop h0]
    exact h0
  have h := first_cmp (P := P) hl hd g ws (max (endN lim) (endN lim'))
  have e1 := up lim' dep' _ _ (Nat.le_max_right (endN lim) (endN lim')) (stH_ends hK lim' dep' g ws)
  have e2 := up lim dep _ _ (Nat.le_max_left (endN lim) (endN lim')) (stH_ends hK lim dep g ws)
  rw [end_of hK e1, end_of hK e2]
  have q1 := pair_of e1
  have q2 := pair_of e2
  unfold stH at q1 q2
  rw [q1, q2] at h
  exact h
/-- With more steps and a greater depth. -/
theorem more_plain {P : List Gr} {g : Nat} {ws : List Int} (hR : Runs P g ws) {lim lim' dep dep' : Nat} (hl : lim ≤ lim') (hd : dep ≤ dep') :
    (endH P lim dep g ws).shows <+: (endH P lim' dep' g ws).shows ∧ (endH P lim dep g ws).steps ≤ (endH P lim' dep' g ws).steps ∧ (endH P lim dep g ws).deep ≤ (endH P lim' dep' g ws).deep ∧ (endH P lim dep g ws).steps ≤ lim ∧ (endH P lim dep g ws).deep ≤ dep ∧
    (((endH P lim dep g ws).fin = 3 ∧ (endH P lim dep g ws).steps = lim) ∨ ((endH P lim dep g ws).fin = 4 ∧ (endH P lim dep g ws).deep = dep) ∨ (((endH P lim dep g ws).fin = 1 ∨ (endH P lim dep g ws).fin = 2) ∧ endH P lim' dep' g ws = endH P lim dep g ws ∧ endH P (endH P lim dep g ws).steps (endH P lim dep g ws).deep g ws = endH P lim dep g ws)) := by
  have hw := end_within hR lim dep
  have hc := end_cmp (g := g) (ws := ws) hR.most hl hd
  have hle : (endH P lim dep g ws).le (endH P lim' dep' g ws) := by
    rcases hc with h | h
    · have : endH P lim dep g ws = endH P lim' dep' g ws := (Prod.mk.inj h).1
      rw [this]
      exact HS.le_refl _
    · exact h.2.1
  have hs1 : (endH P lim dep g ws).steps ≤ lim := hw.steps
  have hd1 : (endH P lim dep g ws).deep ≤ dep := hw.deep
  refine ⟨hle.1, hle.2.1, hle.2.2, hs1, hd1, ?_⟩
  have hoff := hw.off rfl
  dsimp only at hoff
  rcases hoff with h | h | h
  · right; right
    refine ⟨h, ?_, ?_⟩
    · rcases hc with h2 | ⟨⟨_, h2⟩, _⟩
      · exact ((Prod.mk.inj h2).1).symm
      · dsimp only at h2; omega
    · have hc2 := end_cmp (g := g) (ws := ws) hR.most hs1 hd1
      rcases hc2 with h2 | ⟨_, _, h3⟩
      · exact (Prod.mk.inj h2).1
      · rcases h3 with ⟨_, h3⟩ | h3 | h3
        · dsimp only at h3; omega
        · exact (Nat.lt_irrefl _ h3).elim
        · exact (Nat.lt_irrefl _ h3).elim
  · exact .inl h
  · exact .inr (.inl h)
end Go.Proofs.YtdgpdmohfnealaaGreatDoor
