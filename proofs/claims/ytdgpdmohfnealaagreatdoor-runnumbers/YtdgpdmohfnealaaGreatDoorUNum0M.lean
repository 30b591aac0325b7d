/- The law's own programs. -/
import Derived.Test.YtdgpdmohfnealaaGreatDoorUEndHM
import Derived.Laws.Rows
import Derived.Test.YtdgpdmohfnealaaGreatDoorGRight1M
namespace Go.Proofs.YtdgpdmohfnealaaGreatDoor
open Go.RowKit

def allocs (w : World) (os : List Obj) : World := os.foldl World.alloc w
theorem allocs_below : ∀ (os : List Obj) (w : World), Below w.heap.size w (allocs w os)
  | [], _ => Below.refl _ _
  | o :: os, w => below_trans (below_alloc (Below.refl _ _) o) (allocs_below os (w.alloc o))
theorem allocs_get : ∀ (os : List Obj) (w : World) (k : Nat) (o : Obj), os[k]? = some o → (allocs w os).heap[w.heap.size + k]? = some o
  | o' :: os, w, 0, o, h => by
    cases h
    have h1 := (allocs_below os (w.alloc o')).block w.heap.size (by simp)
    exact h1.trans (heap_alloc_new w o')
  | o' :: os, w, k + 1, o, h => by
    have h1 := allocs_get os (w.alloc o') k o (by simpa using h)
    rw [show (w.alloc o').heap.size = w.heap.size + 1 by simp, show w.heap.size + 1 + k = w.heap.size + (k + 1) by omega] at h1
    exact h1
theorem row_lit {W : World} {g : Nat} {cs : List Value} {t : TypeId} (n : Nat) (h : W.heap[g]? = some (.cells cs.toArray t)) (hn : n ≤ 1000) : RowAt W (.slice (some ⟨g, 0, none⟩) n n) n cs := by
  refine ⟨_, _, rfl, ⟨Nat.le_refl _, by omega⟩, .inr ⟨g, 0, rfl, (Array.getElem?_eq_some_iff.1 h).1, fun j u hj => ?_⟩⟩
  simp only [World.cell?, h]
  simpa using hj
theorem row_nil (W : World) (cs : List Value) : RowAt W (.slice none 0 0) 0 cs := ⟨_, _, rfl, ⟨Nat.le_refl _, by omega⟩, .inl rfl⟩
abbrev sl (g n : Nat) : Value := .slice (some ⟨g, 0, none⟩) n n
def oneG : Gr := ⟨⟨#[]⟩, [0], 4, [4], [], [⟨[], ⟨3, 0, 0, 0, 0⟩⟩]⟩
def selfI : List In := [⟨10, 0, 0, [0], 0, 0⟩, ⟨9, 0, 0, [0], 0, 0⟩]
def selfG : Gr := ⟨⟨#[]⟩, [0], 4, [4], [], [⟨selfI, ⟨3, 0, 0, 0, 0⟩⟩]⟩
def objs1 (N : Nat) (iv : Value) : List Obj := [
  .cells #[intV 0] 3,
  .cells #[bytV 4] 35,
  .cells #[iv, bytV 3, intV 0, intV 0, intV 0, bytV 0] 48,
  .cells #[.string ⟨#[]⟩, sl N 1, bytV 4, sl (N + 1) 1, .slice none 0 0, sl (N + 2) 1] 40]
def objs2 (N : Nat) : List Obj := objs1 N (sl (N + 6) 2) ++ [.cells #[intV 0] 3, .cells #[intV 0] 3, .cells #[bytV 10, bytV 0, intV 0, sl (N + 4) 1, wordV 0, intV 0, bytV 9, bytV 0, intV 0, sl (N + 5) 1, wordV 0, intV 0] 52]
theorem one_at (w : World) : GrsAt (allocs w (objs1 w.heap.size (.slice none 0 0))) (sl (w.heap.size + 3) 1) [oneG] := by
  have g := fun k o (h : (objs1 w.heap.size (.slice none 0 0))[k]? = some o) => allocs_get (objs1 w.heap.size (.slice none 0 0)) w k o h
  refine ⟨[(sl w.heap.size 1, sl (w.heap.size + 1) 1, .slice none 0 0, sl (w.heap.size + 2) 1)], rfl, row_lit (t := 40) 1 (g 3 _ rfl) (by omega), fun i x q hx hq => ?_⟩
  rcases i with _ | i
  · cases hx; cases hq
    refine ⟨row_lit (t := 3) 1 (g 0 _ rfl) (by omega), row_lit (t := 35) 1 (g 1 _ rfl) (by omega), row_nil _ _, ⟨[.slice none 0 0], rfl, row_lit (t := 48) 1 (g 2 _ rfl) (by omega), fun i x a hx ha => ?_⟩⟩
    rcases i with _ | i
    · cases hx; cases ha
      exact ⟨by simp, [], rfl, row_nil _ _, fun i x a hx ha => by simp at hx⟩
    · simp [oneG] at hx
  · simp at hx
theorem self_at (w : World) : GrsAt (allocs w (objs2 w.heap.size)) (sl (w.heap.size + 3) 1) [selfG] := by
  have g := fun k o (h : (objs2 w.heap.size)[k]? = some o) => allocs_get (objs2 w.heap.size) w k o h
  refine ⟨[(sl w.heap.size 1, sl (w.heap.size + 1) 1, .slice none 0 0, sl (w.heap.size + 2) 1)], rfl, row_lit (t := 40) 1 (g 3 _ rfl) (by omega), fun i x q hx hq => ?_⟩
  rcases i with _ | i
  · cases hx; cases hq
    refine ⟨row_lit (t := 3) 1 (g 0 _ rfl) (by omega), row_lit (t := 35) 1 (g 1 _ rfl) (by omega), row_nil _ _, ⟨[sl (w.heap.size + 6) 2], rfl, row_lit (t := 48) 1 (g 2 _ rfl) (by omega), fun i x a hx ha => ?_⟩⟩
    rcases i with _ | i
    · cases hx; cases ha
      refine ⟨by decide, [sl (w.heap.size + 4) 1, sl (w.heap.size + 5) 1], rfl, row_lit (t := 52) 2 (g 6 _ rfl) (by omega), fun i x a hx ha => ?_⟩
      rcases i with _ | _ | i
      · cases hx; cases ha; exact row_lit (t := 3) 1 (g 4 _ rfl) (by omega)
      · cases hx; cases ha; exact row_lit (t := 3) 1 (g 5 _ rfl) (by omega)
      · simp [selfI] at hx
    · simp [selfG] at hx
  · simp at hx
set_option maxRecDepth 100000 in
set_option maxHeartbeats 4000000 in
theorem one_any (w : World) : Calls Tryz.prog 5 #[] w fun e w' => e = .returned (sl (w.heap.size + 3) 1) ∧ w' = allocs w (objs1 w.heap.size (.slice none 0 0)) := by
  go_enter Tryz.func5, Tryz.ntmps5
  go_wp2
  go_ret
  exact ⟨rfl, rfl⟩
set_option maxRecDepth 100000 in
set_option maxHeartbeats 4000000 in
theorem self_any (w : World) : Calls Tryz.prog 7 #[] w fun e w' => e = .returned (sl (w.heap.size + 3) 1) ∧ w' = allocs w (objs2 w.heap.size) := by
  have H1 : Hid _ := one_any w
  go_enter Tryz.func7, Tryz.ntmps7
  go_wp2_with (go_at_call 5; refine Calls.mono (by exact H1.out) ?_; rintro e w1 ⟨rfl, rfl⟩; unfold allocs objs1; simp only [List.foldl])
  go_ret
  exact ⟨rfl, rfl⟩
end Go.Proofs.YtdgpdmohfnealaaGreatDoor
/- The law's own: is a program too great? -/
namespace Go.Proofs.YtdgpdmohfnealaaGreatDoor
open Go.RowKit

/-- A graph that is not too great. -/
def FitG (G : Gr) : Prop := G.blocks.length + G.vars.length + G.arrs.length + G.params.length ≤ 1600 ∧ ∀ t, t < G.blocks.length → (G.blocks.getD t default).ins.length ≤ 1600
end Go.Proofs.YtdgpdmohfnealaaGreatDoor
/- The law is awake. -/
namespace Go.Proofs.YtdgpdmohfnealaaGreatDoor
open Go.RowKit

theorem getD_two {P : List Gr} {p : Gr → Prop} (h : ∀ i, i < P.length → p (P.getD i default)) (h0 : p default) (g : Nat) : p (P.getD g default) := by
  rcases Nat.lt_or_ge g P.length with hg | hg
  · exact h g hg
  · rw [getD_ge hg]; exact h0
theorem small_of {P : List Gr} (h : ∀ i, i < P.length → FitG (P.getD i default)) : Small P 1600 ∧ most P 1600 := by
  have hF : ∀ g, FitG (P.getD g default) := fun g => getD_two h ⟨by decide, fun t ht => by have : (default : Gr).blocks.length = 0 := rfl; omega⟩ g
  have hI : most P 1600 := fun g t => by
    rcases Nat.lt_or_ge t (P.getD g default).blocks.length with ht | ht
    · exact (hF g).2 t ht
    · rw [getD_ge ht]; exact Nat.zero_le _
  refine ⟨⟨fun g => by have := (hF g).1; omega, fun g => by have := (hF g).1; unfold cellsOf; omega, by omega, fun g t => Nat.le_trans (hI g t) (by omega)⟩, hI⟩
theorem fit_one : ∀ i, i < [oneG].length → FitG ([oneG].getD i default) := fun i hi => by
  have : i = 0 := by simp at hi; omega
  subst this
  refine ⟨by decide, fun t ht => ?_⟩
  have : t = 0 := by have : ([oneG].getD 0 default).blocks.length = 1 := rfl; omega
  subst this
  decide
theorem fit_self : ∀ i, i < [selfG].length → FitG ([selfG].getD i default) := fun i hi => by
  have : i = 0 := by simp at hi; omega
  subst this
  refine ⟨by decide, fun t ht => ?_⟩
  have : t = 0 := by have : ([selfG].getD 0 default).blocks.length = 1 := rfl; omega
  subst this
  decide
theorem chk_one8 : checkT [oneG] = (0, 0) := by decide +kernel
theorem chk_self8 : checkT [selfG] = (0, 0) := by decide +kernel
theorem tk_one8 : takesB [oneG] 0 [7] = true := by decide +kernel
theorem tk_self8 : takesB [selfG] 0 [7] = true := by decide +kernel
theorem word7 : ∀ v, Sc.word ([(7 : Int)].getD v 0) := fun v => by
  cases v with
  | zero => show Sc.word 7; unfold Sc.word; omega
  | succ v => exact Sc.word_zero
set_option maxRecDepth 100000 in
/-- A program that is small and right, a graph that takes these words: what Run tells. -/
theorem run_small {P : List Gr} {ppv : Value} {f : Int} {av : Value} {xs : List Int} {lim dep : Nat} {w : World} (hp : GrsAt w ppv P) (hP : PartsAt w) (hS : ∀ i, i < P.length → FitG (P.getD i default)) (hlim : lim ≤ 600000) (hdep : dep ≤ 1800) (ha : WordsAt w av xs) (hw : ∀ v, Sc.word (xs.getD v 0)) (hc : (checkT P).1 = 0) (ht : takesB P f xs = true) :
    (Runs P f.toNat xs) ∧ Calls Tryz.prog 4 #[ppv, .int .i64 f, av, .int .i64 (lim : Int), .int .i64 (dep : Int)] w fun e w' => ∃ sv, e = .returned (.tuple #[.agg (trArr sv (endH P lim dep f.toNat xs)), .int .i64 0]) ∧ Below w.heap.size w w' ∧ w'.ownsRow w.heap.size 54 2 sv (endH P lim dep f.toNat xs).shows.length (flat shCells (endH P lim dep f.toNat xs).shows) ∧ ShowsAt w' sv (endH P lim dep f.toNat xs).shows := by
  obtain ⟨hs1, hs2⟩ := small_of hS
  have hgl : f.toNat < P.length := by
    have := ht
    unfold takesB at this
    rw [Bool.and_eq_true] at this
    have := inB_iff.1 this.1
    omega
  have hR : Runs P f.toNat xs := ⟨pOk_of hc, bits_at hp, hgl, hw, hs1.ins⟩
  have hL : lim * 1600 ≤ 1000000000 := by omega
  have hbd := fun n => stH_bound (lim := lim) (dep := dep) hR hs2 (by omega) hL n
  refine ⟨hR, (run_good (N := endN lim) hp hP hs1 (by omega) (by omega) ha hw hc ht (stH_ends hs1.ins _ _ _ _) hbd).mono ?_⟩
  rintro e w' ⟨sv, rfl, hb, ho⟩
  refine ⟨sv, rfl, hb, ho, shows_of ho ?_⟩
  exact Nat.le_trans (stH_shows (lim := lim) (dep := dep) hR hs2 (endN lim)) hL
end Go.Proofs.YtdgpdmohfnealaaGreatDoor
/- The law's own runs: what they tell. -/
namespace Go.Proofs.YtdgpdmohfnealaaGreatDoor

def callG : Gr := ⟨⟨#[]⟩, [0], 4, [4], [], [⟨[⟨9, 0, 0, [0], 0, 0⟩], ⟨3, 0, 0, 0, 0⟩⟩]⟩
def f0 : Fr := (Fr.new 0).sets [(0, 7)]
def f1 : Fr := { f0 with nx := 1 }
theorem begin_calls {lim dep : Nat} {H : HS} (h1 : H.frs.length < dep) (h2 : H.steps < lim) : H.begin [callG] lim dep 0 [7] = ({ H with frs := f0 :: H.frs, deep := max H.deep (H.frs.length + 1), steps := H.steps + 1 }, true) := by
  unfold HS.begin
  rw [if_neg (by omega)]
  unfold HS.step
  rw [if_neg (by show ¬ lim ≤ H.steps; omega)]
  rfl
theorem begin_ends {lim dep : Nat} {H : HS} (h1 : dep ≤ H.frs.length) : H.begin [callG] lim dep 0 [7] = (H.stop 4, false) := by
  unfold HS.begin
  rw [if_pos h1]
theorem next_calls {lim dep : Nat} {H : HS} {fs : List Fr} (h : H.frs = f0 :: fs) : H.next [callG] lim dep = ({ H with frs := f1 :: fs } : HS).begin [callG] lim dep 0 [7] := by
  unfold HS.next
  rw [h]
  dsimp only
  rw [if_pos (show f0.nx < (insOf [callG] f0).length by decide), if_pos (show ((insOf [callG] f0).getD f0.nx default).kind = 9 from rfl)]
  rfl
theorem st_calls {lim dep : Nat} : ∀ n, n < dep → n < lim → stH [callG] lim dep 0 [7] n = (⟨f0 :: List.replicate n f1, [], 0, 0, 0, n + 1, n + 1⟩, true)
  | 0, h1, h2 => by
    show HS.zero.begin [callG] lim dep 0 [7] = _
    rw [begin_calls (by exact h1) (by exact h2)]
    rfl
  | n + 1, h1, h2 => by
    have ih := st_calls n (by omega) (by omega) (lim := lim) (dep := dep)
    unfold stH at ih ⊢
    rw [HS.iter_one ih, next_calls rfl, begin_calls (by show (f1 :: List.replicate n f1).length < dep; simp; omega) (by show n + 1 < lim; omega)]
    refine Prod.ext ?_ rfl
    show HS.mk _ _ _ _ _ _ _ = HS.mk _ _ _ _ _ _ _
    rw [List.replicate_succ]
    congr 1
    show max (n + 1) ((f1 :: List.replicate n f1).length + 1) = n + 1 + 1
    rw [List.length_cons, List.length_replicate]
    omega
theorem st_deep {lim dep : Nat} (h1 : 0 < dep) (h2 : dep ≤ lim) : stH [callG] lim dep 0 [7] dep = (⟨f1 :: List.replicate (dep - 1) f1, [], 4, 0, 0, dep, dep⟩, false) := by
  obtain ⟨n, rfl⟩ : ∃ n, dep = n + 1 := ⟨dep - 1, by omega⟩
  have ih := st_calls n (lim := lim) (dep := n + 1) (by omega) (by omega)
  unfold stH at ih ⊢
  rw [HS.iter_one ih, next_calls rfl, begin_ends (by show n + 1 ≤ (f1 :: List.replicate n f1).length; simp)]
  rfl
theorem st_bd {lim dep : Nat} (h1 : 0 < dep) (h2 : dep ≤ lim) (n : Nat) (ht : (stH [callG] lim dep 0 [7] n).2 = true) : (stH [callG] lim dep 0 [7] n).1.steps ≤ dep ∧ (stH [callG] lim dep 0 [7] n).1.shows = [] := by
  rcases Nat.lt_or_ge n dep with hn | hn
  · rw [st_calls n hn (by omega)]
    exact ⟨hn, rfl⟩
  · exfalso
    obtain ⟨c, rfl⟩ := Nat.exists_eq_add_of_le hn
    have hd := st_deep (lim := lim) h1 h2
    unfold stH at ht hd
    rw [HS.iter_add, hd, HS.iter_stop rfl] at ht
    cases ht
def loopG : Gr := ⟨⟨#[]⟩, [0], 4, [4, 4], [], [⟨[⟨2, 0, 1, [], 5, 0⟩], ⟨1, 0, 1, 0, 0⟩⟩, ⟨[⟨1, 0, 0, [0, 1], 0, 0⟩, ⟨1, 0, 1, [1, 0], 0, 0⟩, ⟨10, 0, 0, [0], 0, 0⟩], ⟨1, 0, 1, 0, 0⟩⟩]⟩
def rowsG : Gr := ⟨⟨#[]⟩, [0], 4, [4, 4, 4, 1], [(4, 2)], [
  ⟨[⟨6, 0, 2, [1], 0, 0⟩, ⟨10, 0, 0, [2], 0, 0⟩, ⟨7, 0, 0, [1, 0], 0, 0⟩, ⟨2, 0, 1, [], 1, 0⟩, ⟨7, 0, 0, [1, 0], 0, 0⟩, ⟨7, 0, 0, [0, 0], 0, 0⟩, ⟨6, 0, 2, [1], 0, 0⟩, ⟨10, 0, 0, [2], 0, 0⟩, ⟨6, 0, 2, [0], 0, 0⟩, ⟨10, 0, 0, [2], 0, 0⟩, ⟨4, 11, 3, [0, 1], 0, 0⟩], ⟨2, 3, 2, 1, 0⟩⟩,
  ⟨[⟨9, 0, 2, [1], 0, 0⟩, ⟨8, 0, 0, [], 0, 0⟩, ⟨6, 0, 2, [1], 0, 0⟩, ⟨10, 0, 0, [2], 0, 0⟩], ⟨3, 0, 0, 0, 0⟩⟩,
  ⟨[], ⟨3, 0, 0, 0, 0⟩⟩]⟩
theorem chk_call : checkT [callG] = (0, 0) := by decide +kernel
theorem chk_loop : checkT [loopG] = (0, 0) := by decide +kernel
theorem chk_rows : checkT [rowsG] = (0, 0) := by decide +kernel
theorem tk_call : takesB [callG] 0 [7] = true := by decide +kernel
theorem tk_loop : takesB [loopG] 0 [7] = true := by decide +kernel
theorem tk_rows : takesB [rowsG] 0 [7] = true := by decide +kernel
theorem fit_call : ∀ i, i < [callG].length → FitG ([callG].getD i default) := fun i hi => by
  have : i = 0 := by simp at hi; omega
  subst this
  refine ⟨by decide, fun t ht => ?_⟩
  have : t = 0 := by have : ([callG].getD 0 default).blocks.length = 1 := rfl; omega
  subst this
  decide
theorem fit_loop : ∀ i, i < [loopG].length → FitG ([loopG].getD i default) := fun i hi => by
  have : i = 0 := by simp at hi; omega
  subst this
  refine ⟨by decide, fun t ht => ?_⟩
  have : t = 0 ∨ t = 1 := by have : ([loopG].getD 0 default).blocks.length = 2 := rfl; omega
  rcases this with rfl | rfl <;> decide
theorem fit_rows : ∀ i, i < [rowsG].length → FitG ([rowsG].getD i default) := fun i hi => by
  have : i = 0 := by simp at hi; omega
  subst this
  refine ⟨by decide, fun t ht => ?_⟩
  have : t = 0 ∨ t = 1 ∨ t = 2 := by have : ([rowsG].getD 0 default).blocks.length = 3 := rfl; omega
  rcases this with rfl | rfl | rfl <;> decide
/-- What a short run tells. -/
structure Ends (H : HS) (sh : List (Int × Int)) (fin val trap : Int) (steps deep : Nat) : Prop where
  shows : H.shows = sh
  fin : H.fin = fin
  val : H.val = val
  trap : H.trap = trap
  steps : H.steps = steps
  deep : H.deep = deep
set_option maxRecDepth 100000 in
theorem ends_a : Ends (endH [oneG] 0 1 0 [7]) [] 3 0 0 0 1 := by
  have h : (stH [oneG] 0 1 0 [7] 1).2 = false := by kernel_rfl
  rw [end_of (small_of fit_one).1.ins h]
  exact ⟨by kernel_rfl, by kernel_rfl, by kernel_rfl, by kernel_rfl, by kernel_rfl, by kernel_rfl⟩
set_option maxRecDepth 100000 in
theorem ends_b : Ends (endH [oneG] 1 0 0 [7]) [] 4 0 0 0 0 := by
  have h : (stH [oneG] 1 0 0 [7] 1).2 = false := by kernel_rfl
  rw [end_of (small_of fit_one).1.ins h]
  exact ⟨by kernel_rfl, by kernel_rfl, by kernel_rfl, by kernel_rfl, by kernel_rfl, by kernel_rfl⟩
set_option maxRecDepth 100000 in
theorem ends_d : Ends (endH [loopG] 4 1 0 [7]) [(4, 7), (4, 5), (4, 7)] 3 0 0 4 1 := by
  have h : (stH [loopG] 4 1 0 [7] 12).2 = false := by kernel_rfl
  rw [end_of (small_of fit_loop).1.ins h]
  exact ⟨by kernel_rfl, by kernel_rfl, by kernel_rfl, by kernel_rfl, by kernel_rfl, by kernel_rfl⟩
set_option maxRecDepth 100000 in
theorem ends_r : Ends (endH [rowsG] 9 9 0 [7]) [(4, 0), (4, 7), (4, 0), (4, 0), (4, 1), (4, 1), (4, 0)] 1 7 0 4 2 := by
  have h : (stH [rowsG] 9 9 0 [7] 60).2 = false := by kernel_rfl
  rw [end_of (small_of fit_rows).1.ins h]
  exact ⟨by kernel_rfl, by kernel_rfl, by kernel_rfl, by kernel_rfl, by kernel_rfl, by kernel_rfl⟩
end Go.Proofs.YtdgpdmohfnealaaGreatDoor
