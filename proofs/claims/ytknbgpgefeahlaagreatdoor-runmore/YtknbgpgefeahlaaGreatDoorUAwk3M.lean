/- The law is awake. -/
import Derived.Test.YtknbgpgefeahlaaGreatDoorUGreatM
namespace Go.Proofs.YtknbgpgefeahlaaGreatDoor
open Go.RowKit

theorem getD_two {P : List Gr} {p : Gr → Prop} (h : ∀ i, i < P.length → p (P.getD i default)) (h0 : p default) (g : Nat) : p (P.getD g default) := by
  rcases Nat.lt_or_ge g P.length with hg | hg
  · exact h g hg
  · rw [getD_ge hg]; exact h0
theorem small_of {P : List Gr} (h : ∀ i, i < P.length → FitG (P.getD i default)) : Small P 1600 ∧ most P 1600 := by
  have hF : ∀ g, FitG (P.getD g default) := fun g => getD_two h ⟨by decide, fun t ht => by have : (default : Gr).blocks.length = 0 := rfl; omega⟩ g
  have hI : most P 1600 := fun g t => by
    rcases Nat.lt_or_ge t (P.getD g default).blocks.length with ht | ht
    · exact (hF g).2 t ht
    · rw [getD_ge ht]; exact Nat.zero_le _
  refine ⟨⟨fun g => by have := (hF g).1; omega, fun g => by have := (hF g).1; unfold cellsOf; omega, by omega, fun g t => Nat.le_trans (hI g t) (by omega)⟩, hI⟩
theorem fit_one : ∀ i, i < [oneG].length → FitG ([oneG].getD i default) := fun i hi => by
  have : i = 0 := by simp at hi; omega
  subst this
  refine ⟨by decide, fun t ht => ?_⟩
  have : t = 0 := by have : ([oneG].getD 0 default).blocks.length = 1 := rfl; omega
  subst this
  decide
theorem fit_self : ∀ i, i < [selfG].length → FitG ([selfG].getD i default) := fun i hi => by
  have : i = 0 := by simp at hi; omega
  subst this
  refine ⟨by decide, fun t ht => ?_⟩
  have : t = 0 := by have : ([selfG].getD 0 default).blocks.length = 1 := rfl; omega
  subst this
  decide
theorem chk_one8 : checkT [oneG] = (0, 0) := by decide +kernel
theorem chk_self8 : checkT [selfG] = (0, 0) := by decide +kernel
theorem tk_one8 : takesB [oneG] 0 [7] = true := by decide +kernel
theorem tk_self8 : takesB [selfG] 0 [7] = true := by decide +kernel
theorem word7 : ∀ v, Sc.word ([(7 : Int)].getD v 0) := fun v => by
  cases v with
  | zero => show Sc.word 7; unfold Sc.word; omega
  | succ v => exact Sc.word_zero
set_option maxRecDepth 100000 in
/-- A program that is small and right, a graph that takes these words: what Run tells. -/
theorem run_small {P : List Gr} {ppv : Value} {f : Int} {av : Value} {xs : List Int} {lim dep : Nat} {w : World} (hp : GrsAt w ppv P) (hP : PartsAt w) (hS : ∀ i, i < P.length → FitG (P.getD i default)) (hlim : lim ≤ 600000) (hdep : dep ≤ 1800) (ha : WordsAt w av xs) (hw : ∀ v, Sc.word (xs.getD v 0)) (hc : (checkT P).1 = 0) (ht : takesB P f xs = true) :
    (Runs P f.toNat xs) ∧ Calls Tryz.prog 7 #[ppv, .int .i64 f, av, .int .i64 (lim : Int), .int .i64 (dep : Int)] w fun e w' => ∃ sv, e = .returned (.tuple #[.agg (trArr sv (endH P lim dep f.toNat xs)), .int .i64 0]) ∧ Below w.heap.size w w' ∧ w'.ownsRow w.heap.size 56 2 sv (endH P lim dep f.toNat xs).shows.length (flat shCells (endH P lim dep f.toNat xs).shows) ∧ ShowsAt w' sv (endH P lim dep f.toNat xs).shows := by
  obtain ⟨hs1, hs2⟩ := small_of hS
  have hgl : f.toNat < P.length := by
    have := ht
    unfold takesB at this
    rw [Bool.and_eq_true] at this
    have := inB_iff.1 this.1
    omega
  have hR : Runs P f.toNat xs := ⟨pOk_of hc, bits_at hp, hgl, hw, hs1.ins⟩
  have hL : lim * 1600 ≤ 1000000000 := by omega
  have hbd := fun n => stH_bound (lim := lim) (dep := dep) hR hs2 (by omega) hL n
  refine ⟨hR, (run_good (N := endN lim) hp hP hs1 (by omega) (by omega) ha hw hc ht (stH_ends hs1.ins _ _ _ _) hbd).mono ?_⟩
  rintro e w' ⟨sv, rfl, hb, ho⟩
  refine ⟨sv, rfl, hb, ho, shows_of ho ?_⟩
  exact Nat.le_trans (stH_shows (lim := lim) (dep := dep) hR hs2 (endN lim)) hL
end Go.Proofs.YtknbgpgefeahlaaGreatDoor
/- What Run tells, whatever is handed in. -/
namespace Go.Proofs.YtknbgpgefeahlaaGreatDoor
open Go.RowKit

structure Out where
  err : Int
  sh : List (Int × Int)
  fin : Int
  val : Int
  trap : Int
  st : Nat
  dp : Nat
noncomputable def outR (P : List Gr) (f : Int) (xs : List Int) (lim dep : Nat) : Out :=
  if (checkT P).1 = 0 then
    if takesB P f xs = true then ⟨0, (endH P lim dep f.toNat xs).shows, (endH P lim dep f.toNat xs).fin, (endH P lim dep f.toNat xs).val, (endH P lim dep f.toNat xs).trap, (endH P lim dep f.toNat xs).steps, (endH P lim dep f.toNat xs).deep⟩
    else ⟨2, [], 0, 0, 0, 0, 0⟩
  else ⟨(checkT P).1, [], 0, 0, 0, 0, 0⟩
abbrev outArr (sv : Value) (o : Out) : Array Value := #[sv, .int .u8 o.fin, .int .u64 o.val, .int .u8 o.trap, .int .i64 (o.st : Int), .int .i64 (o.dp : Int)]
set_option maxRecDepth 100000 in
theorem run_out {P : List Gr} {ppv : Value} {f : Int} {av : Value} {xs : List Int} {lim dep : Nat} {w : World} (hp : GrsAt w ppv P) (hP : PartsAt w) (hS : ∀ i, i < P.length → FitG (P.getD i default)) (hlim : lim ≤ 600000) (hdep : dep ≤ 1800) (ha : WordsAt w av xs) (hw : ∀ v, Sc.word (xs.getD v 0)) :
    Calls Tryz.prog 7 #[ppv, .int .i64 f, av, .int .i64 (lim : Int), .int .i64 (dep : Int)] w fun e w' => ∃ sv, e = .returned (.tuple #[.agg (outArr sv (outR P f xs lim dep)), .int .i64 (outR P f xs lim dep).err]) ∧ Below w.heap.size w w' ∧ w'.ownsRow w.heap.size 56 2 sv (outR P f xs lim dep).sh.length (flat shCells (outR P f xs lim dep).sh) ∧ ShowsAt w' sv (outR P f xs lim dep).sh := by
  obtain ⟨hs1, hs2⟩ := small_of hS
  have hck : ∀ W, Below w.heap.size w W → Calls Tryz.prog 14 #[ppv] W fun e w' => (∃ d, e = .returned (.tuple #[.int .i64 (checkT P).1, .int .i64 d])) ∧ Below W.heap.size W w' := fun W hW => by
    refine (check_any P _ W (hp.below hW) (hP.below hW) (fun _ G hG => ?_)).mono ?_
    · obtain ⟨i, hi⟩ := List.getElem?_of_mem hG
      have := hs1.blks i
      rw [getD_at hi] at this
      exact this
    · rintro e w' ⟨rfl, hb⟩
      exact ⟨⟨_, rfl⟩, hb⟩
  unfold outR
  by_cases hc : (checkT P).1 = 0
  · rw [if_pos hc]
    by_cases ht : takesB P f xs = true
    · rw [if_pos ht]
      refine (run_small hp hP hS hlim hdep ha hw hc ht).2.mono ?_
      rintro e w' ⟨sv, rfl, hb, ho, hs⟩
      exact ⟨sv, rfl, hb, ho, hs⟩
    · rw [if_neg ht]
      rw [hc] at hck
      refine (run_arg_walk (tk := false) (.inl rfl) hck (fun W hW => ?_)).mono ?_
      · refine (takes_any P _ _ _ xs W (hp.below hW) (pOk_of hc) (ha.below hW) hw).mono ?_
        rintro e w' ⟨rfl, k, rfl⟩
        exact ⟨by cases hq : takesB P f xs with | true => exact (ht hq).elim | false => rfl, below_drewN (Below.refl _ _) k⟩
      · rintro e w' ⟨rfl, hb⟩
        exact ⟨_, rfl, hb, World.ownsRow_nil _ _ _ _, row_nil _ _⟩
  · rw [if_neg hc]
    refine (run_check_walk (by simpa using hc) hck).mono ?_
    rintro e w' ⟨rfl, hb⟩
    exact ⟨_, rfl, hb, World.ownsRow_nil _ _ _ _, row_nil _ _⟩
/-- Two runs of the same, one with more steps and a greater depth. -/
theorem out_more {P : List Gr} {f : Int} {xs : List Int} (hS : ∀ i, i < P.length → FitG (P.getD i default)) (hb : ∀ g t k, Sc.word ((((P.getD g default).blocks.getD t default).ins).getD k default).bits) (hw : ∀ v, Sc.word (xs.getD v 0)) {lim lim' dep dep' : Nat} (hl : lim ≤ lim') (hd : dep ≤ dep') :
    (outR P f xs lim' dep').err = (outR P f xs lim dep).err ∧
    ((outR P f xs lim dep).err ≠ 0 ∧ outR P f xs lim dep = ⟨(outR P f xs lim dep).err, [], 0, 0, 0, 0, 0⟩ ∨
     (outR P f xs lim dep).err = 0 ∧ (outR P f xs lim dep).sh <+: (outR P f xs lim' dep').sh ∧ (outR P f xs lim dep).st ≤ (outR P f xs lim' dep').st ∧ (outR P f xs lim dep).dp ≤ (outR P f xs lim' dep').dp ∧ (outR P f xs lim dep).st ≤ lim ∧ (outR P f xs lim dep).dp ≤ dep ∧
      (((outR P f xs lim dep).fin = 3 ∧ (outR P f xs lim dep).st = lim) ∨ ((outR P f xs lim dep).fin = 4 ∧ (outR P f xs lim dep).dp = dep) ∨ (((outR P f xs lim dep).fin = 1 ∨ (outR P f xs lim dep).fin = 2) ∧ outR P f xs lim' dep' = outR P f xs lim dep ∧ outR P f xs (outR P f xs lim dep).st (outR P f xs lim dep).dp = outR P f xs lim dep))) := by
  by_cases hc : (checkT P).1 = 0
  · by_cases ht : takesB P f xs = true
    · have e : ∀ l d, outR P f xs l d = ⟨0, (endH P l d f.toNat xs).shows, (endH P l d f.toNat xs).fin, (endH P l d f.toNat xs).val, (endH P l d f.toNat xs).trap, (endH P l d f.toNat xs).steps, (endH P l d f.toNat xs).deep⟩ := fun l d => by
        unfold outR
        rw [if_pos hc, if_pos ht]
      have hgl : f.toNat < P.length := by
        have := ht
        unfold takesB at this
        rw [Bool.and_eq_true] at this
        have := inB_iff.1 this.1
        omega
      have hR : Runs P f.toNat xs := ⟨pOk_of hc, hb, hgl, hw, (small_of hS).1.ins⟩
      obtain ⟨m1, m2, m3, m4, m5, m6⟩ := more_plain hR hl hd
      rw [e lim dep, e lim' dep']
      refine ⟨rfl, .inr ⟨rfl, m1, m2, m3, m4, m5, ?_⟩⟩
      rcases m6 with m6 | m6 | ⟨m6, m7, m8⟩
      · exact .inl m6
      · exact .inr (.inl m6)
      · refine .inr (.inr ⟨m6, ?_, ?_⟩)
        · rw [m7]
        · dsimp only
          rw [e, m8]
    · have e : ∀ l d, outR P f xs l d = ⟨2, [], 0, 0, 0, 0, 0⟩ := fun l d => by
        unfold outR
        rw [if_pos hc, if_neg ht]
      rw [e lim dep, e lim' dep']
      exact ⟨rfl, .inl ⟨by decide, rfl⟩⟩
  · have e : ∀ l d, outR P f xs l d = ⟨(checkT P).1, [], 0, 0, 0, 0, 0⟩ := fun l d => by
      unfold outR
      rw [if_neg hc]
    rw [e lim dep, e lim' dep']
    exact ⟨rfl, .inl ⟨hc, rfl⟩⟩
end Go.Proofs.YtknbgpgefeahlaaGreatDoor
/- The law is awake: the walk. -/
namespace Go.Proofs.YtknbgpgefeahlaaGreatDoor
open Go.RowKit

theorem one_any' (w : World) : Calls Tryz.prog 12 #[] w fun e w' => ∃ g, e = .returned (sl g 1) ∧ GrsAt w' (sl g 1) [oneG] ∧ Below w.heap.size w w' := by
  refine (one_any w).mono ?_
  rintro e w' ⟨rfl, rfl⟩
  exact ⟨_, rfl, one_at w, allocs_below _ _⟩
theorem self_any' (w : World) : Calls Tryz.prog 13 #[] w fun e w' => ∃ g, e = .returned (sl g 1) ∧ GrsAt w' (sl g 1) [selfG] ∧ Below w.heap.size w w' := by
  refine (self_any w).mono ?_
  rintro e w' ⟨rfl, rfl⟩
  exact ⟨_, rfl, self_at w, allocs_below _ _⟩
theorem words7 (w : World) : WordsAt (w.alloc (.cells #[.int .u64 7] 28)) (sl w.heap.size 1) [7] := row_lit (t := 28) 1 (heap_alloc_new w _) (by omega)
set_option maxRecDepth 100000 in
theorem end_one : (endH [oneG] 1 1 0 [7]).shows = [] ∧ (endH [oneG] 1 1 0 [7]).fin = 1 ∧ (endH [oneG] 1 1 0 [7]).val = 7 ∧ (endH [oneG] 1 1 0 [7]).trap = 0 ∧ (endH [oneG] 1 1 0 [7]).steps = 1 ∧ (endH [oneG] 1 1 0 [7]).deep = 1 := by
  have hK : most [oneG] 1000000 := (small_of fit_one).1.ins
  have h : (stH [oneG] 1 1 0 [7] 1).2 = false := by kernel_rfl
  rw [end_of hK h]
  exact ⟨by kernel_rfl, by kernel_rfl, by kernel_rfl, by kernel_rfl, by kernel_rfl, by kernel_rfl⟩
set_option maxRecDepth 100000 in
theorem end_self : (endH [selfG] 9 2 0 [7]).shows = [(4, 7), (4, 7)] ∧ (endH [selfG] 9 2 0 [7]).fin = 4 ∧ (endH [selfG] 9 2 0 [7]).val = 0 ∧ (endH [selfG] 9 2 0 [7]).trap = 0 ∧ (endH [selfG] 9 2 0 [7]).steps = 2 ∧ (endH [selfG] 9 2 0 [7]).deep = 2 := by
  have hK : most [selfG] 1000000 := (small_of fit_self).1.ins
  have h : (stH [selfG] 9 2 0 [7] 4).2 = false := by kernel_rfl
  rw [end_of hK h]
  exact ⟨by kernel_rfl, by kernel_rfl, by kernel_rfl, by kernel_rfl, by kernel_rfl, by kernel_rfl⟩
set_option maxRecDepth 100000 in
theorem run_one (W : World) (v av : Value) (hp : GrsAt W v [oneG]) (hP : PartsAt W) (ha : WordsAt W av [7]) : Calls Tryz.prog 7 #[v, .int .i64 0, av, .int .i64 1, .int .i64 1] W fun e w' => ∃ sa sn sc, e = .returned (.tuple #[.agg #[.slice sa sn sc, .int .u8 1, .int .u64 7, .int .u8 0, .int .i64 1, .int .i64 1], .int .i64 0]) ∧ Below W.heap.size W w' ∧ ShowsAt w' (.slice sa sn sc) [] := by
  obtain ⟨e1, e2, e3, e4, e5, e6⟩ := end_one
  refine (run_small (lim := 1) (dep := 1) hp hP fit_one (by omega) (by omega) ha word7 (by rw [chk_one8]) tk_one8).2.mono ?_
  rintro e w' ⟨sv, rfl, hb, _, hs⟩
  have e0 : (0 : Int).toNat = 0 := rfl
  rw [e0] at hs ⊢
  unfold trArr
  rw [e1] at hs
  rw [e2, e3, e4, e5, e6]
  obtain ⟨sa, sc, rfl, _, _⟩ := show_form hs
  exact ⟨sa, _, sc, rfl, hb, hs⟩
set_option maxRecDepth 100000 in
theorem run_self (W : World) (v av : Value) (hp : GrsAt W v [selfG]) (hP : PartsAt W) (ha : WordsAt W av [7]) : Calls Tryz.prog 7 #[v, .int .i64 0, av, .int .i64 9, .int .i64 2] W fun e w' => ∃ sa sn sc, e = .returned (.tuple #[.agg #[.slice sa sn sc, .int .u8 4, .int .u64 0, .int .u8 0, .int .i64 2, .int .i64 2], .int .i64 0]) ∧ Below W.heap.size W w' ∧ ShowsAt w' (.slice sa sn sc) [(4, 7), (4, 7)] := by
  obtain ⟨e1, e2, e3, e4, e5, e6⟩ := end_self
  refine (run_small (lim := 9) (dep := 2) hp hP fit_self (by omega) (by omega) ha word7 (by rw [chk_self8]) tk_self8).2.mono ?_
  rintro e w' ⟨sv, rfl, hb, _, hs⟩
  have e0 : (0 : Int).toNat = 0 := rfl
  rw [e0] at hs ⊢
  unfold trArr
  rw [e1] at hs
  rw [e2, e3, e4, e5, e6]
  obtain ⟨sa, sc, rfl, _, _⟩ := show_form hs
  exact ⟨sa, _, sc, rfl, hb, hs⟩
theorem shows_nil (w : World) : ShowsAt w (.slice none 0 0) [] := row_nil _ _
theorem shows_two (w : World) : ShowsAt (w.alloc (.cells #[.int .u8 4, .int .u64 7, .int .u8 4, .int .u64 7] 56)) (sl w.heap.size 2) [(4, 7), (4, 7)] := row_lit (t := 56) 2 (heap_alloc_new w _) (by omega)
set_option maxRecDepth 100000 in
set_option maxHeartbeats 4000000 in
theorem awake_any (w : World) (hP : PartsAt w) : Calls Tryz.prog 6 #[] w fun e w' => e = .returned (.bool true) ∧ Below w.heap.size w w' := by
  have HO : Hid (∀ W, Calls Tryz.prog 12 #[] W fun e w' => ∃ g, e = .returned (sl g 1) ∧ GrsAt w' (sl g 1) [oneG] ∧ Below W.heap.size W w') := one_any'
  have HI : Hid (∀ W, Calls Tryz.prog 13 #[] W fun e w' => ∃ g, e = .returned (sl g 1) ∧ GrsAt w' (sl g 1) [selfG] ∧ Below W.heap.size W w') := self_any'
  have HPP : Hid (∀ W, Below w.heap.size w W → PartsAt W) := fun W hW => hP.below hW
  have HR1 : Hid (∀ W v, GrsAt W v [oneG] → Below w.heap.size w W → Calls Tryz.prog 7 #[v, .int .i64 0, sl W.heap.size 1, .int .i64 1, .int .i64 1] (W.alloc (.cells #[.int .u64 7] 28)) fun e w' => ∃ sa sn sc, e = .returned (.tuple #[.agg #[.slice sa sn sc, .int .u8 1, .int .u64 7, .int .u8 0, .int .i64 1, .int .i64 1], .int .i64 0]) ∧ Below W.heap.size W w' ∧ ShowsAt w' (.slice sa sn sc) []) := fun W v hg hb => by
    have hb1 := below_alloc (Below.refl W.heap.size W) (.cells #[.int .u64 7] 28)
    refine (run_one _ v _ (hg.below hb1) (HPP.out _ (below_trans hb hb1)) (words7 W)).mono ?_
    rintro e w' ⟨sa, sn, sc, he, hbb, hs⟩
    exact ⟨sa, sn, sc, he, below_trans hb1 hbb, hs⟩
  have HR2 : Hid (∀ W v, GrsAt W v [selfG] → Below w.heap.size w W → Calls Tryz.prog 7 #[v, .int .i64 0, sl W.heap.size 1, .int .i64 9, .int .i64 2] (W.alloc (.cells #[.int .u64 7] 28)) fun e w' => ∃ sa sn sc, e = .returned (.tuple #[.agg #[.slice sa sn sc, .int .u8 4, .int .u64 0, .int .u8 0, .int .i64 2, .int .i64 2], .int .i64 0]) ∧ Below W.heap.size W w' ∧ ShowsAt w' (.slice sa sn sc) [(4, 7), (4, 7)]) := fun W v hg hb => by
    have hb1 := below_alloc (Below.refl W.heap.size W) (.cells #[.int .u64 7] 28)
    refine (run_self _ v _ (hg.below hb1) (HPP.out _ (below_trans hb hb1)) (words7 W)).mono ?_
    rintro e w' ⟨sa, sn, sc, he, hbb, hs⟩
    exact ⟨sa, sn, sc, he, below_trans hb1 hbb, hs⟩
  have HS1 : Hid (∀ W v, ShowsAt W v [] → Calls Tryz.prog 9 #[.agg #[v, .int .u8 1, .int .u64 7, .int .u8 0, .int .i64 1, .int .i64 1], .agg #[.slice none 0 0, .int .u8 1, .int .u64 7, .int .u8 0, .int .i64 1, .int .i64 1]] W fun e w' => e = .returned (.bool true) ∧ Below W.heap.size W w') := fun W v hv => sameTr_yes [] v _ _ _ _ _ _ W hv (shows_nil W)
  have HS2 : Hid (∀ W v, ShowsAt W v [(4, 7), (4, 7)] → Calls Tryz.prog 9 #[.agg #[v, .int .u8 4, .int .u64 0, .int .u8 0, .int .i64 2, .int .i64 2], .agg #[sl W.heap.size 2, .int .u8 4, .int .u64 0, .int .u8 0, .int .i64 2, .int .i64 2]] (W.alloc (.cells #[.int .u8 4, .int .u64 7, .int .u8 4, .int .u64 7] 56)) fun e w' => e = .returned (.bool true) ∧ Below W.heap.size W w') := fun W v hv => by
    have hb1 := below_alloc (Below.refl W.heap.size W) (.cells #[.int .u8 4, .int .u64 7, .int .u8 4, .int .u64 7] 56)
    refine (sameTr_yes [(4, 7), (4, 7)] v _ _ _ _ _ _ _ (hv.below hb1) (shows_two W)).mono ?_
    rintro e w' ⟨he, hb⟩
    exact ⟨he, below_trans hb1 hb⟩
  clear hP
  have T1 : True := trivial
  have T2 : True := trivial
  have T3 : True := trivial
  go_enter Tryz.func6, Tryz.ntmps6
  go_wp2_with (first
    | (go_at_call 12; refine Calls.mono (by exact HO.out _) ?_; rintro e w1 ⟨g1, rfl, hg, hb⟩; have HG1 : Hid _ := hg; have HB1 : Hid (Below w.heap.size w w1) := hb; clear hg hb)
    | (go_at_call 7; clear T1; refine Calls.mono (by exact HR1.out _ _ HG1.out HB1.out) ?_; rintro e w2 ⟨sa, sn, sc, rfl, hb, hs⟩; have HB2 : Hid (Below w.heap.size w w2) := below_trans HB1.out hb; have HSH : Hid (ShowsAt w2 (.slice sa sn sc) []) := hs; clear hb hs)
    | (go_at_call 13; refine Calls.mono (by exact HI.out _) ?_; rintro e w4 ⟨g2, rfl, hg, hb⟩; have HG2 : Hid _ := hg; have HB4 : Hid (Below w.heap.size w w4) := below_trans (below_alloc HB2.out _) hb; have HBX : Hid (Below (w2.alloc _).heap.size (w2.alloc _) w4) := hb; have HSH4 : Hid (ShowsAt w4 (.slice sa sn sc) []) := HSH.out.below (below_trans (below_alloc (Below.refl _ _) _) hb); have hbox := (Box.new w2 [.slice sa sn sc, .int .u8 1, .int .u64 7, .int .u8 0, .int .i64 1, .int .i64 1] 31).below hb; have HBOX : Hid _ := hbox; clear hg hb hbox)
    | (go_at_call 7; clear T2; refine Calls.mono (by exact HR2.out _ _ HG2.out HB4.out) ?_; rintro e w5 ⟨sa2, sn2, sc2, rfl, hb, hs⟩; have HB5 : Hid (Below w.heap.size w w5) := below_trans HB4.out hb; have HSH5 : Hid (ShowsAt w5 (.slice sa2 sn2 sc2) [(4, 7), (4, 7)]) := hs; have HSH1 : Hid (ShowsAt w5 (.slice sa sn sc) []) := HSH4.out.below hb; have hbox := HBOX.out.below hb; have hbx : ∀ ob, Box (w5.alloc ob) w2.heap.size [.slice sa sn sc, .int .u8 1, .int .u64 7, .int .u8 0, .int .i64 1, .int .i64 1] := fun ob => hbox.below (below_alloc (Below.refl _ _) ob); have k0 := fun ob => (hbx ob).cell 0 _ rfl; have k1 := fun ob => (hbx ob).cell 1 _ rfl; have k2 := fun ob => (hbx ob).cell 2 _ rfl; have k3 := fun ob => (hbx ob).cell 3 _ rfl; have k4 := fun ob => (hbx ob).cell 4 _ rfl; have k5 := fun ob => (hbx ob).cell 5 _ rfl; clear hb hs hbox hbx)
    | (go_at_call 9; clear T3; refine Calls.mono (by exact HS1.out _ _ (HSH1.out.below (below_alloc (Below.refl _ _) _))) ?_; rintro e w6 ⟨rfl, hb⟩; clear k0 k1 k2 k3 k4 k5; have HB6 : Hid (Below w.heap.size w w6) := below_trans (below_alloc HB5.out _) hb; have HSH6 : Hid (ShowsAt w6 (.slice sa2 sn2 sc2) [(4, 7), (4, 7)]) := HSH5.out.below (below_trans (below_alloc (Below.refl _ _) _) hb); have hbox := (Box.new w5 [.slice sa2 sn2 sc2, .int .u8 4, .int .u64 0, .int .u8 0, .int .i64 2, .int .i64 2] 31).below hb; have k0 := hbox.cell 0 _ rfl; have k1 := hbox.cell 1 _ rfl; have k2 := hbox.cell 2 _ rfl; have k3 := hbox.cell 3 _ rfl; have k4 := hbox.cell 4 _ rfl; have k5 := hbox.cell 5 _ rfl; clear hb hbox)
    | (go_at_call 9; clear k0 k1 k2 k3 k4 k5; refine Calls.mono (by exact HS2.out _ _ HSH6.out) ?_; rintro e w7 ⟨rfl, hb⟩; have HB7 : Hid (Below w.heap.size w w7) := below_trans HB6.out hb; clear hb))
  go_ret
  exact ⟨rfl, HB7.out⟩
end Go.Proofs.YtknbgpgefeahlaaGreatDoor
