/- The law is awake: the walk. -/
import Derived.Test.YtdgpdmohfnealaaGreatDoorUNum0M
import Derived.Test.YtdgpdmohfnealaaGreatDoorUNum1
namespace Go.Proofs.YtdgpdmohfnealaaGreatDoor
open Go.RowKit

theorem one_any' (w : World) : Calls Tryz.prog 5 #[] w fun e w' => ∃ g, e = .returned (sl g 1) ∧ GrsAt w' (sl g 1) [oneG] ∧ Below w.heap.size w w' := by
  refine (one_any w).mono ?_
  rintro e w' ⟨rfl, rfl⟩
  exact ⟨_, rfl, one_at w, allocs_below _ _⟩
theorem self_any' (w : World) : Calls Tryz.prog 7 #[] w fun e w' => ∃ g, e = .returned (sl g 1) ∧ GrsAt w' (sl g 1) [selfG] ∧ Below w.heap.size w w' := by
  refine (self_any w).mono ?_
  rintro e w' ⟨rfl, rfl⟩
  exact ⟨_, rfl, self_at w, allocs_below _ _⟩
theorem words7 (w : World) : WordsAt (w.alloc (.cells #[.int .u64 7] 24)) (sl w.heap.size 1) [7] := row_lit (t := 24) 1 (heap_alloc_new w _) (by omega)
set_option maxRecDepth 100000 in
theorem end_one : (endH [oneG] 1 1 0 [7]).shows = [] ∧ (endH [oneG] 1 1 0 [7]).fin = 1 ∧ (endH [oneG] 1 1 0 [7]).val = 7 ∧ (endH [oneG] 1 1 0 [7]).trap = 0 ∧ (endH [oneG] 1 1 0 [7]).steps = 1 ∧ (endH [oneG] 1 1 0 [7]).deep = 1 := by
  have hK : most [oneG] 1000000 := (small_of fit_one).1.ins
  have h : (stH [oneG] 1 1 0 [7] 1).2 = false := by kernel_rfl
  rw [end_of hK h]
  exact ⟨by kernel_rfl, by kernel_rfl, by kernel_rfl, by kernel_rfl, by kernel_rfl, by kernel_rfl⟩
set_option maxRecDepth 100000 in
theorem end_self : (endH [selfG] 9 2 0 [7]).shows = [(4, 7), (4, 7)] ∧ (endH [selfG] 9 2 0 [7]).fin = 4 ∧ (endH [selfG] 9 2 0 [7]).val = 0 ∧ (endH [selfG] 9 2 0 [7]).trap = 0 ∧ (endH [selfG] 9 2 0 [7]).steps = 2 ∧ (endH [selfG] 9 2 0 [7]).deep = 2 := by
  have hK : most [selfG] 1000000 := (small_of fit_self).1.ins
  have h : (stH [selfG] 9 2 0 [7] 4).2 = false := by kernel_rfl
  rw [end_of hK h]
  exact ⟨by kernel_rfl, by kernel_rfl, by kernel_rfl, by kernel_rfl, by kernel_rfl, by kernel_rfl⟩
set_option maxRecDepth 100000 in
theorem run_one (W : World) (v av : Value) (hp : GrsAt W v [oneG]) (hP : PartsAt W) (ha : WordsAt W av [7]) : Calls Tryz.prog 4 #[v, .int .i64 0, av, .int .i64 1, .int .i64 1] W fun e w' => ∃ sa sn sc, e = .returned (.tuple #[.agg #[.slice sa sn sc, .int .u8 1, .int .u64 7, .int .u8 0, .int .i64 1, .int .i64 1], .int .i64 0]) ∧ Below W.heap.size W w' ∧ ShowsAt w' (.slice sa sn sc) [] := by
  obtain ⟨e1, e2, e3, e4, e5, e6⟩ := end_one
  refine (run_small (lim := 1) (dep := 1) hp hP fit_one (by omega) (by omega) ha word7 (by rw [chk_one8]) tk_one8).2.mono ?_
  rintro e w' ⟨sv, rfl, hb, _, hs⟩
  have e0 : (0 : Int).toNat = 0 := rfl
  rw [e0] at hs ⊢
  unfold trArr
  rw [e1] at hs
  rw [e2, e3, e4, e5, e6]
  obtain ⟨sa, sc, rfl, _, _⟩ := show_form hs
  exact ⟨sa, _, sc, rfl, hb, hs⟩
set_option maxRecDepth 100000 in
theorem run_self (W : World) (v av : Value) (hp : GrsAt W v [selfG]) (hP : PartsAt W) (ha : WordsAt W av [7]) : Calls Tryz.prog 4 #[v, .int .i64 0, av, .int .i64 9, .int .i64 2] W fun e w' => ∃ sa sn sc, e = .returned (.tuple #[.agg #[.slice sa sn sc, .int .u8 4, .int .u64 0, .int .u8 0, .int .i64 2, .int .i64 2], .int .i64 0]) ∧ Below W.heap.size W w' ∧ ShowsAt w' (.slice sa sn sc) [(4, 7), (4, 7)] := by
  obtain ⟨e1, e2, e3, e4, e5, e6⟩ := end_self
  refine (run_small (lim := 9) (dep := 2) hp hP fit_self (by omega) (by omega) ha word7 (by rw [chk_self8]) tk_self8).2.mono ?_
  rintro e w' ⟨sv, rfl, hb, _, hs⟩
  have e0 : (0 : Int).toNat = 0 := rfl
  rw [e0] at hs ⊢
  unfold trArr
  rw [e1] at hs
  rw [e2, e3, e4, e5, e6]
  obtain ⟨sa, sc, rfl, _, _⟩ := show_form hs
  exact ⟨sa, _, sc, rfl, hb, hs⟩
theorem shows_nil (w : World) : ShowsAt w (.slice none 0 0) [] := row_nil _ _
theorem shows_two (w : World) : ShowsAt (w.alloc (.cells #[.int .u8 4, .int .u64 7, .int .u8 4, .int .u64 7] 54)) (sl w.heap.size 2) [(4, 7), (4, 7)] := row_lit (t := 54) 2 (heap_alloc_new w _) (by omega)
set_option maxRecDepth 100000 in
set_option maxHeartbeats 4000000 in
theorem awake_any (w : World) (hP : PartsAt w) : Calls Tryz.prog 9 #[] w fun e w' => e = .returned (.bool true) ∧ Below w.heap.size w w' := by
  have HO : Hid (∀ W, Calls Tryz.prog 5 #[] W fun e w' => ∃ g, e = .returned (sl g 1) ∧ GrsAt w' (sl g 1) [oneG] ∧ Below W.heap.size W w') := one_any'
  have HI : Hid (∀ W, Calls Tryz.prog 7 #[] W fun e w' => ∃ g, e = .returned (sl g 1) ∧ GrsAt w' (sl g 1) [selfG] ∧ Below W.heap.size W w') := self_any'
  have HPP : Hid (∀ W, Below w.heap.size w W → PartsAt W) := fun W hW => hP.below hW
  have HR1 : Hid (∀ W v, GrsAt W v [oneG] → Below w.heap.size w W → Calls Tryz.prog 4 #[v, .int .i64 0, sl W.heap.size 1, .int .i64 1, .int .i64 1] (W.alloc (.cells #[.int .u64 7] 24)) fun e w' => ∃ sa sn sc, e = .returned (.tuple #[.agg #[.slice sa sn sc, .int .u8 1, .int .u64 7, .int .u8 0, .int .i64 1, .int .i64 1], .int .i64 0]) ∧ Below W.heap.size W w' ∧ ShowsAt w' (.slice sa sn sc) []) := fun W v hg hb => by
    have hb1 := below_alloc (Below.refl W.heap.size W) (.cells #[.int .u64 7] 24)
    refine (run_one _ v _ (hg.below hb1) (HPP.out _ (below_trans hb hb1)) (words7 W)).mono ?_
    rintro e w' ⟨sa, sn, sc, he, hbb, hs⟩
    exact ⟨sa, sn, sc, he, below_trans hb1 hbb, hs⟩
  have HR2 : Hid (∀ W v, GrsAt W v [selfG] → Below w.heap.size w W → Calls Tryz.prog 4 #[v, .int .i64 0, sl W.heap.size 1, .int .i64 9, .int .i64 2] (W.alloc (.cells #[.int .u64 7] 24)) fun e w' => ∃ sa sn sc, e = .returned (.tuple #[.agg #[.slice sa sn sc, .int .u8 4, .int .u64 0, .int .u8 0, .int .i64 2, .int .i64 2], .int .i64 0]) ∧ Below W.heap.size W w' ∧ ShowsAt w' (.slice sa sn sc) [(4, 7), (4, 7)]) := fun W v hg hb => by
    have hb1 := below_alloc (Below.refl W.heap.size W) (.cells #[.int .u64 7] 24)
    refine (run_self _ v _ (hg.below hb1) (HPP.out _ (below_trans hb hb1)) (words7 W)).mono ?_
    rintro e w' ⟨sa, sn, sc, he, hbb, hs⟩
    exact ⟨sa, sn, sc, he, below_trans hb1 hbb, hs⟩
  have HS1 : Hid (∀ W v, ShowsAt W v [] → Calls Tryz.prog 6 #[.agg #[v, .int .u8 1, .int .u64 7, .int .u8 0, .int .i64 1, .int .i64 1], .agg #[.slice none 0 0, .int .u8 1, .int .u64 7, .int .u8 0, .int .i64 1, .int .i64 1]] W fun e w' => e = .returned (.bool true) ∧ Below W.heap.size W w') := fun W v hv => sameTr_yes [] v _ _ _ _ _ _ W hv (shows_nil W)
  have HS2 : Hid (∀ W v, ShowsAt W v [(4, 7), (4, 7)] → Calls Tryz.prog 6 #[.agg #[v, .int .u8 4, .int .u64 0, .int .u8 0, .int .i64 2, .int .i64 2], .agg #[sl W.heap.size 2, .int .u8 4, .int .u64 0, .int .u8 0, .int .i64 2, .int .i64 2]] (W.alloc (.cells #[.int .u8 4, .int .u64 7, .int .u8 4, .int .u64 7] 54)) fun e w' => e = .returned (.bool true) ∧ Below W.heap.size W w') := fun W v hv => by
    have hb1 := below_alloc (Below.refl W.heap.size W) (.cells #[.int .u8 4, .int .u64 7, .int .u8 4, .int .u64 7] 54)
    refine (sameTr_yes [(4, 7), (4, 7)] v _ _ _ _ _ _ _ (hv.below hb1) (shows_two W)).mono ?_
    rintro e w' ⟨he, hb⟩
    exact ⟨he, below_trans hb1 hb⟩
  clear hP
  have T1 : True := trivial
  have T2 : True := trivial
  have T3 : True := trivial
  go_enter Tryz.func9, Tryz.ntmps9
  go_wp2_with (first
    | (go_at_call 5; refine Calls.mono (by exact HO.out _) ?_; rintro e w1 ⟨g1, rfl, hg, hb⟩; have HG1 : Hid _ := hg; have HB1 : Hid (Below w.heap.size w w1) := hb; clear hg hb)
    | (go_at_call 4; clear T1; refine Calls.mono (by exact HR1.out _ _ HG1.out HB1.out) ?_; rintro e w2 ⟨sa, sn, sc, rfl, hb, hs⟩; have HB2 : Hid (Below w.heap.size w w2) := below_trans HB1.out hb; have HSH : Hid (ShowsAt w2 (.slice sa sn sc) []) := hs; clear hb hs)
    | (go_at_call 7; refine Calls.mono (by exact HI.out _) ?_; rintro e w4 ⟨g2, rfl, hg, hb⟩; have HG2 : Hid _ := hg; have HB4 : Hid (Below w.heap.size w w4) := below_trans (below_alloc HB2.out _) hb; have HBX : Hid (Below (w2.alloc _).heap.size (w2.alloc _) w4) := hb; have HSH4 : Hid (ShowsAt w4 (.slice sa sn sc) []) := HSH.out.below (below_trans (below_alloc (Below.refl _ _) _) hb); have hbox := (Box.new w2 [.slice sa sn sc, .int .u8 1, .int .u64 7, .int .u8 0, .int .i64 1, .int .i64 1] 27).below hb; have HBOX : Hid _ := hbox; clear hg hb hbox)
    | (go_at_call 4; clear T2; refine Calls.mono (by exact HR2.out _ _ HG2.out HB4.out) ?_; rintro e w5 ⟨sa2, sn2, sc2, rfl, hb, hs⟩; have HB5 : Hid (Below w.heap.size w w5) := below_trans HB4.out hb; have HSH5 : Hid (ShowsAt w5 (.slice sa2 sn2 sc2) [(4, 7), (4, 7)]) := hs; have HSH1 : Hid (ShowsAt w5 (.slice sa sn sc) []) := HSH4.out.below hb; have hbox := HBOX.out.below hb; have hbx : ∀ ob, Box (w5.alloc ob) w2.heap.size [.slice sa sn sc, .int .u8 1, .int .u64 7, .int .u8 0, .int .i64 1, .int .i64 1] := fun ob => hbox.below (below_alloc (Below.refl _ _) ob); have k0 := fun ob => (hbx ob).cell 0 _ rfl; have k1 := fun ob => (hbx ob).cell 1 _ rfl; have k2 := fun ob => (hbx ob).cell 2 _ rfl; have k3 := fun ob => (hbx ob).cell 3 _ rfl; have k4 := fun ob => (hbx ob).cell 4 _ rfl; have k5 := fun ob => (hbx ob).cell 5 _ rfl; clear hb hs hbox hbx)
    | (go_at_call 6; clear T3; refine Calls.mono (by exact HS1.out _ _ (HSH1.out.below (below_alloc (Below.refl _ _) _))) ?_; rintro e w6 ⟨rfl, hb⟩; clear k0 k1 k2 k3 k4 k5; have HB6 : Hid (Below w.heap.size w w6) := below_trans (below_alloc HB5.out _) hb; have HSH6 : Hid (ShowsAt w6 (.slice sa2 sn2 sc2) [(4, 7), (4, 7)]) := HSH5.out.below (below_trans (below_alloc (Below.refl _ _) _) hb); have hbox := (Box.new w5 [.slice sa2 sn2 sc2, .int .u8 4, .int .u64 0, .int .u8 0, .int .i64 2, .int .i64 2] 27).below hb; have k0 := hbox.cell 0 _ rfl; have k1 := hbox.cell 1 _ rfl; have k2 := hbox.cell 2 _ rfl; have k3 := hbox.cell 3 _ rfl; have k4 := hbox.cell 4 _ rfl; have k5 := hbox.cell 5 _ rfl; clear hb hbox)
    | (go_at_call 6; clear k0 k1 k2 k3 k4 k5; refine Calls.mono (by exact HS2.out _ _ HSH6.out) ?_; rintro e w7 ⟨rfl, hb⟩; have HB7 : Hid (Below w.heap.size w w7) := below_trans HB6.out hb; clear hb))
  go_ret
  exact ⟨rfl, HB7.out⟩
end Go.Proofs.YtdgpdmohfnealaaGreatDoor
/- What Run tells of the law's own programs. -/
namespace Go.Proofs.YtdgpdmohfnealaaGreatDoor
open Go.RowKit

abbrev Tells (w : World) (e : Ending) (w' : World) (sh : List (Int × Int)) (fin val trap st dp : Int) : Prop := ∃ sa sn sc, e = .returned (.tuple #[.agg #[.slice sa sn sc, .int .u8 fin, .int .u64 val, .int .u8 trap, .int .i64 st, .int .i64 dp], .int .i64 0]) ∧ Below w.heap.size w w' ∧ ShowsAt w' (.slice sa sn sc) sh
set_option maxRecDepth 100000 in
theorem run_ends {G : Gr} {lim dep : Nat} {sh : List (Int × Int)} {fin val trap : Int} {st dp : Nat} (hE : Ends (endH [G] lim dep 0 [7]) sh fin val trap st dp) (hF : ∀ i, i < [G].length → FitG ([G].getD i default)) (hc : (checkT [G]).1 = 0) (ht : takesB [G] 0 [7] = true) (hl : lim ≤ 600000) (hd : dep ≤ 1800) (W : World) (v av : Value) (hp : GrsAt W v [G]) (hP : PartsAt W) (ha : WordsAt W av [7]) :
    Calls Tryz.prog 4 #[v, .int .i64 0, av, .int .i64 (lim : Int), .int .i64 (dep : Int)] W fun e w' => Tells W e w' sh fin val trap st dp := by
  obtain ⟨e1, e2, e3, e4, e5, e6⟩ := hE
  refine (run_small (lim := lim) (dep := dep) hp hP hF hl hd ha word7 hc ht).2.mono ?_
  rintro e w' ⟨sv, rfl, hb, _, hs⟩
  have e0 : (0 : Int).toNat = 0 := rfl
  rw [e0] at hs ⊢
  unfold trArr
  rw [e1] at hs
  rw [e2, e3, e4, e5, e6]
  obtain ⟨sa, sc, rfl, _, _⟩ := show_form hs
  exact ⟨sa, _, sc, rfl, hb, hs⟩
theorem small_call : Small [callG] 1 := by
  refine ⟨fun g => ?_, fun g => ?_, by omega, fun g t => ?_⟩
  · exact (small_of fit_call).1.blks g
  · exact getD_two (P := [callG]) (p := fun G => cellsOf G ≤ 1) (fun i hi => by
      have : i = 0 := by simp at hi; omega
      subst this
      decide) (by decide) g
  · exact (small_of fit_call).1.ins g t
set_option maxRecDepth 100000 in
theorem run_call (W : World) (v av : Value) (hp : GrsAt W v [callG]) (hP : PartsAt W) (ha : WordsAt W av [7]) : Calls Tryz.prog 4 #[v, .int .i64 0, av, .int .i64 1099511627776, .int .i64 1000000] W fun e w' => Tells W e w' [] 4 0 0 1000000 1000000 := by
  obtain ⟨L, hL⟩ : ∃ L : Nat, L = 1099511627776 := ⟨_, rfl⟩
  obtain ⟨D, hD⟩ : ∃ D : Nat, D = 1000000 := ⟨_, rfl⟩
  have eL : (1099511627776 : Int) = (L : Int) := by omega
  have eD : (1000000 : Int) = (D : Int) := by omega
  rw [eL, eD]
  have e0 : (0 : Int).toNat = 0 := rfl
  have hst := st_deep (lim := L) (dep := D) (by omega) (by omega)
  refine (run_good (lim := L) (dep := D) (C := 1) (N := D) (f := 0) (xs := [7]) hp hP small_call (by omega) (by omega) ha word7 (by rw [chk_call]) tk_call (by rw [e0, hst]) (fun n ht => ?_)).mono ?_
  · rw [e0] at ht ⊢
    obtain ⟨h1, h2⟩ := st_bd (lim := L) (dep := D) (by omega) (by omega) n ht
    rw [h2]
    exact ⟨by omega, Nat.zero_le _⟩
  · rintro e w' ⟨sv, rfl, hb, ho⟩
    rw [e0, hst] at ho ⊢
    unfold trArr
    have hs : ShowsAt w' sv [] := shows_of ho (Nat.zero_le _)
    obtain ⟨sa, sc, rfl, _, _⟩ := show_form hs
    exact ⟨sa, _, sc, rfl, hb, hs⟩
theorem run_bad {P : List Gr} {c f st dp : Int} {v av : Value} {W : World} (hp : GrsAt W v P) (hP : PartsAt W) (hb : P.length ≤ 64 → ∀ G ∈ P, G.blocks.length ≤ 100000) (hc : (checkT P).1 = c) (h0 : (c != 0) = true) :
    Calls Tryz.prog 4 #[v, .int .i64 f, av, .int .i64 st, .int .i64 dp] W fun e w' => e = .returned (.tuple #[.agg zTrace, .int .i64 c]) ∧ Below W.heap.size W w' :=
  run_check_walk h0 (fun W1 h1 => (check_any P v W1 (hp.below h1) (hP.below h1) hb).mono fun e w' ⟨he, hbb⟩ => ⟨⟨(checkT P).2, by rw [he, hc]⟩, hbb⟩)
theorem run_arg {P : List Gr} {f st dp : Int} {v av : Value} {xs : List Int} {W : World} (hp : GrsAt W v P) (hP : PartsAt W) (hb : ∀ G ∈ P, G.blocks.length ≤ 100000) (hc : (checkT P).1 = 0) (ha : WordsAt W av xs) (hw : ∀ i, Sc.word (xs.getD i 0)) (h : takesB P f xs = false ∨ st < 0 ∨ dp < 0) :
    Calls Tryz.prog 4 #[v, .int .i64 f, av, .int .i64 st, .int .i64 dp] W fun e w' => e = .returned (.tuple #[.agg zTrace, .int .i64 2]) ∧ Below W.heap.size W w' :=
  run_arg_walk (tk := takesB P f xs) h (fun W1 h1 => (check_any P v W1 (hp.below h1) (hP.below h1) (fun _ => hb)).mono fun e w' ⟨he, hbb⟩ => ⟨⟨(checkT P).2, by rw [he, hc]⟩, hbb⟩)
    (fun W1 h1 => (takes_any P _ _ _ xs W1 (hp.below h1) (pOk_of hc) (ha.below h1) hw).mono fun e w' ⟨he, k, hk⟩ => ⟨he, by rw [hk]; exact below_drewN (Below.refl _ _) k⟩)
theorem mem_one {G : Gr} {p : Gr → Prop} (h : p G) : ∀ x ∈ [G], p x := fun x hx => by
  rw [List.mem_singleton.1 hx]
  exact h
theorem tk_one1 : takesB [oneG] 1 [7] = false := by decide +kernel
theorem tk_one0 : takesB [oneG] 0 [] = false := by decide +kernel
theorem word0 : ∀ v, Sc.word (([] : List Int).getD v 0) := fun _ => Sc.word_zero
abbrev Fails (w : World) (e : Ending) (w' : World) (c : Int) : Prop := e = .returned (.tuple #[.agg #[.slice none 0 0, .int .u8 0, .int .u64 0, .int .u8 0, .int .i64 0, .int .i64 0], .int .i64 c]) ∧ Below w.heap.size w w'
theorem run_g (W : World) (v av : Value) (hp : GrsAt W v [oneG]) (hP : PartsAt W) (ha : WordsAt W av [7]) : Calls Tryz.prog 4 #[v, .int .i64 1, av, .int .i64 1, .int .i64 1] W fun e w' => Fails W e w' 2 :=
  run_arg hp hP (mem_one (by decide)) (by rw [chk_one8]) ha word7 (.inl tk_one1)
theorem run_h (W : World) (v av : Value) (hp : GrsAt W v [oneG]) (hP : PartsAt W) (ha : WordsAt W av []) : Calls Tryz.prog 4 #[v, .int .i64 0, av, .int .i64 1, .int .i64 1] W fun e w' => Fails W e w' 2 :=
  run_arg hp hP (mem_one (by decide)) (by rw [chk_one8]) ha word0 (.inl tk_one0)
theorem run_i (W : World) (v av : Value) (hp : GrsAt W v [oneG]) (hP : PartsAt W) (ha : WordsAt W av [7]) : Calls Tryz.prog 4 #[v, .int .i64 0, av, .int .i64 (-1), .int .i64 1] W fun e w' => Fails W e w' 2 :=
  run_arg hp hP (mem_one (by decide)) (by rw [chk_one8]) ha word7 (.inr (.inl (by omega)))
theorem run_j (W : World) (v av : Value) (hp : GrsAt W v [oneG]) (hP : PartsAt W) (ha : WordsAt W av [7]) : Calls Tryz.prog 4 #[v, .int .i64 0, av, .int .i64 1, .int .i64 (-1)] W fun e w' => Fails W e w' 2 :=
  run_arg hp hP (mem_one (by decide)) (by rw [chk_one8]) ha word7 (.inr (.inr (by omega)))
theorem run_k (W : World) (v av : Value) (hp : GrsAt W v [noG]) (hP : PartsAt W) : Calls Tryz.prog 4 #[v, .int .i64 9, av, .int .i64 (-1), .int .i64 (-1)] W fun e w' => Fails W e w' 4 :=
  run_bad hp hP (fun _ => mem_one (by decide)) chk_no (by decide)
theorem run_l (W : World) (v av : Value) (hp : GrsAt W v (List.replicate 65 noG)) (hP : PartsAt W) : Calls Tryz.prog 4 #[v, .int .i64 0, av, .int .i64 1, .int .i64 1] W fun e w' => Fails W e w' 3 :=
  run_bad hp hP (fun h => by rw [List.length_replicate] at h; omega) chk_65 (by decide)
theorem run_a (W : World) (v av : Value) (hp : GrsAt W v [oneG]) (hP : PartsAt W) (ha : WordsAt W av [7]) : Calls Tryz.prog 4 #[v, .int .i64 0, av, .int .i64 0, .int .i64 1] W fun e w' => Tells W e w' [] 3 0 0 0 1 :=
  run_ends ends_a fit_one (by rw [chk_one8]) tk_one8 (by omega) (by omega) W v av hp hP ha
theorem run_b (W : World) (v av : Value) (hp : GrsAt W v [oneG]) (hP : PartsAt W) (ha : WordsAt W av [7]) : Calls Tryz.prog 4 #[v, .int .i64 0, av, .int .i64 1, .int .i64 0] W fun e w' => Tells W e w' [] 4 0 0 0 0 :=
  run_ends ends_b fit_one (by rw [chk_one8]) tk_one8 (by omega) (by omega) W v av hp hP ha
theorem run_d (W : World) (v av : Value) (hp : GrsAt W v [loopG]) (hP : PartsAt W) (ha : WordsAt W av [7]) : Calls Tryz.prog 4 #[v, .int .i64 0, av, .int .i64 4, .int .i64 1] W fun e w' => Tells W e w' [(4, 7), (4, 5), (4, 7)] 3 0 0 4 1 :=
  run_ends ends_d fit_loop (by rw [chk_loop]) tk_loop (by omega) (by omega) W v av hp hP ha
theorem run_r (W : World) (v av : Value) (hp : GrsAt W v [rowsG]) (hP : PartsAt W) (ha : WordsAt W av [7]) : Calls Tryz.prog 4 #[v, .int .i64 0, av, .int .i64 9, .int .i64 9] W fun e w' => Tells W e w' [(4, 0), (4, 7), (4, 0), (4, 0), (4, 1), (4, 1), (4, 0)] 1 7 0 4 2 :=
  run_ends ends_r fit_rows (by rw [chk_rows]) tk_rows (by omega) (by omega) W v av hp hP ha
end Go.Proofs.YtdgpdmohfnealaaGreatDoor
