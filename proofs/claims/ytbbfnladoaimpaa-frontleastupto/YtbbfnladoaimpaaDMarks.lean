/- The law FrontMarks: its run, given what the program's functions do. -/
import Derived.Test.YtbbfnladoaimpaaDMk
import Derived.Test.YtbbfnladoaimpaaDOkM
namespace Go.Proofs.Ytbbfnladoaimpaa
open Go.RowKit

def picksL (n : Nat) (l : List Int) : List Int := l.map fun x => x % (n : Int)
theorem picks_in {n : Nat} (hn : 1 ≤ n) (l : List Int) : AllIn n (picksL n l) := fun x hx => by
  obtain ⟨y, _, rfl⟩ := List.mem_map.1 hx
  exact ⟨Int.emod_nonneg y (by omega), Int.emod_lt_of_pos y (by omega)⟩
theorem picks_take {n : Nat} {l : List Int} {i : Nat} (h : i < l.length) : picksL n (l.take (i + 1)) = picksL n (l.take i) ++ [l.getD i 0 % (n : Int)] := by
  unfold picksL
  rw [List.take_add_one, List.getElem?_eq_getElem h, List.map_append, getD_of h]
  rfl
theorem marks_last {nx : List (List Int)} {s : List Int} {m : List Bool} (hm : MarkTo nx.length m (fun i => i = 0 ∨ (i : Int) ∈ s ∨ (i : Int) ∈ joinL nx fun a => (a : Int) ∈ s)) : (∀ i, i < nx.length → ((m.map b2i).getD i 0 ≠ 0 ↔ Mk nx (fun a => (a : Int) ∈ s) i)) := by
  intro i hi
  have hl : i < m.length := by rw [hm.1]; exact hi
  have e : (m.map b2i).getD i 0 = b2i (m.getD i false) := by
    rw [getD_of (by simpa using hl), getD_of hl]; simp
  rw [e]
  have h1 : m.getD i false = true ↔ (i = 0 ∨ (i : Int) ∈ s ∨ (i : Int) ∈ joinL nx fun a => (a : Int) ∈ s) := hm.2 i hi
  have h2 : (i = 0 ∨ (i : Int) ∈ s ∨ (i : Int) ∈ joinL nx fun a => (a : Int) ∈ s) ↔ Mk nx (fun a => (a : Int) ∈ s) i := by
    unfold Mk joinL
    rw [mem_nodesL]
    constructor
    · rintro (h | h | ⟨b, e, _, hj⟩)
      · exact .inl h
      · exact .inr (.inl h)
      · have : i = b := by omega
        subst this; exact .inr (.inr hj)
    · rintro (h | h | h)
      · exact .inl h
      · exact .inr (.inl h)
      · exact .inr (.inr ⟨i, rfl, hi, h⟩)
  rw [← h2, ← h1]
  rcases m.getD i false with _ | _ <;> simp [b2i]
theorem marks_same {nx : List (List Int)} (hM : May nx) {F : Nat → Prop} {mk : List Int} (hmk : ∀ i, i < nx.length → (mk.getD i 0 ≠ 0 ↔ Mk nx F i)) {a b : Nat} (ha : Rch nx noneS a) (he : (b : Int) ∈ nx.getD a []) (hb : mk.getD b 0 = 0) : upF (treeL nx) mk (nx.length + 1) (b : Int) = upF (treeL nx) mk (nx.length + 1) (a : Int) := by
  have hbr : Rch nx noneS b := .step ha (fun h => h) he
  obtain ⟨d, e1, h1⟩ := upF_is hM hmk (.inl rfl) (nx.length + 1) a ha (by have := cnt_le nx a nx.length; omega)
  obtain ⟨d', e2, h2⟩ := upF_is hM hmk (.inl rfl) (nx.length + 1) b hbr (by have := cnt_le nx b nx.length; omega)
  have hnb : ¬ Mk nx F b := fun hm => (hmk b (hbr.lt hM)).2 hm hb
  rw [e1, e2, (h1.edge ha he hnb).uniq h2]
set_option maxRecDepth 100000 in
set_option maxHeartbeats 4000000 in
theorem marks_run (nx : List (List Int)) (l : List Int) (v lv : Value) (w : World) (h : NetAt w v nx) (hl : IntsAt w lv l) (hT : TreeOk nx) (hO : OverOk) (hJ : nx.length ≤ 400 → l.length ≤ 1000 → JoinsOk nx (picksL nx.length l)) (hA : ∀ W, Calls Try.prog 9 #[] W fun e w' => e = .returned (.bool true) ∧ Below W.heap.size W w') :
    Calls Try.prog 6 #[v, lv] w fun e w' => e = .returned (.bool true) ∧ Below w.heap.size w w' := by
  have HA : Hid _ := hA w
  have HT : Hid (∀ W, Below w.heap.size w W → _) := fun W hb => hT v W (h.below hb)
  by_cases hM : May nx
  rotate_left
  · have HM : Hid (¬ May nx) := hM
    clear hT hO hA h hM hJ hl
    go_enter Try.func6, Try.ntmps6
    go_wp2_with (first
      | (go_at_call 9; go_loud (refine Calls.mono (by exact HA.out) ?_; rintro e w0 ⟨rfl, hb0⟩; have HB0 : Hid _ := hb0; clear hb0))
      | (go_at_call 17; go_loud (refine Calls.mono (by exact HT.out _ HB0.out) ?_; rintro e w1 ⟨_, ht1, hb1⟩; have he1 := ht1 HM.out; subst he1; have HB1 : Hid (Below w.heap.size w w1) := below_trans HB0.out hb1; clear ht1 hb1)))
    go_ret
    exact ⟨rfl, HB1.out⟩
  have HM : Hid (May nx) := hM
  have HNB : nx.length ≤ 140737488355328 := by obtain ⟨_, _, _, h9⟩ := h.form; exact h9
  have HTB : Hid ((treeL nx).length ≤ 140737488355328) := by show _ ≤ _; rw [treeL_len]; exact HNB
  have HLT : Hid ((treeL nx).length = nx.length) := treeL_len nx
  obtain ⟨va, vc, rfl, _⟩ := h.form
  obtain ⟨la, lc, rfl, hll⟩ := hl.form
  by_cases h4 : nx.length ≤ 400
  rotate_left
  · have h4' : (400 : Int) < nx.length := by omega
    clear hT hO hA h hM hJ hl
    generalize nx.length = n at *
    go_enter Try.func6, Try.ntmps6
    go_wp2_with (first
      | (go_at_call 9; go_loud (refine Calls.mono (by exact HA.out) ?_; rintro e w0 ⟨rfl, hb0⟩; have HB0 : Hid _ := hb0; clear hb0))
      | (go_at_call 17; go_loud (refine Calls.mono (by exact HT.out _ HB0.out) ?_; rintro e w1 ⟨ht1, _, hb1⟩; obtain ⟨v1, rfl, ho1⟩ := ht1 HM.out; have HB1 : Hid (Below w.heap.size w w1) := below_trans HB0.out hb1; clear ht1 hb1 ho1)))
    go_ret
    exact ⟨rfl, HB1.out⟩
  by_cases h10 : l.length ≤ 1000
  rotate_left
  · have h4' : ¬ (400 : Int) < nx.length := by omega
    have h10' : (1000 : Int) < l.length := by omega
    clear hT hO hA h hM hJ hl
    generalize nx.length = n at *
    generalize l.length = ln at *
    go_enter Try.func6, Try.ntmps6
    go_wp2_with (first
      | (go_at_call 9; go_loud (refine Calls.mono (by exact HA.out) ?_; rintro e w0 ⟨rfl, hb0⟩; have HB0 : Hid _ := hb0; clear hb0))
      | (go_at_call 17; go_loud (refine Calls.mono (by exact HT.out _ HB0.out) ?_; rintro e w1 ⟨ht1, _, hb1⟩; obtain ⟨v1, rfl, ho1⟩ := ht1 HM.out; have HB1 : Hid (Below w.heap.size w w1) := below_trans HB0.out hb1; clear ht1 hb1 ho1)))
    go_ret
    exact ⟨rfl, HB1.out⟩
  have HJ : Hid (∀ (sv : Value) (W : World), Below w.heap.size w W → IntsAt W sv (picksL nx.length l) → _) := fun sv W hb hs => hJ h4 h10 _ sv W (h.below hb) hs
  have HAI : Hid (AllIn nx.length (picksL nx.length l)) := picks_in hM.1 l
  have HPK : Hid (∀ x W, _) := fun x W => pick_any x nx.length hM.1 HNB W
  have HPT : Hid (∀ i, i < l.length → _) := fun i hi => picks_take (n := nx.length) (l := l) (i := i) hi
  have HPE : Hid (picksL nx.length (l.take l.length) = picksL nx.length l) := by show _ = _; rw [List.take_length]
  have HPL : Hid (∀ i, i ≤ l.length → (picksL nx.length (l.take i)).length = i) := fun i hi => by unfold picksL; rw [List.length_map, List.length_take]; omega
  have HLI : Hid (∀ i, i < l.length → _) := fun i hi => hl.get (i := i) hi
  have HMK : Hid (∀ (j sv jv : Value) (s' j' : List Int) (W : World), IntsAt W sv s' → IntsAt W jv j' → AllIn nx.length s' → _) := fun _ sv jv s' j' W h1 h2 h3 => marks_any nx.length s' j' sv jv W h1 h2 hM.1 (by omega) h3
  have HML : Hid (∀ m, MarkTo nx.length m (fun i => i = 0 ∨ (i : Int) ∈ picksL nx.length l ∨ (i : Int) ∈ joinL nx fun a => (a : Int) ∈ picksL nx.length l) → _) := fun m hm => marks_last (s := picksL nx.length l) (m := m) hm
  have HSM : Hid (∀ (mk : List Int), (∀ i, i < nx.length → (mk.getD i 0 ≠ 0 ↔ Mk nx (fun a => (a : Int) ∈ picksL nx.length l) i)) → ∀ a b : Nat, Rch nx noneS a → (b : Int) ∈ nx.getD a [] → mk.getD b 0 = 0 → _) := fun mk hmk a b ha he hb => marks_same hM hmk ha he hb
  have HOV : Hid (∀ a : Nat, a < nx.length → overL (treeL nx) 0 (a : Int) = dec (Rch nx noneS a)) := fun a ha => by
    by_cases hr : Rch nx noneS a
    · have := overL_is hM hM.1 hr
      rw [show ((0 : Nat) : Int) = 0 from rfl] at this
      rw [this, dec_true (Ov.entry hr), dec_true hr]
    · have := overL_none hM hM.1 ha hr
      rw [show ((0 : Nat) : Int) = 0 from rfl] at this
      rw [this, dec_false hr]
      exact decide_eq_false fun e => hr (e ▸ .entry)
  have HNI : Hid (∀ i, i < nx.length → _) := fun i hi => h.get (i := i) hi
  have HMR : Hid (∀ i k, i < nx.length → k < (nx.getD i []).length → _) := fun i k hi hk => hM.row (i := i) (k := k) hi hk
  have HO : Hid _ := hO
  have HJB : Hid ((joinL nx fun a => (a : Int) ∈ picksL nx.length l).length ≤ nx.length) := join_len _ _
  have hn0 : 1 ≤ nx.length := hM.1
  obtain ⟨n, hnn⟩ : ∃ n, n = nx.length := ⟨_, rfl⟩
  rw [← hnn] at HT HJ HAI HPK HPT HPE HPL HMK HML HSM HOV HNI HMR HLT HJB h4 HNB hn0
  rw [← hnn]
  obtain ⟨ln, hln⟩ : ∃ ln, ln = l.length := ⟨_, rfl⟩
  rw [← hln] at HPT HPE HPL HLI hll h10
  rw [← hln]
  clear hT hO hA h hM hJ hl hnn hln
  have h4' : ¬ (400 : Int) < n := by omega
  have h10' : ¬ (1000 : Int) < ln := by omega
  generalize treeL nx = T at *
  obtain ⟨i0, hi0, hz0, hz1, hz2⟩ := info_parts infoI
  go_enter Try.func6, Try.ntmps6
  go_wp2_with (first
    | (go_at_call 9; go_loud (refine Calls.mono (by exact HA.out) ?_; rintro e w0 ⟨rfl, hb0⟩; have HB0 : Hid _ := hb0; clear hb0))
    | (go_at_call 17; go_loud (refine Calls.mono (by exact HT.out _ HB0.out) ?_; rintro e w1 ⟨ht1, _, hb1⟩; obtain ⟨v1, rfl, ho1⟩ := ht1 HM.out; have HI1 : Hid (IntsAt w1 v1 T) := OwnI.at' ho1 HTB.out; have HB1 : Hid (Below w.heap.size w w1) := below_trans HB0.out hb1; obtain ⟨ta, tc, hte, _⟩ := HI1.out.form; subst hte; rw [HLT.out] at HI1; rw [HLT.out]; clear ht1 hb1 ho1)))
  clear HA HT HB0
  go_loopw [7, 8] (fun vs vi wr => ∃ (i : Nat) (s : List Int), vi = .int .i64 i ∧ i ≤ ln ∧ Hid (Below w1.heap.size w1 wr ∧ OwnI wr w1.heap.size vs s ∧ s = picksL n (l.take i) ∧ s.length = i)) (fun _ vi _ => ln - (intOf vi).toNat)
  case atStart => exact ⟨0, [], rfl, by omega, Below.refl _ _, World.ownsRow_nil _ _ _ _, rfl, rfl⟩
  case round =>
    obtain ⟨i, s, rfl, hi, hr⟩ := hrel
    by_cases hin : i < ln
    · have hin' : (i : Int) < ln := by omega
      obtain ⟨g, o, rfl, hg, c0⟩ := HLI.out i hin
      have hw1 : w.heap.size ≤ w1.heap.size := HB1.out.size
      have c0' : wr.cell? ⟨g, o + i, none⟩ = some (.int .i64 (l.getD i 0)) := (hr.out.1.cell (p := ⟨g, o + i, none⟩) (by show g < w1.heap.size; omega)).trans ((HB1.out.cell (p := ⟨g, o + i, none⟩) hg).trans c0)
      have HX : Hid (s ++ [l.getD i 0 % (n : Int)] = picksL n (l.take (i + 1))) := by show _ = _; rw [HPT.out i hin, hr.out.2.2.1]
      have HPI : Hid _ := HPK.out (l.getD i 0)
      have HOW : Hid (OwnI wr w1.heap.size _ s) := hr.out.2.1
      have HSL : Hid (s.length = i) := hr.out.2.2.2
      clear HLI HPT HPE HPL HPK c0 HJ HMK HML HSM HOV HNI HMR
      generalize l.getD i 0 % (n : Int) = y at *
      generalize l.getD i 0 = x at *
      go_wp2_with (first
        | (go_at_call 18; go_loud (refine Calls.mono (by exact HPI.out _) ?_; rintro e w2 ⟨rfl, hw2⟩; have hw3 := hw2.symm; subst hw3))
        | (at_builtin; go_loud (refine wpList_append_own_at _ rfl _ _ 29 rfl w1.heap.size 3 i0 (.int .i64 0) 1 8 Try.underlying29 hi0 hz0 hz1 hz2 rfl (by decide) _ s.length (s.map intV) rfl (HOW.out.alloc _) ⟨wr.heap.size, 0, none⟩ 1 1 [intV y] rfl rfl ?c1 ?c2 ?c3 ?c4 ?c5 ?_)))
      case c1 => exact cell_one_new wr (intV y) 3
      case c2 => intro u hu; simp at hu; subst hu; rfl
      case c3 => have := HSL.out; unfold maxLen; omega
      case c4 => have := HSL.out; omega
      case c5 => have := hr.out.1.size; simp; omega
      intro v2 w2 ho hg2 _ hat
      have HF : Hid (Below w1.heap.size w1 w2) := below_grown (below_alloc hr.out.1 (.cells #[intV y] 3)) hg2 (fun q hqq => (HOW.out.lt q hqq).1)
      have HOO : Hid (OwnI w2 w1.heap.size v2 (s ++ [y])) := by
        show World.ownsRow _ _ _ _ _ _ _
        simpa using ho
      clear ho hg2 hat
      go_wp2
      go_roundw
      case rel => exact ⟨i + 1, s ++ [y], by first | rfl | (congr 1; omega), by omega, HF.out, HOO.out, HX.out, by simp [HSL.out]⟩
      case measure => simp [intOf]; omega
    · obtain rfl : i = ln := by omega
      have hse : s = picksL n l := by rw [hr.out.2.2.1, HPE.out]
      have HS : Hid (IntsAt wr u7 (picksL n l)) := by have h9 := OwnI.at' hr.out.2.1 (by have := hr.out.2.2.2; omega); rw [hse] at h9; exact h9
      have HBR : Hid (Below w.heap.size w wr) := below_trans HB1.out hr.out.1
      have HIR : Hid (IntsAt wr (.slice ta n tc) T) := HI1.out.below hr.out.1
      clear HLI HPT HPE HPL HPK hr hse HI1
      generalize picksL n l = P at *
      generalize wr = w2 at *
      go_wp2_with (first
        | (go_at_call 13; go_loud (refine Calls.mono (by exact HJ.out _ _ HBR.out HS.out) ?_; rintro e w3 ⟨ht3, _, _, hb3⟩; obtain ⟨v3, rfl, ho3⟩ := ht3 HM.out HAI.out; have HI3 : Hid (IntsAt w3 v3 (joinL nx fun a => (a : Int) ∈ P)) := ho3; have HB3 : Hid (Below w.heap.size w w3) := below_trans HBR.out hb3; have HS3 : Hid (IntsAt w3 u7 P) := HS.out.below hb3; have HT3 : Hid (IntsAt w3 (.slice ta n tc) T) := HIR.out.below hb3; clear ht3 hb3 ho3))
        | (go_at_call 19; go_loud (refine Calls.mono (by exact HMK.out (.bool true) _ _ _ _ _ HS3.out HI3.out HAI.out) ?_; rintro e w4 ⟨m, rfl, hz4, hm4, hb4⟩; have HZ4 : Hid (IntsAt w4 (.slice (some ⟨w3.heap.size, 0, none⟩) n n) (m.map b2i)) := OwnZ.ints hz4 HNB; have HMD : Hid _ := HSM.out _ (HML.out m hm4); have HML4 : Hid ((m.map b2i).length = n) := (List.length_map _).trans hm4.1; have HB4 : Hid (Below w.heap.size w w4) := below_trans HB3.out hb4; have HT4 : Hid (IntsAt w4 (.slice ta n tc) T) := HT3.out.below hb4; clear hz4 hm4 hb4)))
      generalize m.map b2i = mk at *
      have HNR : Hid (∀ (q : Nat) (W : World), Below w4.heap.size w4 W → Calls Try.prog 21 #[.slice ta n tc, .slice (some ⟨w3.heap.size, 0, none⟩) n n, .int .i64 (q : Int)] W fun e w' => e = .returned (.int .i64 (upF T mk (n + 1) (q : Int))) ∧ w' = W) := fun q W hb => by
        have := nearestM_any T mk q _ _ W (HT4.out.below hb) (HZ4.out.below hb) (by rw [HML4.out, HLT.out])
        rw [HLT.out] at this
        exact this
      have HMI : Hid (∀ i, i < n → _) := fun i hi => HZ4.out.get (i := i) (by rw [HML4.out]; exact hi)
      have HOW : Hid (∀ (a : Nat) (W : World), a < n → Below w4.heap.size w4 W → Calls Try.prog 20 #[.slice ta n tc, .int .i64 0, .int .i64 (a : Int)] W fun e w' => e = .returned (.bool (dec (Rch nx noneS a))) ∧ Below w4.heap.size w4 w') := fun a W ha hb => (HO.out T 0 (a : Int) _ W (HT4.out.below hb)).mono fun e w' hh => ⟨by rw [hh.1, HOV.out a ha], below_trans hb (below_of_drew hh.2)⟩
      clear HJ HMK HML HSM HOV HO HS HS3 HI3 HIR HT3 HB3 HBR HB1 HZ4 HT4
      go_loopw [12] (fun va wr => ∃ a : Nat, va = .int .i64 a ∧ a ≤ n ∧ Hid (Below w4.heap.size w4 wr)) (fun va _ => n - (intOf va).toNat)
      case atStart => exact ⟨0, rfl, by omega, Below.refl _ _⟩
      case round =>
        obtain ⟨a, rfl, ha, hq⟩ := hrel
        generalize wr = wo at *
        by_cases han : a < n
        · have han' : (a : Int) < n := by omega
          have HOA : Hid _ := HOW.out a wo han hq.out
          by_cases hR : Rch nx noneS a
          rotate_left
          · rw [dec_false hR] at HOA
            clear HOW HNR HMI HNI HMR HMD
            go_wp2_with (go_at_call 20; go_loud (refine Calls.mono (by exact HOA.out) ?_; rintro e w5 ⟨rfl, hb5⟩; have HB5 : Hid _ := hb5; clear hb5))
            go_roundw
            case rel => exact ⟨a + 1, by first | rfl | (congr 1; omega), by omega, HB5.out⟩
            case measure => simp [intOf]; omega
          rw [dec_true hR] at HOA
          have HNA : Hid (∀ W, Below w4.heap.size w4 W → _) := fun W hb => HNR.out a W hb
          have HMA : Hid (∀ b : Nat, (b : Int) ∈ nx.getD a [] → mk.getD b 0 = 0 → upF T mk (n + 1) (b : Int) = upF T mk (n + 1) (a : Int)) := fun b he hb => HMD.out a b hR he hb
          obtain ⟨g, o, ra, rc, rfl, hg, c0, hIr⟩ := HNI.out a han
          have hml : (nx.getD a []).length ≤ 140737488355328 := by obtain ⟨_, _, _, h9⟩ := hIr.form; exact h9
          have HRW : Hid (∀ k, k < (nx.getD a []).length → _) := fun k hk => hIr.get (i := k) hk
          have HMW : Hid (∀ k, k < (nx.getD a []).length → _) := fun k hk => HMR.out a k han hk
          have hg4 : g < w4.heap.size := Nat.lt_of_lt_of_le hg HB4.out.size
          have c04 : w4.cell? ⟨g, o + a, none⟩ = some (.slice ra (nx.getD a []).length rc) := (HB4.out.cell (p := ⟨g, o + a, none⟩) hg).trans c0
          clear c0 hIr hR HNI HMR HMD HOW
          obtain ⟨q, hq2⟩ : ∃ q, q = (nx.getD a []).length := ⟨_, rfl⟩
          have HQL : Hid (q = (nx.getD a []).length) := hq2
          rw [← hq2] at HRW HMW hml c04
          clear hq2
          generalize upF T mk (n + 1) (a : Int) = L at *
          go_wp2_with (first
            | (go_at_call 20; go_loud (refine Calls.mono (by exact HOA.out) ?_; rintro e w5 ⟨rfl, hb5⟩; have HB5 : Hid _ := hb5; clear hb5))
            | (go_at_call 21; go_loud (refine Calls.mono (by exact HNA.out _ HB5.out) ?_; rintro e w6 ⟨rfl, hw6⟩; have hw7 := hw6.symm; subst hw7)))
          go_loopw [14] (fun vk wr => ∃ k : Nat, vk = .int .i64 k ∧ k ≤ q ∧ Hid (wr = w5)) (fun vk _ => q - (intOf vk).toNat)
          case atStart => exact ⟨0, rfl, by omega, rfl⟩
          case round =>
            obtain ⟨k, rfl, hk, hs⟩ := hrel
            have hws := hs.out
            subst hws
            have c0' : wr.cell? ⟨g, o + a, none⟩ = some (.slice ra q rc) := (HB5.out.cell (p := ⟨g, o + a, none⟩) hg4).trans c04
            by_cases hkq : k < q
            · have hkq' : (k : Int) < q := by omega
              obtain ⟨gr, or, rfl, hgr, cr⟩ := HRW.out k hkq
              obtain ⟨hx0, hx1⟩ := HMW.out k hkq
              obtain ⟨b, eb⟩ : ∃ b : Nat, (nx.getD a []).getD k 0 = (b : Int) := Int.eq_ofNat_of_zero_le hx0
              have HMEM : Hid ((b : Int) ∈ nx.getD a []) := by show _ ∈ _; rw [← eb]; exact getD_mem (by rw [← HQL.out]; exact hkq)
              have hgr4 : gr < w4.heap.size := Nat.lt_of_lt_of_le hgr HB4.out.size
              have cr' : wr.cell? ⟨gr, or + k, none⟩ = some (.int .i64 (b : Int)) := by rw [← eb]; exact (HB5.out.cell (p := ⟨gr, or + k, none⟩) hgr4).trans ((HB4.out.cell (p := ⟨gr, or + k, none⟩) hgr).trans cr)
              have hbn : b < n := by rw [eb] at hx1; omega
              have hbn' : (b : Int) < n := by omega
              obtain ⟨gm, om, em, hgm, cm⟩ := HMI.out b hbn
              cases em
              have cm' : wr.cell? ⟨w3.heap.size, b, none⟩ = some (.int .i64 (mk.getD b 0)) := by
                have := (HB5.out.cell (p := ⟨w3.heap.size, 0 + b, none⟩) hgm).trans cm
                rwa [Nat.zero_add] at this
              clear HRW HMW cr eb hx0 hx1 cm hgr
              by_cases hz : mk.getD b 0 = 0
              · have HNB2 : Hid _ := HNR.out b wr HB5.out
                rw [HMA.out b HMEM.out hz] at HNB2
                rw [hz] at cm'
                have hLL : (L != L) = false := by simp
                clear HMA HMI HNR
                go_wp2_with (go_at_call 21; go_loud (refine Calls.mono (by exact HNB2.out) ?_; rintro e w6 ⟨rfl, hw6⟩; have hw7 := hw6.symm; subst hw7))
                go_roundw
                case rel => exact ⟨k + 1, by first | rfl | (congr 1; omega), by omega, by first | exact rfl | exact trivial⟩
                case measure => simp [intOf]; omega
              · have hz' : (mk.getD b 0 == 0) = false := beq_false_of_ne hz
                clear HMA HMI HNR
                generalize mk.getD b 0 = y at *
                go_wp2
                go_roundw
                case rel => exact ⟨k + 1, by first | rfl | (congr 1; omega), by omega, by first | exact rfl | exact trivial⟩
                case measure => simp [intOf]; omega
            · obtain rfl : k = q := by omega
              clear HRW HMW HMA HMI HNR
              go_wp2
              go_roundw
              case rel => exact ⟨a + 1, by first | rfl | (congr 1; omega), by omega, HB5.out⟩
              case measure => simp [intOf]; omega
        · obtain rfl : a = n := by omega
          clear HOW HNR HMI HNI HMR HMD
          go_wp2
          go_ret
          exact ⟨rfl, below_trans HB4.out hq.out⟩
end Go.Proofs.Ytbbfnladoaimpaa
