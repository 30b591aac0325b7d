/- The tree of nearest ones, as the document finds it. -/
import Derived.Test.YtogjjmbcbnceoaaGreatDOv2M
namespace Go.Proofs.YtogjjmbcbnceoaaGreat
open Go.RowKit

theorem OvS.read {w wr : World} {nx : List (List Int)} {n Bo : Nat} {kvs : List Value} (hn : n = nx.length) (h : OvS w n Bo wr kvs (ovRows nx) n) {a b : Nat} (ha : a < n) (hb : b < n) : ∃ g, g < wr.heap.size ∧ wr.cell? ⟨Bo, a, none⟩ = some (.slice (some ⟨g, 0, none⟩) n n) ∧ wr.cell? ⟨g, b, none⟩ = some (.bool (dec (Ov nx a b))) := by
  obtain ⟨g, h1, h2, _⟩ := h.kid a ha
  refine ⟨g, h2.lt'.2, h.cellB h1, ?_⟩
  rw [h2.at' hb false, ovRows_get (by omega), ovRow_get (by omega)]
theorem near_step (nx : List (List Int)) (b a : Nat) : nearF nx b (a + 1) = if dec (a ≠ b ∧ Ov nx a b ∧ (nearF nx b a < 0 ∨ Ov nx (nearF nx b a).toNat a)) then (a : Int) else nearF nx b a := rfl
theorem near_form (nx : List (List Int)) (b a : Nat) : nearF nx b a = -1 ∨ ∃ k : Nat, nearF nx b a = (k : Int) ∧ k < a := by
  rcases nearF_is nx b a with ⟨k, e, hk, _⟩ | ⟨e, _⟩
  · exact .inr ⟨k, e, hk⟩
  · exact .inl e
theorem tree_take {nx : List (List Int)} {b : Nat} (hb : b < nx.length) : (treeL nx).take (b + 1) = (treeL nx).take b ++ [nearF nx b nx.length] := by
  have hl : b < (treeL nx).length := by rw [treeL_len]; exact hb
  rw [List.take_add_one, List.getElem?_eq_getElem hl]
  congr 1
  have := treeL_get hb
  rw [getD_of hl] at this
  simp [this]
set_option maxRecDepth 100000 in
set_option maxHeartbeats 2000000 in
theorem rtree_any (nx : List (List Int)) (v : Value) (w : World) (h : NetAt w v nx) (hn : nx.length ≤ 100000) :
    Calls Tryz.prog 16 #[v] w fun e w' => (May nx → ∃ v', e = .returned (.tuple #[v', .int .i64 0]) ∧ OwnI w' w.heap.size v' (treeL nx)) ∧ (¬ May nx → e = .returned (.tuple #[.slice none 0 0, .int .i64 4])) ∧ Below w.heap.size w w' := by
  obtain ⟨va, vc, rfl, _⟩ := h.form
  have HMY : Hid _ := rmay_any nx _ w h
  by_cases hM : May nx
  rotate_left
  · rw [dec_false hM] at HMY
    have HM : Hid (¬ May nx) := hM
    clear hM h
    go_enter Tryz.func16, Tryz.ntmps16
    go_wp2_with (go_at_call 35; go_loud (refine Calls.mono (by exact HMY.out) ?_; rintro e w1 ⟨rfl, hb1⟩; have HB1 : Hid _ := hb1; clear hb1))
    go_ret2
    exact ⟨fun h9 => absurd h9 HM.out, fun _ => rfl, HB1.out⟩
  rw [dec_true hM] at HMY
  have HM : Hid (May nx) := hM
  have HOV : Hid (∀ W, Below w.heap.size w W → _) := fun W hb => rovers_any nx _ W (h.below hb) hM hn
  have HTT : Hid (∀ b, b < nx.length → _) := fun b hb => tree_take (nx := nx) hb
  have HTE : Hid ((treeL nx).take nx.length = treeL nx) := by show _ = _; rw [← treeL_len nx, List.take_length]
  clear h hM
  obtain ⟨n, hnn⟩ : ∃ n, n = nx.length := ⟨_, rfl⟩
  have HNN : Hid (n = nx.length) := hnn
  rw [← hnn] at HOV HTT HTE hn HMY
  rw [← hnn]
  clear hnn
  obtain ⟨i0, hi0, hz0, hz1, hz2⟩ := info_parts infoI
  go_enter Tryz.func16, Tryz.ntmps16
  go_wp2_with (first
    | (go_at_call 35; go_loud (refine Calls.mono (by exact HMY.out) ?_; rintro e w0 ⟨rfl, hb0⟩; have HB0 : Hid _ := hb0; clear hb0))
    | (go_at_call 36; go_loud (refine Calls.mono (by exact HOV.out _ HB0.out) ?_; rintro e w1 ⟨Bo, kvs, rfl, hs1⟩; have HS1 : Hid _ := hs1; clear hs1)))
  have HB1 : Hid (Below w.heap.size w w1) := below_trans HB0.out HS1.out.bel
  have HRD : Hid (∀ a b, a < n → b < n → _) := fun a b ha hb => HS1.out.read HNN.out ha hb
  clear HMY HOV HB0 HS1
  go_loopw [5, 6] (fun vl vb wr => ∃ (b : Nat) (l : List Int), vb = .int .i64 b ∧ b ≤ n ∧ Hid (Below w1.heap.size w1 wr ∧ OwnI wr w1.heap.size vl l ∧ l = (treeL nx).take b ∧ l.length = b)) (fun _ vb _ => n - (intOf vb).toNat)
  case atStart => exact ⟨0, [], rfl, by omega, Below.refl _ _, World.ownsRow_nil _ _ _ _, by simp, rfl⟩
  case round =>
    obtain ⟨b, l, rfl, hb, hr⟩ := hrel
    generalize wr = wo at *
    by_cases hbn : b < n
    · have hbn' : (b : Int) < n := by omega
      go_wp2
      go_loopw [7, 8] (fun vn va wq => ∃ (a : Nat) (d : Int), va = .int .i64 a ∧ a ≤ n ∧ vn = .int .i64 d ∧ Hid (d = nearF nx b a ∧ Below wo.heap.size wo wq)) (fun _ va _ => n - (intOf va).toNat)
      case atStart => exact ⟨0, -1, rfl, by omega, rfl, rfl, Below.refl _ _⟩
      case round =>
        obtain ⟨a, d, rfl, ha, rfl, hq⟩ := hrel
        have HBQ : Hid (Below w1.heap.size w1 wr) := below_trans hr.out.1 hq.out.2
        by_cases han : a < n
        · have han' : (a : Int) < n := by omega
          have HNS : Hid _ := near_step nx b a
          have HNF : Hid _ := near_form nx b a
          rw [← hq.out.1] at HNS HNF
          by_cases hab : a = b
          · subst hab
            have HX : Hid (d = nearF nx a (a + 1)) := by show _ = _; rw [HNS.out, dec_false (fun h9 => h9.1 rfl)]; rfl
            clear HNS HNF HRD HTT
            go_wp2
            go_roundw
            case rel => exact ⟨a + 1, d, by first | rfl | (congr 1; omega), by omega, rfl, HX.out, hq.out.2⟩
            case measure => simp [intOf]; omega
          · have hnab : ((a : Int) != (b : Int)) = true := bne_iff_ne.2 (by omega)
            have habn : ¬ (a : Int) = (b : Int) := by omega
            obtain ⟨g, hg, cB, cg⟩ := HRD.out a b han hbn
            have cB' : wr.cell? ⟨Bo, a, none⟩ = some (.slice (some ⟨g, 0, none⟩) n n) := by
              have h8 : Bo < w1.heap.size := by
                rcases Nat.lt_or_ge Bo w1.heap.size with h7 | h7
                · exact h7
                · simp [World.cell?, Array.getElem?_eq_none h7] at cB
              exact (HBQ.out.cell (p := ⟨Bo, a, none⟩) h8).trans cB
            have cg' : wr.cell? ⟨g, b, none⟩ = some (.bool (dec (Ov nx a b))) := (HBQ.out.cell (p := ⟨g, b, none⟩) hg).trans cg
            clear cB cg
            by_cases hO : Ov nx a b
            rotate_left
            · have HX : Hid (d = nearF nx b (a + 1)) := by show _ = _; rw [HNS.out, dec_false (fun h9 => hO h9.2.1)]; rfl
              rw [dec_false hO] at cg'
              clear HNS HNF HRD HTT hO
              go_wp2
              go_roundw
              case rel => exact ⟨a + 1, d, by first | rfl | (congr 1; omega), by omega, rfl, HX.out, hq.out.2⟩
              case measure => simp [intOf]; omega
            rw [dec_true hO] at cg'
            rcases HNF.out with hd | ⟨k, hd, hka⟩
            · have HX : Hid ((a : Int) = nearF nx b (a + 1)) := by show _ = _; rw [HNS.out, dec_true ⟨hab, hO, .inl (by omega)⟩]; rfl
              subst hd
              clear HNS HNF HRD HTT hO
              go_wp2
              go_roundw
              case rel => exact ⟨a + 1, a, by first | rfl | (congr 1; omega), by omega, rfl, HX.out, hq.out.2⟩
              case measure => simp [intOf]; omega
            · subst hd
              have hk0 : ¬ (k : Int) < 0 := by omega
              have hkn : k < n := by omega
              have hkn' : (k : Int) < n := by omega
              obtain ⟨g2, hg2, cB2, cg2⟩ := HRD.out k a hkn han
              have cB2' : wr.cell? ⟨Bo, k, none⟩ = some (.slice (some ⟨g2, 0, none⟩) n n) := by
                have h8 : Bo < w1.heap.size := by
                  rcases Nat.lt_or_ge Bo w1.heap.size with h7 | h7
                  · exact h7
                  · simp [World.cell?, Array.getElem?_eq_none h7] at cB2
                exact (HBQ.out.cell (p := ⟨Bo, k, none⟩) h8).trans cB2
              have cg2' : wr.cell? ⟨g2, a, none⟩ = some (.bool (dec (Ov nx k a))) := (HBQ.out.cell (p := ⟨g2, a, none⟩) hg2).trans cg2
              clear cB2 cg2
              by_cases hO2 : Ov nx k a
              · have HX : Hid ((a : Int) = nearF nx b (a + 1)) := by show _ = _; rw [HNS.out, dec_true ⟨hab, hO, .inr (by simpa using hO2)⟩]; rfl
                rw [dec_true hO2] at cg2'
                clear HNS HNF HRD HTT hO hO2
                go_wp2
                go_roundw
                case rel => exact ⟨a + 1, a, by first | rfl | (congr 1; omega), by omega, rfl, HX.out, hq.out.2⟩
                case measure => simp [intOf]; omega
              · have HX : Hid ((k : Int) = nearF nx b (a + 1)) := by show _ = _; rw [HNS.out, dec_false (fun h9 => h9.2.2.elim hk0 (fun h8 => hO2 (by simpa using h8)))]; rfl
                rw [dec_false hO2] at cg2'
                clear HNS HNF HRD HTT hO hO2
                go_wp2
                go_roundw
                case rel => exact ⟨a + 1, k, by first | rfl | (congr 1; omega), by omega, rfl, HX.out, hq.out.2⟩
                case measure => simp [intOf]; omega
        · obtain rfl : a = n := by omega
          have HX : Hid (l ++ [d] = (treeL nx).take (b + 1)) := by
            show _ = _
            rw [HTT.out b hbn, ← hr.out.2.2.1, hq.out.1, HNN.out]
          have HOW : Hid (OwnI wr w1.heap.size _ l) := owns_below hr.out.2.1 hq.out.2
          have HLL : Hid (l.length = b) := hr.out.2.2.2
          clear HRD HTT
          go_wp2_with (at_builtin; go_loud (refine wpList_append_own_at _ rfl _ _ 23 rfl w1.heap.size 3 i0 (.int .i64 0) 1 8 Tryz.underlying23 hi0 hz0 hz1 hz2 rfl (by decide) _ l.length (l.map intV) rfl (HOW.out.alloc _) ⟨wr.heap.size, 0, none⟩ 1 1 [intV d] rfl rfl ?c1 ?c2 ?c3 ?c4 ?c5 ?_))
          case c1 => exact cell_one_new wr (intV d) 3
          case c2 => intro u hu; simp at hu; subst hu; rfl
          case c3 => have := HLL.out; unfold maxLen; omega
          case c4 => have := HLL.out; omega
          case c5 => have := HBQ.out.size; simp; omega
          intro v2 w2 ho hg2 _ hat
          have HF : Hid (Below w1.heap.size w1 w2) := below_grown (below_alloc HBQ.out (.cells #[intV d] 3)) hg2 (fun q hqq => (HOW.out.lt q hqq).1)
          have HO : Hid (OwnI w2 w1.heap.size v2 (l ++ [d])) := by
            show World.ownsRow _ _ _ _ _ _ _
            simpa using ho
          clear ho hg2 hat
          go_wp2
          go_roundw
          case rel => exact ⟨b + 1, l ++ [d], by first | rfl | (congr 1; omega), by omega, HF.out, HO.out, HX.out, by simp [HLL.out]⟩
          case measure => simp [intOf]; omega
    · obtain rfl : b = n := by omega
      have HX : Hid (l = treeL nx) := by show _ = _; rw [hr.out.2.2.1, HTE.out]
      clear HRD HTT
      go_wp2
      go_ret2
      exact ⟨fun _ => ⟨_, rfl, by rw [← HX.out]; exact own_mono hr.out.2.1 HB1.out.size⟩, fun h9 => absurd HM.out h9, below_trans HB1.out hr.out.1⟩
end Go.Proofs.YtogjjmbcbnceoaaGreat
