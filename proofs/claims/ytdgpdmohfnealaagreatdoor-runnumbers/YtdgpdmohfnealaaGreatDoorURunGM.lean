/- Whether a graph is there that takes these words. -/
import Derived.Test.YtdgpdmohfnealaaGreatDoorURun2
import Derived.Test.YtdgpdmohfnealaaGreatDoorGCheck
import Derived.Laws.ResultCell
namespace Go.Proofs.YtdgpdmohfnealaaGreatDoor
open Go.RowKit

/-- Words that are handed in. -/
def WordsAt (w : World) (v : Value) (l : List Int) : Prop := RowAt w v l.length (l.map wordV)
theorem WordsAt.below {w w' : World} {v : Value} {l : List Int} (h : WordsAt w v l) (hb : Below w.heap.size w w') : WordsAt w' v l := RowAt.below h hb
theorem WordsAt.form {w : World} {v : Value} {l : List Int} (h : WordsAt w v l) : ∃ a c, v = .slice a l.length c ∧ l.length ≤ 140737488355328 := by
  obtain ⟨a, c, hv, hn, _⟩ := h
  exact ⟨a, c, hv, hn.2⟩
theorem WordsAt.get {w : World} {a : Option Addr} {n c : Nat} {l : List Int} (h : WordsAt w (.slice a n c) l) {i : Nat} (hi : i < l.length) : ∃ g o, a = some ⟨g, o, none⟩ ∧ g < w.heap.size ∧ w.cell? ⟨g, o + i, none⟩ = some (wordV (l.getD i 0)) := by
  obtain ⟨a', c', hv, _, hc⟩ := h
  cases hv
  rcases hc with h0 | ⟨g, o, ha, hg, hc⟩
  · omega
  · refine ⟨g, o, ha, hg, hc i _ ?_⟩
    rw [List.getElem?_map, List.getElem?_eq_getElem hi]
    simp [List.getD, List.getElem?_eq_getElem hi]
def argOk (G : Gr) (xs : List Int) (i : Nat) : Bool := Sc.rightB (G.vars.getD (G.params.getD i 0).toNat 0) (xs.getD i 0)
def takesB (P : List Gr) (f : Int) (xs : List Int) : Bool := inB f P.length && (decide (xs.length = (P.getD f.toNat default).params.length) && (List.range (P.getD f.toNat default).params.length).all (argOk (P.getD f.toNat default) xs))
set_option maxRecDepth 100000 in
set_option maxHeartbeats 4000000 in
theorem takes_any (P : List Gr) (ppv : Value) (f : Int) (av : Value) (xs : List Int) (w : World) (hp : GrsAt w ppv P) (hok : POk P) (ha : WordsAt w av xs) (hw : ∀ v, Sc.word (xs.getD v 0)) :
    Calls Tryz.prog 11 #[ppv, .int .i64 f, av] w fun e w' => e = .returned (.bool (takesB P f xs)) ∧ ∃ k, w' = w.drewN k := by
  obtain ⟨qa, qc, rfl, hql⟩ := hp.form
  obtain ⟨aa, ac, rfl, hal⟩ := ha.form
  have h64 := hok.1
  by_cases hin : inB f P.length = true
  · obtain ⟨hf0, hfl⟩ := inB_iff.1 hin
    obtain ⟨g, rfl⟩ : ∃ g : Nat, f = (g : Int) := Int.eq_ofNat_of_zero_le hf0
    have hgl : g < P.length := by omega
    have hG := hok.2 g hgl
    obtain ⟨pg, po, pv, vv, av2, bv, rfl, hlt, c0, c1, c2, c3, c4, c5, hGr⟩ := hp.get hgl
    have hpi := hGr.ps
    obtain ⟨pa, pc, hpv, hpl⟩ := hpi.form
    rw [hpv] at hpi c1
    have hvi := hGr.vs
    obtain ⟨_, _, va, vc, _, _, _, _, _, hvv, _, _, _, hvl, _, _⟩ := hGr.openF
    rw [hvv] at hvi c3
    have hnf : ¬ ((g : Int) < 0) := by omega
    by_cases hlen : xs.length = (P.getD g default).params.length
    · have hT : Hid (takesB P (g : Int) xs = (List.range (P.getD g default).params.length).all (argOk (P.getD g default) xs)) := by
        show _ = _
        unfold takesB
        rw [hin, Int.toNat_natCast]
        simp [hlen]
      have HGET : Hid (∀ i, i < (P.getD g default).params.length → ∃ (pgg poo v vg vo ag ao : Nat), pa = some ⟨pgg, poo, none⟩ ∧ va = some ⟨vg, vo, none⟩ ∧ aa = some ⟨ag, ao, none⟩ ∧ (v : Int) < ((P.getD g default).vars.length : Int) ∧ (∀ k, (w.drewN k).cell? ⟨pgg, poo + i, none⟩ = some (.int .i64 (v : Int))) ∧ (∀ k, (w.drewN k).cell? ⟨vg, vo + v, none⟩ = some (.int .u8 ((P.getD g default).vars.getD v 0))) ∧ (∀ k, (w.drewN k).cell? ⟨ag, ao + i, none⟩ = some (.int .u64 (xs.getD i 0))) ∧ argOk (P.getD g default) xs i = Sc.rightB ((P.getD g default).vars.getD v 0) (xs.getD i 0) ∧ Sc.word (xs.getD i 0)) := fun i hi => by
        obtain ⟨h1, h2⟩ := hG.par.2 i hi
        obtain ⟨v, hv⟩ : ∃ v : Nat, (P.getD g default).params.getD i 0 = (v : Int) := Int.eq_ofNat_of_zero_le h1
        obtain ⟨pgg, poo, e1, _, k1⟩ := hpi.get hi
        rw [hv] at k1 h2
        obtain ⟨vg, vo, e2, _, k2⟩ := hvi.get (i := v) (by omega)
        obtain ⟨ag, ao, e3, _, k3⟩ := ha.get (i := i) (by omega)
        refine ⟨pgg, poo, v, vg, vo, ag, ao, e1, e2, e3, h2, fun k => k1, fun k => k2, fun k => k3, ?_, hw i⟩
        unfold argOk
        rw [hv, Int.toNat_natCast]
      obtain ⟨R, hR⟩ : ∃ R, R = takesB P (g : Int) xs := ⟨_, rfl⟩
      rw [← hR] at hT ⊢
      clear hR hin hG hGr hpi hvi ha hp hok hw hpv hvv hf0
      rw [hlen] at hal ⊢
      generalize argOk (P.getD g default) xs = ok at *
      generalize (P.getD g default).params.length = n at *
      generalize hvn : (P.getD g default).vars.length = vl at *
      have hnb : (n : Int) ≤ 140737488355328 := by omega
      have hgl' : (g : Int) < P.length := by omega
      generalize P.length = pl at *
      clear hlen hgl hfl hql h64 hvl c0 c2 c4 c5 hlt hpl hvn hal
      go_enter Tryz.func11, Tryz.ntmps11
      go_wp2
      go_loopw [34] (fun vi wr => ∃ i : Nat, vi = .int .i64 i ∧ i ≤ n ∧ Hid ((∃ k, wr = w.drewN k) ∧ ∀ j, j < i → ok j = true)) (fun vi _ => n - (intOf vi).toNat)
      case atStart => exact ⟨0, rfl, by omega, ⟨0, rfl⟩, fun j hj => by omega⟩
      case round =>
        obtain ⟨i, rfl, hi, hr⟩ := hrel
        obtain ⟨⟨kk, hwr⟩, hall⟩ := hr.out
        subst hwr
        have HALL : Hid _ := hall
        clear hr hall
        by_cases hin : i < n
        · obtain ⟨pgg, poo, v, vg, vo, ag, ao, rfl, rfl, rfl, hvl2, k1, k2, k3, hok, hwd⟩ := HGET.out i hin
          have hin' : (i : Int) < n := by omega
          have HRT : Hid (∀ W, Calls Tryz.prog 15 #[.int .u8 ((P.getD g default).vars.getD v 0), .int .u64 (xs.getD i 0)] W fun e w' => e = .returned (.bool (ok i)) ∧ w' = W) := fun W => by rw [hok]; exact Sc.right_any _ _ W hwd
          generalize (P.getD g default).vars.getD v 0 = tv at *
          generalize xs.getD i 0 = xi at *
          clear hok hwd
          cases hb : ok i with
          | true =>
            rw [hb] at HRT
            go_wp2
            go_quiet ((go_at_call 15; exact (HRT.out _).mono (by rintro e w2 ⟨rfl, rfl⟩; exact ⟨rfl, _, rfl⟩)))
            go_wp2
            go_roundw
            case rel => exact ⟨i + 1, rfl, by omega, ⟨_, rfl⟩, fun j hj => by
              rcases Nat.lt_succ_iff_lt_or_eq.1 hj with h | h
              · exact HALL.out j h
              · rw [h]; exact hb⟩
            case measure => simp [intOf]; omega
          | false =>
            rw [hb] at HRT
            have HF : Hid (R = false) := by
              show R = false
              rw [hT.out]
              cases hc : (List.range n).all ok with
              | false => rfl
              | true =>
                have := List.all_eq_true.1 hc i (List.mem_range.2 hin)
                rw [hb] at this
                cases this
            go_wp2
            go_quiet ((go_at_call 15; exact (HRT.out _).mono (by rintro e w2 ⟨rfl, rfl⟩; exact ⟨rfl, _, rfl⟩)))
            go_wp2
            go_ret
            exact ⟨(by rw [HF.out]; first | done | rfl), kk + nq, by first | rfl | rw [World.drewN_drewN]⟩
        · obtain rfl : i = n := by omega
          have HT2 : Hid (R = true) := by
            show R = true
            rw [hT.out]
            exact List.all_eq_true.2 fun j hj => HALL.out j (List.mem_range.1 hj)
          clear HALL HGET
          go_wp2
          go_ret
          exact ⟨(by rw [HT2.out]; first | done | rfl), _, rfl⟩
    · have hT : Hid (takesB P (g : Int) xs = false) := by
        show _ = _
        unfold takesB
        rw [Int.toNat_natCast, decide_eq_false hlen, Bool.false_and, Bool.and_false]
      obtain ⟨R, hR⟩ : ∃ R, R = takesB P (g : Int) xs := ⟨_, rfl⟩
      rw [← hR] at hT ⊢
      have hlen' : ((xs.length : Int) != ((P.getD g default).params.length : Int)) = true := by simpa using (by omega : ¬ ((xs.length : Int) = ((P.getD g default).params.length : Int)))
      clear hR hin hG hGr hpi hvi ha hp hok hw hpv hvv hf0
      generalize (P.getD g default).params.length = n at *
      generalize xs.length = xl at *
      have hgl' : (g : Int) < P.length := by omega
      generalize P.length = pl at *
      clear hlen hgl hfl hql h64 hvl c0 c2 c3 c4 c5 hlt hpl hal
      go_enter Tryz.func11, Tryz.ntmps11
      go_wp2
      go_ret
      exact ⟨(by rw [hT.out]; first | done | rfl), 0, rfl⟩
  · have hT : Hid (takesB P f xs = false) := by
      show _ = _
      unfold takesB
      cases hc : inB f P.length with
      | false => rfl
      | true => exact (hin hc).elim
    obtain ⟨R, hR⟩ : ∃ R, R = takesB P f xs := ⟨_, rfl⟩
    rw [← hR] at hT ⊢
    have hc : f < 0 ∨ (P.length : Int) ≤ f := by
      by_cases h : f < 0
      · exact .inl h
      · by_cases h2 : (P.length : Int) ≤ f
        · exact .inr h2
        · exact (hin (inB_iff.2 ⟨by omega, by omega⟩)).elim
    clear hR hin hp hok ha hw
    generalize P.length = pl at *
    generalize xs.length = xl at *
    rcases hc with h | h
    · go_enter Tryz.func11, Tryz.ntmps11
      go_wp2
      go_ret
      exact ⟨(by rw [hT.out]; first | done | rfl), 0, rfl⟩
    · have h0 : ¬ f < 0 := by omega
      go_enter Tryz.func11, Tryz.ntmps11
      go_wp2
      go_ret
      exact ⟨(by rw [hT.out]; first | done | rfl), 0, rfl⟩
end Go.Proofs.YtdgpdmohfnealaaGreatDoor
/- Run: the walk. -/
namespace Go.Proofs.YtdgpdmohfnealaaGreatDoor
open Go.RowKit

abbrev zTrace : Array Value := #[.slice none 0 0, .int .u8 0, .int .u64 0, .int .u8 0, .int .i64 0, .int .i64 0]
theorem results_trace {P : Program} {fn : Func} {ty : TypeId} (h : fn.results = #[.cell 10 ty, .tmp 11]) (tmps : Array Value) (w : World) (g : Nat) (t : TypeId) (cs : Array Value) (fr : Nat × Nat) (d : TypeDesc)
    (hp : tmps.getD 10 undef = .pointer (some ⟨g, 0, none⟩)) (hg : w.heap[g]? = some (.cells cs t fr))
    (hu : P.underlying ty = some d) (hd : (match d with | .struct _ | .array _ _ => true | _ => false) = true) (hi : (P.info? ty).map (·.size) = some cs.size) {u : Value} (he : tmps.getD 11 undef = u) :
    (results fn tmps).run P w = .ok (.tuple #[.agg cs, u]) w := by
  rw [results_cell_tmp h, hp, he]
  simp [asAddr, run_loadVar_row w g t ty cs fr d hg hu hd hi, Result.andThen]
theorem heap_put {w : World} {g i : Nat} {cs : Array Value} {t : TypeId} (hg : w.heap[g]? = some (.cells cs t (0, 0))) (v : Value) : (w.setCell ⟨g, i, none⟩ v).heap[g]? = some (.cells (cs.setIfInBounds i v) t (0, 0)) := heap_setCell_same w g i cs t v hg
/-- The variable that the trace is told in. -/
structure TrBox (w w1 : World) : Prop where
  bel : Below w.heap.size w w1
  g0 : w1.cell? ⟨w.heap.size, 0, none⟩ = some (.slice none 0 0)
  g1 : w1.cell? ⟨w.heap.size, 1, none⟩ = some (.int .u8 0)
  g2 : w1.cell? ⟨w.heap.size, 2, none⟩ = some (.int .u64 0)
  g3 : w1.cell? ⟨w.heap.size, 3, none⟩ = some (.int .u8 0)
  g4 : w1.cell? ⟨w.heap.size, 4, none⟩ = some (.int .i64 0)
  g5 : w1.cell? ⟨w.heap.size, 5, none⟩ = some (.int .i64 0)
  gf : ∀ j, w1.frozen? ⟨w.heap.size, j, none⟩ = false
  obj : w1.heap[w.heap.size]? = some (.cells zTrace 27 (0, 0))
  lt : w.heap.size < w1.heap.size
theorem TrBox.new (w : World) : TrBox w (w.alloc (.cells zTrace 27)) := by
  have hbx := Box.new w [.slice none 0 0, .int .u8 0, .int .u64 0, .int .u8 0, .int .i64 0, .int .i64 0] 27
  exact ⟨below_alloc (Below.refl _ _) _, hbx.cell 0 _ rfl, hbx.cell 1 _ rfl, hbx.cell 2 _ rfl, hbx.cell 3 _ rfl, hbx.cell 4 _ rfl, hbx.cell 5 _ rfl, hbx.fz, heap_alloc_new w _, by simp⟩
theorem TrBox.below {w w1 w2 : World} (h : TrBox w w1) (hb : Below w1.heap.size w1 w2) : TrBox w w2 := by
  have hc : ∀ j, w2.cell? ⟨w.heap.size, j, none⟩ = w1.cell? ⟨w.heap.size, j, none⟩ := fun j => hb.cell (p := ⟨w.heap.size, j, none⟩) h.lt
  have hk := hb.block w.heap.size h.lt
  exact ⟨below_trans h.bel hb, (hc 0).trans h.g0, (hc 1).trans h.g1, (hc 2).trans h.g2, (hc 3).trans h.g3, (hc 4).trans h.g4, (hc 5).trans h.g5, fun j => (World.frozen?_of_block (a := ⟨w.heap.size, j, none⟩) hk).trans (h.gf j), hk.trans h.obj, Nat.lt_of_lt_of_le h.lt hb.size⟩
/-- What is told at the end: six cells put. -/
theorem TrBox.told {w w1 : World} (h : TrBox w w1) (x0 x1 x2 x3 x4 x5 : Value) : ((((((w1.setCell ⟨w.heap.size, 0, none⟩ x0).setCell ⟨w.heap.size, 1, none⟩ x1).setCell ⟨w.heap.size, 2, none⟩ x2).setCell ⟨w.heap.size, 3, none⟩ x3).setCell ⟨w.heap.size, 4, none⟩ x4).setCell ⟨w.heap.size, 5, none⟩ x5).heap[w.heap.size]? = some (.cells #[x0, x1, x2, x3, x4, x5] 27 (0, 0)) ∧ Below w.heap.size w ((((((w1.setCell ⟨w.heap.size, 0, none⟩ x0).setCell ⟨w.heap.size, 1, none⟩ x1).setCell ⟨w.heap.size, 2, none⟩ x2).setCell ⟨w.heap.size, 3, none⟩ x3).setCell ⟨w.heap.size, 4, none⟩ x4).setCell ⟨w.heap.size, 5, none⟩ x5) := by
  refine ⟨heap_put (heap_put (heap_put (heap_put (heap_put (heap_put h.obj x0) x1) x2) x3) x4) x5, ?_⟩
  have q : ∀ (W : World) (j : Nat) (u : Value), Below w.heap.size w W → Below w.heap.size w (W.setCell ⟨w.heap.size, j, none⟩ u) := fun W j u hW => hW.setCell (p := ⟨w.heap.size, j, none⟩) (Nat.le_refl _) u
  exact q _ _ _ (q _ _ _ (q _ _ _ (q _ _ _ (q _ _ _ (q _ _ _ h.bel)))))
set_option maxRecDepth 100000 in
set_option maxHeartbeats 4000000 in
theorem run_check_walk {ppv av : Value} {f st dp c : Int} {w : World} (hc : (c != 0) = true)
    (HC : Hid (∀ W, Below w.heap.size w W → Calls Tryz.prog 10 #[ppv] W fun e w' => (∃ d, e = .returned (.tuple #[.int .i64 c, .int .i64 d])) ∧ Below W.heap.size W w')) :
    Calls Tryz.prog 4 #[ppv, .int .i64 f, av, .int .i64 st, .int .i64 dp] w fun e w' => e = .returned (.tuple #[.agg zTrace, .int .i64 c]) ∧ Below w.heap.size w w' := by
  go_enter Tryz.func4, Tryz.ntmps4
  go_wp2_with (go_at_call 10; refine Calls.mono (by exact HC.out _ (below_alloc (Below.refl _ _) _)) ?_; rintro e w1 ⟨⟨d, rfl⟩, hb⟩; have hT := (TrBox.new w).below hb; obtain ⟨bel, g0, g1, g2, g3, g4, g5, gf, obj, lt⟩ := hT; have HT : Hid (TrBox w w1) := ⟨bel, g0, g1, g2, g3, g4, g5, gf, obj, lt⟩; clear bel obj lt hb)
  obtain ⟨q1, q2⟩ := HT.out.told (.slice none 0 0) (.int .u8 0) (.int .u64 0) (.int .u8 0) (.int .i64 0) (.int .i64 0)
  exact bodyPost_ret (results_trace rfl _ _ w.heap.size 27 zTrace _ _ rfl q1 Tryz.underlying27 rfl (by rfl) rfl) rfl ⟨rfl, q2⟩
set_option maxRecDepth 100000 in
set_option maxHeartbeats 4000000 in
theorem run_arg_walk {ppv av : Value} {f st dp : Int} {tk : Bool} {w : World} (hc : tk = false ∨ st < 0 ∨ dp < 0)
    (HC : Hid (∀ W, Below w.heap.size w W → Calls Tryz.prog 10 #[ppv] W fun e w' => (∃ d, e = .returned (.tuple #[.int .i64 0, .int .i64 d])) ∧ Below W.heap.size W w'))
    (HTK : Hid (∀ W, Below w.heap.size w W → Calls Tryz.prog 11 #[ppv, .int .i64 f, av] W fun e w' => e = .returned (.bool tk) ∧ Below W.heap.size W w')) :
    Calls Tryz.prog 4 #[ppv, .int .i64 f, av, .int .i64 st, .int .i64 dp] w fun e w' => e = .returned (.tuple #[.agg zTrace, .int .i64 2]) ∧ Below w.heap.size w w' := by
  cases tk with
  | false =>
    go_enter Tryz.func4, Tryz.ntmps4
    go_wp2_with (first
      | (go_at_call 10; refine Calls.mono (by exact HC.out _ (below_alloc (Below.refl _ _) _)) ?_; rintro e w1 ⟨⟨d, rfl⟩, hb⟩; have hT0 := (TrBox.new w).below hb; have HT0 : Hid (TrBox w w1) := hT0; clear hT0 hb)
      | (go_at_call 11; refine Calls.mono (by exact HTK.out _ HT0.out.bel) ?_; rintro e w2 ⟨rfl, hb⟩; have hT := HT0.out.below hb; obtain ⟨bel, g0, g1, g2, g3, g4, g5, gf, obj, lt⟩ := hT; have HT : Hid (TrBox w w2) := ⟨bel, g0, g1, g2, g3, g4, g5, gf, obj, lt⟩; clear bel obj lt hb))
    obtain ⟨q1, q2⟩ := HT.out.told (.slice none 0 0) (.int .u8 0) (.int .u64 0) (.int .u8 0) (.int .i64 0) (.int .i64 0)
    exact bodyPost_ret (results_trace rfl _ _ w.heap.size 27 zTrace _ _ rfl q1 Tryz.underlying27 rfl (by rfl) rfl) rfl ⟨rfl, q2⟩
  | true =>
    by_cases h1 : st < 0
    · go_enter Tryz.func4, Tryz.ntmps4
      go_wp2_with (first
        | (go_at_call 10; refine Calls.mono (by exact HC.out _ (below_alloc (Below.refl _ _) _)) ?_; rintro e w1 ⟨⟨d, rfl⟩, hb⟩; have hT0 := (TrBox.new w).below hb; have HT0 : Hid (TrBox w w1) := hT0; clear hT0 hb)
        | (go_at_call 11; refine Calls.mono (by exact HTK.out _ HT0.out.bel) ?_; rintro e w2 ⟨rfl, hb⟩; have hT := HT0.out.below hb; obtain ⟨bel, g0, g1, g2, g3, g4, g5, gf, obj, lt⟩ := hT; have HT : Hid (TrBox w w2) := ⟨bel, g0, g1, g2, g3, g4, g5, gf, obj, lt⟩; clear bel obj lt hb))
      obtain ⟨q1, q2⟩ := HT.out.told (.slice none 0 0) (.int .u8 0) (.int .u64 0) (.int .u8 0) (.int .i64 0) (.int .i64 0)
      exact bodyPost_ret (results_trace rfl _ _ w.heap.size 27 zTrace _ _ rfl q1 Tryz.underlying27 rfl (by rfl) rfl) rfl ⟨rfl, q2⟩
    · have h2 : dp < 0 := by
        rcases hc with h | h | h
        · cases h
        · exact (h1 h).elim
        · exact h
      clear hc
      go_enter Tryz.func4, Tryz.ntmps4
      go_wp2_with (first
        | (go_at_call 10; refine Calls.mono (by exact HC.out _ (below_alloc (Below.refl _ _) _)) ?_; rintro e w1 ⟨⟨d, rfl⟩, hb⟩; have hT0 := (TrBox.new w).below hb; have HT0 : Hid (TrBox w w1) := hT0; clear hT0 hb)
        | (go_at_call 11; refine Calls.mono (by exact HTK.out _ HT0.out.bel) ?_; rintro e w2 ⟨rfl, hb⟩; have hT := HT0.out.below hb; obtain ⟨bel, g0, g1, g2, g3, g4, g5, gf, obj, lt⟩ := hT; have HT : Hid (TrBox w w2) := ⟨bel, g0, g1, g2, g3, g4, g5, gf, obj, lt⟩; clear bel obj lt hb))
      obtain ⟨q1, q2⟩ := HT.out.told (.slice none 0 0) (.int .u8 0) (.int .u64 0) (.int .u8 0) (.int .i64 0) (.int .i64 0)
      exact bodyPost_ret (results_trace rfl _ _ w.heap.size 27 zTrace _ _ rfl q1 Tryz.underlying27 rfl (by rfl) rfl) rfl ⟨rfl, q2⟩
end Go.Proofs.YtdgpdmohfnealaaGreatDoor
/- Run: the runner is made, runs, tells. -/
namespace Go.Proofs.YtdgpdmohfnealaaGreatDoor
open Go.RowKit

theorem infoCd : (Tryz.prog.info? 89).map (fun i => (i.zero, i.size, i.bytes)) = some (some (.agg #[.slice none 0 0, .slice none 0 0]), 2, 48) := by kernel_rfl
abbrev zCalled (n : Nat) : Obj := .cells (madeCells #[.slice none 0 0, .slice none 0 0] (n * 2)) 89
theorem make_called (n : Nat) (hn : n ≤ 1000000) (W : World) : (Instr.makeSlice 60 (.int .i64 (n : Int)) (.int .i64 (n : Int))).run Tryz.prog W = .ok (newV W.heap.size n) (W.alloc (zCalled n)) := by
  obtain ⟨i0, hi0, hz0, hz1, hz2⟩ := info_parts infoCd
  have hr := run_make (P := Tryz.prog) W 60 89 i0 (.agg #[.slice none 0 0, .slice none 0 0]) Tryz.underlying60 hi0 hz0 .i64 .i64 n n (by omega) (Int.le_refl _) (by rw [hz2]; omega) (by omega)
  simp only [Int.toNat_natCast, hz1] at hr
  exact hr
abbrev rnArr (ppv : Value) (lim dep C n : Nat) : Array Value := #[ppv, .int .i64 (lim : Int), .int .i64 (dep : Int), newV C n, .slice none 0 0, .slice none 0 0, .slice none 0 0, .slice none 0 0, .slice none 0 0, .int .u8 0, .int .u64 0, .int .u8 0, .int .i64 0, .int .i64 0]
set_option maxRecDepth 100000 in
set_option maxHeartbeats 4000000 in
theorem run_main_walk {qa : Option Addr} {n qc lim dep : Nat} {av : Value} {f : Int} {w : World} (hn : (n : Int) ≤ 64) {Q : Value → Int → Int → Int → Int → Int → World → Prop}
    (HC : Hid (∀ W, Below w.heap.size w W → Calls Tryz.prog 10 #[.slice qa n qc] W fun e w' => (∃ d, e = .returned (.tuple #[.int .i64 0, .int .i64 d])) ∧ Below W.heap.size W w'))
    (HTK : Hid (∀ W, Below w.heap.size w W → Calls Tryz.prog 11 #[.slice qa n qc, .int .i64 f, av] W fun e w' => e = .returned (.bool true) ∧ Below W.heap.size W w'))
    (HR : Hid (∀ W W2, Below w.heap.size w W → w.heap.size < W.heap.size → W2 = (W.alloc (zCalled n)).alloc (.cells (rnArr (.slice qa n qc) lim dep W.heap.size n) 64) → Calls Tryz.prog 12 #[ptr (W.heap.size + 1), .int .i64 f, av] W2 fun e w' => e = .returned (.tuple #[]) ∧ ∃ (sa : Option Addr) (sn sc : Nat) (x1 x2 x3 x4 x5 : Int), Below W.heap.size W w' ∧ w'.cell? ⟨W.heap.size + 1, 8, none⟩ = some (.slice sa sn sc) ∧ w'.cell? ⟨W.heap.size + 1, 9, none⟩ = some (.int .u8 x1) ∧ w'.cell? ⟨W.heap.size + 1, 10, none⟩ = some (.int .u64 x2) ∧ w'.cell? ⟨W.heap.size + 1, 11, none⟩ = some (.int .u8 x3) ∧ w'.cell? ⟨W.heap.size + 1, 12, none⟩ = some (.int .i64 x4) ∧ w'.cell? ⟨W.heap.size + 1, 13, none⟩ = some (.int .i64 x5) ∧
      Q (.slice sa sn sc) x1 x2 x3 x4 x5 ((((((w'.setCell ⟨w.heap.size, 0, none⟩ (.slice sa sn sc)).setCell ⟨w.heap.size, 1, none⟩ (.int .u8 x1)).setCell ⟨w.heap.size, 2, none⟩ (.int .u64 x2)).setCell ⟨w.heap.size, 3, none⟩ (.int .u8 x3)).setCell ⟨w.heap.size, 4, none⟩ (.int .i64 x4)).setCell ⟨w.heap.size, 5, none⟩ (.int .i64 x5)))) :
    Calls Tryz.prog 4 #[.slice qa n qc, .int .i64 f, av, .int .i64 (lim : Int), .int .i64 (dep : Int)] w fun e w' => ∃ (sv : Value) (x1 x2 x3 x4 x5 : Int), e = .returned (.tuple #[.agg #[sv, .int .u8 x1, .int .u64 x2, .int .u8 x3, .int .i64 x4, .int .i64 x5], .int .i64 0]) ∧ Below w.heap.size w w' ∧ Q sv x1 x2 x3 x4 x5 w' := by
  have h1 : ¬ (lim : Int) < 0 := by omega
  have h2 : ¬ (dep : Int) < 0 := by omega
  have hmk := make_called n (by omega)
  go_enter Tryz.func4, Tryz.ntmps4
  go_wp2_with (first
    | (go_at_call 10; refine Calls.mono (by exact HC.out _ (below_alloc (Below.refl _ _) _)) ?_; rintro e w1 ⟨⟨d, rfl⟩, hb⟩; have hT0 := (TrBox.new w).below hb; have HT0 : Hid (TrBox w w1) := hT0; clear hT0 hb)
    | (go_at_call 11; refine Calls.mono (by exact HTK.out _ HT0.out.bel) ?_; rintro e w2 ⟨rfl, hb⟩; have HT : Hid (TrBox w w2) := HT0.out.below hb; clear hb)
    | (go_at_call 12; refine Calls.mono (by exact HR.out _ _ HT.out.bel HT.out.lt rfl) ?_; rintro e w3 ⟨rfl, sa, sn, sc, x1, x2, x3, x4, x5, hb, c8, c9, c10, c11, c12, c13, hq⟩; have hT := HT.out.below hb; obtain ⟨bel, g0, g1, g2, g3, g4, g5, gf, obj, lt⟩ := hT; have HT3 : Hid (TrBox w w3) := ⟨bel, g0, g1, g2, g3, g4, g5, gf, obj, lt⟩; have HQ : Hid _ := hq; clear bel obj lt hb hq))
  obtain ⟨q1, q2⟩ := HT3.out.told (.slice sa sn sc) (.int .u8 x1) (.int .u64 x2) (.int .u8 x3) (.int .i64 x4) (.int .i64 x5)
  exact bodyPost_ret (results_trace rfl _ _ w.heap.size 27 #[.slice sa sn sc, .int .u8 x1, .int .u64 x2, .int .u8 x3, .int .i64 x4, .int .i64 x5] _ _ rfl q1 Tryz.underlying27 rfl (by rfl) rfl) rfl ⟨_, _, _, _, _, _, rfl, q2, HQ.out⟩
end Go.Proofs.YtdgpdmohfnealaaGreatDoor
