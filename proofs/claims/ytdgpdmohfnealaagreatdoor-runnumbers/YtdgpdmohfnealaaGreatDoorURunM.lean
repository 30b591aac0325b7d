/- A block's end is done: what the runner keeps afterwards says what the document says. -/
import Derived.Test.YtdgpdmohfnealaaGreatDoorUSim3M
import Derived.Test.YtdgpdmohfnealaaGreatDoorULateM
import Derived.WalkMore
namespace Go.Proofs.YtdgpdmohfnealaaGreatDoor
open Go.RowKit

theorem Opn.cellsLt {P : List Gr} {S : St} {f : Fr} {fs : List Fr} {F F0 : Nat → Nat → Nat} {c : Cl} {cs : List Cl} (h : Opn P S f fs F F0 c cs) : ∀ s ∈ S.kept.drop S.top.k, s.cell < cellsOf (P.getD f.g default) := fun s hs => by
  rw [h.top] at hs
  obtain ⟨i, hi⟩ := List.mem_iff_getElem?.1 hs
  exact h.seg.cell i s hi
theorem tell_sim {E : Env} {C : Nat} (hB : RunB E C) {w : World} {V : Vals} {ss : List Slot} {S : St} (h : Rn E w V ss S) {H : HS} {f : Fr} {fs : List Fr} (hH : H.frs = f :: fs) (hs : Sim E.P S H) (hf : HOk E.P (f :: fs)) (hd : fs.length + 1 ≤ E.dep) (x : Int) :
    Calls Tryz.prog 41 #[ptr E.B, .int .u64 x] w fun e w' => e = .returned (.bool (H.tell E.P fs x).2) ∧ ∃ V' ss' S', Rn E w' V' ss' S' ∧ Sim E.P S' (H.tell E.P fs x).1 := by
  obtain ⟨⟨F, hi⟩, h1, h2, h3, h4, h5, h6⟩ := hs
  rw [hH] at hi
  obtain ⟨F0, c, cs, ho⟩ := hi.opn
  have hdd := hB.dep
  obtain ⟨hk1, _⟩ := ho.size hB hd
  obtain ⟨l, ha, hl⟩ := ho.asks (by omega)
  have hp := ho.pop
  have hcl := ho.cellsLt
  rw [← hl] at hcl
  cases fs with
  | nil =>
    refine (tell_end h ha (by rw [ho.top]; exact ho.ck) (by rw [ho.top]; exact ho.cr) (by omega) hcl x).mono ?_
    rintro e w' ⟨he, cv', kv', rv', ss', hr⟩
    exact ⟨he, _, ss', _, hr, ⟨F0, hp.turn rfl rfl rfl rfl⟩, h1, rfl, rfl, h4, h5, h6⟩
  | cons f2 fs2 =>
    obtain ⟨F1, c2, cs2, ho2⟩ := hp.opn
    obtain ⟨hf2, hn0, hk9⟩ := hf.2 f2 (by simp)
    obtain ⟨l2, ha2, hl2⟩ := ho2.asks (by simp at hd; omega)
    have hd2 : fs2.length + 1 ≤ E.dep := by simp at hd; omega
    obtain ⟨hk2, _⟩ := ho2.size hB hd2
    have hG2 : GOk E.P (grOf E.P f2) := gOk hB hf2.gl
    have hnl : f2.nx - 1 < (insOf E.P f2).length := by have := hf2.nl; omega
    have hx : InOk E.P (grOf E.P f2) ((insOf E.P f2).getD (f2.nx - 1) default) := hG2.ins f2.b hf2.bl _ hnl
    have hdst := hx.dst (by omega) (by omega) (by omega)
    have htg := ho2.tg
    have htb : (S.forget.popC (f2 :: fs2).length).top.b = f2.b := by rw [ho2.top, ho2.cb]
    have htx : (S.forget.popC (f2 :: fs2).length).top.nx = (f2.nx - 1) + 1 := by rw [ho2.top, ho2.cx]; omega
    have e0 : E.P.getD (S.forget.popC (f2 :: fs2).length).top.g default = grOf E.P f2 := by rw [htg]; rfl
    have hcl2 : (grOf E.P f2).vars.length ≤ l2.length := by rw [hl2]; unfold cellsOf grOf; omega
    refine (tell_on h ha (by rw [ho.top]; exact ho.ck) (by rw [ho.top]; exact ho.cr) (by omega) hcl x (S1 := S.forget.popC (f2 :: fs2).length) rfl ha2 (by omega) (by rw [htg]; exact hf2.gl) (by rw [e0, htb]; exact hf2.bl) htx (by rw [e0, htb]; exact hnl) (d := ((insOf E.P f2).getD (f2.nx - 1) default).dst.toNat) (by
      rw [e0, htb]
      show ((insOf E.P f2).getD (f2.nx - 1) default).dst = _
      omega) (by omega)).mono ?_
    rintro e w' ⟨he, cv', kv', rv', ss', hr⟩
    obtain ⟨F', O⟩ := ho2.set (v := ((insOf E.P f2).getD (f2.nx - 1) default).dst.toNat) (by show _ < (grOf E.P f2).vars.length; omega) x
    obtain ⟨⟨r1, r2, r3, r4, r5⟩, r6⟩ := St.set_rest (S.forget.popC (f2 :: fs2).length) ((insOf E.P f2).getD (f2.nx - 1) default).dst.toNat x
    exact ⟨he, _, ss', _, hr, ⟨F', O.hi⟩, r6.trans h1, r1.trans h2, r2.trans h3, r3.trans h4, r4.trans h5, r5.trans h6⟩
theorem next_named' {t : Tm} : (t.kind = 1 → t.t0 ∈ nextT t) ∧ (t.kind = 2 → t.t0 ∈ nextT t ∧ t.t1 ∈ nextT t) := by
  refine ⟨fun h => (next_named t _).2 ?_, fun h => ⟨(next_named t _).2 ?_, (next_named t _).2 ?_⟩⟩
  · unfold namedT; rw [if_pos h]; simp
  · unfold namedT; rw [if_neg (by omega), if_pos h]; simp
  · unfold namedT; rw [if_neg (by omega), if_pos h]; simp
theorem end_sim {E : Env} {C : Nat} (hB : RunB E C) {w : World} {V : Vals} {ss : List Slot} {S : St} (h : Rn E w V ss S) {H : HS} {f : Fr} {fs : List Fr} (hH : H.frs = f :: fs) (hs : Sim E.P S H) (hf : HOk E.P (f :: fs)) (hd : fs.length + 1 ≤ E.dep) (hst : S.steps ≤ 1000000000000) {g o : Nat} (ht : TmAt E.w0 g o (tmOf E.P f)) :
    Calls Tryz.prog 20 #[ptr E.B, .pointer (some ⟨g, o, none⟩)] w fun e w' => e = .returned (.bool (H.endT E.P E.lim f fs (tmOf E.P f)).2) ∧ ∃ V' ss' S', Rn E w' V' ss' S' ∧ Sim E.P S' (H.endT E.P E.lim f fs (tmOf E.P f)).1 := by
  obtain ⟨⟨F, hi⟩, h1, h2, h3, h4, h5, h6⟩ := id hs
  rw [hH] at hi
  obtain ⟨F0, c, cs, ho⟩ := hi.opn
  have hdd := hB.dep
  obtain ⟨l, ha, hl⟩ := ho.asks (by omega)
  have hG : GOk E.P (grOf E.P f) := gOk hB hf.1.gl
  have hT : TmOk (grOf E.P f) (tmOf E.P f) := hG.tm f.b hf.1.bl
  have hcl : (grOf E.P f).vars.length ≤ l.length := by rw [hl]; unfold cellsOf grOf; omega
  unfold HS.endT
  by_cases k1 : (tmOf E.P f).kind = 1
  · rw [if_pos k1]
    have ht0 := hT.t0 (.inl k1)
    obtain ⟨t, hte⟩ : ∃ t : Nat, (tmOf E.P f).t0 = (t : Int) := Int.eq_ofNat_of_zero_le ht0.1
    have hn := (next_named' (t := tmOf E.P f)).1 k1
    rw [hte] at hn ht0
    rw [hte, Int.toNat_natCast]
    exact end_jump (Q := fun w' => ∃ V' ss' S', Rn E w' V' ss' S' ∧ Sim E.P S' (H.enter E.P E.lim f fs t).1) h ht k1 (fun k => by rw [hte]; exact enter_sim hB (h.drewN k) hH hs hf.1 hd hst (by omega) hn)
  · rw [if_neg k1]
    by_cases k2 : (tmOf E.P f).kind = 2
    · rw [if_pos k2]
      have ht0 := hT.t0 (.inr k2)
      have ht1 := hT.t1 k2
      have harg := hT.arg (.inl k2)
      have hn := (next_named' (t := tmOf E.P f)).2 k2
      have hge : S.get (tmOf E.P f).arg.toNat = f.ev (tmOf E.P f).arg.toNat := ho.get (by show _ < (grOf E.P f).vars.length; omega)
      obtain ⟨t, hte⟩ : ∃ t : Nat, (if f.ev (tmOf E.P f).arg.toNat = 1 then (tmOf E.P f).t0 else (tmOf E.P f).t1) = (t : Int) := Int.eq_ofNat_of_zero_le (by split <;> omega)
      have htn : (t : Int) ∈ nextT (tmOf E.P f) ∧ t < (grOf E.P f).blocks.length := by
        split at hte
        · exact ⟨by rw [← hte]; exact hn.1, by omega⟩
        · exact ⟨by rw [← hte]; exact hn.2, by omega⟩
      rw [hte, Int.toNat_natCast]
      exact end_branch (Q := fun w' => ∃ V' ss' S', Rn E w' V' ss' S' ∧ Sim E.P S' (H.enter E.P E.lim f fs t).1) h ha ht k2 (v := (tmOf E.P f).arg.toNat) (by omega) (by omega) (fun k => by rw [hge, hte]; exact enter_sim hB (h.drewN k) hH hs hf.1 hd hst htn.2 htn.1)
    · rw [if_neg k2]
      by_cases k3 : (tmOf E.P f).kind = 3
      · rw [if_pos k3]
        have harg := hT.arg (.inr k3)
        have hge : S.get (tmOf E.P f).arg.toNat = f.ev (tmOf E.P f).arg.toNat := ho.get (by show _ < (grOf E.P f).vars.length; omega)
        exact end_back (Q := fun w' => ∃ V' ss' S', Rn E w' V' ss' S' ∧ Sim E.P S' (H.tell E.P fs (f.ev (tmOf E.P f).arg.toNat)).1) h ha ht k3 (v := (tmOf E.P f).arg.toNat) (by omega) (by omega) (fun k => by rw [hge]; exact tell_sim hB (h.drewN k) hH hs hf hd _)
      · rw [if_neg k3]
        refine (end_trap h ht ⟨k1, k2, k3⟩).mono ?_
        rintro e w' ⟨he, ss', hr⟩
        refine ⟨he, V, ss', _, hr, ⟨F, ?_⟩, h1, rfl, h3, rfl, h5, h6⟩
        show Hi E.P _ H.frs F
        rw [hH]
        exact hi.turn rfl rfl rfl rfl
end Go.Proofs.YtdgpdmohfnealaaGreatDoor
/- Calls that live stay well. -/
namespace Go.Proofs.YtdgpdmohfnealaaGreatDoor

theorem upd_word {e : Nat → Int} (h : ∀ v, Sc.word (e v)) (v : Nat) {x : Int} (hx : Sc.word x) : ∀ u, Sc.word (updE e v x u) := fun u => by
  unfold updE
  split
  · exact hx
  · exact h u
theorem setE_ok {P : List Gr} {f : Fr} (h : FrOk P f) (v : Nat) {x : Int} (hx : Sc.word x) : FrOk P (f.setE v x) :=
  ⟨h.gl, h.bl, upd_word h.ev v hx, h.ar, h.np, h.nl⟩
theorem sets_words : ∀ (qs : List (Nat × Int)) {f : Fr}, (∀ v, Sc.word (f.ev v)) → (∀ q ∈ qs, Sc.word q.2) → ∀ v, Sc.word ((f.sets qs).ev v)
  | [], _, h, _ => h
  | q :: qs, f, h, hq => sets_words qs (f := f.setE q.1 q.2) (upd_word h q.1 (hq q (by simp))) (fun p hp => hq p (by simp [hp]))
theorem doI_ok {P : List Gr} {f : Fr} (h : FrOk P f) {x : In} (hb : Sc.word x.bits) (hn : f.nx < (insOf P f).length) : FrOk P { f.doI (grOf P f) x with nx := f.nx + 1 } := by
  have hw : (∀ v, Sc.word ((f.doI (grOf P f) x).ev v)) ∧ ∀ q j, Sc.word ((f.doI (grOf P f) x).ar q j) := by
    unfold Fr.doI
    have hre : Sc.word (f.reck (grOf P f) x) := by
      unfold Fr.reck
      split
      · exact Sc.word_one (h.ev _)
      · exact Sc.word_two
    have hel : Sc.word (f.elem (grOf P f) x.ref.toNat (f.ev (argN x 0))) := by
      unfold Fr.elem
      split
      · exact h.ar _ _
      · exact Sc.word_zero
    repeat' split
    · exact ⟨upd_word h.ev _ hb, h.ar⟩
    · exact ⟨upd_word h.ev _ (h.ev _), h.ar⟩
    · exact ⟨upd_word h.ev _ hre, h.ar⟩
    · exact ⟨upd_word h.ev _ (Sc.word_turn (h.ev _)), h.ar⟩
    · exact ⟨upd_word h.ev _ hel, h.ar⟩
    · unfold Fr.put
      split
      · exact ⟨h.ev, h.ar⟩
      · refine ⟨h.ev, fun q j => ?_⟩
        dsimp only
        repeat' split
        · exact h.ev _
        · exact h.ar _ _
        · exact h.ar _ _
    · refine ⟨h.ev, fun q j => ?_⟩
      unfold Fr.wipe
      dsimp only
      split
      · exact Sc.word_zero
      · exact h.ar _ _
    · exact ⟨h.ev, h.ar⟩
  obtain ⟨q1, q2, q3⟩ := doI_at (grOf P f) f x
  have e : insOf P { f.doI (grOf P f) x with nx := f.nx + 1 } = insOf P f := insOf_at q1 q2
  refine ⟨by show (f.doI (grOf P f) x).g < _; rw [q1]; exact h.gl, ?_, hw.1, hw.2, ?_, ?_⟩
  · show (f.doI (grOf P f) x).b < (P.getD (f.doI (grOf P f) x).g default).blocks.length
    rw [q1, q2]; exact h.bl
  · rw [e]; have := h.np; show _ ≤ f.nx + 1; omega
  · rw [e]; exact hn
theorem new_ok {P : List Gr} (hP : POk P) {g : Nat} (hg : g < P.length) {ws : List Int} (hw : ∀ v, Sc.word (ws.getD v 0)) : FrOk P ((Fr.new g).sets (argPairs (P.getD g default) ws)) := by
  obtain ⟨q1, q2, q3, q4⟩ := Fr.sets_keep (argPairs (P.getD g default) ws) (Fr.new g)
  have hG := hP.2 g hg
  have e : insOf P ((Fr.new g).sets (argPairs (P.getD g default) ws)) = insOf P (Fr.new g) := insOf_at q1 q2
  refine ⟨by rw [q1]; exact hg, ?_, ?_, fun q j => by rw [q4]; exact Sc.word_zero, ?_, ?_⟩
  · unfold grOf
    rw [q1, q2]
    exact hG.bl.1
  · refine sets_words _ (f := Fr.new g) (fun _ => Sc.word_zero) (fun q hq => ?_)
    unfold argPairs at hq
    obtain ⟨i, _, rfl⟩ := List.mem_map.1 hq
    exact hw i
  · rw [e, q3]
    show npOf ((P.getD g default).blocks.getD 0 default).ins ≤ 0
    rw [hG.phi0]
    exact Nat.le_refl _
  · rw [q3]; exact Nat.zero_le _
theorem into_ok {P : List Gr} {f : Fr} (h : FrOk P f) {t : Nat} (ht : t < (grOf P f).blocks.length) : FrOk P (f.into P t) := by
  obtain ⟨q1, q2, q3, q4⟩ := Fr.sets_keep (phiPairs f ((grOf P f).blocks.getD t default).ins (placeOf (grOf P f) t f.b)) f
  have e : insOf P (f.into P t) = ((grOf P f).blocks.getD t default).ins := by
    unfold insOf grOf Fr.into
    dsimp only
    rw [show (f.sets (phiPairs f ((grOf P f).blocks.getD t default).ins (placeOf (grOf P f) t f.b))).g = f.g from q1]
  have eg : (f.into P t).g = f.g := q1
  refine ⟨by rw [eg]; exact h.gl, ?_, ?_, fun q j => ?_, ?_, ?_⟩
  · unfold grOf
    rw [eg]
    exact ht
  · refine sets_words _ (f := f) h.ev (fun q hq => ?_)
    unfold phiPairs at hq
    obtain ⟨i, _, rfl⟩ := List.mem_map.1 hq
    exact h.ev _
  · show Sc.word ((f.sets _).ar q j)
    rw [q4]; exact h.ar q j
  · rw [e]; exact Nat.le_refl _
  · rw [e]; exact npOf_le _
theorem map_word {f : Fr} (h : ∀ v, Sc.word (f.ev v)) (l : List Int) (i : Nat) : Sc.word ((l.map fun v => f.ev v.toNat).getD i 0) := by
  rw [List.getD, List.getElem?_map]
  cases l[i]? with
  | none => exact Sc.word_zero
  | some v => exact h _
theorem hok_next {P : List Gr} {lim dep : Nat} (hP : POk P) (hbits : ∀ g t k, Sc.word ((((P.getD g default).blocks.getD t default).ins).getD k default).bits) {H : HS} (h : HOk P H.frs) (hn : (H.next P lim dep).2 = true) : HOk P (H.next P lim dep).1.frs := by
  have ent : ∀ (f : Fr) (fs : List Fr) (t : Nat), HOk P (f :: fs) → t < (grOf P f).blocks.length → (H.enter P lim f fs t).2 = true → HOk P (H.enter P lim f fs t).1.frs := fun f fs t hf ht he => by
    rw [(enter_on he).2]
    exact ⟨into_ok hf.1 ht, hf.2⟩
  unfold HS.next at hn ⊢
  split at hn
  · cases hn
  · rename_i f fs e
    rw [e] at h
    have hG : GOk P (grOf P f) := hP.2 f.g h.1.gl
    by_cases h1 : f.nx < (insOf P f).length
    · rw [if_pos h1] at hn ⊢
      have hx : InOk P (grOf P f) ((insOf P f).getD f.nx default) := hG.ins f.b h.1.bl _ h1
      by_cases h2 : ((insOf P f).getD f.nx default).kind = 9
      · rw [if_pos h2] at hn ⊢
        obtain ⟨h3, h4, h5⟩ := begin_on hn
        rw [h5]
        have hc := hx.call h2
        refine ⟨new_ok hP (by omega) (map_word h.1.ev _), fun f2 hf2 => ?_⟩
        rcases List.mem_cons.1 hf2 with rfl | hf2
        · have ei : insOf P { f with nx := f.nx + 1 } = insOf P f := insOf_at rfl rfl
          refine ⟨⟨h.1.gl, h.1.bl, h.1.ev, h.1.ar, ?_, ?_⟩, by show 0 < f.nx + 1; omega, ?_⟩
          · rw [ei]; have := h.1.np; show _ ≤ f.nx + 1; omega
          · rw [ei]; exact h1
          · rw [ei]; exact h2
        · exact h.2 f2 hf2
      · rw [if_neg h2]
        exact ⟨doI_ok h.1 (hbits _ _ _) h1, h.2⟩
    · rw [if_neg h1] at hn ⊢
      have hT : TmOk (grOf P f) (tmOf P f) := hG.tm f.b h.1.bl
      unfold HS.endT at hn ⊢
      by_cases k1 : (tmOf P f).kind = 1
      · rw [if_pos k1] at hn ⊢
        have := hT.t0 (.inl k1)
        exact ent f fs _ h (by omega) hn
      · rw [if_neg k1] at hn ⊢
        by_cases k2 : (tmOf P f).kind = 2
        · rw [if_pos k2] at hn ⊢
          have h8 := hT.t0 (.inr k2)
          have h9 := hT.t1 k2
          exact ent f fs _ h (by split <;> omega) hn
        · rw [if_neg k2] at hn ⊢
          by_cases k3 : (tmOf P f).kind = 3
          · rw [if_pos k3] at hn ⊢
            unfold HS.tell at hn ⊢
            split at hn
            · cases hn
            · rename_i f2 fs2
              obtain ⟨w1, w2, w3⟩ := h.2 f2 (by simp)
              exact ⟨setE_ok w1 _ (h.1.ev _), fun f3 hf3 => h.2 f3 (by simp [hf3])⟩
          · rw [if_neg k3] at hn
            cases hn
/-- What stands all along a run. -/
theorem iter_ok {P : List Gr} {lim dep g : Nat} {ws : List Int} (hP : POk P) (hbits : ∀ g t k, Sc.word ((((P.getD g default).blocks.getD t default).ins).getD k default).bits) (hg : g < P.length) (hw : ∀ v, Sc.word (ws.getD v 0)) : ∀ n, (HS.iter P lim dep n (HS.first P lim dep g ws)).2 = true → HOk P (HS.iter P lim dep n (HS.first P lim dep g ws)).1.frs ∧ (HS.iter P lim dep n (HS.first P lim dep g ws)).1.frs ≠ [] ∧ Within lim dep (HS.iter P lim dep n (HS.first P lim dep g ws))
  | 0, ht => by
    replace ht : (HS.first P lim dep g ws).2 = true := ht
    show HOk P (HS.first P lim dep g ws).1.frs ∧ (HS.first P lim dep g ws).1.frs ≠ [] ∧ Within lim dep (HS.first P lim dep g ws)
    have hw' : Within lim dep (HS.first P lim dep g ws) := begin_within (Nat.zero_le _) (Nat.zero_le _) (Nat.le_refl _) rfl g ws
    unfold HS.first at ht hw' ⊢
    have hb := begin_on ht
    refine ⟨?_, ?_, hw'⟩
    · rw [hb.2.2]
      exact ⟨new_ok hP hg hw, fun f2 hf2 => by cases hf2⟩
    · rw [hb.2.2]; simp
  | n + 1, ht => by
    have hprev : (HS.iter P lim dep n (HS.first P lim dep g ws)).2 = true := by
      cases hc : (HS.iter P lim dep n (HS.first P lim dep g ws)).2 with
      | true => rfl
      | false =>
        rw [HS.iter_add P lim dep n 1, HS.iter_stop hc, hc] at ht
        cases ht
    obtain ⟨h1, h2, h3⟩ := iter_ok hP hbits hg hw n hprev
    have e : HS.iter P lim dep (n + 1) (HS.first P lim dep g ws) = (HS.iter P lim dep n (HS.first P lim dep g ws)).1.next P lim dep := by
      refine HS.iter_one (H := (HS.iter P lim dep n (HS.first P lim dep g ws)).1) ?_
      rw [← hprev]
    rw [e] at ht ⊢
    have hw2 := next_within (P := P) h3.steps h3.deep h3.frs (h3.on hprev) h2
    refine ⟨hok_next hP hbits h1 ht, ?_, hw2⟩
    intro hnil
    have := ht
    unfold HS.next at hnil this
    split at this
    · cases this
    · rename_i f fs ef
      rw [ef] at hnil
      dsimp only at hnil
      split at this
      · rename_i q1
        rw [if_pos q1] at hnil
        split at this
        · rename_i q2
          rw [if_pos q2, (begin_on this).2.2] at hnil
          cases hnil
        · rename_i q2
          rw [if_neg q2] at hnil
          cases hnil
      · rename_i q1
        rw [if_neg q1] at hnil
        unfold HS.endT at this hnil
        split at this
        · rename_i q2
          rw [if_pos q2, (enter_on this).2] at hnil
          cases hnil
        · rename_i q2
          rw [if_neg q2] at hnil
          split at this
          · rename_i q3
            rw [if_pos q3, (enter_on this).2] at hnil
            cases hnil
          · rename_i q3
            rw [if_neg q3] at hnil
            split at this
            · rename_i q4
              rw [if_pos q4] at hnil
              unfold HS.tell at this hnil
              split at this
              · cases this
              · cases hnil
            · cases this
end Go.Proofs.YtdgpdmohfnealaaGreatDoor
/- The runner's loops: the walk. -/
namespace Go.Proofs.YtdgpdmohfnealaaGreatDoor
open Go.RowKit

theorem least_ex {p : Nat → Prop} (h : ∃ k, p k) : ∃ k, p k ∧ ∀ j, p j → k ≤ j := by
  obtain ⟨k, hk⟩ := h
  induction k using Nat.strongRecOn with
  | _ k ih =>
    by_cases h : ∃ j, j < k ∧ p j
    · obtain ⟨j, hj, hp⟩ := h; exact ih j hj hp
    · exact ⟨k, hk, fun j hj => Nat.le_of_not_lt fun hc => h ⟨j, hc, hj⟩⟩
noncomputable def leastN (p : Nat → Prop) : Nat := open Classical in if h : ∃ k, p k ∧ ∀ j, p j → k ≤ j then Classical.choose h else 0
theorem leastN_of {p : Nat → Prop} (h : ∃ k, p k) : p (leastN p) ∧ ∀ j, p j → leastN p ≤ j := by
  have h2 := least_ex h
  unfold leastN
  rw [dif_pos h2]
  exact Classical.choose_spec h2
/-- Where the last call and its block lie. -/
structure Cx where
  cb : Nat
  m : Nat
  tg : Nat
  tb : Nat
  bg : Nat
  bo : Nat
  bn : Nat
  bc : Nat
  il : Nat
  ic : Nat
  ia : Option Addr
noncomputable def muR (N : Nat) (G : Nat → Cx → World → Prop) (w : World) : Nat := leastN fun k => ∃ n x, G n x w ∧ N - n = k
theorem muR_of {N : Nat} {G : Nat → Cx → World → Prop} {w : World} (h : ∃ n x, G n x w) : ∃ n x, G n x w ∧ muR N G w = N - n := by
  obtain ⟨n, x, h1⟩ := h
  obtain ⟨⟨n2, x2, h2, h3⟩, _⟩ := leastN_of (p := fun k => ∃ n x, G n x w ∧ N - n = k) ⟨_, n, x, h1, rfl⟩
  exact ⟨n2, x2, h2, h3.symm⟩
theorem muR_le {N : Nat} {G : Nat → Cx → World → Prop} {w : World} {n : Nat} {x : Cx} (h : G n x w) : muR N G w ≤ N - n :=
  (leastN_of (p := fun k => ∃ n x, G n x w ∧ N - n = k) ⟨_, n, x, h, rfl⟩).2 _ ⟨n, x, h, rfl⟩
set_option maxRecDepth 100000 in
set_option maxHeartbeats 4000000 in
theorem run_walk {B pg po np qc f N : Nat} {av : Value} {w : World} {G : Nat → Cx → World → Prop} {Qn : Nat → World → Prop} {Qe : World → Prop} {bs : Nat → Bool} {b0 : Bool}
    (HS : Hid (∀ W k, W = w.drewN k → Calls Tryz.prog 16 #[ptr B, .int .i64 (f : Int), av] W fun e w' => e = .returned (.bool b0) ∧ (b0 = true → ∃ x, G 0 x w') ∧ (b0 = false → Qe w')))
    (HN : Hid (∀ n x w, G n x w → (∀ W k, W = w.drewN k → Calls Tryz.prog 17 #[ptr B] W fun e w' => e = .returned (.pointer (some ⟨x.cb, x.m * 5, none⟩)) ∧ ∃ k, w' = W.drewN k) ∧
      w.cell? ⟨B, 0, none⟩ = some (.slice (some ⟨pg, po, none⟩) np qc) ∧ w.cell? ⟨x.cb, x.m * 5, none⟩ = some (.int .i64 (x.tg : Int)) ∧ w.cell? ⟨x.cb, x.m * 5 + 1, none⟩ = some (.int .i64 (x.tb : Int)) ∧ w.cell? ⟨pg, po + x.tg * 6 + 5, none⟩ = some (.slice (some ⟨x.bg, x.bo, none⟩) x.bn x.bc) ∧ (x.tg : Int) < np ∧ (x.tb : Int) < x.bn ∧ n < N))
    (HB : Hid (∀ n x w, G n x w → ∃ nx : Nat, w.cell? ⟨x.cb, x.m * 5 + 2, none⟩ = some (.int .i64 (nx : Int)) ∧ w.frozen? ⟨x.cb, x.m * 5 + 2, none⟩ = false ∧ w.cell? ⟨x.bg, x.bo + x.tb * 6, none⟩ = some (.slice x.ia x.il x.ic) ∧ (nx : Int) ≤ 1000000 ∧
      ((nx : Int) < x.il → ∃ (ig io : Nat) (k : Int), x.ia = some ⟨ig, io, none⟩ ∧ (∀ j, ((w.drewN j).setCell ⟨x.cb, x.m * 5 + 2, none⟩ (.int .i64 ((nx : Int) + 1))).cell? ⟨ig, io + nx * 6, none⟩ = some (.int .u8 k)) ∧
        (((k != 9) = true ∧ ∀ W j i, W = (((w.drewN j).setCell ⟨x.cb, x.m * 5 + 2, none⟩ (.int .i64 ((nx : Int) + 1))).drewN i) → Calls Tryz.prog 18 #[ptr B, .pointer (some ⟨ig, io + nx * 6, none⟩)] W fun e w' => e = .returned (.tuple #[]) ∧ G (n + 1) x w') ∨
         (k = 9 ∧ ∃ (rf : Int) (rv : Value), (∀ j, ((w.drewN j).setCell ⟨x.cb, x.m * 5 + 2, none⟩ (.int .i64 ((nx : Int) + 1))).cell? ⟨ig, io + nx * 6 + 5, none⟩ = some (.int .i64 rf)) ∧ (∀ j, ((w.drewN j).setCell ⟨x.cb, x.m * 5 + 2, none⟩ (.int .i64 ((nx : Int) + 1))).cell? ⟨ig, io + nx * 6 + 3, none⟩ = some rv) ∧
          ∀ W j i, W = (((w.drewN j).setCell ⟨x.cb, x.m * 5 + 2, none⟩ (.int .i64 ((nx : Int) + 1))).drewN i) → Calls Tryz.prog 19 #[ptr B, rv] W fun e w' => ∃ wv, e = .returned wv ∧ w'.cell? ⟨ig, io + nx * 6 + 5, none⟩ = some (.int .i64 rf) ∧ w'.cell? ⟨ig, io + nx * 6 + 3, none⟩ = some rv ∧ ∀ W i, W = w'.drewN i → Calls Tryz.prog 16 #[ptr B, .int .i64 rf, wv] W fun e w3 => e = .returned (.bool (bs n)) ∧ w3.cell? ⟨ig, io + nx * 6 + 5, none⟩ = some (.int .i64 rf) ∧ w3.cell? ⟨ig, io + nx * 6 + 3, none⟩ = some rv ∧ Qn n w3))) ∧
      (¬ (nx : Int) < x.il → ∀ W j, W = w.drewN j → Calls Tryz.prog 20 #[ptr B, .pointer (some ⟨x.bg, x.bo + x.tb * 6 + 1, none⟩)] W fun e w' => e = .returned (.bool (bs n)) ∧ Qn n w')))
    (HD : Hid (∀ n x w k, G n x w → G n x (w.drewN k)))
    (HQ : Hid (∀ n w, Qn n w → (bs n = true → ∃ x, G (n + 1) x w) ∧ (bs n = false → Qe w))) :
    Calls Tryz.prog 12 #[ptr B, .int .i64 (f : Int), av] w fun e w' => e = .returned (.tuple #[]) ∧ Qe w' := by
  cases b0 with
  | false =>
    go_enter Tryz.func12, Tryz.ntmps12
    go_wp2
    go_step3
    go_wp2_with (go_at_call 16; refine Calls.mono (HS.out _ 0 rfl) ?_; rintro e w1 ⟨rfl, _, hq⟩)
    rw [Exit.noGoto_ret]
    refine bodyPost_ret (results_none rfl _ _ _) rfl ?_
    exact ⟨rfl, hq trivial⟩
  | true =>
    go_enter Tryz.func12, Tryz.ntmps12
    go_wp2
    go_step3
    go_wp2_with (go_at_call 16; refine Calls.mono (HS.out _ 0 rfl) ?_; rintro e w1 ⟨rfl, hq, _⟩)
    have HG : Hid _ := hq trivial
    clear hq HS
    go_step3
    go_wp2
    go_loopw [] (fun wr => Hid (∃ n x, G n x wr)) (fun wr => muR N G wr)
    case atStart => obtain ⟨x, hx⟩ := HG.out; exact ⟨0, x, hx⟩
    case round =>
      clear HG
      obtain ⟨n, x, hG, hmu⟩ := muR_of (N := N) hrel.out
      obtain ⟨hnow, c0, c1, c2, c3, htg, htb, hnN⟩ := HN.out n x wr hG
      have HG0 : Hid _ := hG
      have HMU : Hid _ := hmu
      have HNOW : Hid _ := hnow
      have HNN : Hid _ := hnN
      clear hG hmu hnow hnN hrel
      obtain ⟨cb, m, tg, tb, bg, bo, bn, bc, il, ic, ia⟩ := x
      dsimp only at c0 c1 c2 c3 htg htb
      generalize wr = wo at *
      go_wp2_with (go_at_call 17; refine Calls.mono (HNOW.out _ 0 rfl) ?_; rintro e w2 ⟨rfl, kq, rfl⟩)
      go_quiet (fail)
      go_wp2
      clear c0 c1 c2 c3 htg htb HNOW
      go_loopw [] (fun wr => Hid (∃ n2, n ≤ n2 ∧ G n2 ⟨cb, m, tg, tb, bg, bo, bn, bc, il, ic, ia⟩ wr)) (fun wr => muR N (fun n2 x w => (n ≤ n2 ∧ x = ⟨cb, m, tg, tb, bg, bo, bn, bc, il, ic, ia⟩) ∧ G n2 x w) wr)
      case atStart => exact ⟨n, Nat.le_refl _, HD.out _ _ _ _ (by first | exact HG0.out | exact HD.out _ _ _ _ HG0.out)⟩
      case round =>
        clear HG0
        obtain ⟨n2, x2, ⟨⟨hn2, rfl⟩, hG2⟩, hmu2⟩ := muR_of (N := N) (G := fun n2 x w => (n ≤ n2 ∧ x = ⟨cb, m, tg, tb, bg, bo, bn, bc, il, ic, ia⟩) ∧ G n2 x w) (by obtain ⟨n2, h1, h2⟩ := hrel.out; exact ⟨n2, _, ⟨h1, rfl⟩, h2⟩)
        obtain ⟨nx, d0, df, d1, hnx, hA, hBn⟩ := HB.out n2 _ wr hG2
        dsimp only at d0 df d1 hA hBn
        have HMU2 : Hid _ := hmu2
        have HN2 : Hid (n ≤ n2) := hn2
        have HN3 : Hid (n2 < N) := (HN.out n2 _ wr hG2).2.2.2.2.2.2.2
        clear hmu2 hn2 hrel hG2
        by_cases hlt : (nx : Int) < il
        · obtain ⟨ig, io, k, rfl, e0, hcase⟩ := hA hlt
          rcases hcase with ⟨hk, hdo⟩ | ⟨rfl, rf, rv, e5, e3, hrd⟩
          · have HDO : Hid _ := hdo
            clear hA hBn hdo
            go_wp2
            go_quiet (fail)
            go_wp2
            go_quiet (fail)
            go_wp2_with (go_at_call 18; refine Calls.mono (by exact HDO.out _ _ 0 rfl) ?_; rintro e w2 ⟨rfl, hq⟩; have HG3 : Hid _ := hq; clear hq)
            go_roundw
            case rel => exact ⟨n2 + 1, by have := HN2.out; omega, HG3.out⟩
            case measure =>
              have := muR_le (N := N) (G := fun n2 x w => (n ≤ n2 ∧ x = ⟨cb, m, tg, tb, bg, bo, bn, bc, il, ic, some ⟨ig, io, none⟩⟩) ∧ G n2 x w) (n := n2 + 1) (x := ⟨cb, m, tg, tb, bg, bo, bn, bc, il, ic, some ⟨ig, io, none⟩⟩) (w := w2) ⟨⟨by have := HN2.out; omega, rfl⟩, HG3.out⟩
              rw [HMU2.out]
              have := HN3.out
              omega
          · have HRD : Hid _ := hrd
            clear hA hBn hrd
            go_wp2
            go_quiet (fail)
            go_wp2
            go_quiet (fail)
            go_wp2
            refine wp_region_late (fun w' => w'.cell? ⟨ig, io + nx * 6 + 5, none⟩ = some (.int .i64 rf) ∧ w'.cell? ⟨ig, io + nx * 6 + 3, none⟩ = some rv) (fun _ => false) (by kernel_rfl) ⟨e5 _, e3 _⟩ (fun hHeld => ?_)
            refine wpAnyL_take 0 (v := ?_) rfl (by kernel_rfl) (by kernel_rfl) (by kernel_rfl) (by kernel_rfl) (fun _ _ _ h => h) hHeld (Or.inl ⟨by kernel_rfl, ?_⟩) ?_
            rotate_left 1
            · (intro w hSw; (try dsimp only at hSw); (try obtain ⟨s0, s1⟩ := hSw); first | (go_simp; done) | (go_simp; with_reducible rfl))
            simp only [Act.put, List.setIfInBounds_toArray]
            refine wpAnyL_take 1 (v := ?_) rfl (by kernel_rfl) (by kernel_rfl) (by kernel_rfl) (by kernel_rfl) (fun _ _ _ h => h) hHeld (Or.inl ⟨by kernel_rfl, ?_⟩) ?_
            rotate_left 1
            · (intro w hSw; (try dsimp only at hSw); (try obtain ⟨s0, s1⟩ := hSw); first | (go_simp; done) | (go_simp; with_reducible rfl))
            simp only [Act.put]
            refine wpAnyL_take 2 (v := ?_) rfl (by kernel_rfl) (by kernel_rfl) (by kernel_rfl) (by kernel_rfl) (fun _ _ _ h => h) hHeld (Or.inl ⟨by kernel_rfl, ?_⟩) ?_
            rotate_left 1
            · (intro w hSw; (try dsimp only at hSw); (try obtain ⟨s0, s1⟩ := hSw); first | (go_simp; done) | (go_simp; with_reducible rfl))
            simp only [Act.put]
            refine wpAnyL_take 3 (v := ?_) rfl (by kernel_rfl) (by kernel_rfl) (by kernel_rfl) (by kernel_rfl) (fun _ _ _ h => h) hHeld (Or.inl ⟨by kernel_rfl, ?_⟩) ?_
            rotate_left 1
            · (intro w hSw; (try dsimp only at hSw); (try obtain ⟨s0, s1⟩ := hSw); first | (go_simp; done) | (go_simp; with_reducible rfl))
            simp only [Act.put]
            refine wpAnyL_take 4 (v := ?_) rfl (by kernel_rfl) (by kernel_rfl) (by kernel_rfl) (by kernel_rfl) (fun _ _ _ h => h) hHeld (Or.inl ⟨by kernel_rfl, ?_⟩) ?_
            rotate_left 1
            · (intro w hSw; (try dsimp only at hSw); (try obtain ⟨s0, s1⟩ := hSw); first | (go_simp; done) | (go_simp; with_reducible rfl))
            simp only [Act.put]
            refine wpAnyL_take 5 (v := ?_) rfl (by kernel_rfl) (by kernel_rfl) (by kernel_rfl) (by kernel_rfl) (fun _ _ _ h => h) hHeld (Or.inl ⟨by kernel_rfl, ?_⟩) ?_
            rotate_left 1
            · (intro w hSw; (try dsimp only at hSw); (try obtain ⟨s0, s1⟩ := hSw); first | (go_simp; done) | (go_simp; with_reducible rfl))
            simp only [Act.put]
            refine wpAnyL_take 6 (v := ?_) rfl (by kernel_rfl) (by kernel_rfl) (by kernel_rfl) (by kernel_rfl) (fun _ _ _ h => h) hHeld (Or.inl ⟨by kernel_rfl, ?_⟩) ?_
            rotate_left 1
            · (intro w hSw; (try dsimp only at hSw); (try obtain ⟨s0, s1⟩ := hSw); first | (go_simp; done) | (go_simp; with_reducible rfl))
            simp only [Act.put]
            refine wpAnyL_take 7 (v := ?_) rfl (by kernel_rfl) (by kernel_rfl) (by kernel_rfl) (by kernel_rfl) (fun _ _ _ h => h) hHeld (Or.inl ⟨by kernel_rfl, ?_⟩) ?_
            rotate_left 1
            · (intro w hSw; (try dsimp only at hSw); (try obtain ⟨s0, s1⟩ := hSw); first | (go_simp; done) | (go_simp; with_reducible rfl))
            simp only [Act.put]
            refine wpAnyL_take 8 (v := ?_) rfl (by kernel_rfl) (by kernel_rfl) (by kernel_rfl) (by kernel_rfl) (fun _ _ _ h => h) hHeld (Or.inl ⟨by kernel_rfl, ?_⟩) ?_
            rotate_left 1
            · (intro w hSw; (try dsimp only at hSw); (try obtain ⟨s0, s1⟩ := hSw); first | (go_simp; done) | (go_simp; with_reducible rfl))
            simp only [Act.put]
            refine wpAnyL_take 9 (v := ?_) rfl (by kernel_rfl) (by kernel_rfl) (by kernel_rfl) (by kernel_rfl) (fun _ _ _ h => h) hHeld (Or.inl ⟨by kernel_rfl, ?_⟩) ?_
            rotate_left 1
            · (intro w hSw; (try dsimp only at hSw); (try obtain ⟨s0, s1⟩ := hSw); first | (go_simp; done) | (go_simp; with_reducible rfl))
            simp only [Act.put]
            clear hHeld e5 e3 e0
            cases hb : bs n2 with
            | false =>
              rw [hb] at HRD
              refine wpAnyL_one 10 (by kernel_rfl) rfl (fun K hK0 => ?_)
              have hK : Shut _ := hK0
              clear hK0
              go_simp
              refine Calls.mono (by exact HRD.out _ _ 1 rfl) ?_
              rintro e w2 ⟨wv, rfl, s5, s3, hbg⟩
              have HBG : Hid _ := hbg
              clear hbg HRD
              dsimp only
              refine hK.out _ _ (fun _ => ⟨s5, s3⟩) ?_
              clear hK K s5 s3
              refine wpAnyL_one 11 (by kernel_rfl) rfl (fun K hK0 => ?_)
              have hK : Shut _ := hK0
              clear hK0
              go_simp
              refine Calls.mono (by exact HBG.out _ 0 rfl) ?_
              rintro e w3 ⟨rfl, s5, s3, hq⟩
              have HQN : Hid _ := hq
              have HSC : Hid (_ ∧ _) := ⟨s5, s3⟩
              clear hq HBG s5 s3
              dsimp only
              refine hK.out _ _ (fun _ => HSC.out) ?_
              clear hK K
              refine wpAnyL_one 12 (by kernel_rfl) rfl (fun K hK0 => ?_)
              have hK : Shut _ := hK0
              clear hK0
              go_simp
              refine hK.out _ _ (fun _ => HSC.out) ?_
              clear hK K
              refine wpAnyL_done (by kernel_rfl) ?_
              go_wp2
              rw [Exit.noGoto_normal]
              go_end0
              exact ⟨rfl, (HQ.out _ _ HQN.out).2 hb⟩
            | true =>
              rw [hb] at HRD
              refine wpAnyL_one 10 (by kernel_rfl) rfl (fun K hK0 => ?_)
              have hK : Shut _ := hK0
              clear hK0
              go_simp
              refine Calls.mono (by exact HRD.out _ _ 1 rfl) ?_
              rintro e w2 ⟨wv, rfl, s5, s3, hbg⟩
              have HBG : Hid _ := hbg
              clear hbg HRD
              dsimp only
              refine hK.out _ _ (fun _ => ⟨s5, s3⟩) ?_
              clear hK K s5 s3
              refine wpAnyL_one 11 (by kernel_rfl) rfl (fun K hK0 => ?_)
              have hK : Shut _ := hK0
              clear hK0
              go_simp
              refine Calls.mono (by exact HBG.out _ 0 rfl) ?_
              rintro e w3 ⟨rfl, s5, s3, hq⟩
              have HQN : Hid _ := hq
              have HSC : Hid (_ ∧ _) := ⟨s5, s3⟩
              clear hq HBG s5 s3
              dsimp only
              refine hK.out _ _ (fun _ => HSC.out) ?_
              clear hK K
              refine wpAnyL_one 12 (by kernel_rfl) rfl (fun K hK0 => ?_)
              have hK : Shut _ := hK0
              clear hK0
              go_simp
              refine hK.out _ _ (fun _ => HSC.out) ?_
              clear hK K
              refine wpAnyL_done (by kernel_rfl) ?_
              go_wp2
              obtain ⟨x3, hx3⟩ := (HQ.out _ _ HQN.out).1 hb
              refine ⟨⟨_, x3, hx3⟩, ?_⟩
              have := muR_le (N := N) hx3
              rw [HMU.out]
              have := HN3.out
              have := HN2.out
              omega
        · have HEN : Hid _ := hBn (by omega)
          clear hA hBn
          cases hb : bs n2 with
          | false =>
            rw [hb] at HEN
            go_wp2
            go_quiet (fail)
            go_wp2_with (go_at_call 20; refine Calls.mono (by exact HEN.out _ _ rfl) ?_; rintro e w2 ⟨rfl, hq⟩)
            rw [Exit.noGoto_normal]
            go_end0
            exact ⟨rfl, (HQ.out _ _ hq).2 hb⟩
          | true =>
            rw [hb] at HEN
            go_wp2
            go_quiet (fail)
            go_wp2_with (go_at_call 20; refine Calls.mono (by exact HEN.out _ _ rfl) ?_; rintro e w2 ⟨rfl, hq⟩)
            obtain ⟨x3, hx3⟩ := (HQ.out _ _ hq).1 hb
            refine ⟨⟨_, x3, hx3⟩, ?_⟩
            have := muR_le (N := N) hx3
            rw [HMU.out]
            have := HN3.out
            have := HN2.out
            omega
end Go.Proofs.YtdgpdmohfnealaaGreatDoor
