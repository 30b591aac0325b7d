/- A block's end is done: what the runner keeps afterwards says what the document says. -/
import Derived.Test.YtknbgpgefeahlaaGreatDoorUSim3M
import Derived.Test.YtknbgpgefeahlaaGreatDoorULateM
namespace Go.Proofs.YtknbgpgefeahlaaGreatDoor
open Go.RowKit

theorem Opn.cellsLt {P : List Gr} {S : St} {f : Fr} {fs : List Fr} {F F0 : Nat → Nat → Nat} {c : Cl} {cs : List Cl} (h : Opn P S f fs F F0 c cs) : ∀ s ∈ S.kept.drop S.top.k, s.cell < cellsOf (P.getD f.g default) := fun s hs => by
  rw [h.top] at hs
  obtain ⟨i, hi⟩ := List.mem_iff_getElem?.1 hs
  exact h.seg.cell i s hi
theorem tell_sim {E : Env} {C : Nat} (hB : RunB E C) {w : World} {V : Vals} {ss : List Slot} {S : St} (h : Rn E w V ss S) {H : HS} {f : Fr} {fs : List Fr} (hH : H.frs = f :: fs) (hs : Sim E.P S H) (hf : HOk E.P (f :: fs)) (hd : fs.length + 1 ≤ E.dep) (x : Int) :
    Calls Tryz.prog 52 #[ptr E.B, .int .u64 x] w fun e w' => e = .returned (.bool (H.tell E.P fs x).2) ∧ ∃ V' ss' S', Rn E w' V' ss' S' ∧ Sim E.P S' (H.tell E.P fs x).1 := by
  obtain ⟨⟨F, hi⟩, h1, h2, h3, h4, h5, h6⟩ := hs
  rw [hH] at hi
  obtain ⟨F0, c, cs, ho⟩ := hi.opn
  have hdd := hB.dep
  obtain ⟨hk1, _⟩ := ho.size hB hd
  obtain ⟨l, ha, hl⟩ := ho.asks (by omega)
  have hp := ho.pop
  have hcl := ho.cellsLt
  rw [← hl] at hcl
  cases fs with
  | nil =>
    refine (tell_end h ha (by rw [ho.top]; exact ho.ck) (by rw [ho.top]; exact ho.cr) (by omega) hcl x).mono ?_
    rintro e w' ⟨he, cv', kv', rv', ss', hr⟩
    exact ⟨he, _, ss', _, hr, ⟨F0, hp.turn rfl rfl rfl rfl⟩, h1, rfl, rfl, h4, h5, h6⟩
  | cons f2 fs2 =>
    obtain ⟨F1, c2, cs2, ho2⟩ := hp.opn
    obtain ⟨hf2, hn0, hk9⟩ := hf.2 f2 (by simp)
    obtain ⟨l2, ha2, hl2⟩ := ho2.asks (by simp at hd; omega)
    have hd2 : fs2.length + 1 ≤ E.dep := by simp at hd; omega
    obtain ⟨hk2, _⟩ := ho2.size hB hd2
    have hG2 : GOk E.P (grOf E.P f2) := gOk hB hf2.gl
    have hnl : f2.nx - 1 < (insOf E.P f2).length := by have := hf2.nl; omega
    have hx : InOk E.P (grOf E.P f2) ((insOf E.P f2).getD (f2.nx - 1) default) := hG2.ins f2.b hf2.bl _ hnl
    have hdst := hx.dst (by omega) (by omega) (by omega)
    have htg := ho2.tg
    have htb : (S.forget.popC (f2 :: fs2).length).top.b = f2.b := by rw [ho2.top, ho2.cb]
    have htx : (S.forget.popC (f2 :: fs2).length).top.nx = (f2.nx - 1) + 1 := by rw [ho2.top, ho2.cx]; omega
    have e0 : E.P.getD (S.forget.popC (f2 :: fs2).length).top.g default = grOf E.P f2 := by rw [htg]; rfl
    have hcl2 : (grOf E.P f2).vars.length ≤ l2.length := by rw [hl2]; unfold cellsOf grOf; omega
    refine (tell_on h ha (by rw [ho.top]; exact ho.ck) (by rw [ho.top]; exact ho.cr) (by omega) hcl x (S1 := S.forget.popC (f2 :: fs2).length) rfl ha2 (by omega) (by rw [htg]; exact hf2.gl) (by rw [e0, htb]; exact hf2.bl) htx (by rw [e0, htb]; exact hnl) (d := ((insOf E.P f2).getD (f2.nx - 1) default).dst.toNat) (by
      rw [e0, htb]
      show ((insOf E.P f2).getD (f2.nx - 1) default).dst = _
      omega) (by omega)).mono ?_
    rintro e w' ⟨he, cv', kv', rv', ss', hr⟩
    obtain ⟨F', O⟩ := ho2.set (v := ((insOf E.P f2).getD (f2.nx - 1) default).dst.toNat) (by show _ < (grOf E.P f2).vars.length; omega) x
    obtain ⟨⟨r1, r2, r3, r4, r5⟩, r6⟩ := St.set_rest (S.forget.popC (f2 :: fs2).length) ((insOf E.P f2).getD (f2.nx - 1) default).dst.toNat x
    exact ⟨he, _, ss', _, hr, ⟨F', O.hi⟩, r6.trans h1, r1.trans h2, r2.trans h3, r3.trans h4, r4.trans h5, r5.trans h6⟩
theorem next_named' {t : Tm} : (t.kind = 1 → t.t0 ∈ nextT t) ∧ (t.kind = 2 → t.t0 ∈ nextT t ∧ t.t1 ∈ nextT t) := by
  refine ⟨fun h => (next_named t _).2 ?_, fun h => ⟨(next_named t _).2 ?_, (next_named t _).2 ?_⟩⟩
  · unfold namedT; rw [if_pos h]; simp
  · unfold namedT; rw [if_neg (by omega), if_pos h]; simp
  · unfold namedT; rw [if_neg (by omega), if_pos h]; simp
theorem end_sim {E : Env} {C : Nat} (hB : RunB E C) {w : World} {V : Vals} {ss : List Slot} {S : St} (h : Rn E w V ss S) {H : HS} {f : Fr} {fs : List Fr} (hH : H.frs = f :: fs) (hs : Sim E.P S H) (hf : HOk E.P (f :: fs)) (hd : fs.length + 1 ≤ E.dep) (hst : S.steps ≤ 1000000000000) {g o : Nat} (ht : TmAt E.w0 g o (tmOf E.P f)) :
    Calls Tryz.prog 28 #[ptr E.B, .pointer (some ⟨g, o, none⟩)] w fun e w' => e = .returned (.bool (H.endT E.P E.lim f fs (tmOf E.P f)).2) ∧ ∃ V' ss' S', Rn E w' V' ss' S' ∧ Sim E.P S' (H.endT E.P E.lim f fs (tmOf E.P f)).1 := by
  obtain ⟨⟨F, hi⟩, h1, h2, h3, h4, h5, h6⟩ := id hs
  rw [hH] at hi
  obtain ⟨F0, c, cs, ho⟩ := hi.opn
  have hdd := hB.dep
  obtain ⟨l, ha, hl⟩ := ho.asks (by omega)
  have hG : GOk E.P (grOf E.P f) := gOk hB hf.1.gl
  have hT : TmOk (grOf E.P f) (tmOf E.P f) := hG.tm f.b hf.1.bl
  have hcl : (grOf E.P f).vars.length ≤ l.length := by rw [hl]; unfold cellsOf grOf; omega
  unfold HS.endT
  by_cases k1 : (tmOf E.P f).kind = 1
  · rw [if_pos k1]
    have ht0 := hT.t0 (.inl k1)
    obtain ⟨t, hte⟩ : ∃ t : Nat, (tmOf E.P f).t0 = (t : Int) := Int.eq_ofNat_of_zero_le ht0.1
    have hn := (next_named' (t := tmOf E.P f)).1 k1
    rw [hte] at hn ht0
    rw [hte, Int.toNat_natCast]
    exact end_jump (Q := fun w' => ∃ V' ss' S', Rn E w' V' ss' S' ∧ Sim E.P S' (H.enter E.P E.lim f fs t).1) h ht k1 (fun k => by rw [hte]; exact enter_sim hB (h.drewN k) hH hs hf.1 hd hst (by omega) hn)
  · rw [if_neg k1]
    by_cases k2 : (tmOf E.P f).kind = 2
    · rw [if_pos k2]
      have ht0 := hT.t0 (.inr k2)
      have ht1 := hT.t1 k2
      have harg := hT.arg (.inl k2)
      have hn := (next_named' (t := tmOf E.P f)).2 k2
      have hge : S.get (tmOf E.P f).arg.toNat = f.ev (tmOf E.P f).arg.toNat := ho.get (by show _ < (grOf E.P f).vars.length; omega)
      obtain ⟨t, hte⟩ : ∃ t : Nat, (if f.ev (tmOf E.P f).arg.toNat = 1 then (tmOf E.P f).t0 else (tmOf E.P f).t1) = (t : Int) := Int.eq_ofNat_of_zero_le (by split <;> omega)
      have htn : (t : Int) ∈ nextT (tmOf E.P f) ∧ t < (grOf E.P f).blocks.length := by
        split at hte
        · exact ⟨by rw [← hte]; exact hn.1, by omega⟩
        · exact ⟨by rw [← hte]; exact hn.2, by omega⟩
      rw [hte, Int.toNat_natCast]
      exact end_branch (Q := fun w' => ∃ V' ss' S', Rn E w' V' ss' S' ∧ Sim E.P S' (H.enter E.P E.lim f fs t).1) h ha ht k2 (v := (tmOf E.P f).arg.toNat) (by omega) (by omega) (fun k => by rw [hge, hte]; exact enter_sim hB (h.drewN k) hH hs hf.1 hd hst htn.2 htn.1)
    · rw [if_neg k2]
      by_cases k3 : (tmOf E.P f).kind = 3
      · rw [if_pos k3]
        have harg := hT.arg (.inr k3)
        have hge : S.get (tmOf E.P f).arg.toNat = f.ev (tmOf E.P f).arg.toNat := ho.get (by show _ < (grOf E.P f).vars.length; omega)
        exact end_back (Q := fun w' => ∃ V' ss' S', Rn E w' V' ss' S' ∧ Sim E.P S' (H.tell E.P fs (f.ev (tmOf E.P f).arg.toNat)).1) h ha ht k3 (v := (tmOf E.P f).arg.toNat) (by omega) (by omega) (fun k => by rw [hge]; exact tell_sim hB (h.drewN k) hH hs hf hd _)
      · rw [if_neg k3]
        refine (end_trap h ht ⟨k1, k2, k3⟩).mono ?_
        rintro e w' ⟨he, ss', hr⟩
        refine ⟨he, V, ss', _, hr, ⟨F, ?_⟩, h1, rfl, h3, rfl, h5, h6⟩
        show Hi E.P _ H.frs F
        rw [hH]
        exact hi.turn rfl rfl rfl rfl
end Go.Proofs.YtknbgpgefeahlaaGreatDoor
/- Calls that live stay well. -/
namespace Go.Proofs.YtknbgpgefeahlaaGreatDoor

theorem upd_word {e : Nat → Int} (h : ∀ v, Sc.word (e v)) (v : Nat) {x : Int} (hx : Sc.word x) : ∀ u, Sc.word (updE e v x u) := fun u => by
  unfold updE
  split
  · exact hx
  · exact h u
theorem setE_ok {P : List Gr} {f : Fr} (h : FrOk P f) (v : Nat) {x : Int} (hx : Sc.word x) : FrOk P (f.setE v x) :=
  ⟨h.gl, h.bl, upd_word h.ev v hx, h.ar, h.np, h.nl⟩
theorem sets_words : ∀ (qs : List (Nat × Int)) {f : Fr}, (∀ v, Sc.word (f.ev v)) → (∀ q ∈ qs, Sc.word q.2) → ∀ v, Sc.word ((f.sets qs).ev v)
  | [], _, h, _ => h
  | q :: qs, f, h, hq => sets_words qs (f := f.setE q.1 q.2) (upd_word h q.1 (hq q (by simp))) (fun p hp => hq p (by simp [hp]))
theorem doI_ok {P : List Gr} {f : Fr} (h : FrOk P f) {x : In} (hb : Sc.word x.bits) (hn : f.nx < (insOf P f).length) : FrOk P { f.doI (grOf P f) x with nx := f.nx + 1 } := by
  have hw : (∀ v, Sc.word ((f.doI (grOf P f) x).ev v)) ∧ ∀ q j, Sc.word ((f.doI (grOf P f) x).ar q j) := by
    unfold Fr.doI
    have hre : Sc.word (f.reck (grOf P f) x) := by
      unfold Fr.reck
      split
      · exact Sc.word_one (h.ev _)
      · exact Sc.word_two
    have hel : Sc.word (f.elem (grOf P f) x.ref.toNat (f.ev (argN x 0))) := by
      unfold Fr.elem
      split
      · exact h.ar _ _
      · exact Sc.word_zero
    repeat' split
    · exact ⟨upd_word h.ev _ hb, h.ar⟩
    · exact ⟨upd_word h.ev _ (h.ev _), h.ar⟩
    · exact ⟨upd_word h.ev _ hre, h.ar⟩
    · exact ⟨upd_word h.ev _ (Sc.word_turn (h.ev _)), h.ar⟩
    · exact ⟨upd_word h.ev _ hel, h.ar⟩
    · unfold Fr.put
      split
      · exact ⟨h.ev, h.ar⟩
      · refine ⟨h.ev, fun q j => ?_⟩
        dsimp only
        repeat' split
        · exact h.ev _
        · exact h.ar _ _
        · exact h.ar _ _
    · refine ⟨h.ev, fun q j => ?_⟩
      unfold Fr.wipe
      dsimp only
      split
      · exact Sc.word_zero
      · exact h.ar _ _
    · exact ⟨h.ev, h.ar⟩
  obtain ⟨q1, q2, q3⟩ := doI_at (grOf P f) f x
  have e : insOf P { f.doI (grOf P f) x with nx := f.nx + 1 } = insOf P f := insOf_at q1 q2
  refine ⟨by show (f.doI (grOf P f) x).g < _; rw [q1]; exact h.gl, ?_, hw.1, hw.2, ?_, ?_⟩
  · show (f.doI (grOf P f) x).b < (P.getD (f.doI (grOf P f) x).g default).blocks.length
    rw [q1, q2]; exact h.bl
  · rw [e]; have := h.np; show _ ≤ f.nx + 1; omega
  · rw [e]; exact hn
theorem new_ok {P : List Gr} (hP : POk P) {g : Nat} (hg : g < P.length) {ws : List Int} (hw : ∀ v, Sc.word (ws.getD v 0)) : FrOk P ((Fr.new g).sets (argPairs (P.getD g default) ws)) := by
  obtain ⟨q1, q2, q3, q4⟩ := Fr.sets_keep (argPairs (P.getD g default) ws) (Fr.new g)
  have hG := hP.2 g hg
  have e : insOf P ((Fr.new g).sets (argPairs (P.getD g default) ws)) = insOf P (Fr.new g) := insOf_at q1 q2
  refine ⟨by rw [q1]; exact hg, ?_, ?_, fun q j => by rw [q4]; exact Sc.word_zero, ?_, ?_⟩
  · unfold grOf
    rw [q1, q2]
    exact hG.bl.1
  · refine sets_words _ (f := Fr.new g) (fun _ => Sc.word_zero) (fun q hq => ?_)
    unfold argPairs at hq
    obtain ⟨i, _, rfl⟩ := List.mem_map.1 hq
    exact hw i
  · rw [e, q3]
    show npOf ((P.getD g default).blocks.getD 0 default).ins ≤ 0
    rw [hG.phi0]
    exact Nat.le_refl _
  · rw [q3]; exact Nat.zero_le _
theorem into_ok {P : List Gr} {f : Fr} (h : FrOk P f) {t : Nat} (ht : t < (grOf P f).blocks.length) : FrOk P (f.into P t) := by
  obtain ⟨q1, q2, q3, q4⟩ := Fr.sets_keep (phiPairs f ((grOf P f).blocks.getD t default).ins (placeOf (grOf P f) t f.b)) f
  have e : insOf P (f.into P t) = ((grOf P f).blocks.getD t default).ins := by
    unfold insOf grOf Fr.into
    dsimp only
    rw [show (f.sets (phiPairs f ((grOf P f).blocks.getD t default).ins (placeOf (grOf P f) t f.b))).g = f.g from q1]
  have eg : (f.into P t).g = f.g := q1
  refine ⟨by rw [eg]; exact h.gl, ?_, ?_, fun q j => ?_, ?_, ?_⟩
  · unfold grOf
    rw [eg]
    exact ht
  · refine sets_words _ (f := f) h.ev (fun q hq => ?_)
    unfold phiPairs at hq
    obtain ⟨i, _, rfl⟩ := List.mem_map.1 hq
    exact h.ev _
  · show Sc.word ((f.sets _).ar q j)
    rw [q4]; exact h.ar q j
  · rw [e]; exact Nat.le_refl _
  · rw [e]; exact npOf_le _
theorem map_word {f : Fr} (h : ∀ v, Sc.word (f.ev v)) (l : List Int) (i : Nat) : Sc.word ((l.map fun v => f.ev v.toNat).getD i 0) := by
  rw [List.getD, List.getElem?_map]
  cases l[i]? with
  | none => exact Sc.word_zero
  | some v => exact h _
theorem hok_next {P : List Gr} {lim dep : Nat} (hP : POk P) (hbits : ∀ g t k, Sc.word ((((P.getD g default).blocks.getD t default).ins).getD k default).bits) {H : HS} (h : HOk P H.frs) (hn : (H.next P lim dep).2 = true) : HOk P (H.next P lim dep).1.frs := by
  have ent : ∀ (f : Fr) (fs : List Fr) (t : Nat), HOk P (f :: fs) → t < (grOf P f).blocks.length → (H.enter P lim f fs t).2 = true → HOk P (H.enter P lim f fs t).1.frs := fun f fs t hf ht he => by
    rw [(enter_on he).2]
    exact ⟨into_ok hf.1 ht, hf.2⟩
  unfold HS.next at hn ⊢
  split at hn
  · cases hn
  · rename_i f fs e
    rw [e] at h
    have hG : GOk P (grOf P f) := hP.2 f.g h.1.gl
    by_cases h1 : f.nx < (insOf P f).length
    · rw [if_pos h1] at hn ⊢
      have hx : InOk P (grOf P f) ((insOf P f).getD f.nx default) := hG.ins f.b h.1.bl _ h1
      by_cases h2 : ((insOf P f).getD f.nx default).kind = 9
      · rw [if_pos h2] at hn ⊢
        obtain ⟨h3, h4, h5⟩ := begin_on hn
        rw [h5]
        have hc := hx.call h2
        refine ⟨new_ok hP (by omega) (map_word h.1.ev _), fun f2 hf2 => ?_⟩
        rcases List.mem_cons.1 hf2 with rfl | hf2
        · have ei : insOf P { f with nx := f.nx + 1 } = insOf P f := insOf_at rfl rfl
          refine ⟨⟨h.1.gl, h.1.bl, h.1.ev, h.1.ar, ?_, ?_⟩, by show 0 < f.nx + 1; omega, ?_⟩
          · rw [ei]; have := h.1.np; show _ ≤ f.nx + 1; omega
          · rw [ei]; exact h1
          · rw [ei]; exact h2
        · exact h.2 f2 hf2
      · rw [if_neg h2]
        exact ⟨doI_ok h.1 (hbits _ _ _) h1, h.2⟩
    · rw [if_neg h1] at hn ⊢
      have hT : TmOk (grOf P f) (tmOf P f) := hG.tm f.b h.1.bl
      unfold HS.endT at hn ⊢
      by_cases k1 : (tmOf P f).kind = 1
      · rw [if_pos k1] at hn ⊢
        have := hT.t0 (.inl k1)
        exact ent f fs _ h (by omega) hn
      · rw [if_neg k1] at hn ⊢
        by_cases k2 : (tmOf P f).kind = 2
        · rw [if_pos k2] at hn ⊢
          have h8 := hT.t0 (.inr k2)
          have h9 := hT.t1 k2
          exact ent f fs _ h (by split <;> omega) hn
        · rw [if_neg k2] at hn ⊢
          by_cases k3 : (tmOf P f).kind = 3
          · rw [if_pos k3] at hn ⊢
            unfold HS.tell at hn ⊢
            split at hn
            · cases hn
            · rename_i f2 fs2
              obtain ⟨w1, w2, w3⟩ := h.2 f2 (by simp)
              exact ⟨setE_ok w1 _ (h.1.ev _), fun f3 hf3 => h.2 f3 (by simp [hf3])⟩
          · rw [if_neg k3] at hn
            cases hn
/-- What stands all along a run. -/
theorem iter_ok {P : List Gr} {lim dep g : Nat} {ws : List Int} (hP : POk P) (hbits : ∀ g t k, Sc.word ((((P.getD g default).blocks.getD t default).ins).getD k default).bits) (hg : g < P.length) (hw : ∀ v, Sc.word (ws.getD v 0)) : ∀ n, (HS.iter P lim dep n (HS.first P lim dep g ws)).2 = true → HOk P (HS.iter P lim dep n (HS.first P lim dep g ws)).1.frs ∧ (HS.iter P lim dep n (HS.first P lim dep g ws)).1.frs ≠ [] ∧ Within lim dep (HS.iter P lim dep n (HS.first P lim dep g ws))
  | 0, ht => by
    replace ht : (HS.first P lim dep g ws).2 = true := ht
    show HOk P (HS.first P lim dep g ws).1.frs ∧ (HS.first P lim dep g ws).1.frs ≠ [] ∧ Within lim dep (HS.first P lim dep g ws)
    have hw' : Within lim dep (HS.first P lim dep g ws) := begin_within (Nat.zero_le _) (Nat.zero_le _) (Nat.le_refl _) rfl g ws
    unfold HS.first at ht hw' ⊢
    have hb := begin_on ht
    refine ⟨?_, ?_, hw'⟩
    · rw [hb.2.2]
      exact ⟨new_ok hP hg hw, fun f2 hf2 => by cases hf2⟩
    · rw [hb.2.2]; simp
  | n + 1, ht => by
    have hprev : (HS.iter P lim dep n (HS.first P lim dep g ws)).2 = true := by
      cases hc : (HS.iter P lim dep n (HS.first P lim dep g ws)).2 with
      | true => rfl
      | false =>
        rw [HS.iter_add P lim dep n 1, HS.iter_stop hc, hc] at ht
        cases ht
    obtain ⟨h1, h2, h3⟩ := iter_ok hP hbits hg hw n hprev
    have e : HS.iter P lim dep (n + 1) (HS.first P lim dep g ws) = (HS.iter P lim dep n (HS.first P lim dep g ws)).1.next P lim dep := by
      refine HS.iter_one (H := (HS.iter P lim dep n (HS.first P lim dep g ws)).1) ?_
      rw [← hprev]
    rw [e] at ht ⊢
    have hw2 := next_within (P := P) h3.steps h3.deep h3.frs (h3.on hprev) h2
    refine ⟨hok_next hP hbits h1 ht, ?_, hw2⟩
    intro hnil
    have := ht
    unfold HS.next at hnil this
    split at this
    · cases this
    · rename_i f fs ef
      rw [ef] at hnil
      dsimp only at hnil
      split at this
      · rename_i q1
        rw [if_pos q1] at hnil
        split at this
        · rename_i q2
          rw [if_pos q2, (begin_on this).2.2] at hnil
          cases hnil
        · rename_i q2
          rw [if_neg q2] at hnil
          cases hnil
      · rename_i q1
        rw [if_neg q1] at hnil
        unfold HS.endT at this hnil
        split at this
        · rename_i q2
          rw [if_pos q2, (enter_on this).2] at hnil
          cases hnil
        · rename_i q2
          rw [if_neg q2] at hnil
          split at this
          · rename_i q3
            rw [if_pos q3, (enter_on this).2] at hnil
            cases hnil
          · rename_i q3
            rw [if_neg q3] at hnil
            split at this
            · rename_i q4
              rw [if_pos q4] at hnil
              unfold HS.tell at this hnil
              split at this
              · cases this
              · cases hnil
            · cases this
end Go.Proofs.YtknbgpgefeahlaaGreatDoor
