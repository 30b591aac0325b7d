/- An instruction is done: what the runner keeps afterwards says what the document says. -/
import Derived.Test.YtknbgpgefeahlaaGreatDoorGFit1M
import Derived.Test.YtknbgpgefeahlaaGreatDoorUWordM
import Derived.Test.YtknbgpgefeahlaaGreatDoorUBeg2M
import Derived.Test.YtknbgpgefeahlaaGreatDoorUOrdM
import Derived.Deep.RegionHeld3
namespace Go.Proofs.YtknbgpgefeahlaaGreatDoor
open Go.RowKit

structure FrOk (P : List Gr) (f : Fr) : Prop where
  gl : f.g < P.length
  bl : f.b < (grOf P f).blocks.length
  ev : ∀ v, Sc.word (f.ev v)
  ar : ∀ q j, Sc.word (f.ar q j)
  np : npOf (insOf P f) ≤ f.nx
  nl : f.nx ≤ (insOf P f).length
/-- All calls that live are well; all but the last one wait for a call. -/
def HOk (P : List Gr) : List Fr → Prop
  | [] => True
  | f :: fs => FrOk P f ∧ ∀ f2 ∈ fs, FrOk P f2 ∧ 0 < f2.nx ∧ ((insOf P f2).getD (f2.nx - 1) default).kind = 9
/-- What a run leans on. -/
structure RunB (E : Env) (C : Nat) : Prop where
  ok : POk E.P
  bits : ∀ g t k, Sc.word ((((E.P.getD g default).blocks.getD t default).ins).getD k default).bits
  blks : ∀ g, (E.P.getD g default).blocks.length ≤ 100000
  cells : ∀ g, cellsOf (E.P.getD g default) ≤ C
  capC : C ≤ 1000000
  cap : E.dep * C ≤ 3000000
  dep : E.dep ≤ 1000000000
  ins : most E.P 1000000
/-- All but what is kept of cells stands. -/
structure Rest (S S' : St) : Prop where
  fin : S'.fin = S.fin
  val : S'.val = S.val
  trap : S'.trap = S.trap
  steps : S'.steps = S.steps
  deep : S'.deep = S.deep
theorem St.set_rest (S : St) (c : Nat) (x : Int) : Rest S (S.set c x) ∧ (S.set c x).shows = S.shows := by
  unfold St.set
  split <;> exact ⟨⟨rfl, rfl, rfl, rfl, rfl⟩, rfl⟩
theorem St.put_rest (G : Gr) (S : St) (r : Nat) (i x : Int) : Rest S (S.put G r i x) ∧ (S.put G r i x).shows = S.shows := by
  unfold St.put
  split
  · exact ⟨⟨rfl, rfl, rfl, rfl, rfl⟩, rfl⟩
  · unfold St.poke St.room
    split
    · obtain ⟨⟨a, b, c, d, e⟩, f⟩ := S.set_rest (G.vars.length + r) (S.rows.length : Int)
      exact ⟨⟨a, b, c, d, e⟩, f⟩
    · exact ⟨⟨rfl, rfl, rfl, rfl, rfl⟩, rfl⟩
theorem St.wipe_rest (G : Gr) (S : St) (r : Nat) : Rest S (S.wipe G r) ∧ (S.wipe G r).shows = S.shows := by
  unfold St.wipe
  split <;> exact ⟨⟨rfl, rfl, rfl, rfl, rfl⟩, rfl⟩
theorem Opn.tg {P : List Gr} {S : St} {f : Fr} {fs : List Fr} {F F0 : Nat → Nat → Nat} {c : Cl} {cs : List Cl} (h : Opn P S f fs F F0 c cs) : S.top.g = f.g := by rw [h.top, h.cg]
theorem Opn.asks {E : Env} {S : St} {f : Fr} {fs : List Fr} {F F0 : Nat → Nat → Nat} {c : Cl} {cs : List Cl} (h : Opn E.P S f fs F F0 c cs) (hb : fs.length + 1 ≤ 140737488355328) : ∃ l, Asks E S fs.length l ∧ l.length = cellsOf (E.P.getD f.g default) := by
  obtain ⟨l, h1, h2, h3, h4⟩ := h.row
  refine ⟨l, ⟨h.clen, hb, h1, fun d => ?_⟩, h3⟩
  rw [h4]
  have := h.hi.lay.bound f.g d
  omega
theorem Opn.size {E : Env} {C : Nat} (hB : RunB E C) {S : St} {f : Fr} {fs : List Fr} {F F0 : Nat → Nat → Nat} {c : Cl} {cs : List Cl} (h : Opn E.P S f fs F F0 c cs) (hd : fs.length + 1 ≤ E.dep) : S.kept.length ≤ 3000000 ∧ S.rows.length ≤ 768000000 := by
  have := h.hi.lay.kept hB.cells
  have h2 : (f :: fs).length * C ≤ E.dep * C := Nat.mul_le_mul_right _ (by simpa using hd)
  have := hB.cap
  omega
theorem gOk {E : Env} {C : Nat} (hB : RunB E C) {g : Nat} (hg : g < E.P.length) : GOk E.P (E.P.getD g default) := hB.ok.2 g hg
theorem gsized {E : Env} {C : Nat} (hB : RunB E C) {g : Nat} (hg : g < E.P.length) : sized (E.P.getD g default) := fun q hq => by
  have := (gOk hB hg).sz q hq
  omega
theorem argN_lt {P : List Gr} {G : Gr} {x : In} (hi : InOk P G x) {i : Nat} (h : i < x.args.length) : argN x i < G.vars.length ∧ x.args.getD i 0 = ((argN x i : Nat) : Int) := by
  have hm : x.args.getD i 0 ∈ x.args := by rw [List.getD, List.getElem?_eq_getElem h]; exact List.getElem_mem h
  have := hi.args _ hm
  unfold argN
  omega
theorem do_sim {E : Env} {C : Nat} (hB : RunB E C) {w : World} {V : Vals} {ss : List Slot} {S : St} (h : Rn E w V ss S) {f : Fr} {fs : List Fr} {F F0 : Nat → Nat → Nat} {c : Cl} {cs : List Cl} (ho : Opn E.P S f fs F F0 c cs) (hd : fs.length + 1 ≤ E.dep) (hsl : S.shows.length ≤ 1000000000)
    (hev : ∀ v, Sc.word (f.ev v)) {x : In} (hi : InOk E.P (grOf E.P f) x) (h1 : ¬ x.kind = 1) (h9 : ¬ x.kind = 9) {g o : Nat} {av : Value} (hx : InAt E.w0 g o av x) :
    Calls Tryz.prog 26 #[ptr E.B, .pointer (some ⟨g, o, none⟩)] w fun e w' => e = .returned (.tuple #[]) ∧ ∃ V' ss' S' F', Rn E w' V' ss' S' ∧ V'.cv = V.cv ∧ Opn E.P S' (f.doI (grOf E.P f) x) fs F' F0 c cs ∧ S'.shows = S.shows ++ showI (grOf E.P f) f x ∧ Rest S S' := by
  have hdd := hB.dep
  obtain ⟨hk1, hk2⟩ := ho.size hB hd
  obtain ⟨l, ha, hl⟩ := ho.asks (by omega)
  have htg := ho.tg
  have hgl := ho.gl
  have hG : E.P.getD S.top.g default = grOf E.P f := by rw [htg]; rfl
  have hsz := gsized hB hgl
  have hcl : (grOf E.P f).vars.length ≤ l.length := by rw [hl]; unfold cellsOf grOf; omega
  have get : ∀ i, i < x.args.length → S.get (argN x i) = f.ev (argN x i) := fun i hi' => ho.get (argN_lt hi hi').1
  have hgt : S.top.g < E.P.length := by rw [htg]; exact hgl
  have setD : ∀ (V' : Vals) (w' : World) (ss' : List Slot) (y : Int), Rn E w' V' ss' (S.set x.dst.toNat y) → V'.cv = V.cv → (0 ≤ x.dst ∧ x.dst < ((grOf E.P f).vars.length : Int)) → f.doI (grOf E.P f) x = f.setE x.dst.toNat y → showI (grOf E.P f) f x = [] → ∃ V' ss' S' F', Rn E w' V' ss' S' ∧ V'.cv = V.cv ∧ Opn E.P S' (f.doI (grOf E.P f) x) fs F' F0 c cs ∧ S'.shows = S.shows ++ showI (grOf E.P f) f x ∧ Rest S S' := fun V' w' ss' y hr hcv hdst he hs => by
    obtain ⟨F', O⟩ := ho.set (v := x.dst.toNat) (by show _ < (grOf E.P f).vars.length; omega) y
    obtain ⟨q1, q2⟩ := S.set_rest x.dst.toNat y
    rw [he, hs]
    exact ⟨V', ss', _, F', hr, hcv, O, by rw [q2, List.append_nil], q1⟩
  have hdn : ∀ (hdst : 0 ≤ x.dst ∧ x.dst < ((grOf E.P f).vars.length : Int)), x.dst = ((x.dst.toNat : Nat) : Int) ∧ x.dst.toNat < l.length := fun hdst => by omega
  have no10 : ¬ x.kind = 10 → showI (grOf E.P f) f x = [] := fun hk => by unfold showI; rw [if_neg hk]
  have hkk := hi.kind
  rcases (show x.kind = 2 ∨ x.kind = 3 ∨ x.kind = 4 ∨ x.kind = 5 ∨ x.kind = 6 ∨ x.kind = 7 ∨ x.kind = 8 ∨ x.kind = 10 by omega) with hk | hk | hk | hk | hk | hk | hk | hk
  · have hdst := hi.dst (by omega) (by omega) (by omega)
    obtain ⟨d1, d2⟩ := hdn hdst
    refine (do_const h ha hx hk d1 d2 (by omega)).mono ?_
    rintro e w' ⟨he, kv', ss', hr⟩
    exact ⟨he, setD _ w' ss' _ hr rfl hdst (by unfold Fr.doI; rw [if_pos hk]) (no10 (by omega))⟩
  · have hdst := hi.dst (by omega) (by omega) (by omega)
    obtain ⟨d1, d2⟩ := hdn hdst
    have hn := hi.one (by omega)
    obtain ⟨a1, a2⟩ := argN_lt hi (i := 0) (by omega)
    refine (do_copy h ha hx hk d1 d2 (by omega) a2 (by omega) (by omega)).mono ?_
    rintro e w' ⟨he, kv', ss', hr⟩
    rw [get 0 (by omega)] at hr
    exact ⟨he, setD _ w' ss' _ hr rfl hdst (by unfold Fr.doI; rw [if_neg (by omega), if_pos hk]) (no10 (by omega))⟩
  · have hdst := hi.dst (by omega) (by omega) (by omega)
    obtain ⟨d1, d2⟩ := hdn hdst
    have hn := hi.op hk
    obtain ⟨a1, a2⟩ := argN_lt hi (i := 0) (by omega)
    have hre : S.reck (grOf E.P f) x = f.reck (grOf E.P f) x := by
      unfold St.reck Fr.reck
      rcases hn with hn | hn
      · rw [if_pos hn, if_pos hn]
        show Sc.oneI _ ((grOf E.P f).vars.getD (argN x 0) 0) (S.get (argN x 0)) = _
        rw [get 0 (by omega)]
      · rw [if_neg (by omega), if_neg (by omega)]
        show Sc.twoI _ ((grOf E.P f).vars.getD (argN x 0) 0) (S.get (argN x 0)) (S.get (argN x 1)) = _
        rw [get 0 (by omega), get 1 (by omega)]
    refine (do_op h ha hx hk d1 d2 (by omega) (fun k => ?_)).mono ?_
    · rcases hn with hn | hn
      · exact reck_one (h.drewN k) ha hgt hx hn a2 (by omega) (by rw [hG]; exact a1) (by rw [get 0 (by omega)]; exact hev _)
      · obtain ⟨b1, b2⟩ := argN_lt hi (i := 1) (by omega)
        exact reck_two (h.drewN k) ha hgt hx (by omega) a2 b2 (by omega) (by omega) (by rw [hG]; exact a1) (by rw [get 0 (by omega)]; exact hev _) (by rw [get 1 (by omega)]; exact hev _)
    · rintro e w' ⟨he, kv', ss', hr⟩
      rw [hG, hre] at hr
      exact ⟨he, setD _ w' ss' _ hr rfl hdst (by unfold Fr.doI; rw [if_neg (by omega), if_neg (by omega), if_pos hk]) (no10 (by omega))⟩
  · have hdst := hi.dst (by omega) (by omega) (by omega)
    obtain ⟨d1, d2⟩ := hdn hdst
    have hn := hi.one (by omega)
    obtain ⟨a1, a2⟩ := argN_lt hi (i := 0) (by omega)
    refine (do_cast h ha hgt hx hk d1 d2 (by rw [hG]; omega) (by omega) a2 (by omega) (by rw [hG]; exact a1) (by omega) (by rw [get 0 (by omega)]; exact hev _)).mono ?_
    rintro e w' ⟨he, kv', ss', hr⟩
    rw [get 0 (by omega), hG] at hr
    exact ⟨he, setD _ w' ss' _ hr rfl hdst (by unfold Fr.doI; rw [if_neg (by omega), if_neg (by omega), if_neg (by omega), if_pos hk]) (no10 (by omega))⟩
  · have hdst := hi.dst (by omega) (by omega) (by omega)
    obtain ⟨d1, d2⟩ := hdn hdst
    have hn := hi.one (by omega)
    obtain ⟨a1, a2⟩ := argN_lt hi (i := 0) (by omega)
    have hr0 := hi.arr (by omega)
    have hq : x.ref.toNat < (grOf E.P f).arrs.length := by omega
    have hsq := hsz _ hq
    have he := szOf_eq hsz hq
    refine (do_load (r := x.ref.toNat) (sz := szOf (grOf E.P f) x.ref.toNat) h ⟨ha, hgt, by rw [hG]; exact hq, by rw [hG]; exact hl⟩ hx hk d1 d2 (by omega) (by omega) a2 (by omega) (by omega) (by rw [get 0 (by omega)]; exact hev _) (by rw [hG]; exact he) (by unfold szOf; unfold grOf; omega) (by unfold szOf; unfold grOf; omega) (by rw [hG]; exact ho.lies _)).mono ?_
    rintro e w' ⟨he, kv', ss', hr⟩
    have hel : S.elem (grOf E.P f) x.ref.toNat (f.ev (argN x 0)) = f.elem (grOf E.P f) x.ref.toNat (f.ev (argN x 0)) := ho.elem hsz hq (hev _).1
    rw [get 0 (by omega), hG, hel] at hr
    exact ⟨he, setD _ w' ss' _ hr rfl hdst (by unfold Fr.doI; rw [if_neg (by omega), if_neg (by omega), if_neg (by omega), if_neg (by omega), if_pos hk]) (no10 (by omega))⟩
  · have hn := hi.two hk
    obtain ⟨a1, a2⟩ := argN_lt hi (i := 0) (by omega)
    obtain ⟨b1, b2⟩ := argN_lt hi (i := 1) (by omega)
    have hr0 := hi.arr (by omega)
    have hq : x.ref.toNat < (grOf E.P f).arrs.length := by omega
    have hsq := hsz _ hq
    have he := szOf_eq hsz hq
    refine (do_store (r := x.ref.toNat) (sz := szOf (grOf E.P f) x.ref.toNat) h ⟨ha, hgt, by rw [hG]; exact hq, by rw [hG]; exact hl⟩ hx hk (by omega) (by omega) a2 (by omega) b2 (by omega) (by omega) (by omega) (by rw [ho.top]; exact ho.ck) (by rw [get 0 (by omega)]; exact hev _) (by rw [hG]; exact he) (by unfold szOf; unfold grOf; omega) (by unfold szOf; unfold grOf; omega) (by rw [hG]; exact ho.lies _)).mono ?_
    rintro e w' ⟨he, kv', rv', ss', hr⟩
    rw [get 0 (by omega), get 1 (by omega), hG] at hr
    obtain ⟨F', O⟩ := ho.put hsz hq (hev (argN x 0)).1 (f.ev (argN x 1))
    obtain ⟨q1, q2⟩ := S.put_rest (grOf E.P f) x.ref.toNat (f.ev (argN x 0)) (f.ev (argN x 1))
    have e1 : f.doI (grOf E.P f) x = f.put (grOf E.P f) x.ref.toNat (f.ev (argN x 0)) (f.ev (argN x 1)) := by
      unfold Fr.doI
      rw [if_neg (by omega), if_neg (by omega), if_neg (by omega), if_neg (by omega), if_neg (by omega), if_pos hk]
    rw [e1, no10 (by omega)]
    exact ⟨he, _, ss', _, F', hr, rfl, O, by rw [q2, List.append_nil], q1⟩
  · have hr0 := hi.arr (by omega)
    have hq : x.ref.toNat < (grOf E.P f).arrs.length := by omega
    have hsq := hsz _ hq
    have he := szOf_eq hsz hq
    refine (do_clear (r := x.ref.toNat) (sz := szOf (grOf E.P f) x.ref.toNat) h ⟨ha, hgt, by rw [hG]; exact hq, by rw [hG]; exact hl⟩ hx hk (by omega) (by rw [hG]; exact he) (by unfold szOf; unfold grOf; omega) (by rw [hG]; exact ho.lies _)).mono ?_
    rintro e w' ⟨he, ss', hr⟩
    rw [hG] at hr
    have O := ho.wipe (q := x.ref.toNat)
    obtain ⟨q1, q2⟩ := S.wipe_rest (grOf E.P f) x.ref.toNat
    have e1 : f.doI (grOf E.P f) x = f.wipe x.ref.toNat := by
      unfold Fr.doI
      rw [if_neg (by omega), if_neg (by omega), if_neg (by omega), if_neg (by omega), if_neg (by omega), if_neg (by omega), if_pos hk]
    rw [e1, no10 (by omega)]
    exact ⟨he, _, ss', _, F, hr, rfl, O, by rw [q2, List.append_nil], q1⟩
  · have hn := hi.one (by omega)
    obtain ⟨a1, a2⟩ := argN_lt hi (i := 0) (by omega)
    refine (do_show h ha hgt hx hk hn a2 (by omega) (by rw [hG]; exact a1) hsl).mono ?_
    rintro e w' ⟨he, sv', ss', hr⟩
    rw [get 0 (by omega), hG] at hr
    have e1 : f.doI (grOf E.P f) x = f := by
      unfold Fr.doI
      rw [if_neg (by omega), if_neg (by omega), if_neg (by omega), if_neg (by omega), if_neg (by omega), if_neg (by omega), if_neg (by omega)]
    have e2 : showI (grOf E.P f) f x = [((grOf E.P f).vars.getD (argN x 0) 0, f.ev (argN x 0))] := by unfold showI; rw [if_pos hk]
    rw [e1, e2]
    exact ⟨he, _, ss', _, F, hr, rfl, ho.turn rfl rfl rfl rfl, rfl, ⟨rfl, rfl, rfl, rfl, rfl⟩⟩
end Go.Proofs.YtknbgpgefeahlaaGreatDoor
/- A row of one's own that lies in a block from its beginning. -/
namespace Go.Proofs.YtknbgpgefeahlaaGreatDoor
abbrev newV (N n : Nat) : Value := .slice (some ⟨N, 0, none⟩) n n
end Go.Proofs.YtknbgpgefeahlaaGreatDoor
/- A region that draws its order: one condition on the world behind every operation but the late ones, which wait for all that is taken first. -/
namespace Go.Proofs.YtknbgpgefeahlaaGreatDoor
open Go.RowKit

def wpAnyL (P : Program) (ops : Array Oper) (Q : Exit → Act → World → Prop) (S : World → Prop) (late : Nat → Bool) : Nat → Array Bool → Act → World → Prop
  | 0, l, a, w => Region.ready .any ops l = [] ∧ Q .normal a w
  | n + 1, l, a, w => (Region.ready .any ops l = [] → Q .normal a w) ∧ ∀ i ∈ Region.ready .any ops l, wpOp P ops Q i (fun a' w' => (late i = false → S w') ∧ wpAnyL P ops Q S late n (l.setIfInBounds i true) a' w') a w
theorem wpAny_of_late {P : Program} {ops : Array Oper} {Q : Exit → Act → World → Prop} {S : World → Prop} {late : Nat → Bool} : ∀ (n : Nat) (l : Array Bool) (a : Act) (w : World), wpAnyL P ops Q S late n l a w → wpAny P .any ops Q n l a w
  | 0, _, _, _, h => h
  | n + 1, _, _, _, h => ⟨h.1, fun i hi => wpOp_mono (fun a' w' h' => wpAny_of_late n _ a' w' h'.2) (h.2 i hi)⟩
/-- Each late one waits for i. -/
def lateB (ops : Array Oper) (late : Nat → Bool) (i : Nat) : Bool := (List.range ops.size).all fun j => !late j || depB .any ops j i
theorem lateB_spec {ops : Array Oper} {late : Nat → Bool} {i : Nat} (h : lateB ops late i = true) {j : Nat} {oj : Oper} (hj : ops[j]? = some oj) (hl : late j = true) : ∃ e ∈ oj.after, Region.binds .any e = true ∧ e.on = i := by
  unfold lateB at h
  rw [List.all_eq_true] at h
  have h1 := h j (by simpa using (Array.getElem?_eq_some_iff.1 hj).1)
  rw [hl] at h1
  obtain ⟨o, ho, e, he⟩ := depB_spec (by simpa using h1)
  rw [hj] at ho
  cases ho
  exact ⟨e, he⟩
theorem wpAnyL_first {P : Program} {ops : Array Oper} {Q : Exit → Act → World → Prop} {S : World → Prop} {late : Nat → Bool} {i : Nat} {oi : Oper} {v : Value} (hi : ops[i]? = some oi) (hs : Region.noSelect ops = true) (hQ : ∀ c a w, Q (.panic c) (a.put oi.dst v) w → Q (.panic c) a w) (hl : lateB ops late i = true) :
    ∀ (n : Nat) (l : Array Bool) (a : Act) (w : World), (∀ j oj, ops[j]? = some oj → j ≠ i → l.getD j true = false → (∀ e ∈ oj.after, Region.binds .any e = true → e.on ≠ i) → oi.apart ops oj = true) →
      i ∈ Region.ready .any ops l → YieldsIf P ops S oi v a → S w → wpAnyL P ops Q S late n (l.setIfInBounds i true) (a.put oi.dst v) w → wpAnyL P ops Q S late (n + 1) l a w := by
  intro n
  induction n with
  | zero =>
    intro l a w _ hr hy hS H
    refine ⟨fun h => (by rw [h] at hr; cases hr), fun j hj => ?_⟩
    by_cases hji : j = i
    · subst hji; exact hy.wpOp hi hS ⟨fun _ => hS, H⟩
    · have := ready_mono hj hji
      rw [H.1] at this
      cases this
  | succ n ih =>
    intro l a w hfree hr hy hS H
    refine ⟨fun h => (by rw [h] at hr; cases hr), fun j hj => ?_⟩
    by_cases hji : j = i
    · subst hji; exact hy.wpOp hi hS ⟨fun _ => hS, H⟩
    · obtain ⟨hun, oj, hoj, hall⟩ := mem_ready.1 hj
      have hi0 := getD_f.1 (mem_ready.1 hr).1
      have hnot : ∀ e ∈ oj.after, Region.binds .any e = true → e.on ≠ i := fun e he hb heq => by
        have h1 := getD_t.1 (hall e he hb)
        rw [heq, hi0] at h1
        cases h1
      have hnl : late j = false := by
        cases hlj : late j with
        | false => rfl
        | true =>
          obtain ⟨e, he, hb, hon⟩ := lateB_spec hl hoj hlj
          exact absurd hon (hnot e he hb)
      have h2 := wpOp_putIf hoj (hfree j oj hoj hji hun hnot) (fun cs b => Region.noSelect_spec hs i oi cs b hi) (fun cs b => Region.noSelect_spec hs j oj cs b hoj) hQ hy (H.2 j (ready_mono hj hji))
      refine wpOp_mono (fun a' w' h3 => ⟨h3.2.1, ih (l.setIfInBounds j true) a' w' (fun k ok hk hki hu hno => hfree k ok hk hki ?_ hno) (ready_mono hr (Ne.symm hji)) h3.1 (h3.2.1 hnl) ?_⟩) h2
      · by_cases hjk : j = k
        · subst hjk; exact hun
        · rw [getD_set_ne true hjk] at hu; exact hu
      · rw [Array.setIfInBounds_comm _ _ hji]
        exact h3.2.2
theorem wpAnyL_take {P : Program} {ops : Array Oper} {Q : Exit → Act → World → Prop} {S : World → Prop} {late : Nat → Bool} {n : Nat} {l : Array Bool} {a : Act} {w : World} (i : Nat) {oi : Oper} {v : Value} (hi : ops[i]? = some oi) (hs : Region.noSelect ops = true) (hf : Region.free .any ops l i = true) (hr : (Region.ready .any ops l).contains i = true) (hl : lateB ops late i = true)
    (hQ : ∀ c a w, Q (.panic c) (a.put oi.dst v) w → Q (.panic c) a w) (hS : S w) (hy : YieldsIf P ops S oi v a) (h : wpAnyL P ops Q S late n (l.setIfInBounds i true) (a.put oi.dst v) w) : wpAnyL P ops Q S late (n + 1) l a w :=
  wpAnyL_first hi hs hQ hl n l a w (Region.free_spec hi hf) (by simpa using hr) hy hS h
/-- One alone may come up. -/
theorem wpAnyL_one {P : Program} {ops : Array Oper} {Q : Exit → Act → World → Prop} {S : World → Prop} {late : Nat → Bool} {n : Nat} {l : Array Bool} {a : Act} {w : World} (i : Nat) {o : Oper} (hr : Region.ready .any ops l = [i]) (ho : ops[i]? = some o)
    (h : ∀ K : Act → World → Prop, (∀ a w, (late i = false → S w) → wpAnyL P ops Q S late n (l.setIfInBounds i true) a w → K a w) → if Region.wanted o (yielded ops a.tmps) = true then Oper.wp P o a w K Q else K (a.put o.dst undef) w) : wpAnyL P ops Q S late (n + 1) l a w := by
  refine ⟨fun h0 => (by rw [hr] at h0; cases h0), fun j hj => ?_⟩
  rw [hr] at hj
  simp at hj
  subst hj
  exact wpOp_step ho (fun K hK => h K fun a w h1 h2 => hK a w ⟨h1, h2⟩)
theorem wpAnyL_done {P : Program} {ops : Array Oper} {Q : Exit → Act → World → Prop} {S : World → Prop} {late : Nat → Bool} {l : Array Bool} {a : Act} {w : World} (hr : Region.ready .any ops l = []) (h : Q .normal a w) : wpAnyL P ops Q S late 0 l a w := ⟨hr, h⟩
theorem wp_region_late {P : Program} {id : Nat} {ops : Array Oper} {Q : Exit → Act → World → Prop} {a : Act} {w : World} (S : World → Prop) (late : Nat → Bool) (hm : P.follows .mixedOrders = true) (hS : S w.drew) (h : S w.drew → wpAnyL P ops Q S late ops.size (Array.replicate ops.size false) a w.drew) : (Code.region id ops true).wp P Q a w :=
  wp_region_any hm (wpAny_of_late _ _ _ _ (h hS))
end Go.Proofs.YtknbgpgefeahlaaGreatDoor
