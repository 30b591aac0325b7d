/- What the runner keeps, as calls: a call is made, goes on elsewhere, is told. -/
import Derived.Test.YtdgpdmohfnealaaGreatDoorUHi2
namespace Go.Proofs.YtdgpdmohfnealaaGreatDoor

theorem Opn.turn {P : List Gr} {S S' : St} {f : Fr} {fs : List Fr} {F F0 : Nat → Nat → Nat} {c : Cl} {cs : List Cl} (h : Opn P S f fs F F0 c cs) (e1 : S'.nw = S.nw) (e2 : S'.calls = S.calls) (e3 : S'.kept = S.kept) (e4 : S'.rows = S.rows) : Opn P S' f fs F F0 c cs :=
  ⟨by rw [e2]; exact h.calls, h.cg, h.cb, h.cx, by rw [e3]; exact h.ck, by rw [e4]; exact h.cr, h.gl, by rw [e3, e4]; exact h.low, h.ne, by rw [e3, e4]; exact h.seg, by rw [e1]; exact h.nw, by rw [e1]; exact h.own, by rw [e1]; exact h.all⟩
theorem Hi.turn {P : List Gr} {S S' : St} {fs : List Fr} {F : Nat → Nat → Nat} (h : Hi P S fs F) (e1 : S'.nw = S.nw) (e2 : S'.calls = S.calls) (e3 : S'.kept = S.kept) (e4 : S'.rows = S.rows) : Hi P S' fs F :=
  ⟨by rw [e2, e3, e4]; exact h.lay, by rw [e1]; exact h.nw, by rw [e1]; exact h.all⟩
/-- Nobody has called yet. -/
theorem Hi.start {P : List Gr} {S : St} (hn : S.nw = List.replicate P.length none) (hc : S.calls = []) (hk : S.kept = []) (hr : S.rows = []) : Hi P S [] (fun _ _ => 0) := by
  refine ⟨?_, ⟨by rw [hn]; simp, fun g l hl => ?_, fun g _ c => rfl⟩, fun f hf => by simp at hf⟩
  · rw [hc, hk, hr]
    exact ⟨rfl, rfl, fun _ _ => rfl⟩
  · rw [hn] at hl
    have := (List.getElem?_eq_some_iff.1 hl)
    obtain ⟨h1, h2⟩ := this
    simp at h2
/-- A graph is called for the first time: room for its newest settings. -/
theorem Hi.fresh {P : List Gr} {S : St} {fs : List Fr} {F : Nat → Nat → Nat} (h : Hi P S fs F) {g : Nat} (hg : S.nw[g]? = some none) : Hi P (S.anew g (List.replicate (cellsOf (P.getD g default)) 0)) fs F := by
  have hgl := (List.getElem?_eq_some_iff.1 hg).1
  refine ⟨h.lay, ⟨by show (S.nw.set g _).length = _; rw [List.length_set]; exact h.nw.len, fun g' l hl => ?_, fun g' hg' => ?_⟩, fun f hf => ?_⟩
  · replace hl : (S.nw.set g (some (List.replicate (cellsOf (P.getD g default)) 0)))[g']? = some (some l) := hl
    rw [List.getElem?_set] at hl
    by_cases e : g = g'
    · rw [if_pos e, if_pos hgl] at hl
      cases hl
      subst e
      refine ⟨by simp, fun c => ?_⟩
      rw [h.nw.nil g hg c]
      simp only [List.getD, List.getElem?_replicate]
      split <;> rfl
    · rw [if_neg e] at hl
      exact h.nw.here g' l hl
  · replace hg' : (S.nw.set g (some (List.replicate (cellsOf (P.getD g default)) 0)))[g']? = some none := hg'
    rw [List.getElem?_set] at hg'
    by_cases e : g = g'
    · rw [if_pos e, if_pos hgl] at hg'
      cases hg'
    · rw [if_neg e] at hg'
      exact h.nw.nil g' hg'
  · obtain ⟨l, hl⟩ := h.all f hf
    show ∃ l, (S.nw.set g _)[f.g]? = _
    rw [List.getElem?_set]
    by_cases e : g = f.g
    · rw [if_pos e, if_pos hgl]; exact ⟨_, rfl⟩
    · rw [if_neg e]; exact ⟨l, hl⟩
def Fr.new (g : Nat) : Fr := ⟨g, 0, 0, fun _ => 0, fun _ _ => 0⟩
theorem Hi.addC {P : List Gr} {S : St} {fs : List Fr} {F : Nat → Nat → Nat} (h : Hi P S fs F) {g : Nat} {l : List Int} (hg : S.nw[g]? = some (some l)) : Opn P (S.addC g) (Fr.new g) fs F F ⟨g, 0, 0, S.kept.length, S.rows.length⟩ S.calls.reverse := by
  have hgl := (List.getElem?_eq_some_iff.1 hg).1
  refine ⟨by rw [List.reverse_reverse]; rfl, rfl, rfl, rfl, Nat.le_refl _, Nat.le_refl _, by rw [← h.nw.len]; exact hgl, ?_, fun _ _ => rfl, ?_, h.nw, ⟨l, hg⟩, h.all⟩
  · show Lay P fs _ (S.kept.take S.kept.length) (S.rows.take S.rows.length) F
    rw [List.take_length, List.take_length]; exact h.lay
  · show Seg _ _ _ _ _ (S.kept.drop S.kept.length) (S.rows.drop S.rows.length) _
    rw [List.drop_length, List.drop_length]
    have no : ∀ (i : Nat) (a : Sg), ¬ ([] : List Sg)[i]? = some a := fun i a h => by simp at h
    exact ⟨fun i j a b hi => (no i a hi).elim, fun i a hi => (no i a hi).elim, fun i a hi => (no i a hi).elim, fun i a hi => (no i a hi).elim, fun _ _ => rfl, fun i a hi => (no i a hi).elim, fun _ _ _ => rfl, fun i a hi => (no i a hi).elim, fun _ _ _ => rfl, Nat.le_refl _, fun i j a b q q' p p' hi => (no i a hi).elim⟩
/-- Variables are set, one by one. -/
def Fr.setE (f : Fr) (v : Nat) (x : Int) : Fr := { f with ev := updE f.ev v x }
def Fr.sets (f : Fr) : List (Nat × Int) → Fr
  | [] => f
  | q :: qs => (f.setE q.1 q.2).sets qs
theorem Fr.sets_keep : ∀ (qs : List (Nat × Int)) (f : Fr), (f.sets qs).g = f.g ∧ (f.sets qs).b = f.b ∧ (f.sets qs).nx = f.nx ∧ (f.sets qs).ar = f.ar
  | [], _ => ⟨rfl, rfl, rfl, rfl⟩
  | q :: qs, f => Fr.sets_keep qs (f.setE q.1 q.2)
theorem Opn.sets {P : List Gr} : ∀ (qs : List (Nat × Int)) {S : St} {f : Fr} {fs : List Fr} {F F0 : Nat → Nat → Nat} {c : Cl} {cs : List Cl}, Opn P S f fs F F0 c cs → (∀ q ∈ qs, q.1 < (P.getD f.g default).vars.length) → ∃ F', Opn P (S.sets qs) (f.sets qs) fs F' F0 c cs
  | [], _, _, _, F, _, _, _, h, _ => ⟨F, h⟩
  | q :: qs, S, f, fs, F, F0, c, cs, h, hq => by
    obtain ⟨F1, h1⟩ := h.set (hq q (by simp)) q.2
    obtain ⟨F2, h2⟩ := Opn.sets qs h1 (fun p hp => hq p (by simp [hp]))
    exact ⟨F2, h2⟩
/-- The last call goes on at another place. -/
theorem Opn.last {P : List Gr} {S : St} {f : Fr} {fs : List Fr} {F F0 : Nat → Nat → Nat} {c : Cl} {cs : List Cl} (h : Opn P S f fs F F0 c cs) (b nx : Nat) :
    Opn P (S.last fs.length { S.top with b := b, nx := nx }) { f with b := b, nx := nx } fs F F0 { c with b := b, nx := nx } cs := by
  refine ⟨?_, h.cg, rfl, rfl, h.ck, h.cr, h.gl, h.low, h.ne, ⟨h.seg.uniq, h.seg.cell, h.seg.old, h.seg.hit, h.seg.miss, h.seg.ev1, h.seg.ev0, h.seg.ar1, h.seg.ar0, h.seg.rl, h.seg.apart⟩, h.nw, h.own, h.all⟩
  show S.calls.set fs.length _ = _
  rw [h.top, h.calls]
  have : cs.reverse.length = fs.length := by rw [List.length_reverse, h.low.len]
  rw [List.set_append_right _ _ (by omega), this, Nat.sub_self]
  rfl
theorem unset_at (y : Int) (c : Nat) : ∀ (ks : List Sg) (l : List Int), (∀ a ∈ ks, a.cell = c → (a.old : Int) = y) → ((∃ a ∈ ks, a.cell = c) ∧ c < l.length ∨ l.getD c 0 = y) → (unset l ks).getD c 0 = y
  | [], l, _, h => by
    rcases h with ⟨⟨a, ha, _⟩, _⟩ | h
    · simp at ha
    · exact h
  | a :: ks, l, h1, h2 => by
    show (unset (l.set a.cell (a.old : Int)) ks).getD c 0 = y
    refine unset_at y c ks _ (fun b hb => h1 b (by simp [hb])) ?_
    by_cases e : a.cell = c
    · by_cases hl : c < l.length
      · right
        rw [e, getD_set_self _ hl]
        exact h1 a (by simp) e
      · rcases h2 with ⟨_, h⟩ | h
        · exact (hl h).elim
        · right
          rw [List.set_eq_of_length_le (by omega)]
          exact h
    · rcases h2 with ⟨⟨b, hb, hbc⟩, hl⟩ | h
      · left
        rcases List.mem_cons.1 hb with rfl | hb
        · exact (e hbc).elim
        · exact ⟨⟨b, hb, hbc⟩, by rw [List.length_set]; exact hl⟩
      · right
        rw [getI_set_ne _ e]
        exact h
theorem unset_length (ks : List Sg) : ∀ l, (unset l ks).length = l.length := by
  unfold unset
  induction ks with
  | nil => intro l; rfl
  | cons a ks ih => intro l; rw [List.foldl_cons, ih]; simp
/-- The last call is over. -/
theorem Opn.pop {P : List Gr} {S : St} {f : Fr} {fs : List Fr} {F F0 : Nat → Nat → Nat} {c : Cl} {cs : List Cl} (h : Opn P S f fs F F0 c cs) : Hi P (S.forget.popC fs.length) fs F0 := by
  obtain ⟨l, h1, h2, h3, h4⟩ := h.row
  have hgl := (List.getElem?_eq_some_iff.1 h1).1
  have e1 : (S.forget.popC fs.length).nw = S.nw.set f.g (some (unset l (S.kept.drop c.k))) := by
    show S.nw.set S.top.g (some (unset (S.row S.top.g) (S.kept.drop S.top.k))) = _
    rw [h2, h.top, h.cg]
  have e2 : (S.forget.popC fs.length).calls = cs.reverse := by
    show S.calls.take fs.length = _
    have : cs.reverse.length = fs.length := by rw [List.length_reverse, h.low.len]
    rw [h.calls, List.take_append_of_le_length (by omega), ← this, List.take_length]
  have e3 : (S.forget.popC fs.length).kept = S.kept.take c.k := by show S.kept.take S.top.k = _; rw [h.top]
  have e4 : (S.forget.popC fs.length).rows = S.rows.take c.r := by show S.rows.take S.top.r = _; rw [h.top]
  rw [h.top, h.cg] at h1 hgl
  have own : ∀ d, (unset l (S.kept.drop c.k)).getD d 0 = (F0 f.g d : Int) := fun d => by
    refine unset_at _ d _ _ (fun a ha hc => ?_) ?_
    · obtain ⟨i, hi⟩ := List.mem_iff_getElem?.1 ha
      rw [h.seg.old i a hi, hc]
    · by_cases hd : ∃ a ∈ S.kept.drop c.k, a.cell = d
      · left
        refine ⟨hd, ?_⟩
        obtain ⟨a, ha, hc⟩ := hd
        obtain ⟨i, hi⟩ := List.mem_iff_getElem?.1 ha
        rw [h3, ← hc]
        exact h.seg.cell i a hi
      · right
        rw [h4, h.seg.miss d fun i a hi hc => hd ⟨a, List.mem_of_getElem? hi, hc⟩]
  refine ⟨by rw [e2, e3, e4, List.reverse_reverse]; exact h.low, ?_, ?_⟩
  · rw [e1]
    refine ⟨by rw [List.length_set]; exact h.nw.len, fun g l' hl => ?_, fun g hg d => ?_⟩
    · rw [List.getElem?_set] at hl
      by_cases e : f.g = g
      · rw [if_pos e, if_pos hgl] at hl
        cases hl
        subst e
        exact ⟨by rw [unset_length, h3], own⟩
      · rw [if_neg e] at hl
        obtain ⟨q1, q2⟩ := h.nw.here g l' hl
        exact ⟨q1, fun d => by rw [q2, h.ne g (Ne.symm e)]⟩
    · rw [List.getElem?_set] at hg
      by_cases e : f.g = g
      · rw [if_pos e, if_pos hgl] at hg
        cases hg
      · rw [if_neg e] at hg
        rw [← h.ne g (Ne.symm e)]
        exact h.nw.nil g hg d
  · intro q hq
    rw [e1]
    exact all_set h1 (h.all q hq)
/-- How much is kept. -/
theorem Seg.len {G : Gr} {F0 F : Nat → Nat} {k r : Nat} {sg : List Sg} {rs : List Int} {f : Fr} (h : Seg G F0 F k r sg rs f) : sg.length ≤ cellsOf G := by
  have hn : (sg.map (·.cell)).Nodup := by
    unfold List.Nodup
    rw [List.pairwise_iff_getElem]
    intro i j hi hj hij he
    rw [List.getElem_map, List.getElem_map] at he
    have := h.uniq i j _ _ (List.getElem?_eq_getElem (by simpa using hi)) (List.getElem?_eq_getElem (by simpa using hj)) he
    omega
  have h1 : (sg.map (·.cell)).length ≤ (List.range (cellsOf G)).length := List.Nodup.length_le_of_subset hn fun x hx => by
    obtain ⟨a, ha, rfl⟩ := List.mem_map.1 hx
    obtain ⟨i, hi⟩ := List.mem_iff_getElem?.1 ha
    exact List.mem_range.2 (h.cell i a hi)
  simpa using h1
theorem Lay.kept {P : List Gr} {C : Nat} (hC : ∀ g, cellsOf (P.getD g default) ≤ C) : ∀ {fs : List Fr} {cs : List Cl} {kept : List Sg} {rows : List Int} {F : Nat → Nat → Nat}, Lay P fs cs kept rows F → kept.length ≤ fs.length * C ∧ rows.length ≤ 256 * kept.length
  | [], [], _, _, _, h => by rw [h.1, h.2.1]; simp
  | f :: fs, cl :: cs, kept, rows, F, h => by
    obtain ⟨_, _, _, hk, hr, _, F0, hL, hne, hS⟩ := h
    obtain ⟨h1, h2⟩ := Lay.kept hC hL
    have h3 := hS.len
    have h4 := hS.rl
    have h5 := hC f.g
    rw [List.length_take] at h1 h2
    rw [List.length_drop] at h3 h4
    rw [List.length_drop] at h4
    rw [List.length_take] at h2
    rw [List.length_cons, Nat.add_mul, Nat.one_mul]
    constructor <;> omega
  | [], _ :: _, _, _, _, h => h.elim
  | _ :: _, [], _, _, _, h => h.elim
end Go.Proofs.YtdgpdmohfnealaaGreatDoor
/- A run as the document sees it: what each instruction, each end and each call makes of the calls that live. -/
namespace Go.Proofs.YtdgpdmohfnealaaGreatDoor

structure HS where
  frs : List Fr
  shows : List (Int × Int)
  fin : Int
  val : Int
  trap : Int
  steps : Nat
  deep : Nat
def HS.stop (H : HS) (e : Int) : HS := { H with fin := e }
def HS.step (lim : Nat) (H : HS) : HS × Bool := if lim ≤ H.steps then (H.stop 3, false) else ({ H with steps := H.steps + 1 }, true)
def grOf (P : List Gr) (f : Fr) : Gr := P.getD f.g default
def insOf (P : List Gr) (f : Fr) : List In := ((grOf P f).blocks.getD f.b default).ins
def tmOf (P : List Gr) (f : Fr) : Tm := ((grOf P f).blocks.getD f.b default).tm
def argN (x : In) (i : Nat) : Nat := (x.args.getD i 0).toNat
def Fr.reck (G : Gr) (f : Fr) (x : In) : Int :=
  if x.args.length = 1 then Sc.oneI x.op (G.vars.getD (argN x 0) 0) (f.ev (argN x 0)) else Sc.twoI x.op (G.vars.getD (argN x 0) 0) (f.ev (argN x 0)) (f.ev (argN x 1))
/-- What an instruction makes of a call. -/
def Fr.doI (G : Gr) (f : Fr) (x : In) : Fr :=
  if x.kind = 2 then f.setE x.dst.toNat x.bits
  else if x.kind = 3 then f.setE x.dst.toNat (f.ev (argN x 0))
  else if x.kind = 4 then f.setE x.dst.toNat (f.reck G x)
  else if x.kind = 5 then f.setE x.dst.toNat (Sc.turnI (G.vars.getD x.dst.toNat 0) (G.vars.getD (argN x 0) 0) (f.ev (argN x 0)))
  else if x.kind = 6 then f.setE x.dst.toNat (f.elem G x.ref.toNat (f.ev (argN x 0)))
  else if x.kind = 7 then f.put G x.ref.toNat (f.ev (argN x 0)) (f.ev (argN x 1))
  else if x.kind = 8 then f.wipe x.ref.toNat
  else f
def showI (G : Gr) (f : Fr) (x : In) : List (Int × Int) := if x.kind = 10 then [(G.vars.getD (argN x 0) 0, f.ev (argN x 0))] else []
def argPairs (G : Gr) (ws : List Int) : List (Nat × Int) := (List.range G.params.length).map fun i => ((G.params.getD i 0).toNat, ws.getD i 0)
/-- A call is made, if there may be one more; its first step is made, if there may be one. -/
def HS.begin (P : List Gr) (lim dep : Nat) (H : HS) (g : Nat) (ws : List Int) : HS × Bool :=
  if dep ≤ H.frs.length then (H.stop 4, false)
  else ({ H with frs := (Fr.new g).sets (argPairs (P.getD g default) ws) :: H.frs, deep := max H.deep (H.frs.length + 1) } : HS).step lim
/-- How many phis stand at the head. -/
def npOf : List In → Nat
  | [] => 0
  | x :: xs => if x.kind = 1 then npOf xs + 1 else 0
def phiPairs (f : Fr) (I : List In) (place : Nat) : List (Nat × Int) := (List.range (npOf I)).map fun i => ((I.getD i default).dst.toNat, f.ev ((I.getD i default).args.getD place 0).toNat)
def placeOf (G : Gr) (t fr : Nat) : Nat := ((aheadT (tms G.blocks)).getD t []).countP (· < (fr : Int))
/-- A call goes into a block. -/
def Fr.into (P : List Gr) (f : Fr) (t : Nat) : Fr :=
  { f.sets (phiPairs f ((grOf P f).blocks.getD t default).ins (placeOf (grOf P f) t f.b)) with b := t, nx := npOf ((grOf P f).blocks.getD t default).ins }
def HS.enter (P : List Gr) (lim : Nat) (H : HS) (f : Fr) (fs : List Fr) (t : Nat) : HS × Bool :=
  if lim ≤ H.steps then (H.stop 3, false) else ({ H with steps := H.steps + 1, frs := f.into P t :: fs }, true)
/-- The last call tells its word. -/
def HS.tell (P : List Gr) (H : HS) (fs : List Fr) (x : Int) : HS × Bool := match fs with
  | [] => ({ H with frs := [], val := x, fin := 1 }, false)
  | f2 :: fs2 => ({ H with frs := f2.setE ((insOf P f2).getD (f2.nx - 1) default).dst.toNat x :: fs2 }, true)
def HS.endT (P : List Gr) (lim : Nat) (H : HS) (f : Fr) (fs : List Fr) (t : Tm) : HS × Bool :=
  if t.kind = 1 then H.enter P lim f fs t.t0.toNat
  else if t.kind = 2 then H.enter P lim f fs (if f.ev t.arg.toNat = 1 then t.t0 else t.t1).toNat
  else if t.kind = 3 then H.tell P fs (f.ev t.arg.toNat)
  else ({ H with trap := t.trap, fin := 2 }, false)
/-- One instruction, or an end. -/
def HS.next (P : List Gr) (lim dep : Nat) (H : HS) : HS × Bool := match H.frs with
  | [] => (H, false)
  | f :: fs =>
    if f.nx < (insOf P f).length then
      if ((insOf P f).getD f.nx default).kind = 9 then
        ({ H with frs := { f with nx := f.nx + 1 } :: fs } : HS).begin P lim dep ((insOf P f).getD f.nx default).ref.toNat (((insOf P f).getD f.nx default).args.map fun v => f.ev v.toNat)
      else ({ H with frs := { f.doI (grOf P f) ((insOf P f).getD f.nx default) with nx := f.nx + 1 } :: fs, shows := H.shows ++ showI (grOf P f) f ((insOf P f).getD f.nx default) }, true)
    else H.endT P lim f fs (tmOf P f)
def HS.iter (P : List Gr) (lim dep : Nat) : Nat → HS × Bool → HS × Bool
  | 0, s => s
  | n + 1, s => if s.2 = true then HS.iter P lim dep n (s.1.next P lim dep) else s
def HS.zero : HS := ⟨[], [], 0, 0, 0, 0, 0⟩
def HS.first (P : List Gr) (lim dep g : Nat) (ws : List Int) : HS × Bool := HS.zero.begin P lim dep g ws
/-- What is told is what the runner keeps. -/
structure Sim (P : List Gr) (S : St) (H : HS) : Prop where
  hi : ∃ F, Hi P S H.frs F
  shows : S.shows = H.shows
  fin : S.fin = H.fin
  val : S.val = H.val
  trap : S.trap = H.trap
  steps : S.steps = H.steps
  deep : S.deep = H.deep
theorem HS.iter_stop {P : List Gr} {lim dep n : Nat} {s : HS × Bool} (h : s.2 = false) : HS.iter P lim dep n s = s := by
  cases n with
  | zero => rfl
  | succ n => unfold HS.iter; rw [if_neg (by simp [h])]
theorem HS.iter_add (P : List Gr) (lim dep : Nat) : ∀ (n m : Nat) (s : HS × Bool), HS.iter P lim dep (n + m) s = HS.iter P lim dep m (HS.iter P lim dep n s)
  | 0, m, s => by rw [Nat.zero_add]; rfl
  | n + 1, m, s => by
    rw [show n + 1 + m = (n + m) + 1 by omega]
    show (if s.2 = true then HS.iter P lim dep (n + m) _ else s) = HS.iter P lim dep m (if s.2 = true then HS.iter P lim dep n _ else s)
    by_cases h : s.2 = true
    · rw [if_pos h, if_pos h]; exact HS.iter_add P lim dep n m _
    · rw [if_neg h, if_neg h]; exact (HS.iter_stop (by simpa using h)).symm
theorem HS.iter_one {P : List Gr} {lim dep : Nat} {n : Nat} {s : HS × Bool} {H : HS} (h : HS.iter P lim dep n s = (H, true)) : HS.iter P lim dep (n + 1) s = H.next P lim dep := by
  rw [HS.iter_add, h]
  rfl
end Go.Proofs.YtdgpdmohfnealaaGreatDoor
/- With more steps and a greater depth what was shown stays the beginning: of runs as the document sees them. -/
namespace Go.Proofs.YtdgpdmohfnealaaGreatDoor

/-- How far a state has come. -/
def HS.le (H K : HS) : Prop := H.shows <+: K.shows ∧ H.steps ≤ K.steps ∧ H.deep ≤ K.deep
theorem HS.le_refl (H : HS) : H.le H := ⟨List.prefix_refl _, Nat.le_refl _, Nat.le_refl _⟩
theorem HS.le_trans {H K L : HS} (h1 : H.le K) (h2 : K.le L) : H.le L := ⟨h1.1.trans h2.1, Nat.le_trans h1.2.1 h2.2.1, Nat.le_trans h1.2.2 h2.2.2⟩
def limited (s : HS × Bool) : Prop := s.2 = false ∧ (s.1.fin = 3 ∨ s.1.fin = 4)
/-- Of two runs the one with less has come as far, or it was stopped. -/
def Cmp (lim dep : Nat) (s s' : HS × Bool) : Prop := s = s' ∨ (limited s ∧ s.1.le s'.1 ∧ (limited s' ∨ lim < s'.1.steps ∨ dep < s'.1.deep))
theorem step_le (lim : Nat) (H : HS) : H.le (H.step lim).1 := by
  unfold HS.step
  split
  · exact ⟨List.prefix_refl _, Nat.le_refl _, Nat.le_refl _⟩
  · exact ⟨List.prefix_refl _, by dsimp only; omega, Nat.le_refl _⟩
theorem begin_le (P : List Gr) (lim dep : Nat) (H : HS) (g : Nat) (ws : List Int) : H.le (H.begin P lim dep g ws).1 := by
  unfold HS.begin
  split
  · exact ⟨List.prefix_refl _, Nat.le_refl _, Nat.le_refl _⟩
  · refine HS.le_trans ?_ (step_le lim _)
    exact ⟨List.prefix_refl _, Nat.le_refl _, by dsimp only; omega⟩
theorem enter_le (P : List Gr) (lim : Nat) (H : HS) (f : Fr) (fs : List Fr) (t : Nat) : H.le (H.enter P lim f fs t).1 := by
  unfold HS.enter
  split
  · exact ⟨List.prefix_refl _, Nat.le_refl _, Nat.le_refl _⟩
  · exact ⟨List.prefix_refl _, by dsimp only; omega, Nat.le_refl _⟩
theorem tell_le (P : List Gr) (H : HS) (fs : List Fr) (x : Int) : H.le (H.tell P fs x).1 := by
  unfold HS.tell
  split <;> exact ⟨List.prefix_refl _, Nat.le_refl _, Nat.le_refl _⟩
theorem next_le (P : List Gr) (lim dep : Nat) (H : HS) : H.le (H.next P lim dep).1 := by
  unfold HS.next
  split
  · exact HS.le_refl _
  · split
    · split
      · refine HS.le_trans ?_ (begin_le P lim dep _ _ _)
        exact ⟨List.prefix_refl _, Nat.le_refl _, Nat.le_refl _⟩
      · exact ⟨List.prefix_append _ _, Nat.le_refl _, Nat.le_refl _⟩
    · unfold HS.endT
      split
      · exact enter_le _ _ _ _ _ _
      · split
        · exact enter_le _ _ _ _ _ _
        · split
          · exact tell_le _ _ _ _
          · exact ⟨List.prefix_refl _, Nat.le_refl _, Nat.le_refl _⟩
theorem iter_le (P : List Gr) (lim dep : Nat) : ∀ (n : Nat) (s : HS × Bool), s.1.le (HS.iter P lim dep n s).1
  | 0, s => HS.le_refl _
  | n + 1, s => by
    unfold HS.iter
    split
    · exact HS.le_trans (next_le P lim dep s.1) (iter_le P lim dep n _)
    · exact HS.le_refl _
theorem step_cmp {lim lim' dep : Nat} (hl : lim ≤ lim') (H : HS) : Cmp lim dep (H.step lim) (H.step lim') := by
  unfold HS.step
  by_cases h1 : lim ≤ H.steps
  · rw [if_pos h1]
    by_cases h2 : lim' ≤ H.steps
    · rw [if_pos h2]; exact .inl rfl
    · rw [if_neg h2]
      exact .inr ⟨⟨rfl, .inl rfl⟩, ⟨List.prefix_refl _, by show H.steps ≤ H.steps + 1; omega, Nat.le_refl _⟩, .inr (.inl (by show lim < H.steps + 1; omega))⟩
  · rw [if_neg h1, if_neg (by omega)]; exact .inl rfl
theorem begin_cmp {P : List Gr} {lim lim' dep dep' : Nat} (hl : lim ≤ lim') (hd : dep ≤ dep') (H : HS) (g : Nat) (ws : List Int) : Cmp lim dep (H.begin P lim dep g ws) (H.begin P lim' dep' g ws) := by
  by_cases h1 : dep ≤ H.frs.length
  · by_cases h2 : dep' ≤ H.frs.length
    · have e1 : H.begin P lim dep g ws = (H.stop 4, false) := by unfold HS.begin; rw [if_pos h1]
      have e2 : H.begin P lim' dep' g ws = (H.stop 4, false) := by unfold HS.begin; rw [if_pos h2]
      rw [e1, e2]; exact .inl rfl
    · have e1 : H.begin P lim dep g ws = (H.stop 4, false) := by unfold HS.begin; rw [if_pos h1]
      rw [e1]
      refine .inr ⟨⟨rfl, .inr rfl⟩, begin_le P lim' dep' H g ws, .inr (.inr ?_)⟩
      unfold HS.begin
      rw [if_neg h2]
      have := (step_le lim' ({ H with frs := (Fr.new g).sets (argPairs (P.getD g default) ws) :: H.frs, deep := max H.deep (H.frs.length + 1) } : HS)).2.2
      dsimp only at this
      omega
  · unfold HS.begin
    rw [if_neg h1, if_neg (by omega)]
    exact step_cmp hl _
theorem enter_cmp {P : List Gr} {lim lim' dep : Nat} (hl : lim ≤ lim') (H : HS) (f : Fr) (fs : List Fr) (t : Nat) : Cmp lim dep (H.enter P lim f fs t) (H.enter P lim' f fs t) := by
  unfold HS.enter
  by_cases h1 : lim ≤ H.steps
  · rw [if_pos h1]
    by_cases h2 : lim' ≤ H.steps
    · rw [if_pos h2]; exact .inl rfl
    · rw [if_neg h2]
      exact .inr ⟨⟨rfl, .inl rfl⟩, ⟨List.prefix_refl _, by show H.steps ≤ H.steps + 1; omega, Nat.le_refl _⟩, .inr (.inl (by show lim < H.steps + 1; omega))⟩
  · rw [if_neg h1, if_neg (by omega)]; exact .inl rfl
theorem next_cmp {P : List Gr} {lim lim' dep dep' : Nat} (hl : lim ≤ lim') (hd : dep ≤ dep') (H : HS) : Cmp lim dep (H.next P lim dep) (H.next P lim' dep') := by
  unfold HS.next
  split
  · exact .inl rfl
  · split
    · split
      · exact begin_cmp hl hd _ _ _
      · exact .inl rfl
    · unfold HS.endT
      split
      · exact enter_cmp hl _ _ _ _
      · split
        · exact enter_cmp hl _ _ _ _
        · exact .inl rfl
theorem iter_cmp {P : List Gr} {lim lim' dep dep' : Nat} (hl : lim ≤ lim') (hd : dep ≤ dep') : ∀ (n : Nat) (s s' : HS × Bool), Cmp lim dep s s' → Cmp lim dep (HS.iter P lim dep n s) (HS.iter P lim' dep' n s')
  | 0, s, s', h => h
  | n + 1, s, s', h => by
    rcases h with rfl | ⟨h1, h2, h3⟩
    · unfold HS.iter
      split
      · exact iter_cmp hl hd n _ _ (next_cmp hl hd s.1)
      · exact .inl rfl
    · rw [HS.iter_stop h1.1]
      refine .inr ⟨h1, HS.le_trans h2 (iter_le P lim' dep' _ s'), ?_⟩
      have hle := iter_le P lim' dep' (n + 1) s'
      rcases h3 with h3 | h3 | h3
      · rw [HS.iter_stop h3.1]; exact .inl h3
      · exact .inr (.inl (Nat.lt_of_lt_of_le h3 hle.2.1))
      · exact .inr (.inr (Nat.lt_of_lt_of_le h3 hle.2.2))
theorem first_cmp {P : List Gr} {lim lim' dep dep' : Nat} (hl : lim ≤ lim') (hd : dep ≤ dep') (g : Nat) (ws : List Int) (n : Nat) : Cmp lim dep (HS.iter P lim dep n (HS.first P lim dep g ws)) (HS.iter P lim' dep' n (HS.first P lim' dep' g ws)) :=
  iter_cmp hl hd n _ _ (begin_cmp hl hd _ g ws)
/-- What stands all along: steps and depth stay within; a run that is over has an end. -/
structure Within (lim dep : Nat) (s : HS × Bool) : Prop where
  steps : s.1.steps ≤ lim
  deep : s.1.deep ≤ dep
  frs : s.1.frs.length ≤ s.1.deep
  on : s.2 = true → s.1.fin = 0
  off : s.2 = false → (s.1.fin = 1 ∨ s.1.fin = 2) ∨ (s.1.fin = 3 ∧ s.1.steps = lim) ∨ (s.1.fin = 4 ∧ s.1.deep = dep)
theorem step_within {lim dep : Nat} {H : HS} (h1 : H.steps ≤ lim) (h2 : H.deep ≤ dep) (h3 : H.frs.length ≤ H.deep) (h0 : H.fin = 0) : Within lim dep (H.step lim) := by
  unfold HS.step
  by_cases h : lim ≤ H.steps
  · rw [if_pos h]
    exact ⟨h1, h2, h3, fun h => (by cases h), fun _ => .inr (.inl ⟨rfl, by show H.steps = lim; omega⟩)⟩
  · rw [if_neg h]
    exact ⟨by show H.steps + 1 ≤ lim; omega, h2, h3, fun _ => h0, fun h => (by cases h)⟩
theorem begin_within {P : List Gr} {lim dep : Nat} {H : HS} (h1 : H.steps ≤ lim) (h2 : H.deep ≤ dep) (h3 : H.frs.length ≤ H.deep) (h0 : H.fin = 0) (g : Nat) (ws : List Int) : Within lim dep (H.begin P lim dep g ws) := by
  unfold HS.begin
  by_cases h : dep ≤ H.frs.length
  · rw [if_pos h]
    exact ⟨h1, h2, h3, fun h => (by cases h), fun _ => .inr (.inr ⟨rfl, (by show H.deep = dep; omega)⟩)⟩
  · rw [if_neg h]
    refine step_within h1 ?_ ?_ h0
    · dsimp only; omega
    · dsimp only; rw [List.length_cons]; omega
theorem next_within {P : List Gr} {lim dep : Nat} {H : HS} (h1 : H.steps ≤ lim) (h2 : H.deep ≤ dep) (h3 : H.frs.length ≤ H.deep) (h0 : H.fin = 0) (hf : H.frs ≠ []) : Within lim dep (H.next P lim dep) := by
  have ent : ∀ (f : Fr) (fs : List Fr) (t : Nat), H.frs = f :: fs → Within lim dep (H.enter P lim f fs t) := fun f fs t e => by
    unfold HS.enter
    by_cases h : lim ≤ H.steps
    · rw [if_pos h]
      exact ⟨h1, h2, h3, fun h => (by cases h), fun _ => .inr (.inl ⟨rfl, (by show H.steps = lim; omega)⟩)⟩
    · rw [if_neg h]
      refine ⟨by show H.steps + 1 ≤ lim; omega, h2, ?_, fun _ => h0, fun h => (by cases h)⟩
      rw [e] at h3
      exact h3
  unfold HS.next
  split
  · rename_i e; exact (hf e).elim
  · rename_i f fs e
    have h3' : (f :: fs).length ≤ H.deep := by rw [← e]; exact h3
    split
    · split
      · exact begin_within (H := ({ H with frs := { f with nx := f.nx + 1 } :: fs } : HS)) h1 h2 h3' h0 _ _
      · exact ⟨h1, h2, h3', fun _ => h0, fun h => (by cases h)⟩
    · unfold HS.endT
      split
      · exact ent f fs _ e
      · split
        · exact ent f fs _ e
        · split
          · unfold HS.tell
            split
            · exact ⟨h1, h2, Nat.zero_le _, fun h => (by cases h), fun _ => .inl (.inl rfl)⟩
            · refine ⟨h1, h2, ?_, fun _ => h0, fun h => (by cases h)⟩
              dsimp only
              rw [List.length_cons] at h3' ⊢
              rw [List.length_cons] at h3'
              omega
          · exact ⟨h1, h2, h3, fun h => (by cases h), fun _ => .inl (.inr rfl)⟩
end Go.Proofs.YtdgpdmohfnealaaGreatDoor
