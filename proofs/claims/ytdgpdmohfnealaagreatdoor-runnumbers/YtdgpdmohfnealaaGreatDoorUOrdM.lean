/- An element is put into an array that the call has not set yet. -/
import Derived.Test.YtdgpdmohfnealaaGreatDoorUPut3M
import Derived.Deep.RegionWith
import Derived.Test.YtdgpdmohfnealaaGreatDoorGBoxM
import Derived.BigQuiet
import Derived.Deep.RegionLaw
namespace Go.Proofs.YtdgpdmohfnealaaGreatDoor
open Go.RowKit

def St.wide (S : St) (xs : List Int) : St := { S with rows := xs }
theorem St.wide_top (S : St) (xs : List Int) : (S.wide xs).top = S.top := rfl
theorem St.wide_find (S : St) (xs : List Int) (c : Nat) : (S.wide xs).find c = S.find c := rfl
theorem St.wide_kept (S : St) (xs : List Int) : (S.wide xs).kept = S.kept := rfl
theorem St.wide_rows (S : St) (xs : List Int) : (S.wide xs).rows = xs := rfl
theorem Asks.wide {E : Env} {S : St} {m : Nat} {l : List Int} (h : Asks E S m l) (xs : List Int) : Asks E (S.wide xs) m l := ⟨h.hm, h.hmb, h.hg, h.nn⟩
/-- What the walk needs behind the setting. -/
theorem put_after {E : Env} {V : Vals} {S S1 : St} {m : Nat} {l' : List Int} {r sz x : Nat} {y : Int} (ha : Asks E S1 m l') (ht : S1.top = S.top) (hr1 : S1.rows = S.rows) (gl : S.top.g < E.P.length) (rl : r < (E.P.getD S.top.g default).arrs.length) (ll : l'.length = cellsOf (E.P.getD S.top.g default))
    (hf : S1.find ((E.P.getD S.top.g default).vars.length + r) = S.kept.length + 1) (hw : (S1.kept.getD S.kept.length default).word = (S.rows.length : Int)) (hsz : ((E.P.getD S.top.g default).arrs.getD r default).2 = (sz : Int)) (hs0 : 0 < sz) (hx : x < sz)
    {w1 w2 : World} {kv' rv' : Value} {ss' : List Slot} (hr : Rn E w1 { V with kv := kv' } ss' S1) (ho : w2.ownsRow E.w0.heap.size 24 1 rv' (S.rows.length + sz) (S.rows.map wordV ++ List.replicate sz (.int .u64 0))) (hg : w1.grownBy w2 V.rv.ownBlock) (hat : rv'.ownBlock = V.rv.ownBlock ∨ rv'.ownBlock = some w1.heap.size) :
    w2.cell? ⟨E.B, 6, none⟩ = some V.rv ∧ w2.frozen? ⟨E.B, 6, none⟩ = false ∧ ∃ rb rc u, (∀ W k, W = (w2.setCell ⟨E.B, 6, none⟩ rv').drewN k → Calls Tryz.prog 39 #[ptr E.B, .int .i64 (r : Int)] W fun e w' => e = .returned (.slice (some ⟨rb, S.rows.length, none⟩) sz (rc - S.rows.length)) ∧ ∃ k, w' = W.drewN k) ∧ (w2.setCell ⟨E.B, 6, none⟩ rv').cell? ⟨rb, S.rows.length + x, none⟩ = some (wordV u) ∧ (w2.setCell ⟨E.B, 6, none⟩ rv').frozen? ⟨rb, S.rows.length + x, none⟩ = false ∧ ∀ k, ∃ ss3, Rn E (((w2.setCell ⟨E.B, 6, none⟩ rv').drewN k).setCell ⟨rb, S.rows.length + x, none⟩ (wordV y)) { V with kv := kv', rv := rv' } ss3 (S1.wide ((S.rows ++ List.replicate sz 0).set (S.rows.length + x) y)) := by
  have hBl := (hr.heap.lt hr.s0).2
  have hBW : w2.heap[E.B]? = w1.heap[E.B]? := hg.block E.B hBl (fun e => hr.heap.apart 4 0 _ _ E.B (by omega) hr.s4 hr.s0 e.symm rfl)
  have ho' : w2.ownsRow E.w0.heap.size 24 1 rv' (S1.rows.length + (List.replicate sz (0 : Int)).length) (S1.rows.map wordV ++ (List.replicate sz (0 : Int)).map wordV) := by
    rw [hr1, List.length_replicate, List.map_replicate]
    exact ho
  obtain ⟨ss2, hr2'⟩ := hr.widen ho' hg hat
  have hr2 : Rn E (w2.setCell ⟨E.B, 6, none⟩ rv') { V with kv := kv', rv := rv' } ss2 (S1.wide (S.rows ++ List.replicate sz 0)) := by rw [hr1] at hr2'; exact hr2'
  clear hr2' ho'
  have hrn : (S1.wide (S.rows ++ List.replicate sz 0)).rows.length = S.rows.length + sz := by rw [S1.wide_rows, List.length_append, List.length_replicate]
  have ht2 : (S1.wide (S.rows ++ List.replicate sz 0)).top = S.top := by rw [S1.wide_top, ht]
  have hAs : AsksA E (S1.wide (S.rows ++ List.replicate sz 0)) m l' r := { ha.wide _ with gl := by rw [ht2]; exact gl, rl := by rw [ht2]; exact rl, ll := by rw [ht2]; exact ll }
  obtain ⟨rb, rc, hrv, hrc, hrm, hrb, rcell, rfz⟩ := hr2.words (by rw [hrn]; omega)
  refine ⟨(World.cell?_of_block (w := w1) (a := ⟨E.B, 6, none⟩) hBW).trans hr.box.2.2.2.2.2.2.1, (World.frozen?_of_block (w := w1) (a := ⟨E.B, 6, none⟩) hBW).trans (hr.fz 6), rb, rc, _, fun W k hW => ?_, rcell (S.rows.length + x) (by rw [hrn]; omega), rfz _, fun k => ?_⟩
  · subst hW
    exact row_some (hr2.drewN k) hAs (i := S.kept.length) (by rw [ht2, S1.wide_find]; exact hf) (by rw [S1.wide_kept]; exact hw) (by rw [ht2]; exact hsz) hs0 (by rw [hrn]; omega) hrv hrc
  · exact (hr2.drewN k).poke hrv (S.rows.length + x) y
end Go.Proofs.YtdgpdmohfnealaaGreatDoor
/- An element is put into an array that the call has not set yet: the walk. -/
namespace Go.Proofs.YtdgpdmohfnealaaGreatDoor
open Go.RowKit

set_option maxRecDepth 100000 in
set_option maxHeartbeats 1000000 in
theorem put_walk {bs B c r rl sz x : Nat} {y : Int} {rm : List Value} {ra : Option Addr} {rcc : Nat} {w : World} {Q1 Q : World → Prop}
    (HS : Hid (∀ W k, W = w.drewN k → Calls Tryz.prog 57 #[ptr B, .int .i64 (r : Int)] W fun e w' => e = .returned (.int .i64 (sz : Int)) ∧ ∃ k, w' = W.drewN k))
    (HC : Hid (∀ W k, W = w.drewN k → Calls Tryz.prog 58 #[ptr B, .int .i64 (r : Int)] W fun e w' => e = .returned (.int .i64 (c : Int)) ∧ ∃ k, w' = W.drewN k))
    (HF : Hid (∀ W k, W = w.drewN k → Calls Tryz.prog 51 #[ptr B, .int .i64 (c : Int)] W fun e w' => e = .returned (.int .i64 0) ∧ ∃ k, w' = W.drewN k))
    (HT : Hid (∀ W k, W = w.drewN k → Calls Tryz.prog 31 #[ptr B, .int .i64 (c : Int), .int .u64 (rl : Int)] W fun e w' => e = .returned (.tuple #[]) ∧ Q1 w'))
    (b6 : w.cell? ⟨B, 6, none⟩ = some (.slice ra rl rcc)) (hx' : (x : Int) < sz) (hs0 : 0 < sz) (hsb : (sz : Int) ≤ 256) (hrb : (rl : Int) ≤ 1000000000)
    (H1 : Hid (∀ w1, Q1 w1 → w1.cell? ⟨B, 6, none⟩ = some (.slice ra rl rcc) ∧ w1.frozen? ⟨B, 6, none⟩ = false ∧ w1.ownsRow bs 24 1 (.slice ra rl rcc) rl rm ∧ bs ≤ w1.heap.size))
    (H2 : Hid (∀ w1 w2 rv', Q1 w1 → w2.ownsRow bs 24 1 rv' (rl + sz) (rm ++ List.replicate sz (.int .u64 0)) → w1.grownBy w2 (Value.slice ra rl rcc).ownBlock → (rv'.ownBlock = (Value.slice ra rl rcc).ownBlock ∨ rv'.ownBlock = some w1.heap.size) → w2.cell? ⟨B, 6, none⟩ = some (.slice ra rl rcc) ∧ w2.frozen? ⟨B, 6, none⟩ = false ∧ ∃ rb rc u, (∀ W k, W = (w2.setCell ⟨B, 6, none⟩ rv').drewN k → Calls Tryz.prog 39 #[ptr B, .int .i64 (r : Int)] W fun e w' => e = .returned (.slice (some ⟨rb, rl, none⟩) sz (rc - rl)) ∧ ∃ k, w' = W.drewN k) ∧ (w2.setCell ⟨B, 6, none⟩ rv').cell? ⟨rb, rl + x, none⟩ = some (wordV u) ∧ (w2.setCell ⟨B, 6, none⟩ rv').frozen? ⟨rb, rl + x, none⟩ = false ∧ ∀ k, Q (((w2.setCell ⟨B, 6, none⟩ rv').drewN k).setCell ⟨rb, rl + x, none⟩ (wordV y)))) :
    Calls Tryz.prog 38 #[ptr B, .int .i64 (r : Int), .int .u64 (x : Int), .int .u64 y] w fun e w' => e = .returned (.tuple #[]) ∧ Q w' := by
  obtain ⟨i0, hi0, hz0, hz1, hz2⟩ := info_parts infoW
  have hwr : IntKind.u64.wrap (rl : Int) = (rl : Int) := by rw [IntKind.wrap_u64]; omega
  go_enter Tryz.func38, Tryz.ntmps38
  go_wp2_with (first
    | (go_at_call 57; refine Calls.mono (HS.out _ 0 rfl) ?_; rintro e w1 ⟨rfl, kq, rfl⟩)
    | (go_at_call 58; refine Calls.mono (HC.out _ _ rfl) ?_; rintro e w1 ⟨rfl, kr, rfl⟩)
    | (go_at_call 51; refine Calls.mono (HF.out _ _ rfl) ?_; rintro e w1 ⟨rfl, ks, rfl⟩))
  go_region_with (first
    | (go_at_call 58; refine Calls.mono (HC.out _ _ rfl) ?_; rintro e w1 ⟨rfl, kt, rfl⟩)
    | (go_at_call 31; refine Calls.mono (HT.out _ _ rfl) ?_; rintro e w1 ⟨rfl, hq1⟩))
  all_goals (
    obtain ⟨c6, g6, ho, hbs⟩ := H1.out _ hq1
    have HO : Hid (w1.ownsRow bs 24 1 (.slice ra rl rcc) rl rm) := ho
    clear ho
    go_wp2_with (at_builtin; go_loud (refine wpList_append_zeros rfl _ _ 33 3 rfl bs 24 i0 (.int .u64 0) .i64 Tryz.underlying33 Tryz.underlying3 hi0 hz0 rfl rfl hz1 hz2 _ rl rm rfl HO.out sz rfl hs0 ?c1 hbs ?_))
    case c1 => omega
    intro v2 w2 ho2 hg2 hat2
    obtain ⟨d6, e6, rb, rc, u, HR0, cu, fu, HQ0⟩ := H2.out _ w2 v2 hq1 ho2 hg2 hat2
    obtain ⟨g2, cc2, rfl⟩ : ∃ g cc, v2 = .slice (some ⟨g, 0, none⟩) (rl + sz) cc := by
      rcases own_shape ho2 with ⟨_, h0⟩ | ⟨g, cc, hv, _⟩
      · omega
      · exact ⟨g, cc, hv⟩
    have HR : Hid (∀ W k, W = (w2.setCell ⟨B, 6, none⟩ (.slice (some ⟨g2, 0, none⟩) (rl + sz) cc2)).drewN k → Calls Tryz.prog 39 #[ptr B, .int .i64 (r : Int)] W fun e w' => e = .returned (.slice (some ⟨rb, rl, none⟩) sz (rc - rl)) ∧ ∃ k, w' = W.drewN k) := HR0
    have HQ : Hid (∀ k, Q (((w2.setCell ⟨B, 6, none⟩ (.slice (some ⟨g2, 0, none⟩) (rl + sz) cc2)).drewN k).setCell ⟨rb, rl + x, none⟩ (wordV y))) := HQ0
    clear HR0 HQ0 ho2 hg2 hat2
    generalize rc - rl = rcf at *
    go_wp2_with (go_at_call 39; refine Calls.mono (HR.out _ 0 rfl) ?_; rintro e w3 ⟨rfl, kv, rfl⟩)
    go_end0
    exact ⟨rfl, HQ.out _⟩)
end Go.Proofs.YtdgpdmohfnealaaGreatDoor
/- An element is put: all of it. -/
namespace Go.Proofs.YtdgpdmohfnealaaGreatDoor
open Go.RowKit

/-- Where the elements of an array of the last call lie. -/
def LiesAt (S : St) (c sz : Nat) : Prop := ∀ i, S.find c = i + 1 → ∃ f : Nat, (S.kept.getD i default).word = (f : Int) ∧ f + sz ≤ S.rows.length
theorem put_any {E : Env} {w : World} {V : Vals} {ss : List Slot} {S : St} (h : Rn E w V ss S) {m : Nat} {l : List Int} {r : Nat} (ha : AsksA E S m l r) {sz : Nat} (hsz : ((E.P.getD S.top.g default).arrs.getD r default).2 = (sz : Int)) (hs0 : 0 < sz) (hs1 : sz ≤ 256)
    (hat : LiesAt S ((E.P.getD S.top.g default).vars.length + r) sz) (hk : S.top.k ≤ S.kept.length) (hkl : S.kept.length ≤ 1000000000) (hrl : S.rows.length ≤ 1000000000) (x : Nat) (y : Int) :
    Calls Tryz.prog 38 #[ptr E.B, .int .i64 (r : Int), .int .u64 (x : Int), .int .u64 y] w fun e w' => e = .returned (.tuple #[]) ∧ ∃ kv' rv' ss', Rn E w' { V with kv := kv', rv := rv' } ss' (S.put (E.P.getD S.top.g default) r (x : Int) y) := by
  by_cases hx : x < sz
  · have hx' : ¬ ((E.P.getD S.top.g default).arrs.getD r default).2 ≤ (x : Int) := by rw [hsz]; omega
    by_cases h0 : S.find ((E.P.getD S.top.g default).vars.length + r) = 0
    · have hcl : (E.P.getD S.top.g default).vars.length + r < l.length := by rw [ha.ll]; have := ha.rl; unfold cellsOf; omega
      obtain ⟨f1, f2⟩ := find_set ha.hg hcl (S.rows.length : Int) h0 hk
      obtain ⟨e1, e2, e3, e4⟩ := S.set_top ((E.P.getD S.top.g default).vars.length + r) (S.rows.length : Int)
      have eP : S.put (E.P.getD S.top.g default) r (x : Int) y = (S.set ((E.P.getD S.top.g default).vars.length + r) (S.rows.length : Int)).wide ((S.rows ++ List.replicate sz 0).set (S.rows.length + x) y) := by
        unfold St.put St.room
        rw [if_neg hx', if_pos h0, hsz, Int.toNat_natCast]
        show ((S.set _ _).wide _).poke _ _ _ _ = _
        unfold St.poke
        rw [St.wide_find, f1, Nat.add_sub_cancel, St.wide_kept, f2, St.wide_rows]
        simp only [Int.toNat_natCast]
        rfl
      rw [eP]
      obtain ⟨c, hcd⟩ : ∃ c, c = (E.P.getD S.top.g default).vars.length + r := ⟨_, rfl⟩
      have hfc := f1
      rw [← hcd] at h0 hcl f1 f2 e1 e2 e3 e4 ⊢
      obtain ⟨l', ha', hl'⟩ := ha.toAsks.set hcl (S.rows.length : Int)
      obtain ⟨ra, rcc, hrs⟩ : ∃ ra rcc, V.rv = .slice ra S.rows.length rcc := by
        rcases own_shape (h.heap.own 4 _ h.s4) with ⟨hv, hn⟩ | ⟨g, cc, hv, _⟩
        · exact ⟨none, 0, by dsimp only at hv hn; rw [hv, hn]⟩
        · exact ⟨_, _, hv⟩
      refine put_walk (bs := E.w0.heap.size) (B := E.B) (c := c) (r := r) (rl := S.rows.length) (sz := sz) (x := x) (y := y) (rm := S.rows.map wordV) (ra := ra) (rcc := rcc) (w := w) (Q1 := fun w' => ∃ kv' ss', Rn E w' { V with kv := kv' } ss' (S.set c (S.rows.length : Int))) (Q := fun w' => ∃ kv' rv' ss', Rn E w' { V with kv := kv', rv := rv' } ss' ((S.set c (S.rows.length : Int)).wide ((S.rows ++ List.replicate sz 0).set (S.rows.length + x) y)))
        (fun W k hW => by subst hW; rw [← hsz]; exact size_any (h.drewN k) ha.hm ha.hmb ha.gl r ha.rl) (fun W k hW => by subst hW; rw [hcd]; exact cell_any (h.drewN k) ha.hm ha.hmb ha.gl r ha.rl) (fun W k hW => ?_) (fun W k hW => by subst hW; exact set_any (h.drewN k) ha.toAsks c hcl _ hkl) ?_ (by omega) hs0 (by omega) (by omega) (fun w1 hq => ?_) (fun w1 w2 rv' hq ho hg hat => ?_)
      · subst hW
        have := find_any (h.drewN k) ha.hm ha.hmb ha.hg c hcl (ha.nn _).1
        rw [h0] at this
        exact this
      · rw [← hrs]
        exact h.box.2.2.2.2.2.2.1
      · obtain ⟨kv', ss', hr⟩ := hq
        have h4 := hr.heap.own 4 _ hr.s4
        rw [e3] at h4
        rw [← hrs]
        exact ⟨hr.box.2.2.2.2.2.2.1, hr.fz 6, h4, hr.low.size⟩
      · obtain ⟨kv', ss', hr⟩ := hq
        rw [← hrs] at hg hat ⊢
        obtain ⟨p1, p2, rb, rc, u, p3, p4, p5, p6⟩ := put_after (y := y) ha' e1 e3 ha.gl ha.rl (by rw [hl']; exact ha.ll) (by rw [← hcd]; exact f1) (by rw [f2]) hsz hs0 hx hr ho hg hat
        exact ⟨p1, p2, rb, rc, u, p3, p4, p5, fun k => ⟨kv', rv', p6 k⟩⟩
    · obtain ⟨i, hi⟩ : ∃ i, S.find ((E.P.getD S.top.g default).vars.length + r) = i + 1 := ⟨_ - 1, (Nat.succ_pred_eq_of_ne_zero h0).symm⟩
      obtain ⟨f, hf, hfl⟩ := hat i hi
      have eP : S.put (E.P.getD S.top.g default) r (x : Int) y = { S with rows := S.rows.set (f + x) y } := by
        unfold St.put St.room
        rw [if_neg hx', if_neg h0]
        unfold St.poke
        rw [hi, Nat.add_sub_cancel, hf, Int.toNat_natCast, Int.toNat_natCast]
      rw [eP]
      exact (put_in h ha hsz hs0 hs1 hi hf hfl x hx y).mono fun e w' ⟨he, ss', hr⟩ => ⟨he, V.kv, V.rv, ss', hr⟩
  · have eP : S.put (E.P.getD S.top.g default) r (x : Int) y = S := by
      unfold St.put
      rw [if_pos (by rw [hsz]; omega)]
    rw [eP]
    exact (put_out h ha hsz hs1 x (by omega) y).mono fun e w' ⟨he, k, hk⟩ => ⟨he, V.kv, V.rv, ss, by rw [hk]; exact h.drewN k⟩
end Go.Proofs.YtdgpdmohfnealaaGreatDoor
/- A region that draws its order, whose first operations only read and whose other ones all wait for them: the first ones in the order of the text, then whatever order the rest allows. -/
namespace Go.Proofs.YtdgpdmohfnealaaGreatDoor
open Go.RowKit

theorem getD_f {l : Array Bool} {j : Nat} : l.getD j true = false ↔ l[j]? = some false := by
  rw [Array.getD_eq_getD_getElem?]
  cases l[j]? with
  | none => simp
  | some b => cases b <;> simp
theorem getD_t {l : Array Bool} {j : Nat} : l.getD j false = true ↔ l[j]? = some true := by
  rw [Array.getD_eq_getD_getElem?]
  cases l[j]? with
  | none => simp
  | some b => cases b <;> simp
def depB (md : Region.Mode) (ops : Array Oper) (k j : Nat) : Bool := match ops[k]? with
  | some o => o.after.any fun e => Region.binds md e && e.on == j
  | none => false
/-- The first m wait only for those ahead of them; none is guarded; each other one waits for one of its like, or for all of the first. -/
def preB (md : Region.Mode) (ops : Array Oper) (m : Nat) (l0 : Array Bool) : Bool :=
  ((List.range m).all fun j => match ops[j]? with
    | some o => o.guard.isNone && o.after.all (fun e => !Region.binds md e || decide (e.on < j))
    | none => false) &&
  ((List.range ops.size).all fun k => decide (k < m) || l0.getD k true ||
    ((List.range ops.size).any fun i => decide (m ≤ i) && depB md ops k i && !l0.getD i true) ||
    ((List.range m).all fun j => depB md ops k j || ((List.range m).any fun i => decide (j < i) && depB md ops i j)))
theorem depB_spec {md : Region.Mode} {ops : Array Oper} {k j : Nat} (h : depB md ops k j = true) : ∃ o, ops[k]? = some o ∧ ∃ e ∈ o.after, Region.binds md e = true ∧ e.on = j := by
  unfold depB at h
  split at h
  · rename_i o ho
    rw [Array.any_eq_true'] at h
    obtain ⟨e, he, h1⟩ := h
    simp at h1
    exact ⟨o, ho, e, he, h1.1, h1.2⟩
  · cases h
structure PInv (md : Region.Mode) (ops : Array Oper) (m : Nat) (l0 listed lp : Array Bool) : Prop where
  sz : listed.size = l0.size
  szP : lp.size = m
  lo : ∀ j, j < m → lp[j]? = listed[j]?
  hi : ∀ k, m ≤ k → listed[k]? = l0[k]?
  cl : ∀ j o, j < m → listed[j]? = some true → ops[j]? = some o → ∀ e ∈ o.after, Region.binds md e = true → listed[e.on]? = some true
structure Pre (md : Region.Mode) (ops pops : Array Oper) (m : Nat) (l0 : Array Bool) : Prop where
  ml : m ≤ ops.size
  pl : pops.size = m
  pe : ∀ j, j < m → pops[j]? = ops[j]?
  sz : l0.size = ops.size
  gd : ∀ j o, j < m → ops[j]? = some o → o.guard = none
  dn : ∀ j o, j < m → ops[j]? = some o → ∀ e ∈ o.after, Region.binds md e = true → e.on < j
  cv : ∀ k, m ≤ k → l0[k]? = some false → (∃ i, m ≤ i ∧ depB md ops k i = true ∧ l0[i]? = some false) ∨ (∀ j, j < m → depB md ops k j = true ∨ ∃ i, i < m ∧ j < i ∧ depB md ops i j = true)
theorem Pre.of {md : Region.Mode} {L : List Oper} {m : Nat} {l0 : Array Bool} (hm : m ≤ L.length) (hs : l0.size = L.length) (h : preB md L.toArray m l0 = true) : Pre md L.toArray (L.take m).toArray m l0 := by
  unfold preB at h
  rw [Bool.and_eq_true, List.all_eq_true, List.all_eq_true] at h
  obtain ⟨h1, h2⟩ := h
  have g1 : ∀ j o, j < m → L.toArray[j]? = some o → o.guard = none ∧ ∀ e ∈ o.after, Region.binds md e = true → e.on < j := by
    intro j o hj ho
    have := h1 j (by simpa using hj)
    rw [ho] at this
    simp only [Bool.and_eq_true, Option.isNone_iff_eq_none, Array.all_eq_true_iff_forall_mem, Bool.or_eq_true, Bool.not_eq_true', decide_eq_true_eq] at this
    refine ⟨this.1, fun e he hb => ?_⟩
    rcases this.2 e he with h3 | h3
    · rw [hb] at h3; cases h3
    · exact h3
  refine ⟨by simpa using hm, by simp; omega, fun j hj => by simp [hj], by simpa using hs, fun j o hj ho => (g1 j o hj ho).1, fun j o hj ho => (g1 j o hj ho).2, fun k hk hf => ?_⟩
  have hks : k < L.length := by
    have := (Array.getElem?_eq_some_iff.1 hf).1
    omega
  have := h2 k (by simpa using hks)
  simp only [Bool.or_eq_true, decide_eq_true_eq, List.any_eq_true, List.all_eq_true, List.mem_range, Bool.and_eq_true, Bool.not_eq_true'] at this
  rcases this with ((h3 | h3) | h3) | h3
  · omega
  · rw [getD_f.2 hf] at h3; cases h3
  · obtain ⟨i, hi, ⟨h4, h5⟩, h6⟩ := h3
    exact .inl ⟨i, h4, h5, getD_f.1 h6⟩
  · refine .inr fun j hj => ?_
    rcases h3 j hj with h4 | ⟨i, hi, h5, h6⟩
    · exact .inl h4
    · exact .inr ⟨i, hi, h5, h6⟩
theorem pre_ready {md : Region.Mode} {ops pops : Array Oper} {m : Nat} {l0 listed lp : Array Bool} (hp : Pre md ops pops m l0) (hv : PInv md ops m l0 listed lp) {j : Nat} (hj : j < m) (h : j ∈ Region.ready md ops listed) : j ∈ Region.ready md pops lp := by
  rw [mem_ready] at h ⊢
  obtain ⟨h0, o, ho, hall⟩ := h
  refine ⟨getD_f.2 (by rw [hv.lo j hj]; exact getD_f.1 h0), o, by rw [hp.pe j hj]; exact ho, fun e he hb => ?_⟩
  have hlt := hp.dn j o hj ho e he hb
  exact getD_t.2 (by rw [hv.lo _ (by omega)]; exact getD_t.1 (hall e he hb))
theorem pre_all {md : Region.Mode} {ops pops : Array Oper} {m : Nat} {l0 listed lp : Array Bool} (hp : Pre md ops pops m l0) (hv : PInv md ops m l0 listed lp) (h : Region.ready md pops lp = []) : ∀ j, j < m → listed[j]? = some true := by
  intro j
  induction j using Nat.strongRecOn with
  | _ j ih =>
    intro hj
    obtain ⟨o, ho⟩ : ∃ o, ops[j]? = some o := ⟨_, Array.getElem?_eq_getElem (by have := hp.ml; omega)⟩
    rcases hb : lp[j]? with _ | b
    · have := Array.getElem?_eq_none_iff.1 hb
      have := hv.szP
      omega
    · cases b with
      | true => rw [← hv.lo j hj]; exact hb
      | false =>
        have : j ∈ Region.ready md pops lp := mem_ready.2 ⟨getD_f.2 hb, o, by rw [hp.pe j hj]; exact ho, fun e he hbd => by
          have hlt := hp.dn j o hj ho e he hbd
          exact getD_t.2 (by rw [hv.lo _ (by omega)]; exact ih e.on hlt (by omega))⟩
        rw [h] at this
        cases this
theorem pre_late {md : Region.Mode} {ops pops : Array Oper} {m : Nat} {l0 listed lp : Array Bool} (hp : Pre md ops pops m l0) (hv : PInv md ops m l0 listed lp) {k : Nat} (hk : m ≤ k) (h : k ∈ Region.ready md ops listed) : ∀ j, j < m → listed[j]? = some true := by
  obtain ⟨h0, o, ho, hall⟩ := mem_ready.1 h
  have hk0 : l0[k]? = some false := by rw [← hv.hi k hk]; exact getD_f.1 h0
  have dep : ∀ i, depB md ops k i = true → listed[i]? = some true := fun i hi => by
    obtain ⟨o', ho', e, he, hb, hon⟩ := depB_spec hi
    rw [ho] at ho'
    cases ho'
    rw [← hon]
    exact getD_t.1 (hall e he hb)
  rcases hp.cv k hk hk0 with ⟨i, hi, hd, hf⟩ | hc
  · have := dep i hd
    rw [hv.hi i hi, hf] at this
    cases this
  · have go : ∀ d j, m - j = d → j < m → listed[j]? = some true := by
      intro d
      induction d using Nat.strongRecOn with
      | _ d ih =>
        intro j hd hj
        rcases hc j hj with h1 | ⟨i, hi, hij, h1⟩
        · exact dep j h1
        · have hi1 := ih (m - i) (by omega) i rfl hi
          obtain ⟨o', ho', e, he, hb, hon⟩ := depB_spec h1
          rw [← hon]
          exact hv.cl i o' hi hi1 ho' e he hb
    exact fun j hj => go _ j rfl hj
theorem PInv.add {md : Region.Mode} {ops : Array Oper} {m : Nat} {l0 listed lp : Array Bool} (hv : PInv md ops m l0 listed lp) {j : Nat} (hj : j < m) (h : j ∈ Region.ready md ops listed) : PInv md ops m l0 (listed.setIfInBounds j true) (lp.setIfInBounds j true) := by
  obtain ⟨h0, o, ho, hall⟩ := mem_ready.1 h
  have hlj : j < listed.size := (Array.getElem?_eq_some_iff.1 (getD_f.1 h0)).1
  have up : ∀ i, listed[i]? = some true → (listed.setIfInBounds j true)[i]? = some true := fun i hi => by
    rw [Array.getElem?_setIfInBounds]
    split
    · rename_i e; subst e; simp
    · exact hi
  refine ⟨by simpa using hv.sz, by simpa using hv.szP, fun i hi => ?_, fun k hk => ?_, fun i oi hi hl hoi e he hb => ?_⟩
  · rw [Array.getElem?_setIfInBounds, Array.getElem?_setIfInBounds]
    split
    · simp [hv.szP, hj]
    · exact hv.lo i hi
  · rw [Array.getElem?_setIfInBounds, if_neg (by omega)]
    exact hv.hi k hk
  · by_cases e1 : j = i
    · subst e1
      rw [ho] at hoi
      cases hoi
      exact up _ (getD_t.1 (hall e he hb))
    · rw [Array.getElem?_setIfInBounds, if_neg e1] at hl
      exact up _ (hv.cl i oi hi hl hoi e he hb)
theorem wpAny_more {P : Program} {md : Region.Mode} {ops : Array Oper} {Q : Exit → Act → World → Prop} : ∀ (n : Nat) (listed : Array Bool) (a : Act) (w : World), wpAny P md ops Q n listed a w → wpAny P md ops Q (n + 1) listed a w
  | 0, _, _, _, h => ⟨fun _ => h.2, fun i hi => by rw [h.1] at hi; cases hi⟩
  | n + 1, _, _, _, h => ⟨h.1, fun i hi => wpOp_mono (fun a w h' => wpAny_more n _ a w h') (h.2 i hi)⟩
theorem wpAny_moreN {P : Program} {md : Region.Mode} {ops : Array Oper} {Q : Exit → Act → World → Prop} {n : Nat} {listed : Array Bool} {a : Act} {w : World} (h : wpAny P md ops Q n listed a w) : ∀ k, wpAny P md ops Q (k + n) listed a w
  | 0 => by rw [Nat.zero_add]; exact h
  | k + 1 => by rw [Nat.add_right_comm]; exact wpAny_more _ _ _ _ (wpAny_moreN h k)
theorem pre_op {P : Program} {ops pops : Array Oper} {C : World → Prop} {i : Nat} {o : Oper} {a : Act} {w : World} {K : Act → Prop} {K' : Act → World → Prop} {Q : Exit → Act → World → Prop} (ho : ops[i]? = some o) (hp : pops[i]? = some o) (hg : o.guard = none) (hC : C w) (h : ∀ a w, C w → K a → K' a w) (hh : qOp P pops C i K a) : wpOp P ops Q i K' a w := by
  unfold qOp at hh
  unfold wpOp
  simp only [hp] at hh
  simp only [ho]
  have hw : ∀ y, Region.wanted o y = true := fun y => by simp [Region.wanted, hg]
  rw [if_pos (hw _)] at hh ⊢
  exact .inl (Oper.wp_of_quiet hC h hh)
theorem pre_main {P : Program} {md : Region.Mode} {ops pops : Array Oper} {m r : Nat} {l0 l1 : Array Bool} {C : World → Prop} {Q : Exit → Act → World → Prop} {Qm : Act → Prop} (hp : Pre md ops pops m l0) (hlo : ∀ j, j < m → l1[j]? = some true) (hhi : ∀ k, m ≤ k → l1[k]? = l0[k]?)
    (hF : ∀ a w, C w → Qm a → wpAny P md ops Q r l1 a w) : ∀ (n : Nat) (listed lp : Array Bool) (a : Act) (w : World), PInv md ops m l0 listed lp → C w → wpAnyQ P md pops C Qm n lp a → wpAny P md ops Q (n + r) listed a w := by
  have same : ∀ listed lp, PInv md ops m l0 listed lp → (∀ j, j < m → listed[j]? = some true) → listed = l1 := fun listed lp hv hall => by
    apply Array.ext_getElem?
    intro i
    by_cases hi : i < m
    · rw [hall i hi, hlo i hi]
    · rw [hv.hi i (by omega), hhi i (by omega)]
  intro n
  induction n with
  | zero =>
    intro listed lp a w hv hC h
    rw [same listed lp hv (pre_all hp hv h.1), Nat.zero_add]
    exact hF a w hC h.2
  | succ n ih =>
    intro listed lp a w hv hC h
    have done : (∀ j, j < m → listed[j]? = some true) → Region.ready md pops lp = [] := fun hall => by
      apply List.eq_nil_iff_forall_not_mem.2
      intro j hj
      obtain ⟨h0, o, ho, _⟩ := mem_ready.1 hj
      have hjm : j < m := by have := (Array.getElem?_eq_some_iff.1 ho).1; rw [hp.pl] at this; exact this
      have h1 := getD_f.1 h0
      rw [hv.lo j hjm, hall j hjm] at h1
      cases h1
    rw [show n + 1 + r = (n + r) + 1 by omega]
    refine ⟨fun h0 => ?_, fun i hi => ?_⟩
    · have hpr : Region.ready md pops lp = [] := by
        apply List.eq_nil_iff_forall_not_mem.2
        intro j hj
        obtain ⟨g0, o, ho, hall⟩ := mem_ready.1 hj
        have hjm : j < m := by have := (Array.getElem?_eq_some_iff.1 ho).1; rw [hp.pl] at this; exact this
        rw [hp.pe j hjm] at ho
        have : j ∈ Region.ready md ops listed := mem_ready.2 ⟨getD_f.2 (by rw [← hv.lo j hjm]; exact getD_f.1 g0), o, ho, fun e he hb => by
          have hlt := hp.dn j o hjm ho e he hb
          exact getD_t.2 (by rw [← hv.lo _ (by omega)]; exact getD_t.1 (hall e he hb))⟩
        rw [h0] at this
        cases this
      have e1 := same listed lp hv (pre_all hp hv hpr)
      have hf := hF a w hC (h.1 hpr)
      rw [← e1] at hf
      cases r with
      | zero => exact hf.2
      | succ r => exact hf.1 h0
    · by_cases him : i < m
      · have hr := pre_ready hp hv him hi
        obtain ⟨_, o, ho, _⟩ := mem_ready.1 hi
        exact pre_op ho (by rw [hp.pe i him]; exact ho) (hp.gd i o him ho) hC (fun a' w' hw' hk => ih _ _ a' w' (hv.add him hi) hw' hk) (h.2 i hr)
      · have hall := pre_late hp hv (by omega) hi
        have e1 := same listed lp hv hall
        have hf := wpAny_moreN (hF a w hC (h.1 (done hall))) (n + 1)
        rw [← e1, show n + 1 + r = (n + r) + 1 by omega] at hf
        exact hf.2 i hi
/-- All listed of the first m. -/
def listed1 (n m : Nat) : Array Bool := ((List.range n).map fun i => decide (i < m)).toArray
theorem listed1_at (n m i : Nat) : (listed1 n m)[i]? = if i < n then some (decide (i < m)) else none := by
  unfold listed1
  rw [List.getElem?_toArray, List.getElem?_map]
  by_cases h : i < n
  · rw [List.getElem?_range h, if_pos h]; rfl
  · rw [List.getElem?_eq_none (by simpa using Nat.le_of_not_lt h), if_neg h]; rfl
theorem wp_region_pre {P : Program} {id : Nat} {Q : Exit → Act → World → Prop} {a : Act} {w : World} {L : List Oper} (m : Nat) (hm : P.follows .mixedOrders = true) (hB : Region.lexB .any (L.take m).toArray = true) (hml : decide (m ≤ L.length) = true) (hp : preB .any L.toArray m (Array.replicate L.length false) = true)
    (h : wpQuiet P (L.take m).toArray (fun w' => ∃ n, w' = w.drewN n) (fun a' => ∀ w', (∃ n, w' = w.drewN n) → wpAny P .any L.toArray Q (L.length - m) (listed1 L.length m) a' w') (L.take m) a) : (Code.region id L.toArray true).wp P Q a w := by
  have hml' : m ≤ L.length := by simpa using hml
  refine wp_region_any hm ?_
  have hpre := Pre.of (md := .any) hml' (by simp) hp
  simp only [Region.lexB, Bool.and_eq_true] at hB
  have hq := wpAnyQ_lex (C := fun w' => ∃ n, w' = w.drewN n) (md := .any) hB.1 (L.take m) 0 (Array.replicate m false) a (by simp) (by simpa [Nat.min_eq_left hml'] using hB.2) h
  have hl : (L.take m).length = m := by rw [List.length_take]; omega
  rw [hl] at hq
  have := pre_main (P := P) (r := L.length - m) (C := fun w' => ∃ n, w' = w.drewN n) (Q := Q) (l1 := listed1 L.length m) (l0 := Array.replicate L.length false) hpre (fun j hj => by rw [listed1_at, if_pos (by omega), decide_eq_true hj]) (fun k hk => by
    rw [listed1_at, Array.getElem?_replicate, decide_eq_false (by omega)]) (fun a' w' hw' hqm => hqm w' hw') m (Array.replicate L.length false) (Array.replicate m false) a { w with drawn := w.drawn + 1 } ⟨by simp, by simp, fun j hj => by simp [Array.getElem?_replicate, hj]; omega, fun k hk => rfl, fun j o hj hl => by simp [Array.getElem?_replicate] at hl⟩ ⟨1, rfl⟩ hq
  rw [show m + (L.length - m) = L.toArray.size by simp; omega] at this
  simpa using this
/-- All but the last one only read. -/
theorem wp_region_last {P : Program} {id : Nat} {Q : Exit → Act → World → Prop} {a : Act} {w : World} {L : List Oper} (m : Nat) (o : Oper) (ho : L.toArray[m]? = some o) (hg : o.guard = none) (hm : P.follows .mixedOrders = true) (hB : Region.lexB .any (L.take m).toArray = true) (hml : decide (L.length = m + 1) = true) (hp : preB .any L.toArray m (Array.replicate L.length false) = true) (hr : Region.ready .any L.toArray (listed1 L.length m) = [m]) (hr2 : Region.ready .any L.toArray ((listed1 L.length m).setIfInBounds m true) = [])
    (h : wpQuiet P (L.take m).toArray (fun w' => ∃ n, w' = w.drewN n) (fun a' => ∀ w', (∃ n, w' = w.drewN n) → ∀ K : Act → World → Prop, (∀ a w, Q .normal a w → K a w) → o.wp P a' w' K Q) (L.take m) a) : (Code.region id L.toArray true).wp P Q a w := by
  have hml' : L.length = m + 1 := by simpa using hml
  refine wp_region_pre m hm hB (by simp; omega) hp ?_
  have e : L.length - m = 1 := by omega
  have hF : ∀ (a' : Act), (∀ w', (∃ n, w' = w.drewN n) → ∀ K : Act → World → Prop, (∀ a w, Q .normal a w → K a w) → o.wp P a' w' K Q) → ∀ w', (∃ n, w' = w.drewN n) → wpAny P .any L.toArray Q (L.length - m) (listed1 L.length m) a' w' := fun a' ha w' hw => by
    rw [e]
    refine ⟨fun h0 => (by rw [hr] at h0; cases h0), fun i hi => ?_⟩
    rw [hr] at hi
    have : i = m := by simpa using hi
    subst this
    unfold wpOp
    simp only [ho]
    rw [if_pos (by simp [Region.wanted, hg])]
    exact .inl (ha w' hw _ fun a w hq => ⟨hr2, hq⟩)
  have mono : ∀ (l : List Oper) (a : Act) (Q1 Q2 : Act → Prop), (∀ a, Q1 a → Q2 a) → wpQuiet P (L.take m).toArray (fun w' => ∃ n, w' = w.drewN n) Q1 l a → wpQuiet P (L.take m).toArray (fun w' => ∃ n, w' = w.drewN n) Q2 l a := by
    intro l
    induction l with
    | nil => intro a Q1 Q2 h12 h; exact h12 _ h
    | cons o l ih =>
      intro a Q1 Q2 h12 h
      unfold wpQuiet at h ⊢
      split
      · rename_i hw
        rw [if_pos hw] at h
        exact Oper.quiet_mono (fun a h => ih a Q1 Q2 h12 h) h
      · rename_i hw
        rw [if_neg hw] at h
        exact ih _ Q1 Q2 h12 h
  exact mono _ _ _ _ hF h
end Go.Proofs.YtdgpdmohfnealaaGreatDoor
