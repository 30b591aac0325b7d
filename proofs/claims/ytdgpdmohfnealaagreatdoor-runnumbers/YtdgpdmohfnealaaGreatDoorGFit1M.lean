/- A run ends, and shows no more than its steps let it. -/
import Derived.Test.YtdgpdmohfnealaaGreatDoorUMoreM
import Derived.Test.YtdgpdmohfnealaaGreatDoorGLaidM
namespace Go.Proofs.YtdgpdmohfnealaaGreatDoor

/-- Instructions that the calls have still to do. -/
def remF (P : List Gr) (fs : List Fr) : Nat := (fs.map fun f => (insOf P f).length - f.nx).sum
/-- No block of a program has more than K instructions. -/
def most (P : List Gr) (K : Nat) : Prop := ∀ g t, (((P.getD g default).blocks.getD t default).ins).length ≤ K
theorem remF_cons (P : List Gr) (f : Fr) (fs : List Fr) : remF P (f :: fs) = ((insOf P f).length - f.nx) + remF P fs := by simp [remF]
def leftM (P : List Gr) (K lim : Nat) (H : HS) : Nat := (lim - H.steps) * (K + 2) + remF P H.frs + H.frs.length
theorem mul_step {lim s K : Nat} (h : s < lim) : (lim - (s + 1)) * (K + 2) + (K + 2) = (lim - s) * (K + 2) := by
  have : lim - s = (lim - (s + 1)) + 1 := by omega
  rw [this, Nat.add_mul, Nat.one_mul]
theorem setE_at (f : Fr) (v : Nat) (x : Int) : (f.setE v x).g = f.g ∧ (f.setE v x).b = f.b ∧ (f.setE v x).nx = f.nx := ⟨rfl, rfl, rfl⟩
theorem doI_at (G : Gr) (f : Fr) (x : In) : (f.doI G x).g = f.g ∧ (f.doI G x).b = f.b ∧ (f.doI G x).nx = f.nx := by
  unfold Fr.doI
  repeat' split
  all_goals first
    | exact ⟨rfl, rfl, rfl⟩
    | (unfold Fr.put; split <;> exact ⟨rfl, rfl, rfl⟩)
theorem insOf_at {P : List Gr} {f f' : Fr} (h1 : f'.g = f.g) (h2 : f'.b = f.b) : insOf P f' = insOf P f := by unfold insOf grOf; rw [h1, h2]
theorem begin_on {P : List Gr} {lim dep : Nat} {H : HS} {g : Nat} {ws : List Int} (h : (H.begin P lim dep g ws).2 = true) :
    H.frs.length < dep ∧ H.steps < lim ∧ (H.begin P lim dep g ws).1 = { H with frs := (Fr.new g).sets (argPairs (P.getD g default) ws) :: H.frs, deep := max H.deep (H.frs.length + 1), steps := H.steps + 1 } := by
  unfold HS.begin at h ⊢
  by_cases h1 : dep ≤ H.frs.length
  · rw [if_pos h1] at h; cases h
  · rw [if_neg h1] at h ⊢
    unfold HS.step at h ⊢
    by_cases h2 : lim ≤ H.steps
    · rw [if_pos h2] at h; cases h
    · rw [if_neg h2]; exact ⟨by omega, by omega, rfl⟩
theorem enter_on {P : List Gr} {lim : Nat} {H : HS} {f : Fr} {fs : List Fr} {t : Nat} (h : (H.enter P lim f fs t).2 = true) : H.steps < lim ∧ (H.enter P lim f fs t).1 = { H with steps := H.steps + 1, frs := f.into P t :: fs } := by
  unfold HS.enter at h ⊢
  by_cases h2 : lim ≤ H.steps
  · rw [if_pos h2] at h; cases h
  · rw [if_neg h2]; exact ⟨by omega, rfl⟩
theorem rem_le {P : List Gr} {K : Nat} (hK : most P K) (f : Fr) : (insOf P f).length - f.nx ≤ K := by
  have := hK f.g f.b
  unfold insOf grOf
  omega
/-- What is left grows less with each step; what is shown and what is left to do stays within the steps. -/
theorem next_on {P : List Gr} {K lim dep : Nat} (hK : most P K) {H : HS} (h : (H.next P lim dep).2 = true) :
    leftM P K lim (H.next P lim dep).1 < leftM P K lim H ∧ (H.next P lim dep).1.shows.length + remF P (H.next P lim dep).1.frs + H.steps * K ≤ H.shows.length + remF P H.frs + (H.next P lim dep).1.steps * K := by
  have ent : ∀ (f : Fr) (fs : List Fr) (t : Nat), H.frs = f :: fs → ¬ f.nx < (insOf P f).length → (H.enter P lim f fs t).2 = true → leftM P K lim (H.enter P lim f fs t).1 < leftM P K lim H ∧ (H.enter P lim f fs t).1.shows.length + remF P (H.enter P lim f fs t).1.frs + H.steps * K ≤ H.shows.length + remF P H.frs + (H.enter P lim f fs t).1.steps * K := fun f fs t e hn ht => by
    obtain ⟨h1, h2⟩ := enter_on ht
    rw [h2]
    have hr := rem_le hK (f.into P t)
    have hm := mul_step (K := K) h1
    unfold leftM
    rw [e]
    dsimp only
    rw [remF_cons, remF_cons, List.length_cons, List.length_cons, Nat.add_mul]
    constructor <;> omega
  unfold HS.next at h ⊢
  split at h
  · cases h
  · rename_i f fs e
    rw [e]
    dsimp only
    by_cases h1 : f.nx < (insOf P f).length
    · rw [if_pos h1] at h ⊢
      by_cases h2 : ((insOf P f).getD f.nx default).kind = 9
      · rw [if_pos h2] at h ⊢
        obtain ⟨h3, h4, h5⟩ := begin_on h
        rw [h5]
        have hr := rem_le hK ((Fr.new ((insOf P f).getD f.nx default).ref.toNat).sets (argPairs (P.getD ((insOf P f).getD f.nx default).ref.toNat default) (((insOf P f).getD f.nx default).args.map fun v => f.ev v.toNat)))
        have hm := mul_step (K := K) h4
        unfold leftM
        rw [e]
        dsimp only at hm ⊢
        rw [remF_cons, remF_cons, remF_cons, List.length_cons, List.length_cons, List.length_cons, Nat.add_mul H.steps 1 K]
        rw [insOf_at (f := f) (f' := { f with nx := f.nx + 1 }) rfl rfl]
        dsimp only
        constructor <;> omega
      · rw [if_neg h2] at h ⊢
        obtain ⟨q1, q2, q3⟩ := doI_at (grOf P f) f ((insOf P f).getD f.nx default)
        unfold leftM
        rw [e]
        dsimp only
        rw [remF_cons, remF_cons, List.length_cons, List.length_cons, insOf_at (f := f) (f' := { f.doI (grOf P f) ((insOf P f).getD f.nx default) with nx := f.nx + 1 }) q1 q2, List.length_append]
        have hs : (showI (grOf P f) f ((insOf P f).getD f.nx default)).length ≤ 1 := by unfold showI; split <;> simp
        dsimp only
        constructor <;> omega
    · rw [if_neg h1] at h ⊢
      unfold HS.endT at h ⊢
      by_cases k1 : (tmOf P f).kind = 1
      · rw [if_pos k1] at h ⊢
        have := ent f fs _ e h1 h
        rw [e] at this
        exact this
      · rw [if_neg k1] at h ⊢
        by_cases k2 : (tmOf P f).kind = 2
        · rw [if_pos k2] at h ⊢
          have := ent f fs _ e h1 h
          rw [e] at this
          exact this
        · rw [if_neg k2] at h ⊢
          by_cases k3 : (tmOf P f).kind = 3
          · rw [if_pos k3] at h ⊢
            unfold HS.tell at h ⊢
            split at h
            · cases h
            · rename_i f2 fs2
              unfold leftM
              rw [e]
              dsimp only
              obtain ⟨q1, q2, q3⟩ := setE_at f2 ((insOf P f2).getD (f2.nx - 1) default).dst.toNat (f.ev (tmOf P f).arg.toNat)
              rw [remF_cons, remF_cons, remF_cons, List.length_cons, List.length_cons, List.length_cons, insOf_at q1 q2, q3]
              constructor <;> omega
          · rw [if_neg k3] at h
            cases h
theorem iter_ends {P : List Gr} {K lim dep : Nat} (hK : most P K) : ∀ (n : Nat) (s : HS × Bool), leftM P K lim s.1 < n → (HS.iter P lim dep n s).2 = false
  | 0, s, h => by omega
  | n + 1, s, h => by
    unfold HS.iter
    by_cases hs : s.2 = true
    · rw [if_pos hs]
      by_cases h2 : (s.1.next P lim dep).2 = true
      · have := (next_on hK h2).1
        exact iter_ends hK n _ (by omega)
      · rw [HS.iter_stop (by simpa using h2)]
        simpa using h2
    · rw [if_neg hs]; simpa using hs
theorem iter_shows {P : List Gr} {K lim dep : Nat} (hK : most P K) : ∀ (n : Nat) (s : HS × Bool), s.1.shows.length + remF P s.1.frs ≤ s.1.steps * K → (HS.iter P lim dep n s).2 = true → (HS.iter P lim dep n s).1.shows.length + remF P (HS.iter P lim dep n s).1.frs ≤ (HS.iter P lim dep n s).1.steps * K
  | 0, s, h, _ => h
  | n + 1, s, h, ht => by
    unfold HS.iter at ht ⊢
    by_cases hs : s.2 = true
    · rw [if_pos hs] at ht ⊢
      by_cases h2 : (s.1.next P lim dep).2 = true
      · have := (next_on hK h2).2
        exact iter_shows hK n _ (by omega) ht
      · rw [HS.iter_stop (by simpa using h2)] at ht
        exact (h2 ht).elim
    · rw [if_neg hs] at ht
      exact (hs ht).elim
theorem first_shows {P : List Gr} {K lim dep g : Nat} {ws : List Int} (hK : most P K) (n : Nat) (ht : (HS.iter P lim dep n (HS.first P lim dep g ws)).2 = true) : (HS.iter P lim dep n (HS.first P lim dep g ws)).1.shows.length ≤ (HS.iter P lim dep n (HS.first P lim dep g ws)).1.steps * K := by
  have hf : (HS.first P lim dep g ws).2 = true := by
    cases hq : (HS.first P lim dep g ws).2 with
    | true => rfl
    | false => rw [HS.iter_stop hq, hq] at ht; cases ht
  obtain ⟨h1, h2, h3⟩ := begin_on hf
  have := iter_shows (K := K) hK n (HS.first P lim dep g ws) (by
    unfold HS.first at *
    rw [h3]
    dsimp only
    rw [remF_cons]
    have := rem_le hK ((Fr.new g).sets (argPairs (P.getD g default) ws))
    have e : remF P HS.zero.frs = 0 := rfl
    have e2 : HS.zero.shows.length = 0 := rfl
    have e3 : HS.zero.steps = 0 := rfl
    rw [e, e2, e3]
    omega) ht
  omega
end Go.Proofs.YtdgpdmohfnealaaGreatDoor
/- Types of an instruction: phis and copies; operations. -/
namespace Go.Proofs.YtdgpdmohfnealaaGreatDoor
open Go.RowKit

theorem quiet_add {P : Program} {f : FuncId} {args : Array Value} {w : World} {a x : Nat} {v : Value} (h : Calls P f args (w.drewN (a + x)) fun e w' => e = .returned v ∧ w' = w.drewN (a + x)) : Calls P f args (w.drewN (a + x)) fun e w'' => e = .returned v ∧ ∃ n, w'' = w.drewN (a + n) :=
  h.mono fun _ _ ⟨he, hm⟩ => ⟨he, x, hm⟩
def varT (vars : List Int) (v : Int) : Int := vars.getD v.toNat 0
theorem TysAt.var {w : World} {a : Option Addr} {n c : Nat} {l : List Int} (h : TysAt w (.slice a n c) l) {v : Int} (hv : inB v l.length = true) : ∃ g o, ∃ k : Nat, a = some ⟨g, o, none⟩ ∧ v = (k : Int) ∧ (k : Int) < (l.length : Int) ∧ g < w.heap.size ∧ w.cell? ⟨g, o + k, none⟩ = some (.int .u8 (varT l v)) := by
  obtain ⟨k, hk⟩ : ∃ k : Nat, v = (k : Int) := Int.eq_ofNat_of_zero_le (inB_iff.1 hv).1
  have hlt : k < l.length := by have := (inB_iff.1 hv).2; omega
  obtain ⟨g, o, ha, hg, hc⟩ := h.get hlt
  refine ⟨g, o, k, ha, hk, by omega, hg, ?_⟩
  rw [hc, hk, varT, Int.toNat_natCast]
def alikeB (vars : List Int) (x : In) : Bool := x.args.all (fun v => varT vars v == varT vars x.dst) && typedB (varT vars x.dst)
structure Duo (B : Nat) (g t : List Value) (w : World) : Prop where
  g : Box w B g
  t : Box w (B + 1) t
theorem Duo.below {B : Nat} {g t : List Value} {w w' : World} (h : Duo B g t w) (hb : Below w.heap.size w w') : Duo B g t w' := ⟨h.g.below hb, h.t.below hb⟩
theorem Duo.new (w : World) (g t : List Value) (tg tt : TypeId) : Duo w.heap.size g t ((w.alloc (.cells g.toArray tg)).alloc (.cells t.toArray tt)) := by
  have al : ∀ (W : World) (o : Obj), Below W.heap.size W (W.alloc o) := fun W o => below_alloc (Below.refl _ _) o
  have b0 := Box.new w g tg
  have b1 := Box.new (w.alloc (.cells g.toArray tg)) t tt
  rw [show (w.alloc (.cells g.toArray tg)).heap.size = w.heap.size + 1 by simp] at b1
  exact ⟨b0.below (al _ _), b1⟩
set_option maxRecDepth 100000 in
set_option maxHeartbeats 1000000 in
theorem alike_any (G : Gr) (pv vv av bv : Value) (x : In) (xv : Value) (w : World) (h : GrAt w pv vv av bv G) (hA : IntsAt w xv x.args) (hd : inB x.dst G.vars.length = true) (hal : x.args.all (inB · G.vars.length) = true) :
    Calls Tryz.prog 77 #[.agg #[.string G.name, pv, .int .u8 G.result, vv, av, bv], inV x xv] w fun e w' => e = .returned (.bool (alikeB G.vars x)) ∧ Below w.heap.size w w' := by
  obtain ⟨pa, pc, va, vc, aa, ac, ba, bc, rfl, rfl, rfl, rfl, _, hvl, _, _⟩ := h.openF
  obtain ⟨xa, xc, rfl, hxl⟩ := hA.form
  obtain ⟨kind, op, dst, args, bits, ref⟩ := x
  obtain ⟨nm, ps, r, vs, ars, bs⟩ := G
  dsimp only at *
  have HV := h.vs
  dsimp only at HV
  obtain ⟨g, o, k, rfl, rfl, hkn, hg, cd⟩ := HV.var hd
  have HVA : Hid (∀ v, inB v vs.length = true → ∃ k : Nat, v = (k : Int) ∧ (k : Int) < vs.length ∧ w.cell? ⟨g, o + k, none⟩ = some (.int .u8 (varT vs v))) := fun v hv => by
    obtain ⟨g', o', k', e1, e2, e3, _, e5⟩ := HV.var hv
    cases e1
    exact ⟨k', e2, e3, e5⟩
  have HAA : Hid (∀ i, i < args.length → _) := fun i hi => hA.get (i := i) hi
  have HAL : Hid (∀ i, i < args.length → inB (args.getD i 0) vs.length = true) := fun i hi => by
    have := List.all_eq_true.1 hal (args.getD i 0) (by rw [List.getD, List.getElem?_eq_getElem hi]; exact List.getElem_mem hi)
    exact this
  have HT : Hid (∀ t W, _) := fun t W => isType_any t W
  unfold alikeB
  dsimp only
  generalize varT vs (k : Int) = td at *
  obtain ⟨R, hR⟩ : ∃ R, R = (args.all (fun v => varT vs v == td) && typedB td) := ⟨_, rfl⟩
  rw [← hR]
  have HR : Hid (R = ((args.drop 0).all (fun v => varT vs v == td) && typedB td)) := hR
  have H0 : Hid (Below w.heap.size w ((w.alloc (.cells #[.string nm, .slice pa ps.length pc, .int .u8 r, .slice (some ⟨g, o, none⟩) vs.length vc, .slice aa ars.length ac, .slice ba bs.length bc] 40)).alloc (.cells #[.int .u8 kind, .int .u8 op, .int .i64 (k : Int), .slice xa args.length xc, .int .u64 bits, .int .i64 ref] 52)) ∧ Duo w.heap.size [.string nm, .slice pa ps.length pc, .int .u8 r, .slice (some ⟨g, o, none⟩) vs.length vc, .slice aa ars.length ac, .slice ba bs.length bc] [.int .u8 kind, .int .u8 op, .int .i64 (k : Int), .slice xa args.length xc, .int .u64 bits, .int .i64 ref] ((w.alloc (.cells #[.string nm, .slice pa ps.length pc, .int .u8 r, .slice (some ⟨g, o, none⟩) vs.length vc, .slice aa ars.length ac, .slice ba bs.length bc] 40)).alloc (.cells #[.int .u8 kind, .int .u8 op, .int .i64 (k : Int), .slice xa args.length xc, .int .u64 bits, .int .i64 ref] 52))) := ⟨below_alloc (below_alloc (Below.refl _ _) _) _, Duo.new w [.string nm, .slice pa ps.length pc, .int .u8 r, .slice (some ⟨g, o, none⟩) vs.length vc, .slice aa ars.length ac, .slice ba bs.length bc] [.int .u8 kind, .int .u8 op, .int .i64 (k : Int), .slice xa args.length xc, .int .u64 bits, .int .i64 ref] 40 52⟩
  clear hR h hA HV hal hd
  go_enter Tryz.func77, Tryz.ntmps77
  go_wp2
  go_loopw [17] (fun vi wr => ∃ i : Nat, vi = .int .i64 i ∧ i ≤ args.length ∧ Hid (R = ((args.drop i).all (fun v => varT vs v == td) && typedB td) ∧ Below w.heap.size w wr ∧ Duo w.heap.size [.string nm, .slice pa ps.length pc, .int .u8 r, .slice (some ⟨g, o, none⟩) vs.length vc, .slice aa ars.length ac, .slice ba bs.length bc] [.int .u8 kind, .int .u8 op, .int .i64 (k : Int), .slice xa args.length xc, .int .u64 bits, .int .i64 ref] wr)) (fun vi _ => args.length - (intOf vi).toNat)
  case atStart => exact ⟨0, rfl, by omega, HR.out, H0.out.1, H0.out.2⟩
  case round =>
    obtain ⟨i, rfl, hi, hr⟩ := hrel
    clear HR H0
    obtain ⟨e0, e1, e2, e3, e4, e5⟩ := box6 hr.out.2.2.g
    obtain ⟨x0, x1, x2, x3, x4, x5⟩ := box6 hr.out.2.2.t
    by_cases hin : i < args.length
    · obtain ⟨ga, oa, rfl, hga, ca⟩ := HAA.out i hin
      have hin' : (i : Int) < args.length := by omega
      obtain ⟨ka, hka, hkan, cva⟩ := HVA.out _ (HAL.out i hin)
      have hd : R = ((varT vs (args.getD i 0) == td) && (args.drop (i + 1)).all (fun v => varT vs v == td) && typedB td) := by rw [hr.out.1, all_drop (d := 0) hin]
      rw [hka] at ca cva hd
      have ca' := (hr.out.2.1.cell (p := ⟨ga, oa + i, none⟩) hga).trans ca
      have cva' := (hr.out.2.1.cell (p := ⟨g, o + ka, none⟩) hg).trans cva
      generalize varT vs (ka : Int) = ta at *
      clear ca cva hka HVA HAL HAA
      by_cases hne : ta = td
      · subst hne
        simp only [BEq.rfl, Bool.true_and] at hd
        have HD : Hid _ := hd
        clear hd
        go_wp2
        go_roundw
        case rel => exact ⟨i + 1, by first | rfl | (congr 1; omega), by omega, HD.out, hr.out.2⟩
        case measure => simp [intOf]; omega
      · have hf : (ta == td) = false := beq_false_of_ne hne
        have hf2 : (ta != td) = true := by simp [hne]
        rw [hf] at hd
        simp only [Bool.false_and] at hd
        have HD : Hid _ := hd
        clear hd
        go_wp2
        go_ret
        exact ⟨ret_bool HD.out.symm, hr.out.2.1⟩
    · obtain rfl : i = args.length := by omega
      have hd : R = typedB td := by rw [hr.out.1, List.drop_length]; simp
      have HD : Hid _ := hd
      have HTJ : Hid _ := HT.out td
      clear hd HVA HAL HAA
      go_wp2_with (go_at_call 42; refine Calls.mono (HTJ.out _) ?_; rintro e wx ⟨rfl, hwx⟩; subst wx)
      go_ret
      exact ⟨ret_bool HD.out.symm, hr.out.2.1⟩
end Go.Proofs.YtdgpdmohfnealaaGreatDoor
