/- What phis ask at the ends of the blocks ahead. -/
import Derived.Test.YtcggbedjhglmmaaGreatDoorLAskM
import Derived.Test.YtcggbedjhglmmaaGreatDoorLPlainM
namespace Go.Proofs.YtcggbedjhglmmaaGreatDoor
open Go.RowKit

theorem zip_drop {l ah : List Int} {k : Nat} (h : k < l.length) (hl : l.length = ah.length) (s : List Sp) : ((l.zip ah).drop k).foldl handOne s = ((l.zip ah).drop (k + 1)).foldl handOne (handOne s (l.getD k 0, ah.getD k 0)) := by
  have hz : k < (l.zip ah).length := by rw [List.length_zip]; omega
  rw [List.drop_eq_getElem_cons hz, List.foldl_cons, List.getElem_zip]
  congr 3
  · simp [List.getElem?_eq_getElem h]
  · simp [List.getElem?_eq_getElem (show k < ah.length by omega)]
set_option maxRecDepth 100000 in
set_option maxHeartbeats 4000000 in
theorem hand_any {w0 w : World} {G m : Nat} {ss : List Slot} {ts : List V3} {all : List Sp} (h : Sts w0 w G m ss ts all) {n L : Nat} (hok : StOk n L all) (hm : m ≤ 1000000) {l ah : List Int} {av hv : Value}
    (hA : ∀ W, Below w0.heap.size w0 W → IntsAt W av l) (hH : ∀ W, Below w0.heap.size w0 W → IntsAt W hv ah) (hll : l.length = ah.length) (hl : ∀ a ∈ l, 0 ≤ a ∧ a.toNat / 64 < m) (hah : ∀ a ∈ ah, 0 ≤ a ∧ a < (n : Int)) (hL : L + l.length ≤ 5000000) :
    Calls Tryz.prog 35 #[.slice (some ⟨G, 0, none⟩) m m, hv, av] w fun e w' => e = .returned (.tuple #[]) ∧ ∃ ss' ts', Sts w0 w' G m ss' ts' (handAll all ah l) ∧ Kq m ss ss' := by
  have HA : Hid (∀ W, Below w0.heap.size w0 W → IntsAt W av l) := hA
  have HH : Hid (∀ W, Below w0.heap.size w0 W → IntsAt W hv ah) := hH
  have HS : Hid _ := h
  obtain ⟨aa, ac, rfl, _⟩ := (hA w h.low).form
  obtain ⟨ba, bc, rfl, _⟩ := (hH w h.low).form
  have HL : Hid ((∀ a ∈ l, 0 ≤ a ∧ a.toNat / 64 < m) ∧ ∀ a ∈ ah, 0 ≤ a ∧ a < (n : Int)) := ⟨hl, hah⟩
  have HK : Hid (StOk n L all) := hok
  obtain ⟨RES, hRES⟩ : ∃ RES, RES = handAll all ah l := ⟨_, rfl⟩
  rw [← hRES]
  have HR : Hid (((l.zip ah).drop 0).foldl handOne all = RES) := by show _ = _; rw [List.drop_zero, hRES]; rfl
  have HB : Hid (m ≤ 1000000 ∧ L + l.length ≤ 5000000) := ⟨hm, hL⟩
  have hlb : (l.length : Int) ≤ 5000000 := by omega
  have HZL : Hid (l.length = ah.length) := hll
  rw [← hll]
  clear h hA hH hl hah hok hRES hL hm hll
  generalize hll : l.length = ll at *
  have HLL : Hid (l.length = ll) := hll
  clear hll
  go_enter Tryz.func35, Tryz.ntmps35
  go_wp2
  go_loopw [12] (fun vk wr => ∃ (k : Nat) (ss1 : List Slot) (ts1 : List V3) (a1 : List Sp), vk = .int .i64 k ∧ k ≤ ll ∧ Hid (Sts w0 wr G m ss1 ts1 a1 ∧ Kq m ss ss1 ∧ ((l.zip ah).drop k).foldl handOne a1 = RES ∧ StOk n (L + k) a1)) (fun vk _ => ll - (intOf vk).toNat)
  case atStart => exact ⟨0, ss, ts, all, rfl, by omega, HS.out, Kq.refl _ _, HR.out, HK.out⟩
  case round =>
    obtain ⟨k, ss1, ts1, a1, rfl, hk, hr⟩ := hrel
    clear HS HR HK
    by_cases hkn : k < ll
    · have hkn' : (k : Int) < ll := by omega
      have hkl : k < l.length := by rw [HLL.out]; exact hkn
      have hka : k < ah.length := by rw [← HZL.out]; exact hkn
      have hia := HA.out wr hr.out.1.low
      have hih := HH.out wr hr.out.1.low
      rw [← HLL.out] at hia
      rw [← HZL.out, ← HLL.out] at hih
      obtain ⟨ga, oa, rfl, hga, ca⟩ := hia.get hkl
      obtain ⟨gb, ob, rfl, hgb, cb⟩ := hih.get hka
      have hmem : l.getD k 0 ∈ l := by rw [List.getD, List.getElem?_eq_getElem hkl]; exact List.getElem_mem hkl
      have hmeh : ah.getD k 0 ∈ ah := by rw [List.getD, List.getElem?_eq_getElem hka]; exact List.getElem_mem hka
      have hst := zip_drop (ah := ah) hkl (HLL.out.trans HZL.out) a1
      rw [hr.out.2.2.1] at hst
      obtain ⟨u, hu⟩ : ∃ u : Nat, l.getD k 0 = (u : Int) := Int.eq_ofNat_of_zero_le (HL.out.1 _ hmem).1
      obtain ⟨i, hi⟩ : ∃ i : Nat, ah.getD k 0 = (i : Int) := Int.eq_ofNat_of_zero_le (HL.out.2 _ hmeh).1
      have hin : i < n := by have := (HL.out.2 _ hmeh).2; omega
      have hum : u / 64 < m := by have := (HL.out.1 _ hmem).2; rw [hu] at this; simpa using this
      rw [hu] at ca hst
      rw [hi] at cb hst
      have e1 : handOne a1 ((u : Int), (i : Int)) = addHand a1 i u := by unfold handOne; simp
      rw [e1] at hst
      have HST : Hid _ := hst
      obtain ⟨t, ht, hsx⟩ := hr.out.1.get hum
      have hrow := hr.out.1.row _ t _ ht hsx
      obtain ⟨c0, c1, c2, cf, hG⟩ := hr.out.1.cells ht
      have HOF : Hid _ := ofv_any G m m u wr hum (by have := HB.out.1; omega)
      have hoa := hr.out.1.heap.own _ _ hrow.2.2
      have hk2 := hr.out.2.2.2.h (u / 64)
      have hLk := HB.out.2
      have HLD : Hid (∀ q, Calls Tryz.prog 39 #[t.2.2, .int .i64 (i : Int), .int .u64 (bitW u : Nat)] (wr.drewN q) fun e w' => ∃ v', e = .returned v' ∧ MkRow w' w0.heap.size v' (laidM (strip a1 u).hands i (bitW u)) ∧ (wr.drewN q).grownBy w' t.2.2.ownBlock ∧ (∀ g, v'.ownBlock = some g → t.2.2.ownBlock = some g ∨ (wr.drewN q).heap.size ≤ g)) := fun q => laid_any (w := wr.drewN q) (base := w0.heap.size) (owns_same hoa fun _ _ => rfl) (by have := hk2.2; omega) hr.out.1.low.size i _ (bitW_lt u) hk2.1.w
      have HOK : Hid (StOk n (L + (k + 1)) (addHand a1 i u)) := hr.out.2.2.2.addHand hin u
      have HRR : Hid _ := hr.out.1
      have HKK : Hid _ := hr.out.2.1
      have HTT : Hid _ := ht
      obtain ⟨s1a, s1c, hv1⟩ : ∃ a c, t.2.2 = .slice a (strip a1 u).hands.length c := by
        rcases own_shape hoa with ⟨e, e0⟩ | ⟨g, c, e, _⟩
        · exact ⟨none, 0, by rw [show (strip a1 u).hands.length = 0 from e0]; exact e⟩
        · exact ⟨_, _, e⟩
      have cf1 := cf (u / 64 * 3 + 2)
      clear hr hmem hu hsx hrow hoa hk2 hia hih hst ht cf hmeh hi e1
      obtain ⟨t1, t2, t3⟩ := t
      dsimp only at *
      subst hv1
      have HUP : Hid (∀ q w3 v3, MkRow w3 w0.heap.size v3 (laidM (strip a1 u).hands i (bitW u)) → (wr.drewN q).grownBy w3 (Value.slice s1a (strip a1 u).hands.length s1c).ownBlock → (∀ g, v3.ownBlock = some g → (Value.slice s1a (strip a1 u).hands.length s1c).ownBlock = some g ∨ (wr.drewN q).heap.size ≤ g) → (∃ ta tc nn, v3 = .slice ta nn tc) ∧ (∃ x, w3.cell? ⟨G, u / 64 * 3 + 2, none⟩ = some x) ∧ w3.frozen? ⟨G, u / 64 * 3 + 2, none⟩ = false ∧ ∃ ss' ts', Sts w0 (w3.setCell ⟨G, u / 64 * 3 + 2, none⟩ v3) G m ss' ts' (addHand a1 i u) ∧ Kq m ss1 ss') := fun q w3 v3 h1 h2 h3 => by
        obtain ⟨⟨ss', ts', k1, k2⟩, k3, k4⟩ := (HRR.out.same (w' := wr.drewN q) rfl (below_drewN HRR.out.low q)).putHand (i := i) HTT.out h1 h2 h3
        refine ⟨?_, k3, k4, ss', ts', k1, k2⟩
        rcases own_shape h1 with ⟨e, e0⟩ | ⟨g, c, e, _⟩
        · exact ⟨_, _, _, e⟩
        · exact ⟨_, _, _, e⟩
      generalize u / 64 * 3 = uq at *
      generalize (strip a1 u).hands.length = al at *
      generalize bitW u = bw at *
      go_wp2_with (go_at_call 38; go_loud (refine Calls.mono (by exact HOF.out) ?_; rintro e w3 ⟨rfl, kq, hw3⟩; subst hw3))
      go_region_with (go_at_call 39; refine Calls.mono (HLD.out _) ?_; rintro e w3 ⟨v3, rfl, ho3, hg3, hat3⟩; obtain ⟨⟨ta, tc, nn, rfl⟩, ⟨xx, cx⟩, fx, hup⟩ := HUP.out _ _ _ ho3 hg3 hat3; have HU : Hid _ := hup; clear ho3 hg3 hat3 hup)
      all_goals (
        go_wp2
        go_roundw
        case rel =>
          obtain ⟨ss', ts', k1, k2⟩ := HU.out
          exact ⟨k + 1, ss', ts', addHand a1 i u, by first | rfl | (congr 1; omega), by omega, k1, Kq.trans HKK.out k2, HST.out.symm, HOK.out⟩
        case measure => simp [intOf]; omega)
    · obtain rfl : k = ll := by omega
      have HE : Hid (a1 = RES) := by
        show _ = _
        have := hr.out.2.2.1
        rw [List.drop_of_length_le (by rw [List.length_zip, HLL.out]; omega)] at this
        exact this
      go_wp2
      go_end0
      exact ⟨rfl, ss1, ts1, by rw [← HE.out]; exact hr.out.1, hr.out.2.1⟩
end Go.Proofs.YtcggbedjhglmmaaGreatDoor
/- Which instructions set, which ends ask. -/
namespace Go.Proofs.YtcggbedjhglmmaaGreatDoor
open Go.RowKit

set_option maxRecDepth 100000 in
theorem sets_any (x : In) (av : Value) (w : World) : Calls Tryz.prog 37 #[inV x av] w fun e w' => e = .returned (.bool (setsI x)) ∧ Below w.heap.size w w' := by
  obtain ⟨k, op, dst, args, bits, ref⟩ := x
  unfold inV setsI
  dsimp only
  have HB : Hid (∀ o, Below w.heap.size w (w.alloc o)) := fun o => below_alloc (Below.refl _ _) o
  by_cases h7 : k = 7
  · subst h7
    go_enter Tryz.func37, Tryz.ntmps37
    go_wp2
    go_ret
    exact ⟨rfl, HB.out _⟩
  by_cases h8 : k = 8
  · subst h8
    go_enter Tryz.func37, Tryz.ntmps37
    go_wp2
    go_ret
    exact ⟨rfl, HB.out _⟩
  by_cases h10 : k = 10
  · subst h10
    go_enter Tryz.func37, Tryz.ntmps37
    go_wp2
    go_ret
    exact ⟨rfl, HB.out _⟩
  have e7 : (k == 7) = false := beq_false_of_ne h7
  have e8 : (k == 8) = false := beq_false_of_ne h8
  have e10 : (k == 10) = false := beq_false_of_ne h10
  have HR : Hid ((k != 7 && k != 8 && k != 10) = true) := by show _ = _; simp [h7, h8, h10]
  rw [HR.out]
  clear HR h7 h8 h10
  go_enter Tryz.func37, Tryz.ntmps37
  go_wp2
  go_ret
  exact ⟨rfl, HB.out _⟩
set_option maxRecDepth 100000 in
theorem asks_any (t : Tm) (w : World) : Calls Tryz.prog 40 #[.agg #[.int .u8 t.kind, .int .i64 t.arg, .int .i64 t.t0, .int .i64 t.t1, .int .u8 t.trap]] w fun e w' => e = .returned (.bool (t.kind == 2 || t.kind == 3)) ∧ Below w.heap.size w w' := by
  obtain ⟨k, a, x, y, z⟩ := t
  dsimp only
  have HB : Hid (∀ o q, Below w.heap.size w ((w.alloc o).drewN q)) := fun o q => below_drewN (below_alloc (Below.refl _ _) o) q
  have HB0 : Hid (∀ o, Below w.heap.size w (w.alloc o)) := fun o => below_alloc (Below.refl _ _) o
  by_cases h2 : k = 2
  · subst h2
    go_enter Tryz.func40, Tryz.ntmps40
    go_wp2
    first | go_quiet (fail) | skip
    go_wp2
    go_ret
    exact ⟨rfl, by first | exact HB0.out _ | exact HB.out _ _⟩
  by_cases h3 : k = 3
  · subst h3
    go_enter Tryz.func40, Tryz.ntmps40
    go_wp2
    go_ret
    exact ⟨rfl, by first | exact HB0.out _ | exact HB.out _ _⟩
  have e2 : (k == 2) = false := beq_false_of_ne h2
  have e3 : (k == 3) = false := beq_false_of_ne h3
  rw [e2, e3]
  go_enter Tryz.func40, Tryz.ntmps40
  go_wp2
  go_ret
  exact ⟨rfl, by first | exact HB0.out _ | exact HB.out _ _⟩
/-- a box is one more row behind the strips -/
theorem Sts.boxed {w0 w : World} {G m : Nat} {ss : List Slot} {ts : List V3} {all : List Sp} (h : Sts w0 w G m ss ts all) (cs : List Value) (t : TypeId) (k : Nat) (hl : cs.length = k) :
    Sts w0 (w.alloc (.cells cs.toArray t)) G m (ss ++ [⟨.slice (some ⟨w.heap.size, 0, none⟩) 1 1, t, k, 1, cs⟩]) ts all := by
  have up : ∀ j x, ss[j]? = some x → (ss ++ [⟨.slice (some ⟨w.heap.size, 0, none⟩) 1 1, t, k, 1, cs⟩])[j]? = some x := fun j x hx => by
    rw [List.getElem?_append_left (List.getElem?_eq_some_iff.1 hx).1]; exact hx
  have hn := World.ownsRow_lit (base := w0.heap.size) (e := t) (size := k) w cs.toArray 1 h.low.size (by decide) (by simp [hl])
  have hh := h.heap.more (below_alloc (Below.refl _ _) (.cells cs.toArray t)) (s := ⟨.slice (some ⟨w.heap.size, 0, none⟩) 1 1, t, k, 1, cs⟩) (by simpa [Slot.At] using hn) (fun g hg => by simp [Value.ownBlock] at hg; omega)
  refine ⟨below_alloc h.low _, h.tl, h.al, hh, by have := h.len; simp; omega, up _ _ h.head, fun i t s ht hs => ?_⟩
  obtain ⟨r1, r2, r3⟩ := h.row i t s ht hs
  exact ⟨up _ _ r1, up _ _ r2, up _ _ r3⟩
/-- what lies behind the strips at a place -/
theorem Sts.at' {w0 w : World} {G m : Nat} {ss : List Slot} {ts : List V3} {all : List Sp} (h : Sts w0 w G m ss ts all) {j g k : Nat} {t : TypeId} {cs : List Value} (hs : ss[j]? = some ⟨.slice (some ⟨g, 0, none⟩) 1 1, t, k, 1, cs⟩) {q : Nat} {u : Value} (hq : cs[q]? = some u) : w.cell? ⟨g, q, none⟩ = some u := h.heap.cell hs hq
end Go.Proofs.YtcggbedjhglmmaaGreatDoor
/- Types of an instruction: phis and copies; operations. -/
namespace Go.Proofs.YtcggbedjhglmmaaGreatDoor
open Go.RowKit

theorem quiet_add {P : Program} {f : FuncId} {args : Array Value} {w : World} {a x : Nat} {v : Value} (h : Calls P f args (w.drewN (a + x)) fun e w' => e = .returned v ∧ w' = w.drewN (a + x)) : Calls P f args (w.drewN (a + x)) fun e w'' => e = .returned v ∧ ∃ n, w'' = w.drewN (a + n) :=
  h.mono fun _ _ ⟨he, hm⟩ => ⟨he, x, hm⟩
def varT (vars : List Int) (v : Int) : Int := vars.getD v.toNat 0
theorem TysAt.var {w : World} {a : Option Addr} {n c : Nat} {l : List Int} (h : TysAt w (.slice a n c) l) {v : Int} (hv : inB v l.length = true) : ∃ g o, ∃ k : Nat, a = some ⟨g, o, none⟩ ∧ v = (k : Int) ∧ (k : Int) < (l.length : Int) ∧ g < w.heap.size ∧ w.cell? ⟨g, o + k, none⟩ = some (.int .u8 (varT l v)) := by
  obtain ⟨k, hk⟩ : ∃ k : Nat, v = (k : Int) := Int.eq_ofNat_of_zero_le (inB_iff.1 hv).1
  have hlt : k < l.length := by have := (inB_iff.1 hv).2; omega
  obtain ⟨g, o, ha, hg, hc⟩ := h.get hlt
  refine ⟨g, o, k, ha, hk, by omega, hg, ?_⟩
  rw [hc, hk, varT, Int.toNat_natCast]
def alikeB (vars : List Int) (x : In) : Bool := x.args.all (fun v => varT vars v == varT vars x.dst) && typedB (varT vars x.dst)
structure Duo (B : Nat) (g t : List Value) (w : World) : Prop where
  g : Box w B g
  t : Box w (B + 1) t
theorem Duo.below {B : Nat} {g t : List Value} {w w' : World} (h : Duo B g t w) (hb : Below w.heap.size w w') : Duo B g t w' := ⟨h.g.below hb, h.t.below hb⟩
theorem Duo.new (w : World) (g t : List Value) (tg tt : TypeId) : Duo w.heap.size g t ((w.alloc (.cells g.toArray tg)).alloc (.cells t.toArray tt)) := by
  have al : ∀ (W : World) (o : Obj), Below W.heap.size W (W.alloc o) := fun W o => below_alloc (Below.refl _ _) o
  have b0 := Box.new w g tg
  have b1 := Box.new (w.alloc (.cells g.toArray tg)) t tt
  rw [show (w.alloc (.cells g.toArray tg)).heap.size = w.heap.size + 1 by simp] at b1
  exact ⟨b0.below (al _ _), b1⟩
set_option maxRecDepth 100000 in
set_option maxHeartbeats 1000000 in
theorem alike_any (G : Gr) (pv vv av bv : Value) (x : In) (xv : Value) (w : World) (h : GrAt w pv vv av bv G) (hA : IntsAt w xv x.args) (hd : inB x.dst G.vars.length = true) (hal : x.args.all (inB · G.vars.length) = true) :
    Calls Tryz.prog 125 #[.agg #[.string G.name, pv, .int .u8 G.result, vv, av, bv], inV x xv] w fun e w' => e = .returned (.bool (alikeB G.vars x)) ∧ Below w.heap.size w w' := by
  obtain ⟨pa, pc, va, vc, aa, ac, ba, bc, rfl, rfl, rfl, rfl, _, hvl, _, _⟩ := h.openF
  obtain ⟨xa, xc, rfl, hxl⟩ := hA.form
  obtain ⟨kind, op, dst, args, bits, ref⟩ := x
  obtain ⟨nm, ps, r, vs, ars, bs⟩ := G
  dsimp only at *
  have HV := h.vs
  dsimp only at HV
  obtain ⟨g, o, k, rfl, rfl, hkn, hg, cd⟩ := HV.var hd
  have HVA : Hid (∀ v, inB v vs.length = true → ∃ k : Nat, v = (k : Int) ∧ (k : Int) < vs.length ∧ w.cell? ⟨g, o + k, none⟩ = some (.int .u8 (varT vs v))) := fun v hv => by
    obtain ⟨g', o', k', e1, e2, e3, _, e5⟩ := HV.var hv
    cases e1
    exact ⟨k', e2, e3, e5⟩
  have HAA : Hid (∀ i, i < args.length → _) := fun i hi => hA.get (i := i) hi
  have HAL : Hid (∀ i, i < args.length → inB (args.getD i 0) vs.length = true) := fun i hi => by
    have := List.all_eq_true.1 hal (args.getD i 0) (by rw [List.getD, List.getElem?_eq_getElem hi]; exact List.getElem_mem hi)
    exact this
  have HT : Hid (∀ t W, _) := fun t W => isType_any t W
  unfold alikeB
  dsimp only
  generalize varT vs (k : Int) = td at *
  obtain ⟨R, hR⟩ : ∃ R, R = (args.all (fun v => varT vs v == td) && typedB td) := ⟨_, rfl⟩
  rw [← hR]
  have HR : Hid (R = ((args.drop 0).all (fun v => varT vs v == td) && typedB td)) := hR
  have H0 : Hid (Below w.heap.size w ((w.alloc (.cells #[.string nm, .slice pa ps.length pc, .int .u8 r, .slice (some ⟨g, o, none⟩) vs.length vc, .slice aa ars.length ac, .slice ba bs.length bc] 28)).alloc (.cells #[.int .u8 kind, .int .u8 op, .int .i64 (k : Int), .slice xa args.length xc, .int .u64 bits, .int .i64 ref] 54)) ∧ Duo w.heap.size [.string nm, .slice pa ps.length pc, .int .u8 r, .slice (some ⟨g, o, none⟩) vs.length vc, .slice aa ars.length ac, .slice ba bs.length bc] [.int .u8 kind, .int .u8 op, .int .i64 (k : Int), .slice xa args.length xc, .int .u64 bits, .int .i64 ref] ((w.alloc (.cells #[.string nm, .slice pa ps.length pc, .int .u8 r, .slice (some ⟨g, o, none⟩) vs.length vc, .slice aa ars.length ac, .slice ba bs.length bc] 28)).alloc (.cells #[.int .u8 kind, .int .u8 op, .int .i64 (k : Int), .slice xa args.length xc, .int .u64 bits, .int .i64 ref] 54))) := ⟨below_alloc (below_alloc (Below.refl _ _) _) _, Duo.new w [.string nm, .slice pa ps.length pc, .int .u8 r, .slice (some ⟨g, o, none⟩) vs.length vc, .slice aa ars.length ac, .slice ba bs.length bc] [.int .u8 kind, .int .u8 op, .int .i64 (k : Int), .slice xa args.length xc, .int .u64 bits, .int .i64 ref] 28 54⟩
  clear hR h hA HV hal hd
  go_enter Tryz.func125, Tryz.ntmps125
  go_wp2
  go_loopw [17] (fun vi wr => ∃ i : Nat, vi = .int .i64 i ∧ i ≤ args.length ∧ Hid (R = ((args.drop i).all (fun v => varT vs v == td) && typedB td) ∧ Below w.heap.size w wr ∧ Duo w.heap.size [.string nm, .slice pa ps.length pc, .int .u8 r, .slice (some ⟨g, o, none⟩) vs.length vc, .slice aa ars.length ac, .slice ba bs.length bc] [.int .u8 kind, .int .u8 op, .int .i64 (k : Int), .slice xa args.length xc, .int .u64 bits, .int .i64 ref] wr)) (fun vi _ => args.length - (intOf vi).toNat)
  case atStart => exact ⟨0, rfl, by omega, HR.out, H0.out.1, H0.out.2⟩
  case round =>
    obtain ⟨i, rfl, hi, hr⟩ := hrel
    clear HR H0
    obtain ⟨e0, e1, e2, e3, e4, e5⟩ := box6 hr.out.2.2.g
    obtain ⟨x0, x1, x2, x3, x4, x5⟩ := box6 hr.out.2.2.t
    by_cases hin : i < args.length
    · obtain ⟨ga, oa, rfl, hga, ca⟩ := HAA.out i hin
      have hin' : (i : Int) < args.length := by omega
      obtain ⟨ka, hka, hkan, cva⟩ := HVA.out _ (HAL.out i hin)
      have hd : R = ((varT vs (args.getD i 0) == td) && (args.drop (i + 1)).all (fun v => varT vs v == td) && typedB td) := by rw [hr.out.1, all_drop (d := 0) hin]
      rw [hka] at ca cva hd
      have ca' := (hr.out.2.1.cell (p := ⟨ga, oa + i, none⟩) hga).trans ca
      have cva' := (hr.out.2.1.cell (p := ⟨g, o + ka, none⟩) hg).trans cva
      generalize varT vs (ka : Int) = ta at *
      clear ca cva hka HVA HAL HAA
      by_cases hne : ta = td
      · subst hne
        simp only [BEq.rfl, Bool.true_and] at hd
        have HD : Hid _ := hd
        clear hd
        go_wp2
        go_roundw
        case rel => exact ⟨i + 1, by first | rfl | (congr 1; omega), by omega, HD.out, hr.out.2⟩
        case measure => simp [intOf]; omega
      · have hf : (ta == td) = false := beq_false_of_ne hne
        have hf2 : (ta != td) = true := by simp [hne]
        rw [hf] at hd
        simp only [Bool.false_and] at hd
        have HD : Hid _ := hd
        clear hd
        go_wp2
        go_ret
        exact ⟨ret_bool HD.out.symm, hr.out.2.1⟩
    · obtain rfl : i = args.length := by omega
      have hd : R = typedB td := by rw [hr.out.1, List.drop_length]; simp
      have HD : Hid _ := hd
      have HTJ : Hid _ := HT.out td
      clear hd HVA HAL HAA
      go_wp2_with (go_at_call 88; refine Calls.mono (HTJ.out _) ?_; rintro e wx ⟨rfl, hwx⟩; subst wx)
      go_ret
      exact ⟨ret_bool HD.out.symm, hr.out.2.1⟩
end Go.Proofs.YtcggbedjhglmmaaGreatDoor
