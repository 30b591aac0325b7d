/- Is what was lent as it was: instructions, blocks. -/
import Derived.Test.YtajaijilfclhpaaGreatDoorKGyM
namespace Go.Proofs.YtajaijilfclhpaaGreatDoor
open Go.RowKit Go.Sort

theorem nilK (w : World) (cs : List Value) : RowAt w (.slice none 0 0) 0 cs := ⟨none, 0, rfl, ⟨Nat.le_refl _, by omega⟩, .inl rfl⟩
theorem nilNK (w : World) : InsAt w (.slice none 0 0) [] := ⟨fun x h => by simp at h, [], rfl, nilK w _, fun i x a h => by simp at h⟩
set_option maxRecDepth 100000 in
set_option maxHeartbeats 2000000 in
theorem keptIns_any (x : In) (v1 v2 : Value) (lo hi : Nat) (w : World) (h1 : LentI w lo hi v1 x.args) (h2 : IntsAt w v2 x.args) (hl : x.args.length ≤ 1100000) : Calls Tryz.prog 169 #[inV x v1, inV x v2] w fun e w' => e = .returned (.bool true) ∧ Below w.heap.size w w' := by
 obtain ⟨k, op, dst, args, bits, ref⟩ := x
 dsimp only at h1 h2 hl
 have HS : Hid (∀ W, Below w.heap.size w W → _) := fun W hb => sameX_yes ⟨k, op, dst, args, bits, ref⟩ v1 v2 W ((h1.at' (by omega)).below hb) (h2.below hb)
 have HK : Hid (∀ W, Below w.heap.size w W → _) := fun W hb => keptI_any args v1 v2 lo hi W (h1.stands (Stands.of hb)) (h2.below hb) hl
 obtain ⟨a1, c1, rfl⟩ := h1.form
 obtain ⟨a2, c2, rfl, _⟩ := h2.form
 have HB : Hid (∀ o o' : Obj, Below w.heap.size w ((w.alloc o).alloc o')) := fun o o' => below_alloc (below_alloc (Below.refl _ _) _) _
 have HB1 : Hid (Box ((w.alloc (.cells #[.int .u8 k, .int .u8 op, .int .i64 dst, .slice a1 args.length c1, .int .u64 bits, .int .i64 ref] 55)).alloc (.cells #[.int .u8 k, .int .u8 op, .int .i64 dst, .slice a2 args.length c2, .int .u64 bits, .int .i64 ref] 55)) w.heap.size [.int .u8 k, .int .u8 op, .int .i64 dst, .slice a1 args.length c1, .int .u64 bits, .int .i64 ref] ∧ Box ((w.alloc (.cells #[.int .u8 k, .int .u8 op, .int .i64 dst, .slice a1 args.length c1, .int .u64 bits, .int .i64 ref] 55)).alloc (.cells #[.int .u8 k, .int .u8 op, .int .i64 dst, .slice a2 args.length c2, .int .u64 bits, .int .i64 ref] 55)) (w.heap.size + 1) [.int .u8 k, .int .u8 op, .int .i64 dst, .slice a2 args.length c2, .int .u64 bits, .int .i64 ref]) := by
  refine ⟨(Box.new w [.int .u8 k, .int .u8 op, .int .i64 dst, .slice a1 args.length c1, .int .u64 bits, .int .i64 ref] 55).below (below_alloc (Below.refl _ _) _), ?_⟩
  have h9 := Box.new (w.alloc (.cells #[.int .u8 k, .int .u8 op, .int .i64 dst, .slice a1 args.length c1, .int .u64 bits, .int .i64 ref] 55)) [.int .u8 k, .int .u8 op, .int .i64 dst, .slice a2 args.length c2, .int .u64 bits, .int .i64 ref] 55
  rwa [show (w.alloc (.cells #[.int .u8 k, .int .u8 op, .int .i64 dst, .slice a1 args.length c1, .int .u64 bits, .int .i64 ref] 55)).heap.size = w.heap.size + 1 by simp] at h9
 clear h1 h2 hl
 generalize args.length = n at *
 go_enter Tryz.func169, Tryz.ntmps169
 go_wp2_with (first
  | (go_at_call 140; go_loud (refine Calls.mono (by exact HS.out _ (HB.out _ _)) ?_; rintro e w2 ⟨rfl, hb2⟩; obtain ⟨e0, e1, e2, e3, e4, e5⟩ := box6 (HB1.out.1.below hb2); obtain ⟨f0, f1, f2, f3, f4, f5⟩ := box6 (HB1.out.2.below hb2); have HZ : Hid (Below w.heap.size w w2) := below_trans (HB.out _ _) hb2; clear hb2))
  | (go_at_call 32; go_loud (refine Calls.mono (by exact HK.out _ HZ.out) ?_; rintro e w3 ⟨rfl, hb3⟩; have HZ3 : Hid (Below w.heap.size w w3) := below_trans HZ.out hb3; clear hb3)))
 go_ret
 exact ⟨rfl, HZ3.out⟩
set_option maxRecDepth 100000 in
set_option maxHeartbeats 4000000 in
theorem keptN_any (l : List In) (ov v : Value) (lo hi : Nat) (w : World) (hL : LentN w lo hi ov l) (h : InsAt w v l) (hl : SzN l) : Calls Tryz.prog 124 #[ov, v] w fun e w' => e = .returned (.bool true) ∧ Below w.heap.size w w' := by
 obtain ⟨a, c, rfl, _⟩ := h.form
 obtain ⟨g, cap, rfl, ⟨r1, r2, r3, r4, r5⟩, _, ⟨A, B, HAB, HOC⟩, HMK⟩ := hL.opened
 have HO : Hid _ := HOC
 have HM : Hid _ := HMK
 have HI : Hid (∀ i, i < l.length → _) := fun i hi => h.get (i := i) hi
 have hll : l.length ≤ 1100000 := hl.1
 have hcapx : cap ≤ 9223372036854775807 := r2
 have HKC : Hid (∀ i, i < l.length → ∀ (a b : Nat) (q x2 : Value), LentI w a b q (l.getD i default).args → IntsAt w x2 (l.getD i default).args → ∀ W, Below w.heap.size w W → Calls Tryz.prog 169 #[inV (l.getD i default) q, inV (l.getD i default) x2] W fun e w' => e = .returned (.bool true) ∧ Below W.heap.size W w') := fun i hi a b q x2 h1 h2 W hb => keptIns_any _ _ _ a b W (h1.stands (Stands.of hb)) (h2.below hb) (hl.2 _ (getD_memI hi))
 have HMC : Hid (∀ (x : Int) (W : World), 0 ≤ x → x < 12 → Calls Tryz.prog 139 #[.int .i64 1, .int .i64 x] W fun e w' => e = .returned (.agg (mkN 1 x).toArray) ∧ Below W.heap.size W w') := fun x W h0 h1 => markN_any 1 x (by omega) (by omega) (by omega) (by omega) W
 clear hL h r2 r3 r4 HMK hl HOC HAB
 obtain ⟨n, hn⟩ : ∃ n, n = l.length := ⟨_, rfl⟩
 rw [← hn] at HI HO HM r1 hll HKC
 rw [← hn]
 clear hn
 have hsl := cutKN (g := g) (m := n) (c := cap) (f := n + 12) r1
 go_enter Tryz.func124, Tryz.ntmps124
 go_wp2
 clear hsl
 go_loopw [6] (fun vi wr => ∃ i : Nat, vi = .int .i64 i ∧ i ≤ n + 12 ∧ Hid (Below w.heap.size w wr)) (fun vi _ => n + 12 - (intOf vi).toNat)
 case atStart => exact ⟨0, rfl, by omega, Below.refl _ _⟩
 case round =>
  obtain ⟨i, rfl, hi, hr⟩ := hrel
  have HZ : Hid (∀ d os, Below w.heap.size w (grow (redrawn wr d) os)) := fun d os => below_trans hr.out (below_regrown wr d os)
  have up : ∀ {a : Addr} {u : Value}, w.cell? a = some u → ∀ d os, (grow (redrawn wr d) os).cell? a = some u := fun ha d os => ((HZ.out d os).cell (block_lt_of_cell ha)).trans ha
  by_cases hin : i < n
  ·obtain ⟨q, ⟨k0, k1, k2, k3, k4, k5⟩, hK⟩ := HO.out i hin
   obtain ⟨g2, o2, x2, rfl, hg2, j0, j1, j2, j3, j4, j5, hx2⟩ := HI.out i hin
   have HC : Hid (∀ d os, _) := fun d os => Calls.regrown_of (HKC.out i hin _ _ q x2 hK hx2 (grow (redrawn wr d) os) (HZ.out d os))
   obtain ⟨y1, z1, rfl⟩ := hK.form
   obtain ⟨y2, z2, rfl, _⟩ := hx2.form
   have k0u := up k0
   have k1u := up k1
   have k2u := up k2
   have k3u := up k3
   have k4u := up k4
   have k5u := up k5
   have j0u := up j0
   have j1u := up j1
   have j2u := up j2
   have j3u := up j3
   have j4u := up j4
   have j5u := up j5
   have hin' : (i : Int) < n := by omega
   have hin2 : (i : Int) < (n : Int) + 12 := by omega
   have hge : decide (n ≤ i) = false := decide_eq_false (by omega)
   have hd1 : decide (i < n) = true := decide_eq_true (by omega)
   clear hK hx2
   clear HI HO HM HMC up hr HKC
   generalize l.getD i default = X at *
   obtain ⟨k, op, dst, args, bits, ref⟩ := X
   dsimp only at *
   generalize args.length = m at *
   go_wp2
   refine wp_region_quiet_below (by kernel_rfl) (by kernel_rfl) ?_
   repeat (go_big_quiet_step ((first | with_reducible exact HC.out _ _)))
   refine wpQuiet_nil ?_
   intro _ hw'
   obtain ⟨⟨dq, osq⟩, hw''⟩ := hw'
   subst hw''
   go_wp2
   go_roundw
   case rel => exact ⟨i + 1, by first | rfl | (congr 1; omega), by omega, HZ.out dq osq⟩
   case measure => simp [intOf]; omega
  ·by_cases hin3 : i < n + 12
   ·obtain ⟨m0, m1, m2, m3, m4, m5⟩ := HM.out i (by omega) hin3
    have m0u := up m0
    have m1u := up m1
    have m2u := up m2
    have m3u := up m3
    have m4u := up m4
    have m5u := up m5
    have hin' : ¬ ((i : Int) < n) := by omega
    have hin2 : (i : Int) < (n : Int) + 12 := by omega
    have hge : decide (n ≤ i) = true := decide_eq_true (by omega)
    have hd1 : decide (i < n) = false := decide_eq_false (by omega)
    have HC1 : Hid (∀ d os, _) := fun d os => Calls.regrown_of (HMC.out ((i : Int) - n) (grow (redrawn wr d) os) (by omega) (by omega))
    have HC2 : Hid (∀ d os, Calls Tryz.prog 140 #[.agg #[bytV 0, bytV 0, intV (markI 1 ((i : Int) - n)), .slice none 0 0, .int .u64 0, intV 0], .agg (mkN 1 ((i : Int) - n)).toArray] (grow (redrawn wr d) os) fun e w'' => e = .returned (.bool true) ∧ ∃ p : Regrown, w'' = grow (redrawn wr p.d) p.os) := fun d os => Calls.regrown_of (sameX_yes ⟨0, 0, markI 1 ((i : Int) - n), [], 0, 0⟩ (.slice none 0 0) (.slice none 0 0) _ (nilK _ _) (nilK _ _))
    clear HI HO HM HMC up hr hin HKC
    go_wp2
    refine wp_region_quiet_below (by kernel_rfl) (by kernel_rfl) ?_
    repeat (go_big_quiet_step ((first | with_reducible exact HC1.out _ _ | with_reducible exact HC2.out _ _)))
    refine wpQuiet_nil ?_
    intro _ hw'
    obtain ⟨⟨dq, osq⟩, hw''⟩ := hw'
    subst hw''
    go_wp2
    go_roundw
    case rel => exact ⟨i + 1, by first | rfl | (congr 1; omega), by omega, HZ.out dq osq⟩
    case measure => simp [intOf]; omega
   ·obtain rfl : i = n + 12 := by omega
    have hin2 : ¬ (((n + 12 : Nat) : Int) < (n : Int) + 12) := by omega
    clear HI HO HM HMC up HZ HKC
    go_wp2
    go_ret
    exact ⟨rfl, hr.out⟩
set_option maxRecDepth 100000 in
set_option maxHeartbeats 2000000 in
theorem keptBlock_any (b : Bl) (v1 v2 : Value) (lo hi : Nat) (w : World) (h1 : LentN w lo hi v1 b.ins) (h2 : InsAt w v2 b.ins) (hl : SzN b.ins) : Calls Tryz.prog 63 #[.agg (blArr v1 b.tm), .agg (blArr v2 b.tm)] w fun e w' => e = .returned (.bool true) ∧ Below w.heap.size w w' := by
 obtain ⟨L, tk, ta, t0, t1, tt⟩ := b
 dsimp only at h1 h2 hl
 have HS : Hid (∀ W, Below w.heap.size w W → _) := fun W hb => sameBl_yes ⟨L, ⟨tk, ta, t0, t1, tt⟩⟩ v1 v2 W ((h1.at' hl).below hb) (h2.below hb)
 have HK : Hid (∀ W, Below w.heap.size w W → _) := fun W hb => keptN_any L v1 v2 lo hi W (h1.stands (Stands.of hb)) (h2.below hb) hl
 obtain ⟨a1, c1, rfl⟩ := h1.form
 obtain ⟨a2, c2, rfl, _⟩ := h2.form
 have HB : Hid (∀ o o' : Obj, Below w.heap.size w ((w.alloc o).alloc o')) := fun o o' => below_alloc (below_alloc (Below.refl _ _) _) _
 have HB1 : Hid (Box ((w.alloc (.cells #[.slice a1 L.length c1, .int .u8 tk, .int .i64 ta, .int .i64 t0, .int .i64 t1, .int .u8 tt] 63)).alloc (.cells #[.slice a2 L.length c2, .int .u8 tk, .int .i64 ta, .int .i64 t0, .int .i64 t1, .int .u8 tt] 63)) w.heap.size [.slice a1 L.length c1, .int .u8 tk, .int .i64 ta, .int .i64 t0, .int .i64 t1, .int .u8 tt] ∧ Box ((w.alloc (.cells #[.slice a1 L.length c1, .int .u8 tk, .int .i64 ta, .int .i64 t0, .int .i64 t1, .int .u8 tt] 63)).alloc (.cells #[.slice a2 L.length c2, .int .u8 tk, .int .i64 ta, .int .i64 t0, .int .i64 t1, .int .u8 tt] 63)) (w.heap.size + 1) [.slice a2 L.length c2, .int .u8 tk, .int .i64 ta, .int .i64 t0, .int .i64 t1, .int .u8 tt]) := by
  refine ⟨(Box.new w [.slice a1 L.length c1, .int .u8 tk, .int .i64 ta, .int .i64 t0, .int .i64 t1, .int .u8 tt] 63).below (below_alloc (Below.refl _ _) _), ?_⟩
  have h9 := Box.new (w.alloc (.cells #[.slice a1 L.length c1, .int .u8 tk, .int .i64 ta, .int .i64 t0, .int .i64 t1, .int .u8 tt] 63)) [.slice a2 L.length c2, .int .u8 tk, .int .i64 ta, .int .i64 t0, .int .i64 t1, .int .u8 tt] 63
  rwa [show (w.alloc (.cells #[.slice a1 L.length c1, .int .u8 tk, .int .i64 ta, .int .i64 t0, .int .i64 t1, .int .u8 tt] 63)).heap.size = w.heap.size + 1 by simp] at h9
 clear h1 h2 hl
 generalize L.length = n at *
 go_enter Tryz.func63, Tryz.ntmps63
 go_wp2_with (first
  | (go_at_call 64; go_loud (refine Calls.mono (by exact HS.out _ (HB.out _ _)) ?_; rintro e w2 ⟨rfl, hb2⟩; obtain ⟨e0, e1, e2, e3, e4, e5⟩ := box6 (HB1.out.1.below hb2); obtain ⟨f0, f1, f2, f3, f4, f5⟩ := box6 (HB1.out.2.below hb2); have HZ : Hid (Below w.heap.size w w2) := below_trans (HB.out _ _) hb2; clear hb2))
  | (go_at_call 124; go_loud (refine Calls.mono (by exact HK.out _ HZ.out) ?_; rintro e w3 ⟨rfl, hb3⟩; have HZ3 : Hid (Below w.heap.size w w3) := below_trans HZ.out hb3; clear hb3)))
 go_ret
 exact ⟨rfl, HZ3.out⟩
set_option maxRecDepth 100000 in
set_option maxHeartbeats 4000000 in
theorem keptB_any (l : List Bl) (ov v : Value) (lo hi : Nat) (w : World) (hL : LentB w lo hi ov l) (h : BlsAt w v l) (hl : SzB l) : Calls Tryz.prog 35 #[ov, v] w fun e w' => e = .returned (.bool true) ∧ Below w.heap.size w w' := by
 obtain ⟨a, c, rfl, _⟩ := h.form
 obtain ⟨g, cap, rfl, ⟨r1, r2, r3, r4, r5⟩, _, ⟨A, B, HAB, HOC⟩, HMK⟩ := hL.opened
 have HO : Hid _ := HOC
 have HM : Hid _ := HMK
 have HI : Hid (∀ i, i < l.length → _) := fun i hi => h.get (i := i) hi
 have hll : l.length ≤ 1100000 := hl.1
 have hcapx : cap ≤ 9223372036854775807 := r2
 have HKC : Hid (∀ i, i < l.length → ∀ (a b : Nat) (q x2 : Value), LentN w a b q (l.getD i default).ins → InsAt w x2 (l.getD i default).ins → ∀ W, Below w.heap.size w W → Calls Tryz.prog 63 #[.agg (blArr q (l.getD i default).tm), .agg (blArr x2 (l.getD i default).tm)] W fun e w' => e = .returned (.bool true) ∧ Below W.heap.size W w') := fun i hi a b q x2 h1 h2 W hb => keptBlock_any _ _ _ a b W (h1.stands (Stands.of hb)) (h2.below hb) (hl.2 _ (getD_memB hi))
 have HMC : Hid (∀ (x : Int) (W : World), 0 ≤ x → x < 12 → Calls Tryz.prog 52 #[.int .i64 1, .int .i64 x] W fun e w' => e = .returned (.agg (mkB 1 x).toArray) ∧ Below W.heap.size W w') := fun x W h0 h1 => markB_any 1 x (by omega) (by omega) (by omega) (by omega) W
 clear hL h r2 r3 r4 HMK hl HOC HAB
 obtain ⟨n, hn⟩ : ∃ n, n = l.length := ⟨_, rfl⟩
 rw [← hn] at HI HO HM r1 hll HKC
 rw [← hn]
 clear hn
 have hsl := cutKB (g := g) (m := n) (c := cap) (f := n + 12) r1
 go_enter Tryz.func35, Tryz.ntmps35
 go_wp2
 clear hsl
 go_loopw [6] (fun vi wr => ∃ i : Nat, vi = .int .i64 i ∧ i ≤ n + 12 ∧ Hid (Below w.heap.size w wr)) (fun vi _ => n + 12 - (intOf vi).toNat)
 case atStart => exact ⟨0, rfl, by omega, Below.refl _ _⟩
 case round =>
  obtain ⟨i, rfl, hi, hr⟩ := hrel
  have HZ : Hid (∀ d os, Below w.heap.size w (grow (redrawn wr d) os)) := fun d os => below_trans hr.out (below_regrown wr d os)
  have up : ∀ {a : Addr} {u : Value}, w.cell? a = some u → ∀ d os, (grow (redrawn wr d) os).cell? a = some u := fun ha d os => ((HZ.out d os).cell (block_lt_of_cell ha)).trans ha
  by_cases hin : i < n
  ·obtain ⟨q, ⟨k0, k1, k2, k3, k4, k5⟩, hK⟩ := HO.out i hin
   obtain ⟨g2, o2, x2, rfl, hg2, j0, j1, j2, j3, j4, j5, hx2⟩ := HI.out i hin
   have HC : Hid (∀ d os, _) := fun d os => Calls.regrown_of (HKC.out i hin _ _ q x2 hK hx2 (grow (redrawn wr d) os) (HZ.out d os))
   obtain ⟨y1, z1, rfl⟩ := hK.form
   obtain ⟨y2, z2, rfl, _⟩ := hx2.form
   have k0u := up k0
   have k1u := up k1
   have k2u := up k2
   have k3u := up k3
   have k4u := up k4
   have k5u := up k5
   have j0u := up j0
   have j1u := up j1
   have j2u := up j2
   have j3u := up j3
   have j4u := up j4
   have j5u := up j5
   have hin' : (i : Int) < n := by omega
   have hin2 : (i : Int) < (n : Int) + 12 := by omega
   have hge : decide (n ≤ i) = false := decide_eq_false (by omega)
   have hd1 : decide (i < n) = true := decide_eq_true (by omega)
   clear hK hx2
   clear HI HO HM HMC up hr HKC
   generalize l.getD i default = X at *
   obtain ⟨L, tk, ta, t0, t1, tt⟩ := X
   dsimp only at *
   generalize L.length = m at *
   go_wp2
   refine wp_region_quiet_below (by kernel_rfl) (by kernel_rfl) ?_
   repeat (go_big_quiet_step ((first | with_reducible exact HC.out _ _)))
   refine wpQuiet_nil ?_
   intro _ hw'
   obtain ⟨⟨dq, osq⟩, hw''⟩ := hw'
   subst hw''
   go_wp2
   go_roundw
   case rel => exact ⟨i + 1, by first | rfl | (congr 1; omega), by omega, HZ.out dq osq⟩
   case measure => simp [intOf]; omega
  ·by_cases hin3 : i < n + 12
   ·obtain ⟨m0, m1, m2, m3, m4, m5⟩ := HM.out i (by omega) hin3
    have m0u := up m0
    have m1u := up m1
    have m2u := up m2
    have m3u := up m3
    have m4u := up m4
    have m5u := up m5
    have hin' : ¬ ((i : Int) < n) := by omega
    have hin2 : (i : Int) < (n : Int) + 12 := by omega
    have hge : decide (n ≤ i) = true := decide_eq_true (by omega)
    have hd1 : decide (i < n) = false := decide_eq_false (by omega)
    have HC1 : Hid (∀ d os, _) := fun d os => Calls.regrown_of (HMC.out ((i : Int) - n) (grow (redrawn wr d) os) (by omega) (by omega))
    have HC2 : Hid (∀ d os, Calls Tryz.prog 64 #[.agg #[.slice none 0 0, bytV 0, intV (markI 1 ((i : Int) - n)), intV 0, intV 0, bytV 0], .agg (mkB 1 ((i : Int) - n)).toArray] (grow (redrawn wr d) os) fun e w'' => e = .returned (.bool true) ∧ ∃ p : Regrown, w'' = grow (redrawn wr p.d) p.os) := fun d os => Calls.regrown_of (sameBl_yes ⟨[], ⟨0, markI 1 ((i : Int) - n), 0, 0, 0⟩⟩ (.slice none 0 0) (.slice none 0 0) _ (nilNK _) (nilNK _))
    clear HI HO HM HMC up hr hin HKC
    go_wp2
    refine wp_region_quiet_below (by kernel_rfl) (by kernel_rfl) ?_
    repeat (go_big_quiet_step ((first | with_reducible exact HC1.out _ _ | with_reducible exact HC2.out _ _)))
    refine wpQuiet_nil ?_
    intro _ hw'
    obtain ⟨⟨dq, osq⟩, hw''⟩ := hw'
    subst hw''
    go_wp2
    go_roundw
    case rel => exact ⟨i + 1, by first | rfl | (congr 1; omega), by omega, HZ.out dq osq⟩
    case measure => simp [intOf]; omega
   ·obtain rfl : i = n + 12 := by omega
    have hin2 : ¬ (((n + 12 : Nat) : Int) < (n : Int) + 12) := by omega
    clear HI HO HM HMC up HZ HKC
    go_wp2
    go_ret
    exact ⟨rfl, hr.out⟩
end Go.Proofs.YtajaijilfclhpaaGreatDoor
/- Is what was lent as it was: graphs. -/
namespace Go.Proofs.YtajaijilfclhpaaGreatDoor
open Go.RowKit Go.Sort

set_option maxRecDepth 100000 in
set_option maxHeartbeats 4000000 in
theorem keptGraph_any (G : Gr) (q : V4) (y1 y2 y3 y4 : Value) (lo hi : Nat) (w : World) (h1 : LentG1 w lo hi q G) (h2 : GrAt w y1 y2 y3 y4 G) (hs : SzG G) : Calls Tryz.prog 12 #[.agg #[.string G.name, q.1, .int .u8 G.result, q.2.1, q.2.2.1, q.2.2.2], .agg #[.string G.name, y1, .int .u8 G.result, y2, y3, y4]] w fun e w' => e = .returned (.bool true) ∧ Below w.heap.size w w' := by
 obtain ⟨x1, x2, x3, x4⟩ := q
 have hg1 := h1.at' hs
 obtain ⟨d1, d2, d3, l1, l2, l3, l4, _⟩ := h1.ex
 dsimp only at l1 l2 l3 l4 hg1 ⊢
 have HS0 : Hid (∀ W, Below w.heap.size w W → Calls Tryz.prog 17 #[.agg #[.string G.name, x1, .int .u8 G.result, x2, x3, x4], .agg #[.string G.name, y1, .int .u8 G.result, y2, y3, y4]] W fun e w' => e = .returned (.bool true) ∧ Below W.heap.size W w') := fun W hb => sameG_yes G _ _ _ _ _ _ _ _ W (hg1.below hb) (h2.below hb)
 have HS1 : Hid (∀ W, Below w.heap.size w W → Calls Tryz.prog 32 #[x1, y1] W fun e w' => e = .returned (.bool true) ∧ Below W.heap.size W w') := fun W hb => keptI_any G.params _ _ _ _ W (l1.stands (Stands.of hb)) (h2.ps.below hb) hs.ps
 have HS2 : Hid (∀ W, Below w.heap.size w W → Calls Tryz.prog 33 #[x2, y2] W fun e w' => e = .returned (.bool true) ∧ Below W.heap.size W w') := fun W hb => keptT_any G.vars _ _ _ _ W (l2.stands (Stands.of hb)) (h2.vs.below hb) hs.vs
 have HS3 : Hid (∀ W, Below w.heap.size w W → Calls Tryz.prog 34 #[x3, y3] W fun e w' => e = .returned (.bool true) ∧ Below W.heap.size W w') := fun W hb => keptA_any G.arrs _ _ _ _ W (l3.stands (Stands.of hb)) (h2.ars.below hb) hs.ars
 have HS4 : Hid (∀ W, Below w.heap.size w W → Calls Tryz.prog 35 #[x4, y4] W fun e w' => e = .returned (.bool true) ∧ Below W.heap.size W w') := fun W hb => keptB_any G.blocks _ _ _ _ W (l4.stands (Stands.of hb)) (h2.bs.below hb) hs.bs
 obtain ⟨p1, q1, v1, u1, a1, b1, k1, c1, rfl, rfl, rfl, rfl, _, _, _, _⟩ := hg1.openF
 obtain ⟨p2, q2, v2, u2, a2, b2, k2, c2, rfl, rfl, rfl, rfl, _, _, _, _⟩ := h2.openF
 clear h1 h2 hs hg1 l1 l2 l3 l4
 obtain ⟨nm, ps, r, vs, ars, bs⟩ := G
 dsimp only at *
 generalize ps.length = pl at *
 generalize vs.length = vl at *
 generalize ars.length = al at *
 generalize bs.length = n at *
 have HB : Hid (∀ o o' : Obj, Below w.heap.size w ((w.alloc o).alloc o')) := fun o o' => below_alloc (below_alloc (Below.refl _ _) _) _
 have HB1 : Hid (Box ((w.alloc (.cells #[.string nm, .slice p1 pl q1, .int .u8 r, .slice v1 vl u1, .slice a1 al b1, .slice k1 n c1] 28)).alloc (.cells #[.string nm, .slice p2 pl q2, .int .u8 r, .slice v2 vl u2, .slice a2 al b2, .slice k2 n c2] 28)) w.heap.size [.string nm, .slice p1 pl q1, .int .u8 r, .slice v1 vl u1, .slice a1 al b1, .slice k1 n c1] ∧ Box ((w.alloc (.cells #[.string nm, .slice p1 pl q1, .int .u8 r, .slice v1 vl u1, .slice a1 al b1, .slice k1 n c1] 28)).alloc (.cells #[.string nm, .slice p2 pl q2, .int .u8 r, .slice v2 vl u2, .slice a2 al b2, .slice k2 n c2] 28)) (w.heap.size + 1) [.string nm, .slice p2 pl q2, .int .u8 r, .slice v2 vl u2, .slice a2 al b2, .slice k2 n c2]) := by
  refine ⟨(Box.new w [.string nm, .slice p1 pl q1, .int .u8 r, .slice v1 vl u1, .slice a1 al b1, .slice k1 n c1] 28).below (below_alloc (Below.refl _ _) _), ?_⟩
  have h9 := Box.new (w.alloc (.cells #[.string nm, .slice p1 pl q1, .int .u8 r, .slice v1 vl u1, .slice a1 al b1, .slice k1 n c1] 28)) [.string nm, .slice p2 pl q2, .int .u8 r, .slice v2 vl u2, .slice a2 al b2, .slice k2 n c2] 28
  rwa [show (w.alloc (.cells #[.string nm, .slice p1 pl q1, .int .u8 r, .slice v1 vl u1, .slice a1 al b1, .slice k1 n c1] 28)).heap.size = w.heap.size + 1 by simp] at h9
 go_enter Tryz.func12, Tryz.ntmps12
 go_wp2_with (first
 | (go_at_call 17; go_loud (refine Calls.mono (by exact HS0.out _ (HB.out _ _)) ?_; rintro e w2 ⟨rfl, hb2⟩; obtain ⟨e0, e1, e2, e3, e4, e5⟩ := box6 (HB1.out.1.below hb2); obtain ⟨f0, f1, f2, f3, f4, f5⟩ := box6 (HB1.out.2.below hb2); have H2 : Hid (Below w.heap.size w w2) := below_trans (HB.out _ _) hb2; have HY2 : Hid (Box w2 w.heap.size [.string nm, .slice p1 pl q1, .int .u8 r, .slice v1 vl u1, .slice a1 al b1, .slice k1 n c1] ∧ Box w2 (w.heap.size + 1) [.string nm, .slice p2 pl q2, .int .u8 r, .slice v2 vl u2, .slice a2 al b2, .slice k2 n c2]) := ⟨HB1.out.1.below hb2, HB1.out.2.below hb2⟩; clear hb2))
 | (go_at_call 32; go_loud (refine Calls.mono (by exact HS1.out _ H2.out) ?_; rintro e w3 ⟨rfl, hb3⟩; obtain ⟨g0, g1, g2, g3, g4, g5⟩ := box6 (HY2.out.1.below hb3); obtain ⟨h0, h1, h2, h3, h4, h5⟩ := box6 (HY2.out.2.below hb3); have H3 : Hid (Below w.heap.size w w3) := below_trans H2.out hb3; have HY3 : Hid (Box w3 w.heap.size [.string nm, .slice p1 pl q1, .int .u8 r, .slice v1 vl u1, .slice a1 al b1, .slice k1 n c1] ∧ Box w3 (w.heap.size + 1) [.string nm, .slice p2 pl q2, .int .u8 r, .slice v2 vl u2, .slice a2 al b2, .slice k2 n c2]) := ⟨HY2.out.1.below hb3, HY2.out.2.below hb3⟩; clear hb3))
 | (go_at_call 33; go_loud (refine Calls.mono (by exact HS2.out _ H3.out) ?_; rintro e w4 ⟨rfl, hb4⟩; obtain ⟨i0, i1, i2, i3, i4, i5⟩ := box6 (HY3.out.1.below hb4); obtain ⟨j0, j1, j2, j3, j4, j5⟩ := box6 (HY3.out.2.below hb4); have H4 : Hid (Below w.heap.size w w4) := below_trans H3.out hb4; have HY4 : Hid (Box w4 w.heap.size [.string nm, .slice p1 pl q1, .int .u8 r, .slice v1 vl u1, .slice a1 al b1, .slice k1 n c1] ∧ Box w4 (w.heap.size + 1) [.string nm, .slice p2 pl q2, .int .u8 r, .slice v2 vl u2, .slice a2 al b2, .slice k2 n c2]) := ⟨HY3.out.1.below hb4, HY3.out.2.below hb4⟩; clear hb4))
 | (go_at_call 34; go_loud (refine Calls.mono (by exact HS3.out _ H4.out) ?_; rintro e w5 ⟨rfl, hb5⟩; obtain ⟨l0, l1, l2, l3, l4, l5⟩ := box6 (HY4.out.1.below hb5); obtain ⟨m0, m1, m2, m3, m4, m5⟩ := box6 (HY4.out.2.below hb5); have H5 : Hid (Below w.heap.size w w5) := below_trans H4.out hb5; clear hb5))
 | (go_at_call 35; go_loud (refine Calls.mono (by exact HS4.out _ H5.out) ?_; rintro e w6 ⟨rfl, hb6⟩; have H6 : Hid (Below w.heap.size w w6) := below_trans H5.out hb6; clear hb6)))
 go_ret
 exact ⟨rfl, H6.out⟩
end Go.Proofs.YtajaijilfclhpaaGreatDoor
