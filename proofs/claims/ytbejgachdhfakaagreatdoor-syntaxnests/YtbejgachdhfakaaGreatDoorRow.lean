/- Rows of operands. -/
import Derived.Test.YtbejgachdhfakaaGreatDoorGC
import Derived.WalkMore
import Derived.ScopeJumps
namespace Go.Proofs.YtbejgachdhfakaaGreatDoor
open Go.RowKit
/-- How many tokens are left, off the parser's block. -/
def leftIn (p : Nat) (w : World) : Nat := match w.cell? ⟨p, 1, none⟩ with | some (.slice _ n _) => n | _ => 0
theorem left_par {E : Env} {w : World} {v : Value} {kvs : List Value} {st : St} (h : Par E w v kvs st) : leftIn E.p w = st.toks.length := by
  unfold leftIn; rw [h.c1]
def JRow (F : FW) (E : Env) (n r : Nat) (RES : Res Nat) (w : World) (v : Value) (kvs : List Value) (a' : Act) (w' : World) : Prop :=
  ∃ (m l : Nat) (v' : Value) (k' : List Value) (st' : St), m ≤ n ∧ (∃ u2 u3 u4 u6 u7 u8 u9 u10 u11 u12 u13 u14 u15 u16 u17 u18 u19 u20 u21 u22 u23 u24 u25 u26 u27 u28 u29 u30 u31 u32 u33 u34 u35 u36 u37 u38 u39 u40 u41 u42 u43 u44 u45 u46 u47 u48 u49 u50 : Value, a' = { tmps := #[ptr E.p, natV r, u2, u3, u4, natV l, u6, u7, u8, u9, u10, u11, u12, u13, u14, u15, u16, u17, u18, u19, u20, u21, u22, u23, u24, u25, u26, u27, u28, u29, u30, u31, u32, u33, u34, u35, u36, u37, u38, u39, u40, u41, u42, u43, u44, u45, u46, u47, u48, u49, u50], defers := [] }) ∧ Par E w' v' k' st' ∧ Moved E.p w v kvs w' v' k' ∧ rowMore F E.s m r l st' = RES
set_option maxRecDepth 100000 in
set_option maxHeartbeats 2000000 in
theorem row_more {F : FW} {n : Nat} (hR : ∀ m, m ≤ n → DoesRow F m) {E : Env} {w : World} {v : Value} {kvs : List Value} {r : Nat} (h1 : 1 ≤ r) (h5 : r ≤ 5) (RES : Res Nat) (hne : RES ≠ .out) (l : Nat) (st1 : St) (hc : Calls Tryz.prog 165 #[ptr E.p, natV (r + 1)] w (PostN E w v kvs (.ok l st1))) (hres : rowMore F E.s n r l st1 = RES) :
    Calls Tryz.prog 165 #[ptr E.p, natV r] w (PostN E w v kvs RES) := by
  have hr' : (r : Int) ≤ 5 := by omega
  have hmf := mf
  go_enter Tryz.func165, Tryz.ntmps165
  go_wp2
  refine wp_scope_jumps 0 (JRow F E n r RES w v kvs) (fun a' w' => leftIn E.p w') rfl ?_ ?_
  · obtain ⟨m, hmn, HRES⟩ : ∃ m, m ≤ n ∧ Hid (rowMore F E.s m r l st1 = RES) := ⟨n, Nat.le_refl _, hres⟩
    unfold PostN at hc
    dsimp only at hc
    clear hres
    go_wp2_with (go_at_call 165; refine Calls.mono (by exact hc) ?_; rintro e w1 ⟨rfl, v1, k1, hp1, hm1⟩)
    go_step3
    clear hc

    obtain ⟨m, rfl⟩ : ∃ m', m = m' + 1 := by
      cases m with
      | zero => exact absurd (HRES.out.symm.trans (by simp only [rowMore])) hne
      | succ m => exact ⟨m, rfl⟩
    have HOPS : Hid (OpsAt w1 1) := by have := hp1.ops; rw [hp1.ogv] at this; exact this
    have HP : Hid (Par E w1 v1 k1 st1 ∧ Moved E.p w v kvs w1 v1 k1) := ⟨hp1, hm1⟩
    have hl1 := hp1.lt
    have HH : Hid (∀ W, Below w1.heap.size w1 W → ∀ x : ByteArray, Calls Tryz.prog 91 #[ptr E.p, .string x] W fun e w' => e = .returned (.bool (has E.s x.toList st1)) ∧ Below W.heap.size W w') := fun W hW x => has_par (hp1.below hW) x
    clear hp1 hm1
    go_wp2_with (refine ops_step HOPS.out rfl rfl rfl ?_)
    go_loopw [5, 19] (fun t i wr => ∃ k : Nat, k ≤ 18 ∧ t = natV l ∧ i = .int .i64 k ∧ Hid (NoOp (txs E.s st1) r k ∧ Below w1.heap.size w1 wr)) (fun _ i _ => 18 - (intOf i).toNat)
    case atStart => exact ⟨0, by omega, rfl, rfl, fun j o hj => by omega, by first | exact Below.refl _ _ | exact (Below.refl _ _).drew⟩
    case round =>
      clear HOPS
      obtain ⟨k, hk, rfl, rfl, hr0⟩ := hrel
      by_cases hlt : k < 18
      · have ix := ops_index hlt
        have hlt' : (k : Int) < 18 := by omega
        have hH := HH.out
        have hsg : (⟨(opAtN k).1.toArray⟩ : ByteArray).toList = (opAtN k).1 := by rw [Lib.toList_data]
        by_cases h1 : (opAtN k).2.1 = r
        · have hH2 : Hid (∀ W, Below w1.heap.size w1 W → Calls Tryz.prog 91 #[ptr E.p, .string ⟨(opAtN k).1.toArray⟩] W fun e w' => e = .returned (.bool (txs E.s st1 == (opAtN k).1)) ∧ Below W.heap.size W w') := fun W hW => by
            have := hH W hW ⟨(opAtN k).1.toArray⟩
            rw [hsg] at this
            exact this
          clear hH hsg
          rw [h1] at ix
          by_cases h2 : (txs E.s st1 == (opAtN k).1) = true
          · have hOP := noop_here hr0.out.1 hlt h1 h2
            rw [h2] at hH2
            have hRE := HRES.out
            simp only [rowMore, hOP] at hRE
            have hgd : Good E.s (tl st1).toks := good_txs HP.out.1.good (by rw [eq_of_beq h2]; exact opN_ne hlt)
            have HPASS : Hid (∀ W, Below w1.heap.size w1 W → Calls Tryz.prog 93 #[ptr E.p] W fun e w' => e = .returned (.int .i64 ((hd st1).2.1 : Int)) ∧ Kept E.p W w' ∧ Par E w' v1 k1 (tl st1)) := fun W hW => pass_par (HP.out.1.below hW) hgd
            have hrn : row F E.s m (r + 1) (tl st1) ≠ .out := bind_ne (by rw [hRE]; exact hne)
            have HROW : Hid (∀ W, Par E W v1 k1 (tl st1) → Calls Tryz.prog 165 #[ptr E.p, natV (r + 1)] W (PostN E W v1 k1 (row F E.s m (r + 1) (tl st1)))) := fun W hW => hR m (by omega) E W v1 k1 (tl st1) (r + 1) (by omega) (by omega) hW hrn
            have hW4 := went_tl (txs_ne (s := E.s) (st := st1) (by rw [eq_of_beq h2]; exact opN_ne hlt))
            have HWE : Hid (∀ g st4, row F E.s m (r + 1) (tl st1) = .ok g st4 → Went 1 st1 st4) := fun g st4 hs => hW4.trans ((went_expr F E.s m).1 _ _ _ _ hs)
            have HLT : Hid (w1.heap.size ≤ wr.heap.size) := hr0.out.2.size
            have HBR : Hid (Below w1.heap.size w1 wr) := hr0.out.2
            clear hr0 hOP hgd hW4 h1 h2
            generalize (hd st1).2.1 = y at hRE HPASS
            generalize (opAtN k).2.2.1 = q2 at ix hRE
            generalize (opAtN k).2.2.2 = q3 at ix hRE
            generalize (opAtN k).1 = q0 at ix hH2
            generalize hq : row F E.s m (r + 1) (tl st1) = q at hRE HROW HWE
            unfold PostN at HROW
            clear hrn hq
            cases q with
            | out => exact absurd hRE.symm hne
            | err c p =>
              have HRE : Hid (Res.err c p = RES) := hRE
              clear hRE
              dsimp only at HROW
              go_wp2_with (first | (go_at_call 91; refine (hH2.out _ (by exact HBR.out.alloc HLT.out _)).mono ?_; rintro e w2 ⟨rfl, hb2⟩; have hw2 : Below w1.heap.size w1 w2 := (HBR.out.alloc HLT.out _).trans (hb2.mono (by have := HLT.out; simp; omega)); have BX : Box w2 wr.heap.size [.string ⟨q0.toArray⟩, .int .i64 (r : Int), .int .u8 (q2 : Int), .int .u8 (q3 : Int)] := (Box.new wr [.string ⟨q0.toArray⟩, .int .i64 (r : Int), .int .u8 (q2 : Int), .int .u8 (q3 : Int)] 267).below hb2) | (go_at_call 93; refine (HPASS.out _ hw2).mono ?_; rintro e w3 ⟨rfl, hk3, hp3⟩; have BX3 := BX.kept hk3 (by have := HLT.out; omega)) | (go_at_call 165; refine Calls.mono (by exact HROW.out _ hp3) ?_; rintro e w4 ⟨rfl, v4, k4, hm4⟩; unfold gaveUp))
              rw [← HRE.out]
              exact ⟨rfl, rfl, v4, k4, ((HP.out.2.below hw2).kept hk3).trans hm4⟩
            | ok g st4 =>
              have HRE : Hid (rowMore F E.s m r st4.nodes.length { st4 with nodes := st4.nodes ++ [⟨q2, y, ⟨#[]⟩, 0, q3, 0, 0, [l, g]⟩] } = RES) := hRE
              clear hRE
              dsimp only at HROW
              go_wp2_with (first | (go_at_call 91; refine (hH2.out _ (by exact HBR.out.alloc HLT.out _)).mono ?_; rintro e w2 ⟨rfl, hb2⟩; have hw2 : Below w1.heap.size w1 w2 := (HBR.out.alloc HLT.out _).trans (hb2.mono (by have := HLT.out; simp; omega)); have BX : Box w2 wr.heap.size [.string ⟨q0.toArray⟩, .int .i64 (r : Int), .int .u8 (q2 : Int), .int .u8 (q3 : Int)] := (Box.new wr [.string ⟨q0.toArray⟩, .int .i64 (r : Int), .int .u8 (q2 : Int), .int .u8 (q3 : Int)] 267).below hb2) | (go_at_call 93; refine (HPASS.out _ hw2).mono ?_; rintro e w3 ⟨rfl, hk3, hp3⟩; have BX3 := BX.kept hk3 (by have := HLT.out; omega)) | (go_at_call 165; refine Calls.mono (by exact HROW.out _ hp3) ?_; rintro e w4 ⟨rfl, v4, k4, hp4, hm4⟩; have BX4 := BX3.moved hm4 (by have := HLT.out; omega) (HP.out.1.off HLT.out).1; have y2 := BX4.cell 2 _ rfl; have y3 := BX4.cell 3 _ rfl; have hlw := BX4.lt))
              have hM4 : Moved E.p w v kvs w4 v4 k4 := ((HP.out.2.below hw2).kept hk3).trans hm4
              have hB4 : Below w4.heap.size w4 (w4.alloc (.cells (ints [l, g]).toArray 3)) := (Below.refl _ _).alloc (Nat.le_refl _) _
              have hWE := HWE.out g st4 rfl
              have hput : Calls Tryz.prog 100 #[ptr E.p, .agg #[.int .u8 (q2 : Int), natV y, .string ⟨#[]⟩, .int .u8 0, .int .u8 (q3 : Int), .int .u64 0, .int .i64 0, .slice (some ⟨w4.heap.size, 0, none⟩) 2 2]] (w4.alloc (.cells (ints [l, g]).toArray 3)) (PostN E w v kvs (putP ⟨q2, y, ⟨#[]⟩, 0, q3, 0, 0, [l, g]⟩ st4)) :=
                put_node (hp4.below hB4) (hM4.below hB4) ⟨q2, y, ⟨#[]⟩, 0, q3, 0, 0, [l, g]⟩ (some ⟨w4.heap.size, 0, none⟩) 2 2 (kid_new hp4.bs [l, g] (by simp [maxLen])) (fun g' hg' => by
                  simp [Value.ownBlock] at hg'
                  subst hg'
                  exact ⟨hM4.size, fun x hx hc => by have := (hp4.nds.blocks x hx _ hc).2; omega⟩) (by have := hWE.sum; have := HP.out.1.sum; omega)
              refine Calls.mono (by exact hput) ?_
              rintro e w5 h5
              unfold putP PostN at h5
              obtain ⟨rfl, v5, k5, hp5, hm5⟩ := h5
              have HM : Hid (leftIn E.p w5 < leftIn E.p w1) := by
                rw [left_par hp5, left_par HP.out.1]
                have h1 := hWE.sum
                have h2 := hWE.pre.length_le
                show st4.toks.length < _
                omega
              have H5 : Hid (Par E w5 v5 k5 { st4 with nodes := st4.nodes ++ [⟨q2, y, ⟨#[]⟩, 0, q3, 0, 0, [l, g]⟩] } ∧ Moved E.p w v kvs w5 v5 k5) := ⟨hp5, hm5⟩
              clear hput hp5 hm5 hWE hM4 hB4 y2 y3 BX4
              go_wp2_with fail
              go_step3
              simp only [Exit.inBlock, Exit.then]
              exact ⟨rfl, m, _, v5, k5, _, by omega, ⟨_, _, _, _, _, _, _, _, _, _, _, _, _, _, _, _, _, _, _, _, _, _, _, _, _, _, _, _, _, _, _, _, _, _, _, _, _, _, _, _, _, _, _, _, _, _, _, _, rfl⟩, H5.out.1, H5.out.2, HRE.out⟩
          · have t2 : (txs E.s st1 == (opAtN k).1) = false := by simpa using h2
            rw [t2] at hH2
            have HN : Hid (NoOp (txs E.s st1) r (k + 1)) := noop_next hr0.out.1 hlt (by rw [t2]; simp)
            have HLT : Hid (w1.heap.size ≤ wr.heap.size) := hr0.out.2.size
            have HBR : Hid (Below w1.heap.size w1 wr) := hr0.out.2
            generalize (opAtN k).2.2.1 = q2 at ix
            generalize (opAtN k).2.2.2 = q3 at ix
            generalize (opAtN k).1 = q0 at ix hH2
            clear h1 h2 t2 hr0
            go_wp2_with (go_at_call 91; refine (hH2.out _ (by exact HBR.out.alloc HLT.out _)).mono ?_; rintro e w2 ⟨rfl, hb2⟩; have hw2 : Below w1.heap.size w1 w2 := (HBR.out.alloc HLT.out _).trans (hb2.mono (by have := HLT.out; simp; omega)); have BX : Box w2 wr.heap.size [.string ⟨q0.toArray⟩, .int .i64 (r : Int), .int .u8 (q2 : Int), .int .u8 (q3 : Int)] := (Box.new wr [.string ⟨q0.toArray⟩, .int .i64 (r : Int), .int .u8 (q2 : Int), .int .u8 (q3 : Int)] 267).below hb2)
            go_roundw
            case rel => exact ⟨k + 1, by omega, rfl, by go_num, HN.out, hw2⟩
            case measure => simp [intOf]; omega
        · have t1 : ((((opAtN k).2.1 : Nat) : Int) == (r : Int)) = false := by simp; omega
          clear hH hsg
          have HN : Hid (NoOp (txs E.s st1) r (k + 1)) := noop_next hr0.out.1 hlt (by simp [h1])
          generalize (opAtN k).2.1 = q1 at ix t1
          generalize (opAtN k).2.2.1 = q2 at ix
          generalize (opAtN k).2.2.2 = q3 at ix
          generalize (opAtN k).1 = q0 at ix
          clear h1
          go_wp2_with fail
          go_roundw
          case rel => exact ⟨k + 1, by omega, rfl, by go_num, HN.out, hr0.out.2.alloc (by have := hr0.out.2.size; omega) _⟩
          case measure => simp [intOf]; omega
      · obtain rfl : k = 18 := by omega
        have HRE : Hid (.ok l st1 = RES) := by
          have := HRES.out
          simp only [rowMore, noop_all hr0.out.1] at this
          exact this
        have HBR : Hid (Below w1.heap.size w1 wr) := hr0.out.2
        clear hr0
        go_wp2_with fail
        simp only [Exit.jump]
        go_ret
        rw [← HRE.out]
        exact ⟨rfl, v1, k1, HP.out.1.below HBR.out, HP.out.2.below HBR.out⟩

  · clear hc hres
    rintro a' w1 ⟨m, l, v1, k1, st1, hmn, ⟨u2, u3, u4, u6, u7, u8, u9, u10, u11, u12, u13, u14, u15, u16, u17, u18, u19, u20, u21, u22, u23, u24, u25, u26, u27, u28, u29, u30, u31, u32, u33, u34, u35, u36, u37, u38, u39, u40, u41, u42, u43, u44, u45, u46, u47, u48, u49, u50, rfl⟩, hp1, hm1, hres1⟩
    have HRES : Hid (rowMore F E.s m r l st1 = RES) := hres1
    clear hres1

    obtain ⟨m, rfl⟩ : ∃ m', m = m' + 1 := by
      cases m with
      | zero => exact absurd (HRES.out.symm.trans (by simp only [rowMore])) hne
      | succ m => exact ⟨m, rfl⟩
    have HOPS : Hid (OpsAt w1 1) := by have := hp1.ops; rw [hp1.ogv] at this; exact this
    have HP : Hid (Par E w1 v1 k1 st1 ∧ Moved E.p w v kvs w1 v1 k1) := ⟨hp1, hm1⟩
    have hl1 := hp1.lt
    have HH : Hid (∀ W, Below w1.heap.size w1 W → ∀ x : ByteArray, Calls Tryz.prog 91 #[ptr E.p, .string x] W fun e w' => e = .returned (.bool (has E.s x.toList st1)) ∧ Below W.heap.size W w') := fun W hW x => has_par (hp1.below hW) x
    clear hp1 hm1
    go_wp2_with (refine ops_step HOPS.out rfl rfl rfl ?_)
    go_loopw [5, 19] (fun t i wr => ∃ k : Nat, k ≤ 18 ∧ t = natV l ∧ i = .int .i64 k ∧ Hid (NoOp (txs E.s st1) r k ∧ Below w1.heap.size w1 wr)) (fun _ i _ => 18 - (intOf i).toNat)
    case atStart => exact ⟨0, by omega, rfl, rfl, fun j o hj => by omega, by first | exact Below.refl _ _ | exact (Below.refl _ _).drew⟩
    case round =>
      clear HOPS
      obtain ⟨k, hk, rfl, rfl, hr0⟩ := hrel
      by_cases hlt : k < 18
      · have ix := ops_index hlt
        have hlt' : (k : Int) < 18 := by omega
        have hH := HH.out
        have hsg : (⟨(opAtN k).1.toArray⟩ : ByteArray).toList = (opAtN k).1 := by rw [Lib.toList_data]
        by_cases h1 : (opAtN k).2.1 = r
        · have hH2 : Hid (∀ W, Below w1.heap.size w1 W → Calls Tryz.prog 91 #[ptr E.p, .string ⟨(opAtN k).1.toArray⟩] W fun e w' => e = .returned (.bool (txs E.s st1 == (opAtN k).1)) ∧ Below W.heap.size W w') := fun W hW => by
            have := hH W hW ⟨(opAtN k).1.toArray⟩
            rw [hsg] at this
            exact this
          clear hH hsg
          rw [h1] at ix
          by_cases h2 : (txs E.s st1 == (opAtN k).1) = true
          · have hOP := noop_here hr0.out.1 hlt h1 h2
            rw [h2] at hH2
            have hRE := HRES.out
            simp only [rowMore, hOP] at hRE
            have hgd : Good E.s (tl st1).toks := good_txs HP.out.1.good (by rw [eq_of_beq h2]; exact opN_ne hlt)
            have HPASS : Hid (∀ W, Below w1.heap.size w1 W → Calls Tryz.prog 93 #[ptr E.p] W fun e w' => e = .returned (.int .i64 ((hd st1).2.1 : Int)) ∧ Kept E.p W w' ∧ Par E w' v1 k1 (tl st1)) := fun W hW => pass_par (HP.out.1.below hW) hgd
            have hrn : row F E.s m (r + 1) (tl st1) ≠ .out := bind_ne (by rw [hRE]; exact hne)
            have HROW : Hid (∀ W, Par E W v1 k1 (tl st1) → Calls Tryz.prog 165 #[ptr E.p, natV (r + 1)] W (PostN E W v1 k1 (row F E.s m (r + 1) (tl st1)))) := fun W hW => hR m (by omega) E W v1 k1 (tl st1) (r + 1) (by omega) (by omega) hW hrn
            have hW4 := went_tl (txs_ne (s := E.s) (st := st1) (by rw [eq_of_beq h2]; exact opN_ne hlt))
            have HWE : Hid (∀ g st4, row F E.s m (r + 1) (tl st1) = .ok g st4 → Went 1 st1 st4) := fun g st4 hs => hW4.trans ((went_expr F E.s m).1 _ _ _ _ hs)
            have HLT : Hid (w1.heap.size ≤ wr.heap.size) := hr0.out.2.size
            have HBR : Hid (Below w1.heap.size w1 wr) := hr0.out.2
            clear hr0 hOP hgd hW4 h1 h2
            generalize (hd st1).2.1 = y at hRE HPASS
            generalize (opAtN k).2.2.1 = q2 at ix hRE
            generalize (opAtN k).2.2.2 = q3 at ix hRE
            generalize (opAtN k).1 = q0 at ix hH2
            generalize hq : row F E.s m (r + 1) (tl st1) = q at hRE HROW HWE
            unfold PostN at HROW
            clear hrn hq
            cases q with
            | out => exact absurd hRE.symm hne
            | err c p =>
              have HRE : Hid (Res.err c p = RES) := hRE
              clear hRE
              dsimp only at HROW
              go_wp2_with (first | (go_at_call 91; refine (hH2.out _ (by exact HBR.out.alloc HLT.out _)).mono ?_; rintro e w2 ⟨rfl, hb2⟩; have hw2 : Below w1.heap.size w1 w2 := (HBR.out.alloc HLT.out _).trans (hb2.mono (by have := HLT.out; simp; omega)); have BX : Box w2 wr.heap.size [.string ⟨q0.toArray⟩, .int .i64 (r : Int), .int .u8 (q2 : Int), .int .u8 (q3 : Int)] := (Box.new wr [.string ⟨q0.toArray⟩, .int .i64 (r : Int), .int .u8 (q2 : Int), .int .u8 (q3 : Int)] 267).below hb2) | (go_at_call 93; refine (HPASS.out _ hw2).mono ?_; rintro e w3 ⟨rfl, hk3, hp3⟩; have BX3 := BX.kept hk3 (by have := HLT.out; omega)) | (go_at_call 165; refine Calls.mono (by exact HROW.out _ hp3) ?_; rintro e w4 ⟨rfl, v4, k4, hm4⟩; unfold gaveUp))
              rw [← HRE.out]
              exact ⟨rfl, rfl, v4, k4, ((HP.out.2.below hw2).kept hk3).trans hm4⟩
            | ok g st4 =>
              have HRE : Hid (rowMore F E.s m r st4.nodes.length { st4 with nodes := st4.nodes ++ [⟨q2, y, ⟨#[]⟩, 0, q3, 0, 0, [l, g]⟩] } = RES) := hRE
              clear hRE
              dsimp only at HROW
              go_wp2_with (first | (go_at_call 91; refine (hH2.out _ (by exact HBR.out.alloc HLT.out _)).mono ?_; rintro e w2 ⟨rfl, hb2⟩; have hw2 : Below w1.heap.size w1 w2 := (HBR.out.alloc HLT.out _).trans (hb2.mono (by have := HLT.out; simp; omega)); have BX : Box w2 wr.heap.size [.string ⟨q0.toArray⟩, .int .i64 (r : Int), .int .u8 (q2 : Int), .int .u8 (q3 : Int)] := (Box.new wr [.string ⟨q0.toArray⟩, .int .i64 (r : Int), .int .u8 (q2 : Int), .int .u8 (q3 : Int)] 267).below hb2) | (go_at_call 93; refine (HPASS.out _ hw2).mono ?_; rintro e w3 ⟨rfl, hk3, hp3⟩; have BX3 := BX.kept hk3 (by have := HLT.out; omega)) | (go_at_call 165; refine Calls.mono (by exact HROW.out _ hp3) ?_; rintro e w4 ⟨rfl, v4, k4, hp4, hm4⟩; have BX4 := BX3.moved hm4 (by have := HLT.out; omega) (HP.out.1.off HLT.out).1; have y2 := BX4.cell 2 _ rfl; have y3 := BX4.cell 3 _ rfl; have hlw := BX4.lt))
              have hM4 : Moved E.p w v kvs w4 v4 k4 := ((HP.out.2.below hw2).kept hk3).trans hm4
              have hB4 : Below w4.heap.size w4 (w4.alloc (.cells (ints [l, g]).toArray 3)) := (Below.refl _ _).alloc (Nat.le_refl _) _
              have hWE := HWE.out g st4 rfl
              have hput : Calls Tryz.prog 100 #[ptr E.p, .agg #[.int .u8 (q2 : Int), natV y, .string ⟨#[]⟩, .int .u8 0, .int .u8 (q3 : Int), .int .u64 0, .int .i64 0, .slice (some ⟨w4.heap.size, 0, none⟩) 2 2]] (w4.alloc (.cells (ints [l, g]).toArray 3)) (PostN E w v kvs (putP ⟨q2, y, ⟨#[]⟩, 0, q3, 0, 0, [l, g]⟩ st4)) :=
                put_node (hp4.below hB4) (hM4.below hB4) ⟨q2, y, ⟨#[]⟩, 0, q3, 0, 0, [l, g]⟩ (some ⟨w4.heap.size, 0, none⟩) 2 2 (kid_new hp4.bs [l, g] (by simp [maxLen])) (fun g' hg' => by
                  simp [Value.ownBlock] at hg'
                  subst hg'
                  exact ⟨hM4.size, fun x hx hc => by have := (hp4.nds.blocks x hx _ hc).2; omega⟩) (by have := hWE.sum; have := HP.out.1.sum; omega)
              refine Calls.mono (by exact hput) ?_
              rintro e w5 h5
              unfold putP PostN at h5
              obtain ⟨rfl, v5, k5, hp5, hm5⟩ := h5
              have HM : Hid (leftIn E.p w5 < leftIn E.p w1) := by
                rw [left_par hp5, left_par HP.out.1]
                have h1 := hWE.sum
                have h2 := hWE.pre.length_le
                show st4.toks.length < _
                omega
              have H5 : Hid (Par E w5 v5 k5 { st4 with nodes := st4.nodes ++ [⟨q2, y, ⟨#[]⟩, 0, q3, 0, 0, [l, g]⟩] } ∧ Moved E.p w v kvs w5 v5 k5) := ⟨hp5, hm5⟩
              clear hput hp5 hm5 hWE hM4 hB4 y2 y3 BX4
              go_wp2_with fail
              go_step3
              simp only [Exit.inBlock, Exit.then]
              exact ⟨rfl, ⟨m, _, v5, k5, _, by omega, ⟨_, _, _, _, _, _, _, _, _, _, _, _, _, _, _, _, _, _, _, _, _, _, _, _, _, _, _, _, _, _, _, _, _, _, _, _, _, _, _, _, _, _, _, _, _, _, _, _, rfl⟩, H5.out.1, H5.out.2, HRE.out⟩, HM.out⟩
          · have t2 : (txs E.s st1 == (opAtN k).1) = false := by simpa using h2
            rw [t2] at hH2
            have HN : Hid (NoOp (txs E.s st1) r (k + 1)) := noop_next hr0.out.1 hlt (by rw [t2]; simp)
            have HLT : Hid (w1.heap.size ≤ wr.heap.size) := hr0.out.2.size
            have HBR : Hid (Below w1.heap.size w1 wr) := hr0.out.2
            generalize (opAtN k).2.2.1 = q2 at ix
            generalize (opAtN k).2.2.2 = q3 at ix
            generalize (opAtN k).1 = q0 at ix hH2
            clear h1 h2 t2 hr0
            go_wp2_with (go_at_call 91; refine (hH2.out _ (by exact HBR.out.alloc HLT.out _)).mono ?_; rintro e w2 ⟨rfl, hb2⟩; have hw2 : Below w1.heap.size w1 w2 := (HBR.out.alloc HLT.out _).trans (hb2.mono (by have := HLT.out; simp; omega)); have BX : Box w2 wr.heap.size [.string ⟨q0.toArray⟩, .int .i64 (r : Int), .int .u8 (q2 : Int), .int .u8 (q3 : Int)] := (Box.new wr [.string ⟨q0.toArray⟩, .int .i64 (r : Int), .int .u8 (q2 : Int), .int .u8 (q3 : Int)] 267).below hb2)
            go_roundw
            case rel => exact ⟨k + 1, by omega, rfl, by go_num, HN.out, hw2⟩
            case measure => simp [intOf]; omega
        · have t1 : ((((opAtN k).2.1 : Nat) : Int) == (r : Int)) = false := by simp; omega
          clear hH hsg
          have HN : Hid (NoOp (txs E.s st1) r (k + 1)) := noop_next hr0.out.1 hlt (by simp [h1])
          generalize (opAtN k).2.1 = q1 at ix t1
          generalize (opAtN k).2.2.1 = q2 at ix
          generalize (opAtN k).2.2.2 = q3 at ix
          generalize (opAtN k).1 = q0 at ix
          clear h1
          go_wp2_with fail
          go_roundw
          case rel => exact ⟨k + 1, by omega, rfl, by go_num, HN.out, hr0.out.2.alloc (by have := hr0.out.2.size; omega) _⟩
          case measure => simp [intOf]; omega
      · obtain rfl : k = 18 := by omega
        have HRE : Hid (.ok l st1 = RES) := by
          have := HRES.out
          simp only [rowMore, noop_all hr0.out.1] at this
          exact this
        have HBR : Hid (Below w1.heap.size w1 wr) := hr0.out.2
        clear hr0
        go_wp2_with fail
        simp only [Exit.jump]
        go_ret
        rw [← HRE.out]
        exact ⟨rfl, v1, k1, HP.out.1.below HBR.out, HP.out.2.below HBR.out⟩

set_option maxRecDepth 100000 in
theorem row_any {F : FW} {n : Nat} (hR : ∀ m, m ≤ n → DoesRow F m) (hU : DoesUnary F n) : DoesRow F (n + 1) := by
  intro E w v kvs st r h1 h6 h hne
  simp only [row] at hne ⊢
  by_cases hr : 5 < r
  · rw [if_pos hr] at hne ⊢
    have hc := hU E w v kvs st h hne
    have hr' : (5 : Int) < (r : Int) := by omega
    generalize unary F E.s n st = q at hc hne ⊢
    clear h hR hU
    unfold PostN at hc ⊢
    cases q with
    | out => exact absurd rfl hne
    | err c q =>
      dsimp only at hc ⊢
      go_enter Tryz.func165, Tryz.ntmps165
      go_wp2
      go_step3
      go_wp2_with (go_at_call 171; refine hc.mono ?_; rintro e w1 ⟨rfl, hz⟩; unfold gaveUp)
      exact ⟨rfl, rfl, hz⟩
    | ok a st1 =>
      dsimp only at hc ⊢
      go_enter Tryz.func165, Tryz.ntmps165
      go_wp2
      go_step3
      go_wp2_with (go_at_call 171; refine hc.mono ?_; rintro e w1 ⟨rfl, hz⟩)
      rw [Exit.noGoto_ret]
      go_ret
      exact ⟨rfl, hz⟩
  · rw [if_neg hr] at hne ⊢
    have hc := hR n (Nat.le_refl _) E w v kvs st (r + 1) (by omega) (by omega) h (bind_ne hne)
    have hr' : (r : Int) ≤ 5 := by omega
    generalize row F E.s n (r + 1) st = q at hc hne ⊢
    cases q with
    | out => exact absurd rfl hne
    | err c q =>
      unfold PostN at hc ⊢
      clear h hR hU
      dsimp only [Res.bind] at hc ⊢
      go_enter Tryz.func165, Tryz.ntmps165
      go_wp2
      go_step3
      go_wp2_with (go_at_call 165; refine Calls.mono (by exact hc) ?_; rintro e w1 ⟨rfl, hz⟩; unfold gaveUp)
      exact ⟨rfl, rfl, hz⟩
    | ok a st1 => exact row_more hR h1 (by omega) _ hne a st1 hc rfl
end Go.Proofs.YtbejgachdhfakaaGreatDoor
