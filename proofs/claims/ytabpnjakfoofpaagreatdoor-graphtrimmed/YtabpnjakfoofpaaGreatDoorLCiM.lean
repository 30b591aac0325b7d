/- Lists copied: numbers, types, arrays. -/
import Derived.Test.YtabpnjakfoofpaaGreatDoorGCp0M
import Derived.Deep.Upon
import Derived.ArgAppend
namespace Go.Proofs.YtabpnjakfoofpaaGreatDoor
open Go.RowKit

theorem wpList_append_none {P : Program} (w : World) {ops : Array Oper} {rest : List Oper} {o : Oper} {a : Act} {Q : Exit → Act → World → Prop}
    (hg : o.guard = none) (s x : Operand) (t : TypeId) (hop : o.op = Op.call { callee := Callee.builtin Builtin.append, args := #[s, x], argTypes := #[t, t] }) (v y : Value) (hs : a.eval s = v) (hx : a.eval x = y)
    (hrun : (Builtin.append_ #[t, t] o.type #[v, y]).run P w = .ok v w) (hK : wpList P ops Q rest (a.put o.dst v) w) : wpList P ops Q (o :: rest) a w := by
  refine wpList_plain hg fun K hK' => ?_
  unfold Oper.wp
  simp [execOp, hop, resolve, invoke, builtin, hs, hx, hrun, Result.andThen]
  exact hK' _ _ hK
theorem RowAt.none0 {w : World} {n c : Nat} {cs : List Value} (h : RowAt w (.slice none n c) n cs) : n = 0 := by
  obtain ⟨a', c', hv, _, hc⟩ := h
  injection hv with e1 e2 e3
  subst e1
  rcases hc with h0 | ⟨g, o, e, _⟩
  · exact h0
  · cases e
theorem none_copyI (a : Option Addr) (c2 : Nat) (W : World) : (Builtin.append_ #[22, 22] 22 #[.slice none 0 0, .slice a 0 c2]).run Tryz.prog W = .ok (.slice none 0 0) W := by
  obtain ⟨i0, hi0, hz0, hz1, hz2⟩ := info_parts infoI
  refine run_append_nothing W 22 22 22 3 i0 Tryz.underlying22 hi0 none 0 0 (Nat.le_refl _) _ ?_
  refine ⟨.inl ⟨_, Tryz.underlying22⟩, fun w' => by simp [Builtin.lenOf], ?_, ?_, by simp, by simp⟩
  · cases a with
    | none => simp [Builtin.firstCells]
    | some a => simp [Builtin.firstCells]; first | rfl | simp [loadCells]
  · cases a with
    | none => simp [Builtin.firstCells]
    | some a => simp [Builtin.firstCells]; first | rfl | simp [loadCells]
set_option maxRecDepth 100000 in
set_option maxHeartbeats 1000000 in
theorem copyI_any {w : World} {a : Option Addr} {n c : Nat} {cs : List Value} (h : RowAt w (.slice a n c) n cs) (hl : cs.length = n * 1) (hn : n ≤ 1000000) (h1 : ∀ u ∈ cs, u.oneCell' = true) :
    Calls Tryz.prog 65 #[.slice a n c] w fun e w' => ∃ v', e = .returned v' ∧ w'.ownsRow w.heap.size 3 1 v' n cs ∧ Below w.heap.size w w' := by
  by_cases h0 : n = 0
  · subst h0
    have hcs : cs = [] := List.eq_nil_of_length_eq_zero (by simpa using hl)
    subst hcs
    have hap := none_copyI a c
    clear h hl hn h1
    go_enter Tryz.func65, Tryz.ntmps65
    go_wp2_with (at_builtin; go_loud (refine wpList_append_none _ rfl _ _ 22 rfl (.slice none 0 0) (.slice a 0 c) rfl rfl (hap _) ?_))
    go_ret
    exact ⟨_, rfl, World.ownsRow_nil _ _ _ _, Below.refl _ _⟩
  · cases a with
    | none => exact absurd h.none0 h0
    | some ad =>
      obtain ⟨i0, hi0, hz0, hz1, hz2⟩ := info_parts infoI
      have HC : Hid (∀ j u, cs[j]? = some u → w.cell? (ad.add j) = some u) := by
        intro j u hj
        obtain ⟨a', c', hv, _, hc⟩ := h
        injection hv with e1 e2 e3
        subst e1
        rcases hc with h0' | ⟨g, o, e, hg, hc⟩
        · exact absurd h0' h0
        · cases e
          rw [Addr.add_lit]
          exact hc j u hj
      have HL : Hid (cs.length = n * 1) := hl
      have H1 : Hid (∀ u ∈ cs, u.oneCell' = true) := h1
      have HN : Hid (n ≤ 1000000) := hn
      clear h hl hn h1
      go_enter Tryz.func65, Tryz.ntmps65
      go_wp2_with (at_builtin; go_loud (refine wpList_append_own_at _ rfl _ _ 22 rfl w.heap.size 3 i0 (.int .i64 0) 1 8 Tryz.underlying22 hi0 hz0 hz1 hz2 rfl (by decide) (.slice none 0 0) 0 [] rfl (World.ownsRow_nil _ _ _ _) ad n c cs rfl HL.out HC.out H1.out ?c3 ?c4 ?c5 ?_))
      case c3 => have := HN.out; unfold maxLen; omega
      case c4 => have := HN.out; omega
      case c5 => exact Nat.le_refl _
      intro v2 w2 ho hg2 _ hat
      have HQ : Hid (w2.ownsRow w.heap.size 3 1 v2 n cs ∧ Below w.heap.size w w2) := ⟨by simpa using ho, below_grown (Below.refl _ _) hg2 (fun g hg => by simp [Value.ownBlock] at hg)⟩
      clear ho hg2 hat
      go_wp2
      go_ret
      exact ⟨v2, rfl, HQ.out.1, HQ.out.2⟩
theorem info_copyT : (Tryz.prog.info? 23).map (fun i => (i.zero, i.size, i.bytes)) = some (some (.int .u8 0), 1, 1) := by kernel_rfl
theorem none_copyT (a : Option Addr) (c2 : Nat) (W : World) : (Builtin.append_ #[24, 24] 24 #[.slice none 0 0, .slice a 0 c2]).run Tryz.prog W = .ok (.slice none 0 0) W := by
  obtain ⟨i0, hi0, hz0, hz1, hz2⟩ := info_parts info_copyT
  refine run_append_nothing W 24 24 24 23 i0 Tryz.underlying24 hi0 none 0 0 (Nat.le_refl _) _ ?_
  refine ⟨.inl ⟨_, Tryz.underlying24⟩, fun w' => by simp [Builtin.lenOf], ?_, ?_, by simp, by simp⟩
  · cases a with
    | none => simp [Builtin.firstCells]
    | some a => simp [Builtin.firstCells]; first | rfl | simp [loadCells]
  · cases a with
    | none => simp [Builtin.firstCells]
    | some a => simp [Builtin.firstCells]; first | rfl | simp [loadCells]
set_option maxRecDepth 100000 in
set_option maxHeartbeats 1000000 in
theorem copyT_any {w : World} {a : Option Addr} {n c : Nat} {cs : List Value} (h : RowAt w (.slice a n c) n cs) (hl : cs.length = n * 1) (hn : n ≤ 1000000) (h1 : ∀ u ∈ cs, u.oneCell' = true) :
    Calls Tryz.prog 66 #[.slice a n c] w fun e w' => ∃ v', e = .returned v' ∧ w'.ownsRow w.heap.size 23 1 v' n cs ∧ Below w.heap.size w w' := by
  by_cases h0 : n = 0
  · subst h0
    have hcs : cs = [] := List.eq_nil_of_length_eq_zero (by simpa using hl)
    subst hcs
    have hap := none_copyT a c
    clear h hl hn h1
    go_enter Tryz.func66, Tryz.ntmps66
    go_wp2_with (at_builtin; go_loud (refine wpList_append_none _ rfl _ _ 24 rfl (.slice none 0 0) (.slice a 0 c) rfl rfl (hap _) ?_))
    go_ret
    exact ⟨_, rfl, World.ownsRow_nil _ _ _ _, Below.refl _ _⟩
  · cases a with
    | none => exact absurd h.none0 h0
    | some ad =>
      obtain ⟨i0, hi0, hz0, hz1, hz2⟩ := info_parts info_copyT
      have HC : Hid (∀ j u, cs[j]? = some u → w.cell? (ad.add j) = some u) := by
        intro j u hj
        obtain ⟨a', c', hv, _, hc⟩ := h
        injection hv with e1 e2 e3
        subst e1
        rcases hc with h0' | ⟨g, o, e, hg, hc⟩
        · exact absurd h0' h0
        · cases e
          rw [Addr.add_lit]
          exact hc j u hj
      have HL : Hid (cs.length = n * 1) := hl
      have H1 : Hid (∀ u ∈ cs, u.oneCell' = true) := h1
      have HN : Hid (n ≤ 1000000) := hn
      clear h hl hn h1
      go_enter Tryz.func66, Tryz.ntmps66
      go_wp2_with (at_builtin; go_loud (refine wpList_append_own_at _ rfl _ _ 24 rfl w.heap.size 23 i0 (.int .u8 0) 1 1 Tryz.underlying24 hi0 hz0 hz1 hz2 rfl (by decide) (.slice none 0 0) 0 [] rfl (World.ownsRow_nil _ _ _ _) ad n c cs rfl HL.out HC.out H1.out ?c3 ?c4 ?c5 ?_))
      case c3 => have := HN.out; unfold maxLen; omega
      case c4 => have := HN.out; omega
      case c5 => exact Nat.le_refl _
      intro v2 w2 ho hg2 _ hat
      have HQ : Hid (w2.ownsRow w.heap.size 23 1 v2 n cs ∧ Below w.heap.size w w2) := ⟨by simpa using ho, below_grown (Below.refl _ _) hg2 (fun g hg => by simp [Value.ownBlock] at hg)⟩
      clear ho hg2 hat
      go_wp2
      go_ret
      exact ⟨v2, rfl, HQ.out.1, HQ.out.2⟩
theorem info_copyA : (Tryz.prog.info? 79).map (fun i => (i.zero, i.size, i.bytes)) = some (some (.agg #[.int .u8 0, .int .i64 0]), 2, 16) := by kernel_rfl
theorem none_copyA (a : Option Addr) (c2 : Nat) (W : World) : (Builtin.append_ #[25, 25] 25 #[.slice none 0 0, .slice a 0 c2]).run Tryz.prog W = .ok (.slice none 0 0) W := by
  obtain ⟨i0, hi0, hz0, hz1, hz2⟩ := info_parts info_copyA
  refine run_append_nothing W 25 25 25 79 i0 Tryz.underlying25 hi0 none 0 0 (Nat.le_refl _) _ ?_
  refine ⟨.inl ⟨_, Tryz.underlying25⟩, fun w' => by simp [Builtin.lenOf], ?_, ?_, by simp, by simp⟩
  · cases a with
    | none => simp [Builtin.firstCells]
    | some a => simp [Builtin.firstCells]; first | rfl | simp [loadCells]
  · cases a with
    | none => simp [Builtin.firstCells]
    | some a => simp [Builtin.firstCells]; first | rfl | simp [loadCells]
set_option maxRecDepth 100000 in
set_option maxHeartbeats 1000000 in
theorem copyA_any {w : World} {a : Option Addr} {n c : Nat} {cs : List Value} (h : RowAt w (.slice a n c) n cs) (hl : cs.length = n * 2) (hn : n ≤ 1000000) (h1 : ∀ u ∈ cs, u.oneCell' = true) :
    Calls Tryz.prog 67 #[.slice a n c] w fun e w' => ∃ v', e = .returned v' ∧ w'.ownsRow w.heap.size 79 2 v' n cs ∧ Below w.heap.size w w' := by
  by_cases h0 : n = 0
  · subst h0
    have hcs : cs = [] := List.eq_nil_of_length_eq_zero (by simpa using hl)
    subst hcs
    have hap := none_copyA a c
    clear h hl hn h1
    go_enter Tryz.func67, Tryz.ntmps67
    go_wp2_with (at_builtin; go_loud (refine wpList_append_none _ rfl _ _ 25 rfl (.slice none 0 0) (.slice a 0 c) rfl rfl (hap _) ?_))
    go_ret
    exact ⟨_, rfl, World.ownsRow_nil _ _ _ _, Below.refl _ _⟩
  · cases a with
    | none => exact absurd h.none0 h0
    | some ad =>
      obtain ⟨i0, hi0, hz0, hz1, hz2⟩ := info_parts info_copyA
      have HC : Hid (∀ j u, cs[j]? = some u → w.cell? (ad.add j) = some u) := by
        intro j u hj
        obtain ⟨a', c', hv, _, hc⟩ := h
        injection hv with e1 e2 e3
        subst e1
        rcases hc with h0' | ⟨g, o, e, hg, hc⟩
        · exact absurd h0' h0
        · cases e
          rw [Addr.add_lit]
          exact hc j u hj
      have HL : Hid (cs.length = n * 2) := hl
      have H1 : Hid (∀ u ∈ cs, u.oneCell' = true) := h1
      have HN : Hid (n ≤ 1000000) := hn
      clear h hl hn h1
      go_enter Tryz.func67, Tryz.ntmps67
      go_wp2_with (at_builtin; go_loud (refine wpList_append_own_at _ rfl _ _ 25 rfl w.heap.size 79 i0 (.agg #[.int .u8 0, .int .i64 0]) 2 16 Tryz.underlying25 hi0 hz0 hz1 hz2 rfl (by decide) (.slice none 0 0) 0 [] rfl (World.ownsRow_nil _ _ _ _) ad n c cs rfl HL.out HC.out H1.out ?c3 ?c4 ?c5 ?_))
      case c3 => have := HN.out; unfold maxLen; omega
      case c4 => have := HN.out; omega
      case c5 => exact Nat.le_refl _
      intro v2 w2 ho hg2 _ hat
      have HQ : Hid (w2.ownsRow w.heap.size 79 2 v2 n cs ∧ Below w.heap.size w w2) := ⟨by simpa using ho, below_grown (Below.refl _ _) hg2 (fun g hg => by simp [Value.ownBlock] at hg)⟩
      clear ho hg2 hat
      go_wp2
      go_ret
      exact ⟨v2, rfl, HQ.out.1, HQ.out.2⟩
end Go.Proofs.YtabpnjakfoofpaaGreatDoor
/- An instruction copied. -/
namespace Go.Proofs.YtabpnjakfoofpaaGreatDoor
open Go.RowKit

theorem ints_one (l : List Int) : ∀ u ∈ l.map intV, u.oneCell' = true := fun u hu => by obtain ⟨x, _, rfl⟩ := List.mem_map.1 hu; rfl
/-- six cells of a block are told -/
abbrev setSix (W : World) (r : Nat) (u0 u1 u2 u3 u4 u5 : Value) : World := (((((W.setCell ⟨r, 0, none⟩ u0).setCell ⟨r, 1, none⟩ u1).setCell ⟨r, 2, none⟩ u2).setCell ⟨r, 3, none⟩ u3).setCell ⟨r, 4, none⟩ u4).setCell ⟨r, 5, none⟩ u5
theorem six_end {w W : World} {r : Nat} {t : TypeId} {z0 z1 z2 z3 z4 z5 : Value} (hb : Below w.heap.size w W) (hr : w.heap.size ≤ r) (ho : W.heap[r]? = some (.cells #[z0, z1, z2, z3, z4, z5] t (0, 0))) (u0 u1 u2 u3 u4 u5 : Value) :
    Below w.heap.size w (setSix W r u0 u1 u2 u3 u4 u5) ∧ (setSix W r u0 u1 u2 u3 u4 u5).heap[r]? = some (.cells #[u0, u1, u2, u3, u4, u5] t (0, 0)) ∧ ∀ k, k ≠ r → (setSix W r u0 u1 u2 u3 u4 u5).heap[k]? = W.heap[k]? := by
  refine ⟨((((((hb.setCell (p := ⟨r, 0, none⟩) hr _).setCell (p := ⟨r, 1, none⟩) hr _).setCell (p := ⟨r, 2, none⟩) hr _).setCell (p := ⟨r, 3, none⟩) hr _).setCell (p := ⟨r, 4, none⟩) hr _).setCell (p := ⟨r, 5, none⟩) hr _), ?_, fun k hk => ?_⟩
  · exact hsc (i := 5) (hsc (i := 4) (hsc (i := 3) (hsc (i := 2) (hsc (i := 1) (hsc (i := 0) ho u0) u1) u2) u3) u4) u5
  · have st : ∀ (V : World) (j : Nat) (u : Value), (V.setCell ⟨r, j, none⟩ u).heap[k]? = V.heap[k]? := fun V j u => Below.heap_setCell V ⟨r, j, none⟩ u k (by show k ≠ r; exact hk)
    unfold setSix
    rw [st, st, st, st, st, st]
set_option maxRecDepth 100000 in
set_option maxHeartbeats 2000000 in
theorem copyIns_any (x : In) (av : Value) (w : World) (h : IntsAt w av x.args) (hl : x.args.length ≤ 1000000) :
    Calls Tryz.prog 125 #[inV x av] w fun e w' => ∃ av', e = .returned (inV x av') ∧ OwnI w' w.heap.size av' x.args ∧ Below w.heap.size w w' := by
  obtain ⟨k, op, dst, args, bits, ref⟩ := x
  dsimp only at h hl ⊢
  obtain ⟨a, c, rfl, _⟩ := h.form
  have HCI : Hid (∀ W, Below w.heap.size w W → Calls Tryz.prog 65 #[.slice a args.length c] W fun e w' => ∃ v', e = .returned v' ∧ w'.ownsRow W.heap.size 3 1 v' args.length (args.map intV) ∧ Below W.heap.size W w') := fun W hb => copyI_any (h.below hb) (by simp) hl (ints_one _)
  have HL : Hid (args.length ≤ 1000000) := hl
  have HB0 : Hid (Box ((w.alloc (.cells #[.int .u8 k, .int .u8 op, .int .i64 dst, .slice a args.length c, .int .u64 bits, .int .i64 ref] 58)).alloc (.cells #[.int .u8 0, .int .u8 0, .int .i64 0, .slice none 0 0, .int .u64 0, .int .i64 0] 58)) w.heap.size [.int .u8 k, .int .u8 op, .int .i64 dst, .slice a args.length c, .int .u64 bits, .int .i64 ref] ∧ Box ((w.alloc (.cells #[.int .u8 k, .int .u8 op, .int .i64 dst, .slice a args.length c, .int .u64 bits, .int .i64 ref] 58)).alloc (.cells #[.int .u8 0, .int .u8 0, .int .i64 0, .slice none 0 0, .int .u64 0, .int .i64 0] 58)) (w.heap.size + 1) [.int .u8 0, .int .u8 0, .int .i64 0, .slice none 0 0, .int .u64 0, .int .i64 0] ∧ Below w.heap.size w ((w.alloc (.cells #[.int .u8 k, .int .u8 op, .int .i64 dst, .slice a args.length c, .int .u64 bits, .int .i64 ref] 58)).alloc (.cells #[.int .u8 0, .int .u8 0, .int .i64 0, .slice none 0 0, .int .u64 0, .int .i64 0] 58))) := by
    refine ⟨(Box.new w [.int .u8 k, .int .u8 op, .int .i64 dst, .slice a args.length c, .int .u64 bits, .int .i64 ref] 58).below (below_alloc (Below.refl _ _) _), ?_, below_alloc (below_alloc (Below.refl _ _) _) _⟩
    have h9 := Box.new (w.alloc (.cells #[.int .u8 k, .int .u8 op, .int .i64 dst, .slice a args.length c, .int .u64 bits, .int .i64 ref] 58)) [.int .u8 0, .int .u8 0, .int .i64 0, .slice none 0 0, .int .u64 0, .int .i64 0] 58
    rwa [show (w.alloc (.cells #[.int .u8 k, .int .u8 op, .int .i64 dst, .slice a args.length c, .int .u64 bits, .int .i64 ref] 58)).heap.size = w.heap.size + 1 by simp] at h9
  have HOB : Hid (∀ W, Below (w.heap.size + 2) ((w.alloc (.cells #[.int .u8 k, .int .u8 op, .int .i64 dst, .slice a args.length c, .int .u64 bits, .int .i64 ref] 58)).alloc (.cells #[.int .u8 0, .int .u8 0, .int .i64 0, .slice none 0 0, .int .u64 0, .int .i64 0] 58)) W → W.heap[w.heap.size + 1]? = some (.cells #[.int .u8 0, .int .u8 0, .int .i64 0, .slice none 0 0, .int .u64 0, .int .i64 0] 58 (0, 0))) := fun W hb => by
    rw [hb.block (w.heap.size + 1) (by omega)]
    have e : (w.alloc (.cells #[.int .u8 k, .int .u8 op, .int .i64 dst, .slice a args.length c, .int .u64 bits, .int .i64 ref] 58)).heap.size = w.heap.size + 1 := by simp
    have h9 := heap_alloc_new (w.alloc (.cells #[.int .u8 k, .int .u8 op, .int .i64 dst, .slice a args.length c, .int .u64 bits, .int .i64 ref] 58)) (.cells #[.int .u8 0, .int .u8 0, .int .i64 0, .slice none 0 0, .int .u64 0, .int .i64 0] 58)
    rw [e] at h9
    exact h9
  have HSZ : Hid (∀ o o' : Obj, ((w.alloc o).alloc o').heap.size = w.heap.size + 2) := fun o o' => by simp
  clear h hl
  generalize hal : args.length = al at *
  have HAL : Hid _ := hal
  clear hal
  go_enter Tryz.func125, Tryz.ntmps125
  go_wp2_with (go_at_call 65; go_loud (refine Calls.mono (by exact HCI.out _ HB0.out.2.2) ?_; rintro e w2 ⟨v2, rfl, ho2, hb2⟩; obtain ⟨ya, yc, rfl⟩ : ∃ ya yc, v2 = .slice ya al yc := (by obtain ⟨ya, yc, hv, _⟩ := own_blk (Nat.le_refl _) ho2; exact ⟨ya, yc, hv⟩); obtain ⟨e0, e1, e2, e3, e4, e5⟩ := box6 (HB0.out.1.below hb2); have ef := (HB0.out.1.below hb2).fz 3; have HX1 := HB0.out.2.1.below hb2; obtain ⟨g0, g1, g2, g3, g4, g5⟩ := box6 HX1; have gf := HX1.fz; have hwl := (HB0.out.1.below hb2).lt; have hwl2 := HX1.lt; have HO2 : Hid _ := ho2; have HB2 : Hid _ := hb2; clear ho2 hb2 HX1))
  have hoi := HOB.out w2 (by have h9 := HB2.out; rw [HSZ.out] at h9; exact h9)
  have hoi2 : (w2.setCell ⟨w.heap.size, 3, none⟩ (.slice ya al yc)).heap[w.heap.size + 1]? = _ := (Below.heap_setCell w2 ⟨w.heap.size, 3, none⟩ (.slice ya al yc) (w.heap.size + 1) (by show w.heap.size + 1 ≠ w.heap.size; omega)).trans hoi
  have hbw : Below w.heap.size w (w2.setCell ⟨w.heap.size, 3, none⟩ (.slice ya al yc)) := (below_trans HB0.out.2.2 HB2.out).setCell (p := ⟨w.heap.size, 3, none⟩) (Nat.le_refl _) _
  obtain ⟨q1, q2, q3⟩ := six_end hbw (Nat.le_succ _) hoi2 (.int .u8 k) (.int .u8 op) (.int .i64 dst) (.slice ya al yc) (.int .u64 bits) (.int .i64 ref)
  refine bodyPost_ret (results_cell_row rfl _ _ (w.heap.size + 1) 58 #[.int .u8 k, .int .u8 op, .int .i64 dst, .slice ya al yc, .int .u64 bits, .int .i64 ref] _ _ rfl q2 Tryz.underlying58 rfl (by rfl)) rfl ⟨_, rfl, ?_, q1⟩
  have ho3 : w2.ownsRow w.heap.size 3 1 (.slice ya al yc) args.length (args.map intV) := by
    have h9 := HO2.out
    rw [HAL.out]
    exact own_mono h9 HB0.out.2.2.size
  refine owns_same ho3 fun g hg => ?_
  have h7 := (World.ownsRow.lt HO2.out g hg).1
  rw [HSZ.out] at h7
  rw [q3 g (by omega)]
  exact Below.heap_setCell w2 ⟨w.heap.size, 3, none⟩ (.slice ya al yc) g (by show g ≠ w.heap.size; omega)
end Go.Proofs.YtabpnjakfoofpaaGreatDoor
