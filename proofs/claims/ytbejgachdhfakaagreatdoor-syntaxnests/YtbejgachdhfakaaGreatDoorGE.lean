/- A name, an element or a call. -/
import Derived.Test.YtbejgachdhfakaaGreatDoorGD
namespace Go.Proofs.YtbejgachdhfakaaGreatDoor
open Go.RowKit

def DoesNamed (F : FW) (n : Nat) : Prop := ∀ (E : Env) (w : World) (v : Value) (kvs : List Value) (st : St), (hd st).1 = 2 → Par E w v kvs st → named F E.s n st ≠ .out → Calls Tryz.prog 183 #[ptr E.p] w (PostN E w v kvs (named F E.s n st))
set_option maxRecDepth 100000 in
set_option maxHeartbeats 1000000 in
theorem named_any {F : FW} {n : Nat} (hC : DoesCall F n) (hB : DoesBetween F n) : DoesNamed F (n + 1) := by
  intro E w v kvs st hk2 h hne
  simp only [named] at hne ⊢
  have hl := h.lt
  have hw : Below w.heap.size w (w.alloc (.cells #[.int .u8 2, .int .i64 0, .string ⟨#[]⟩, .int .u8 0, .int .u8 0, .int .u64 0, .int .i64 0, .slice none 0 0] 46)) := (Below.refl _ _).alloc (Nat.le_refl _) _
  have hN := name_par (h.below hw)
  have HMA : Hid (Moved E.p w v kvs (w.alloc (.cells #[.int .u8 2, .int .i64 0, .string ⟨#[]⟩, .int .u8 0, .int .u8 0, .int .u64 0, .int .i64 0, .slice none 0 0] 46)) v kvs) := (Kept.of_below hw).moved v kvs
  have HOFF : Hid (Off w.heap.size v kvs) := h.off (Nat.le_refl _)
  have hnm : nameP E.s st = .ok (txB E.s (hd st), (hd st).2.1) (tl st) := by unfold nameP; rw [if_pos hk2]
  rw [hnm] at hN hne ⊢
  have hsum : (tl st).nodes.length + (tl st).toks.length + 1 ≤ 140000 := by
    have := (went_tl (kind_ne (st := st) (by omega))).sum
    have := h.sum
    omega
  unfold PostK at hN
  simp only [Res.bind] at hne ⊢
  dsimp only at hN
  have HN : Hid _ := hN
  clear hN
  generalize txB E.s (hd st) = nm at HN hne ⊢
  generalize (hd st).2.1 = pl at HN hne ⊢
  generalize hst1 : tl st = st1 at HN hne hsum ⊢
  have HT : Hid (∀ W, Par E W v kvs st1 → Calls Tryz.prog 95 #[ptr E.p] W fun e w' => e = .returned (.string (txB E.s (hd st1))) ∧ Below W.heap.size W w') := fun W hp => text_par hp
  have hhas : ∀ x, has E.s x st1 = ((txB E.s (hd st1)).toList == x) := fun x => rfl
  have HSUM : Hid _ := hsum
  rw [hhas, hhas] at hne
  rw [hhas, hhas]
  generalize txB E.s (hd st1) = y at HT hne ⊢
  have hmf := mf
  by_cases t1 : (y.toList == [40]) = true
  · rw [if_pos t1] at hne ⊢
    have HC : Hid (∀ W, Par E W v kvs st1 → Calls Tryz.prog 160 #[ptr E.p, natV pl, .string nm] W (PostN E W v kvs (call F E.s n pl nm st1))) := fun W hp => hC E W v kvs st1 pl nm hp hne
    generalize call F E.s n pl nm st1 = r at HC hne ⊢
    clear h hw hnm hC hB hk2 hst1 hhas hsum
    unfold PostN at HC ⊢
    cases r with
    | out => exact absurd rfl hne
    | err c q =>
      dsimp only at HC ⊢
      go_enter Tryz.func183, Tryz.ntmps183
      go_wp2_with (first | (go_at_call 44; refine Calls.mono (by exact HN.out) ?_; rintro e w1 ⟨rfl, hk1, hp1⟩; have B := (Box.new w [.int .u8 2, .int .i64 0, .string ⟨#[]⟩, .int .u8 0, .int .u8 0, .int .u64 0, .int .i64 0, .slice none 0 0] 46).kept hk1 (by omega); have e1 := B.cell 1 _ rfl; have e2 := B.cell 2 _ rfl; have f1 := B.fz 1; have f2 := B.fz 2; have bl := B.lt; have hpp := (hp1.setBox (b := w.heap.size) (by omega) HOFF.out 2 (.string nm)).setBox (b := w.heap.size) (by omega) HOFF.out 1 (natV pl); have hmv : Moved E.p w v kvs ((w1.setCell ⟨w.heap.size, 2, none⟩ (.string nm)).setCell ⟨w.heap.size, 1, none⟩ (natV pl)) v kvs := (((HMA.out.kept hk1).setBox (Nat.le_refl _) 2 _).setBox (Nat.le_refl _) 1 _); have BB := (B.set (j := 2) (by simp) (.string nm)).set (j := 1) (by simp) (natV pl); have HX : Hid _ := And.intro hpp (And.intro hmv BB); clear hpp hmv BB) | (go_at_call 95; refine Calls.mono (by exact HT.out _ HX.out.1) ?_; rintro e w2 ⟨rfl, hb2⟩; have B2 := HX.out.2.2.below hb2; have z0 := B2.cell 0 _ rfl; have z1 := B2.cell 1 _ rfl; have z2 := B2.cell 2 _ rfl; have z3 := B2.cell 3 _ rfl; have z4 := B2.cell 4 _ rfl; have z5 := B2.cell 5 _ rfl; have z6 := B2.cell 6 _ rfl; have z7 := B2.cell 7 _ rfl; have g0 := B2.fz 0; have bl2 := B2.lt; have hp2 := HX.out.1.below hb2; have hm2 := HX.out.2.1.below hb2) | (go_at_call 160; refine Calls.mono (by exact HC.out _ hp2) ?_; rintro e w3 ⟨rfl, v3, k3, hm3⟩; unfold gaveUp))
      exact ⟨rfl, rfl, v3, k3, hm2.trans hm3⟩
    | ok a st2 =>
      dsimp only at HC ⊢
      go_enter Tryz.func183, Tryz.ntmps183
      go_wp2_with (first | (go_at_call 44; refine Calls.mono (by exact HN.out) ?_; rintro e w1 ⟨rfl, hk1, hp1⟩; have B := (Box.new w [.int .u8 2, .int .i64 0, .string ⟨#[]⟩, .int .u8 0, .int .u8 0, .int .u64 0, .int .i64 0, .slice none 0 0] 46).kept hk1 (by omega); have e1 := B.cell 1 _ rfl; have e2 := B.cell 2 _ rfl; have f1 := B.fz 1; have f2 := B.fz 2; have bl := B.lt; have hpp := (hp1.setBox (b := w.heap.size) (by omega) HOFF.out 2 (.string nm)).setBox (b := w.heap.size) (by omega) HOFF.out 1 (natV pl); have hmv : Moved E.p w v kvs ((w1.setCell ⟨w.heap.size, 2, none⟩ (.string nm)).setCell ⟨w.heap.size, 1, none⟩ (natV pl)) v kvs := (((HMA.out.kept hk1).setBox (Nat.le_refl _) 2 _).setBox (Nat.le_refl _) 1 _); have BB := (B.set (j := 2) (by simp) (.string nm)).set (j := 1) (by simp) (natV pl); have HX : Hid _ := And.intro hpp (And.intro hmv BB); clear hpp hmv BB) | (go_at_call 95; refine Calls.mono (by exact HT.out _ HX.out.1) ?_; rintro e w2 ⟨rfl, hb2⟩; have B2 := HX.out.2.2.below hb2; have z0 := B2.cell 0 _ rfl; have z1 := B2.cell 1 _ rfl; have z2 := B2.cell 2 _ rfl; have z3 := B2.cell 3 _ rfl; have z4 := B2.cell 4 _ rfl; have z5 := B2.cell 5 _ rfl; have z6 := B2.cell 6 _ rfl; have z7 := B2.cell 7 _ rfl; have g0 := B2.fz 0; have bl2 := B2.lt; have hp2 := HX.out.1.below hb2; have hm2 := HX.out.2.1.below hb2) | (go_at_call 160; refine Calls.mono (by exact HC.out _ hp2) ?_; rintro e w3 ⟨rfl, v3, k3, hp3, hm3⟩))
      go_ret
      exact ⟨rfl, v3, k3, hp3, hm2.trans hm3⟩
  · rw [if_neg t1] at hne ⊢
    have t1' : (y.toList == [40]) = false := by simpa using t1
    by_cases t2 : (y.toList == [91]) = true
    · rw [if_pos t2] at hne ⊢
      have e91 : (⟨#[91]⟩ : ByteArray).toList = [91] := by rw [Lib.toList_data]
      have e93 : (⟨#[93]⟩ : ByteArray).toList = [93] := by rw [Lib.toList_data]
      have HC : Hid (∀ W, Par E W v kvs st1 → Calls Tryz.prog 184 #[ptr E.p, .string ⟨#[91]⟩, .string ⟨#[93]⟩] W (PostN E W v kvs (between F E.s n [91] [93] st1))) := fun W hp => by
        have := hB E W v kvs st1 ⟨#[91]⟩ ⟨#[93]⟩ (by rw [e91]; simp) (by rw [e93]; simp) hp (by rw [e91, e93]; exact bind_ne hne)
        rw [e91, e93] at this
        exact this
      have HS : Hid (∀ a st2, between F E.s n [91] [93] st1 = .ok a st2 → st2.nodes.length + 1 + st2.toks.length ≤ 140000) := fun a st2 hs => by
        have := ((went_expr F E.s n).2.2.2.2.1 _ _ _ _ _ (by simp) (by simp) hs).sum
        have := HSUM.out
        omega
      generalize between F E.s n [91] [93] st1 = r at HC hne HS ⊢
      clear h hw hnm hC hB hk2 hst1 hhas hsum t1 e91 e93
      cases r with
      | out => exact absurd rfl hne
      | err c q =>
        unfold PostN at HC ⊢
        dsimp only at HC ⊢
        go_enter Tryz.func183, Tryz.ntmps183
        go_wp2_with (first | (go_at_call 44; refine Calls.mono (by exact HN.out) ?_; rintro e w1 ⟨rfl, hk1, hp1⟩; have B := (Box.new w [.int .u8 2, .int .i64 0, .string ⟨#[]⟩, .int .u8 0, .int .u8 0, .int .u64 0, .int .i64 0, .slice none 0 0] 46).kept hk1 (by omega); have e1 := B.cell 1 _ rfl; have e2 := B.cell 2 _ rfl; have f1 := B.fz 1; have f2 := B.fz 2; have bl := B.lt; have hpp := (hp1.setBox (b := w.heap.size) (by omega) HOFF.out 2 (.string nm)).setBox (b := w.heap.size) (by omega) HOFF.out 1 (natV pl); have hmv : Moved E.p w v kvs ((w1.setCell ⟨w.heap.size, 2, none⟩ (.string nm)).setCell ⟨w.heap.size, 1, none⟩ (natV pl)) v kvs := (((HMA.out.kept hk1).setBox (Nat.le_refl _) 2 _).setBox (Nat.le_refl _) 1 _); have BB := (B.set (j := 2) (by simp) (.string nm)).set (j := 1) (by simp) (natV pl); have HX : Hid _ := And.intro hpp (And.intro hmv BB); clear hpp hmv BB) | (go_at_call 95; refine Calls.mono (by exact HT.out _ HX.out.1) ?_; rintro e w2 ⟨rfl, hb2⟩; have B2 := HX.out.2.2.below hb2; have z0 := B2.cell 0 _ rfl; have z1 := B2.cell 1 _ rfl; have z2 := B2.cell 2 _ rfl; have z3 := B2.cell 3 _ rfl; have z4 := B2.cell 4 _ rfl; have z5 := B2.cell 5 _ rfl; have z6 := B2.cell 6 _ rfl; have z7 := B2.cell 7 _ rfl; have g0 := B2.fz 0; have bl2 := B2.lt; have hp2 := HX.out.1.below hb2; have hm2 := HX.out.2.1.below hb2) | (go_at_call 184; refine Calls.mono (by exact HC.out _ (hp2.setBox (by omega) HOFF.out 0 _)) ?_; rintro e w3 ⟨rfl, v3, k3, hm3⟩; unfold gaveUp))
        exact ⟨rfl, rfl, v3, k3, (hm2.setBox (Nat.le_refl _) 0 _).trans hm3⟩
      | ok a st2 =>
        unfold PostN at HC
        dsimp only at HC ⊢
        go_enter Tryz.func183, Tryz.ntmps183
        go_wp2_with (first | (go_at_call 44; refine Calls.mono (by exact HN.out) ?_; rintro e w1 ⟨rfl, hk1, hp1⟩; have B := (Box.new w [.int .u8 2, .int .i64 0, .string ⟨#[]⟩, .int .u8 0, .int .u8 0, .int .u64 0, .int .i64 0, .slice none 0 0] 46).kept hk1 (by omega); have e1 := B.cell 1 _ rfl; have e2 := B.cell 2 _ rfl; have f1 := B.fz 1; have f2 := B.fz 2; have bl := B.lt; have hpp := (hp1.setBox (b := w.heap.size) (by omega) HOFF.out 2 (.string nm)).setBox (b := w.heap.size) (by omega) HOFF.out 1 (natV pl); have hmv : Moved E.p w v kvs ((w1.setCell ⟨w.heap.size, 2, none⟩ (.string nm)).setCell ⟨w.heap.size, 1, none⟩ (natV pl)) v kvs := (((HMA.out.kept hk1).setBox (Nat.le_refl _) 2 _).setBox (Nat.le_refl _) 1 _); have BB := (B.set (j := 2) (by simp) (.string nm)).set (j := 1) (by simp) (natV pl); have HX : Hid _ := And.intro hpp (And.intro hmv BB); clear hpp hmv BB) | (go_at_call 95; refine Calls.mono (by exact HT.out _ HX.out.1) ?_; rintro e w2 ⟨rfl, hb2⟩; have B2 := HX.out.2.2.below hb2; have z0 := B2.cell 0 _ rfl; have z1 := B2.cell 1 _ rfl; have z2 := B2.cell 2 _ rfl; have z3 := B2.cell 3 _ rfl; have z4 := B2.cell 4 _ rfl; have z5 := B2.cell 5 _ rfl; have z6 := B2.cell 6 _ rfl; have z7 := B2.cell 7 _ rfl; have g0 := B2.fz 0; have bl2 := B2.lt; have hp2 := HX.out.1.below hb2; have hm2 := HX.out.2.1.below hb2) | (go_at_call 184; refine Calls.mono (by exact HC.out _ (hp2.setBox (by omega) HOFF.out 0 _)) ?_; rintro e w3 ⟨rfl, v3, k3, hp3, hm3⟩; have B3 := (B2.set (j := 0) (by simp) (.int .u8 3)).moved hm3 (by omega) HOFF.out.1; have O3 := HOFF.out.moved (B2.set (j := 0) (by simp) (.int .u8 3)).lt hm3; have m3 := (hm2.setBox (Nat.le_refl _) 0 _).trans hm3; have bl3 := B3.lt; have q0 := B3.cell 0 _ rfl; have q1 := B3.cell 1 _ rfl; have q2 := B3.cell 2 _ rfl; have q3 := B3.cell 3 _ rfl; have q4 := B3.cell 4 _ rfl; have q5 := B3.cell 5 _ rfl; have q6 := B3.cell 6 _ rfl; have q7 := B3.cell 7 _ rfl; have r7 := B3.fz 7))
        have hz : (w3.setCell ⟨w.heap.size, 7, none⟩ (.slice (some ⟨w3.heap.size, 0, none⟩) 1 1)).heap.size = w3.heap.size := by simp [World.setCell]
        have hB4 : Below (w3.setCell ⟨w.heap.size, 7, none⟩ (.slice (some ⟨w3.heap.size, 0, none⟩) 1 1)).heap.size (w3.setCell ⟨w.heap.size, 7, none⟩ (.slice (some ⟨w3.heap.size, 0, none⟩) 1 1)) ((w3.setCell ⟨w.heap.size, 7, none⟩ (.slice (some ⟨w3.heap.size, 0, none⟩) 1 1)).alloc (.cells (ints [a]).toArray 3)) := (Below.refl _ _).alloc (Nat.le_refl _) _
        have hput : Calls Tryz.prog 100 #[ptr E.p, .agg #[.int .u8 3, natV pl, .string nm, .int .u8 0, .int .u8 0, .int .u64 0, .int .i64 0, .slice (some ⟨w3.heap.size, 0, none⟩) 1 1]] ((w3.setCell ⟨w.heap.size, 7, none⟩ (.slice (some ⟨w3.heap.size, 0, none⟩) 1 1)).alloc (.cells (ints [a]).toArray 3)) (PostN E w v kvs (putP ⟨3, pl, nm, 0, 0, 0, 0, [a]⟩ st2)) :=
          put_node ((hp3.setBox (by omega) O3 7 _).below hB4) ((m3.setBox (Nat.le_refl _) 7 _).below hB4) ⟨3, pl, nm, 0, 0, 0, 0, [a]⟩ (some ⟨w3.heap.size, 0, none⟩) 1 1 (by have := kid_new (w := w3.setCell ⟨w.heap.size, 7, none⟩ (.slice (some ⟨w3.heap.size, 0, none⟩) 1 1)) (base := E.base) (by rw [hz]; exact hp3.bs) [a] (by simp [maxLen]); rwa [hz] at this) (fun g' hg' => by
            simp [Value.ownBlock] at hg'
            subst hg'
            exact ⟨m3.size, fun x hx hc => by have := (hp3.nds.blocks x hx _ hc).2; omega⟩) (HS.out a st2 rfl)
        refine Calls.mono (by exact hput) ?_
        rintro e w5 h5
        unfold putP PostN at h5
        obtain ⟨rfl, h5⟩ := h5
        go_wp2
        go_ret
        exact ⟨rfl, h5⟩
    · rw [if_neg t2] at hne ⊢
      have t2' : (y.toList == [91]) = false := by simpa using t2
      clear h hw hnm hC hB hk2 hst1 hhas hsum t1 t2
      go_enter Tryz.func183, Tryz.ntmps183
      go_wp2_with (first | (go_at_call 44; refine Calls.mono (by exact HN.out) ?_; rintro e w1 ⟨rfl, hk1, hp1⟩; have B := (Box.new w [.int .u8 2, .int .i64 0, .string ⟨#[]⟩, .int .u8 0, .int .u8 0, .int .u64 0, .int .i64 0, .slice none 0 0] 46).kept hk1 (by omega); have e1 := B.cell 1 _ rfl; have e2 := B.cell 2 _ rfl; have f1 := B.fz 1; have f2 := B.fz 2; have bl := B.lt; have hpp := (hp1.setBox (b := w.heap.size) (by omega) HOFF.out 2 (.string nm)).setBox (b := w.heap.size) (by omega) HOFF.out 1 (natV pl); have hmv : Moved E.p w v kvs ((w1.setCell ⟨w.heap.size, 2, none⟩ (.string nm)).setCell ⟨w.heap.size, 1, none⟩ (natV pl)) v kvs := (((HMA.out.kept hk1).setBox (Nat.le_refl _) 2 _).setBox (Nat.le_refl _) 1 _); have BB := (B.set (j := 2) (by simp) (.string nm)).set (j := 1) (by simp) (natV pl); have HX : Hid _ := And.intro hpp (And.intro hmv BB); clear hpp hmv BB) | (go_at_call 95; refine Calls.mono (by exact HT.out _ HX.out.1) ?_; rintro e w2 ⟨rfl, hb2⟩; have B2 := HX.out.2.2.below hb2; have z0 := B2.cell 0 _ rfl; have z1 := B2.cell 1 _ rfl; have z2 := B2.cell 2 _ rfl; have z3 := B2.cell 3 _ rfl; have z4 := B2.cell 4 _ rfl; have z5 := B2.cell 5 _ rfl; have z6 := B2.cell 6 _ rfl; have z7 := B2.cell 7 _ rfl; have g0 := B2.fz 0; have bl2 := B2.lt; have hp2 := HX.out.1.below hb2; have hm2 := HX.out.2.1.below hb2))
      have hput : Calls Tryz.prog 100 #[ptr E.p, .agg #[.int .u8 2, natV pl, .string nm, .int .u8 0, .int .u8 0, .int .u64 0, .int .i64 0, .slice none 0 0]] w2 (PostN E w v kvs (putP ⟨2, pl, nm, 0, 0, 0, 0, []⟩ st1)) :=
        put_node hp2 hm2 ⟨2, pl, nm, 0, 0, 0, 0, []⟩ none 0 0 (World.ownsRow_nil _ _ _ _) (fun g hg => (by cases hg)) (by have := HSUM.out; omega)
      refine Calls.mono (by exact hput) ?_
      rintro e w5 h5
      unfold putP PostN at h5
      obtain ⟨rfl, h5⟩ := h5
      go_wp2
      go_ret
      exact ⟨rfl, h5⟩
end Go.Proofs.YtbejgachdhfakaaGreatDoor
/- A primary. -/
namespace Go.Proofs.YtbejgachdhfakaaGreatDoor
open Go.RowKit

/-- A literal stands at hand. -/
def LitAt (s : ByteArray) (st : St) : Prop := (hd st).1 = 4 ∨ (hd st).1 = 5 ∨ has s [116, 114, 117, 101] st = true ∨ has s [102, 97, 108, 115, 101] st = true
def DoesLit (F : FW) : Prop := ∀ (E : Env) (w : World) (v : Value) (kvs : List Value) (st : St), LitAt E.s st → Par E w v kvs st → Calls Tryz.prog 182 #[ptr E.p] w (PostN E w v kvs (litP F E.s st))
theorem lit_no (F : FW) (s : ByteArray) (st : St) : litP F s st ≠ .out := by
  unfold litP
  split
  · intro h; cases h
  · intro h; cases h
set_option maxRecDepth 100000 in
set_option maxHeartbeats 1000000 in
theorem primary_any {F : FW} {n : Nat} (hL : DoesLit F) (hN : DoesNamed F n) (hB : DoesBetween F n) : DoesPrimary F (n + 1) := by
  intro E w v kvs st h hne
  simp only [primary] at hne ⊢
  have hl := h.lt
  have hNX := next_par h
  have HT : Hid (∀ w1, Below w.heap.size w w1 → Calls Tryz.prog 95 #[ptr E.p] w1 fun e w' => e = .returned (.string (txB E.s (hd st))) ∧ Below w1.heap.size w1 w') := fun w1 hw => text_par (h.below hw)
  have g0 := fld0
  have g1 := fld1
  have hhas : ∀ x, has E.s x st = ((txB E.s (hd st)).toList == x) := fun x => rfl
  have HNX : Hid (∀ w1, Below w.heap.size w w1 → Calls Tryz.prog 23 #[ptr E.p] w1 fun e w' => e = .returned (.agg #[.int .u8 ((hd st).1 : Int), .int .i64 ((hd st).2.1 : Int), .int .i64 ((hd st).2.2 : Int)]) ∧ Below w1.heap.size w1 w') := fun w1 hw => next_par (h.below hw)
  by_cases c1 : (hd st).1 = 4 ∨ (hd st).1 = 5
  · rw [if_pos c1] at hne ⊢
    have HC : Hid (∀ W, Below w.heap.size w W → Calls Tryz.prog 182 #[ptr E.p] W (PostN E W v kvs (litP F E.s st))) := fun W hW => hL E W v kvs st (c1.elim (fun c => .inl c) (fun c => .inr (.inl c))) (h.below hW)
    generalize litP F E.s st = r at HC hne ⊢
    generalize (hd st).2.1 = y1 at hNX
    generalize (hd st).2.2 = y2 at hNX
    clear HNX HT hhas h hL hN hB
    rcases c1 with c1 | c1
    all_goals
      rw [c1] at hNX
      clear c1
      unfold PostN at HC ⊢
      cases r with
      | out => exact absurd rfl hne
      | err c q =>
        dsimp only at HC ⊢
        go_enter Tryz.func174, Tryz.ntmps174
        go_wp2_with (first | (go_at_call 23; refine hNX.mono ?_; rintro e w1 ⟨rfl, hb1⟩) | (go_at_call 95; refine Calls.mono (by exact HT.out _ hb1) ?_; rintro e w2 ⟨rfl, hb2⟩; have hw2 := hb1.trans (hb2.mono hb1.size)) | (go_at_call 182; refine Calls.mono (by exact HC.out _ hb1) ?_; rintro e w9 ⟨rfl, v9, k9, hm9⟩; unfold gaveUp))
        exact ⟨rfl, rfl, v9, k9, ((Kept.of_below hb1).moved v kvs).trans hm9⟩
      | ok a st2 =>
        dsimp only at HC ⊢
        go_enter Tryz.func174, Tryz.ntmps174
        go_wp2_with (first | (go_at_call 23; refine hNX.mono ?_; rintro e w1 ⟨rfl, hb1⟩) | (go_at_call 95; refine Calls.mono (by exact HT.out _ hb1) ?_; rintro e w2 ⟨rfl, hb2⟩; have hw2 := hb1.trans (hb2.mono hb1.size)) | (go_at_call 182; refine Calls.mono (by exact HC.out _ hb1) ?_; rintro e w9 ⟨rfl, v9, k9, hp9, hm9⟩))
        go_ret
        exact ⟨rfl, v9, k9, hp9, ((Kept.of_below hb1).moved v kvs).trans hm9⟩
  · rw [if_neg c1] at hne ⊢
    have k4 : (((hd st).1 : Int) == 4) = false := by simp; omega
    have k5 : (((hd st).1 : Int) == 5) = false := by simp; omega
    by_cases c2 : (hd st).1 = 2
    · rw [if_pos c2] at hne ⊢
      have HC : Hid (∀ W, Below w.heap.size w W → Calls Tryz.prog 183 #[ptr E.p] W (PostN E W v kvs (named F E.s n st))) := fun W hW => hN E W v kvs st c2 (h.below hW) hne
      generalize named F E.s n st = r at HC hne ⊢
      generalize (hd st).2.1 = y1 at hNX
      generalize (hd st).2.2 = y2 at hNX
      rw [c2] at hNX
      clear HNX HT hhas h hL hN hB k4 k5 c1 c2
      unfold PostN at HC ⊢
      cases r with
      | out => exact absurd rfl hne
      | err c q =>
        dsimp only at HC ⊢
        go_enter Tryz.func174, Tryz.ntmps174
        go_wp2_with (first | (go_at_call 23; refine hNX.mono ?_; rintro e w1 ⟨rfl, hb1⟩) | (go_at_call 95; refine Calls.mono (by exact HT.out _ hb1) ?_; rintro e w2 ⟨rfl, hb2⟩; have hw2 := hb1.trans (hb2.mono hb1.size)) | (go_at_call 183; refine Calls.mono (by exact HC.out _ hb1) ?_; rintro e w9 ⟨rfl, v9, k9, hm9⟩; unfold gaveUp))
        exact ⟨rfl, rfl, v9, k9, ((Kept.of_below hb1).moved v kvs).trans hm9⟩
      | ok a st2 =>
        dsimp only at HC ⊢
        go_enter Tryz.func174, Tryz.ntmps174
        go_wp2_with (first | (go_at_call 23; refine hNX.mono ?_; rintro e w1 ⟨rfl, hb1⟩) | (go_at_call 95; refine Calls.mono (by exact HT.out _ hb1) ?_; rintro e w2 ⟨rfl, hb2⟩; have hw2 := hb1.trans (hb2.mono hb1.size)) | (go_at_call 183; refine Calls.mono (by exact HC.out _ hb1) ?_; rintro e w9 ⟨rfl, v9, k9, hp9, hm9⟩))
        go_ret
        exact ⟨rfl, v9, k9, hp9, ((Kept.of_below hb1).moved v kvs).trans hm9⟩
    · rw [if_neg c2] at hne ⊢
      have k2 : (((hd st).1 : Int) == 2) = false := by simp; omega
      by_cases c3 : has E.s [116, 114, 117, 101] st = true
      · rw [if_pos c3] at hne ⊢
        have HC : Hid (∀ W, Below w.heap.size w W → Calls Tryz.prog 182 #[ptr E.p] W (PostN E W v kvs (litP F E.s st))) := fun W hW => hL E W v kvs st (.inr (.inr (.inl c3))) (h.below hW)
        generalize litP F E.s st = r at HC hne ⊢
        rw [hhas] at c3
        generalize txB E.s (hd st) = y at HT c3
        generalize (hd st).2.1 = y1 at hNX
        generalize (hd st).2.2 = y2 at hNX
        generalize (hd st).1 = kk at hNX k4 k5 k2
        clear HNX hhas h hL hN hB c1 c2
        unfold PostN at HC ⊢
        cases r with
        | out => exact absurd rfl hne
        | err c q =>
          dsimp only at HC ⊢
          go_enter Tryz.func174, Tryz.ntmps174
          go_wp2_with (first | (go_at_call 23; refine hNX.mono ?_; rintro e w1 ⟨rfl, hb1⟩) | (go_at_call 95; refine Calls.mono (by exact HT.out _ hb1) ?_; rintro e w2 ⟨rfl, hb2⟩; have hw2 := hb1.trans (hb2.mono hb1.size)) | (go_at_call 182; refine Calls.mono (by exact HC.out _ hw2) ?_; rintro e w9 ⟨rfl, v9, k9, hm9⟩; unfold gaveUp))
          exact ⟨rfl, rfl, v9, k9, ((Kept.of_below hw2).moved v kvs).trans hm9⟩
        | ok a st2 =>
          dsimp only at HC ⊢
          go_enter Tryz.func174, Tryz.ntmps174
          go_wp2_with (first | (go_at_call 23; refine hNX.mono ?_; rintro e w1 ⟨rfl, hb1⟩) | (go_at_call 95; refine Calls.mono (by exact HT.out _ hb1) ?_; rintro e w2 ⟨rfl, hb2⟩; have hw2 := hb1.trans (hb2.mono hb1.size)) | (go_at_call 182; refine Calls.mono (by exact HC.out _ hw2) ?_; rintro e w9 ⟨rfl, v9, k9, hp9, hm9⟩))
          go_ret
          exact ⟨rfl, v9, k9, hp9, ((Kept.of_below hw2).moved v kvs).trans hm9⟩
      · rw [if_neg c3] at hne ⊢
        have c3' : ((txB E.s (hd st)).toList == [116, 114, 117, 101]) = false := by simpa [hhas] using c3
        by_cases c4 : has E.s [102, 97, 108, 115, 101] st = true
        · rw [if_pos c4] at hne ⊢
          have HC : Hid (∀ W, Below w.heap.size w W → Calls Tryz.prog 182 #[ptr E.p] W (PostN E W v kvs (litP F E.s st))) := fun W hW => hL E W v kvs st (.inr (.inr (.inr c4))) (h.below hW)
          generalize litP F E.s st = r at HC hne ⊢
          rw [hhas] at c4
          generalize txB E.s (hd st) = y at HT c3' c4
          generalize (hd st).2.1 = y1 at hNX
          generalize (hd st).2.2 = y2 at hNX
          generalize (hd st).1 = kk at hNX k4 k5 k2
          clear HNX hhas h hL hN hB c1 c2 c3
          unfold PostN at HC ⊢
          cases r with
          | out => exact absurd rfl hne
          | err c q =>
            dsimp only at HC ⊢
            go_enter Tryz.func174, Tryz.ntmps174
            go_wp2_with (first | (go_at_call 23; refine hNX.mono ?_; rintro e w1 ⟨rfl, hb1⟩) | (go_at_call 95; refine Calls.mono (by exact HT.out _ hb1) ?_; rintro e w2 ⟨rfl, hb2⟩; have hw2 := hb1.trans (hb2.mono hb1.size)) | (go_at_call 182; refine Calls.mono (by exact HC.out _ hw2) ?_; rintro e w9 ⟨rfl, v9, k9, hm9⟩; unfold gaveUp))
            exact ⟨rfl, rfl, v9, k9, ((Kept.of_below hw2).moved v kvs).trans hm9⟩
          | ok a st2 =>
            dsimp only at HC ⊢
            go_enter Tryz.func174, Tryz.ntmps174
            go_wp2_with (first | (go_at_call 23; refine hNX.mono ?_; rintro e w1 ⟨rfl, hb1⟩) | (go_at_call 95; refine Calls.mono (by exact HT.out _ hb1) ?_; rintro e w2 ⟨rfl, hb2⟩; have hw2 := hb1.trans (hb2.mono hb1.size)) | (go_at_call 182; refine Calls.mono (by exact HC.out _ hw2) ?_; rintro e w9 ⟨rfl, v9, k9, hp9, hm9⟩))
            go_ret
            exact ⟨rfl, v9, k9, hp9, ((Kept.of_below hw2).moved v kvs).trans hm9⟩
        · rw [if_neg c4] at hne ⊢
          have c4' : ((txB E.s (hd st)).toList == [102, 97, 108, 115, 101]) = false := by simpa [hhas] using c4
          have e40 : (⟨#[40]⟩ : ByteArray).toList = [40] := by rw [Lib.toList_data]
          have e41 : (⟨#[41]⟩ : ByteArray).toList = [41] := by rw [Lib.toList_data]
          by_cases c5 : has E.s [40] st = true
          · rw [if_pos c5] at hne ⊢
            have HC : Hid (∀ W, Below w.heap.size w W → Calls Tryz.prog 184 #[ptr E.p, .string ⟨#[40]⟩, .string ⟨#[41]⟩] W (PostN E W v kvs (between F E.s n [40] [41] st))) := fun W hW => by
              have := hB E W v kvs st ⟨#[40]⟩ ⟨#[41]⟩ (by rw [e40]; simp) (by rw [e41]; simp) (h.below hW) (by rw [e40, e41]; exact hne)
              rw [e40, e41] at this
              exact this
            generalize between F E.s n [40] [41] st = r at HC hne ⊢
            rw [hhas] at c5
            generalize txB E.s (hd st) = y at HT c3' c4' c5
            generalize (hd st).2.1 = y1 at hNX
            generalize (hd st).2.2 = y2 at hNX
            generalize (hd st).1 = kk at hNX k4 k5 k2
            clear HNX hhas h hL hN hB c1 c2 c3 c4 e40 e41
            unfold PostN at HC ⊢
            cases r with
            | out => exact absurd rfl hne
            | err c q =>
              dsimp only at HC ⊢
              go_enter Tryz.func174, Tryz.ntmps174
              go_wp2_with (first | (go_at_call 23; refine hNX.mono ?_; rintro e w1 ⟨rfl, hb1⟩) | (go_at_call 95; refine Calls.mono (by exact HT.out _ hb1) ?_; rintro e w2 ⟨rfl, hb2⟩; have hw2 := hb1.trans (hb2.mono hb1.size)) | (go_at_call 184; refine Calls.mono (by exact HC.out _ hw2) ?_; rintro e w9 ⟨rfl, v9, k9, hm9⟩; unfold gaveUp))
              exact ⟨rfl, rfl, v9, k9, ((Kept.of_below hw2).moved v kvs).trans hm9⟩
            | ok a st2 =>
              dsimp only at HC ⊢
              go_enter Tryz.func174, Tryz.ntmps174
              go_wp2_with (first | (go_at_call 23; refine hNX.mono ?_; rintro e w1 ⟨rfl, hb1⟩) | (go_at_call 95; refine Calls.mono (by exact HT.out _ hb1) ?_; rintro e w2 ⟨rfl, hb2⟩; have hw2 := hb1.trans (hb2.mono hb1.size)) | (go_at_call 184; refine Calls.mono (by exact HC.out _ hw2) ?_; rintro e w9 ⟨rfl, v9, k9, hp9, hm9⟩))
              go_ret
              exact ⟨rfl, v9, k9, hp9, ((Kept.of_below hw2).moved v kvs).trans hm9⟩
          · rw [if_neg c5] at hne ⊢
            have c5' : ((txB E.s (hd st)).toList == [40]) = false := by simpa [hhas] using c5
            have HTY : Hid (∀ W, Par E W v kvs st → Calls Tryz.prog 47 #[ptr E.p] W (PostK typV E W v kvs (typeP E.s st))) := fun W hp => type_par hp
            have HB : Hid (∀ W st1, Par E W v kvs st1 → between F E.s n [40] [41] st1 ≠ .out → Calls Tryz.prog 184 #[ptr E.p, .string ⟨#[40]⟩, .string ⟨#[41]⟩] W (PostN E W v kvs (between F E.s n [40] [41] st1))) := fun W st1 hp hn1 => by
              have := hB E W v kvs st1 ⟨#[40]⟩ ⟨#[41]⟩ (by rw [e40]; simp) (by rw [e41]; simp) hp (by rw [e40, e41]; exact hn1)
              rw [e40, e41] at this
              exact this
            have HPA : Hid (Par E w v kvs st) := h
            have HWT : Hid (∀ a st', typeP E.s st = .ok a st' → Went 1 st st') := fun a st' hs => went_type hs
            have hsum := h.sum
            generalize typeP E.s st = r0 at HTY hne HWT ⊢
            generalize txB E.s (hd st) = y at HT c3' c4' c5'
            generalize (hd st).2.1 = pl at hNX HNX hne ⊢
            generalize (hd st).2.2 = y2 at hNX HNX
            generalize (hd st).1 = kk at hNX HNX k4 k5 k2
            clear hhas h hL hN hB c1 c2 c3 c4 c5 e40 e41
            unfold PostK at HTY
            have y0 : Hid True := trivial
            cases r0 with
            | out => exact absurd rfl hne
            | err c q =>
              dsimp only at HTY
              dsimp only [Res.bind, PostN]
              go_enter Tryz.func174, Tryz.ntmps174
              go_wp2_with (first | (go_at_call 23; have hh := hw2; clear hh; refine Calls.mono (by exact HNX.out _ hw2) ?_; rintro e w3 ⟨rfl, hb3⟩; have hw3 := hw2.trans (hb3.mono hw2.size); have hsz : Hid (w.heap.size ≤ w3.heap.size) := hw3.size; have hwA : Below w.heap.size w (w3.alloc (.cells ([.int .u8 5, natV pl, .string ⟨#[]⟩, .int .u8 0, .int .u8 0, .int .u64 0, .int .i64 0, .slice none 0 0]).toArray 46)) := hw3.alloc hsz.out _; have BA := Box.new w3 [.int .u8 5, natV pl, .string ⟨#[]⟩, .int .u8 0, .int .u8 0, .int .u64 0, .int .i64 0, .slice none 0 0] 46) | (go_at_call 23; refine hNX.mono ?_; rintro e w1 ⟨rfl, hb1⟩) | (go_at_call 95; refine Calls.mono (by exact HT.out _ hb1) ?_; rintro e w2 ⟨rfl, hb2⟩; have hw2 := hb1.trans (hb2.mono hb1.size)) | (go_at_call 47; refine Calls.mono (by exact HTY.out _ (HPA.out.below hwA)) ?_; rintro e w4 ⟨rfl, hk4⟩; unfold gaveUp))
              exact ⟨rfl, rfl, v, kvs, ((Kept.of_below hwA).trans hk4).moved v kvs⟩
            | ok t st1 =>
              dsimp only at HTY
              simp only [Res.bind] at hne ⊢
              have hB1 := fun W (hp : Par E W v kvs st1) => HB.out W st1 hp (bind_ne hne)
              have HS : Hid (∀ a st2, between F E.s n [40] [41] st1 = .ok a st2 → st2.nodes.length + 1 + st2.toks.length ≤ 140000) := fun a st2 hs => by
                have := ((went_expr F E.s n).2.2.2.2.1 _ _ _ _ _ (by simp) (by simp) hs).sum
                have := (HWT.out t st1 rfl).sum
                omega
              generalize between F E.s n [40] [41] st1 = r at hB1 hne HS ⊢
              have HC : Hid _ := hB1
              clear hB1 HB HWT hsum
              cases r with
              | out => exact absurd rfl hne
              | err c q =>
                unfold PostN at HC ⊢
                dsimp only at HC ⊢
                go_enter Tryz.func174, Tryz.ntmps174
                go_wp2_with (first | (go_at_call 23; have hh := hw2; clear hh; refine Calls.mono (by exact HNX.out _ hw2) ?_; rintro e w3 ⟨rfl, hb3⟩; have hw3 := hw2.trans (hb3.mono hw2.size); have hsz : Hid (w.heap.size ≤ w3.heap.size) := hw3.size; have hwA : Below w.heap.size w (w3.alloc (.cells ([.int .u8 5, natV pl, .string ⟨#[]⟩, .int .u8 0, .int .u8 0, .int .u64 0, .int .i64 0, .slice none 0 0]).toArray 46)) := hw3.alloc hsz.out _; have BA := Box.new w3 [.int .u8 5, natV pl, .string ⟨#[]⟩, .int .u8 0, .int .u8 0, .int .u64 0, .int .i64 0, .slice none 0 0] 46) | (go_at_call 23; refine hNX.mono ?_; rintro e w1 ⟨rfl, hb1⟩) | (go_at_call 95; refine Calls.mono (by exact HT.out _ hb1) ?_; rintro e w2 ⟨rfl, hb2⟩; have hw2 := hb1.trans (hb2.mono hb1.size)) | (go_at_call 47; refine Calls.mono (by exact HTY.out _ (HPA.out.below hwA)) ?_; rintro e w4 ⟨rfl, hk4, hp4⟩; have B4 := BA.kept hk4 (by have := hsz.out; omega); have bl4 := B4.lt; have s3 := B4.cell 3 _ rfl; have s4 := B4.fz 3; have hm4 := ((Kept.of_below hwA).trans hk4).moved v kvs; have hszw : E.p < w3.heap.size := by (have := hsz.out; omega)) | (go_at_call 184; refine Calls.mono (by exact HC.out _ (hp4.setBox (by omega) (HPA.out.off hsz.out) 3 _)) ?_; rintro e w5 ⟨rfl, v5, k5, hm5⟩; unfold gaveUp))
                exact ⟨rfl, rfl, v5, k5, (hm4.setBox hsz.out 3 _).trans hm5⟩
              | ok a st2 =>
                unfold PostN at HC
                dsimp only at HC ⊢
                go_enter Tryz.func174, Tryz.ntmps174
                go_wp2_with (first | (go_at_call 23; have hh := hw2; clear hh; refine Calls.mono (by exact HNX.out _ hw2) ?_; rintro e w3 ⟨rfl, hb3⟩; have hw3 := hw2.trans (hb3.mono hw2.size); have hsz : Hid (w.heap.size ≤ w3.heap.size) := hw3.size; have hwA : Below w.heap.size w (w3.alloc (.cells ([.int .u8 5, natV pl, .string ⟨#[]⟩, .int .u8 0, .int .u8 0, .int .u64 0, .int .i64 0, .slice none 0 0]).toArray 46)) := hw3.alloc hsz.out _; have BA := Box.new w3 [.int .u8 5, natV pl, .string ⟨#[]⟩, .int .u8 0, .int .u8 0, .int .u64 0, .int .i64 0, .slice none 0 0] 46) | (go_at_call 23; refine hNX.mono ?_; rintro e w1 ⟨rfl, hb1⟩) | (go_at_call 95; refine Calls.mono (by exact HT.out _ hb1) ?_; rintro e w2 ⟨rfl, hb2⟩; have hw2 := hb1.trans (hb2.mono hb1.size)) | (go_at_call 47; refine Calls.mono (by exact HTY.out _ (HPA.out.below hwA)) ?_; rintro e w4 ⟨rfl, hk4, hp4⟩; have B4 := BA.kept hk4 (by have := hsz.out; omega); have bl4 := B4.lt; have s3 := B4.cell 3 _ rfl; have s4 := B4.fz 3; have hm4 := ((Kept.of_below hwA).trans hk4).moved v kvs; have hszw : E.p < w3.heap.size := by (have := hsz.out; omega)) | (go_at_call 184; refine Calls.mono (by exact HC.out _ (hp4.setBox (by omega) (HPA.out.off hsz.out) 3 _)) ?_; rintro e w5 ⟨rfl, v5, k5, hp5, hm5⟩; have B5 := (B4.set (j := 3) (by simp) (typV t)).moved hm5 (by have := hsz.out; omega) (HPA.out.off hsz.out).1; have O5 := (HPA.out.off hsz.out).moved (B4.set (j := 3) (by simp) (typV t)).lt hm5; have m5 := (hm4.setBox hsz.out 3 _).trans hm5; have bl5 := B5.lt; have q0 := B5.cell 0 _ rfl; have q1 := B5.cell 1 _ rfl; have q2 := B5.cell 2 _ rfl; have q3 := B5.cell 3 _ rfl; have q4 := B5.cell 4 _ rfl; have q5 := B5.cell 5 _ rfl; have q6 := B5.cell 6 _ rfl; have q7 := B5.cell 7 _ rfl; have r7 := B5.fz 7))
                have hz : (w5.setCell ⟨w3.heap.size, 7, none⟩ (.slice (some ⟨w5.heap.size, 0, none⟩) 1 1)).heap.size = w5.heap.size := by simp [World.setCell]
                have hB4 : Below (w5.setCell ⟨w3.heap.size, 7, none⟩ (.slice (some ⟨w5.heap.size, 0, none⟩) 1 1)).heap.size (w5.setCell ⟨w3.heap.size, 7, none⟩ (.slice (some ⟨w5.heap.size, 0, none⟩) 1 1)) ((w5.setCell ⟨w3.heap.size, 7, none⟩ (.slice (some ⟨w5.heap.size, 0, none⟩) 1 1)).alloc (.cells (ints [a]).toArray 3)) := (Below.refl _ _).alloc (Nat.le_refl _) _
                have hput : Calls Tryz.prog 100 #[ptr E.p, .agg #[.int .u8 5, natV pl, .string ⟨#[]⟩, typV t, .int .u8 0, .int .u64 0, .int .i64 0, .slice (some ⟨w5.heap.size, 0, none⟩) 1 1]] ((w5.setCell ⟨w3.heap.size, 7, none⟩ (.slice (some ⟨w5.heap.size, 0, none⟩) 1 1)).alloc (.cells (ints [a]).toArray 3)) (PostN E w v kvs (putP ⟨5, pl, ⟨#[]⟩, t, 0, 0, 0, [a]⟩ st2)) :=
                  put_node ((hp5.setBox (by have := hsz.out; omega) O5 7 _).below hB4) ((m5.setBox hsz.out 7 _).below hB4) ⟨5, pl, ⟨#[]⟩, t, 0, 0, 0, [a]⟩ (some ⟨w5.heap.size, 0, none⟩) 1 1 (by have := kid_new (w := w5.setCell ⟨w3.heap.size, 7, none⟩ (.slice (some ⟨w5.heap.size, 0, none⟩) 1 1)) (base := E.base) (by rw [hz]; exact hp5.bs) [a] (by simp [maxLen]); rwa [hz] at this) (fun g' hg' => by
                    simp [Value.ownBlock] at hg'
                    subst hg'
                    exact ⟨m5.size, fun x hx hc => by have := (hp5.nds.blocks x hx _ hc).2; omega⟩) (HS.out a st2 rfl)
                refine Calls.mono (by exact hput) ?_
                rintro e w6 h6
                unfold putP PostN at h6
                obtain ⟨rfl, h6⟩ := h6
                go_wp2
                go_ret
                exact ⟨rfl, h6⟩
end Go.Proofs.YtbejgachdhfakaaGreatDoor
/- All expressions, by the fuel. -/
namespace Go.Proofs.YtbejgachdhfakaaGreatDoor
open Go.RowKit

structure DoesX (F : FW) (n : Nat) : Prop where
  row : DoesRow F n
  unary : DoesUnary F n
  primary : DoesPrimary F n
  between : DoesBetween F n
  named : DoesNamed F n
  call : DoesCall F n
theorem does_expr {F : FW} (hL : DoesLit F) : ∀ n, DoesX F n := by
  intro n
  induction n using Nat.strongRecOn with
  | _ n ih =>
    match n, ih with
    | 0, _ => exact ⟨fun _ _ _ _ _ _ _ _ _ hne => absurd (by simp only [row]) hne, fun _ _ _ _ _ _ hne => absurd (by simp only [unary]) hne, fun _ _ _ _ _ _ hne => absurd (by simp only [primary]) hne, fun _ _ _ _ _ _ _ _ _ _ hne => absurd (by simp only [between]) hne, fun _ _ _ _ _ _ _ hne => absurd (by simp only [named]) hne, fun _ _ _ _ _ _ _ _ hne => absurd (by simp only [call]) hne⟩
    | n + 1, ih =>
      have hn := ih n (by omega)
      exact ⟨row_any (fun m hm => (ih m (by omega)).row) hn.unary, unary_any hn.unary hn.primary, primary_any hL hn.named hn.between, between_any (expr_any hn.row), named_any hn.call hn.between, call_any (fun m hm => expr_any (ih m (by omega)).row)⟩
theorem does_row {F : FW} (hL : DoesLit F) (n : Nat) : DoesExpr F n := expr_any (does_expr hL n).row
end Go.Proofs.YtbejgachdhfakaaGreatDoor
