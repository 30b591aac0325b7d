/- A word's bits, told rising behind a row. -/
import Derived.Test.YtcggbedjhglmmaaDoorLEndM
namespace Go.Proofs.YtcggbedjhglmmaaDoor
open Go.RowKit

def bitsL (x : Nat) : List Nat := (List.range 64).filter fun b => x.testBit b
theorem filter_first {p q : Nat → Bool} {k : Nat} : ∀ {l : List Nat}, l.Pairwise (· < ·) → k ∈ l → p k = true → (∀ j, j < k → p j = false) → (∀ j, q j = (p j && decide (j ≠ k))) → l.filter p = k :: l.filter q
  | [], _, h, _, _, _ => by simp at h
  | a :: l, hs, hk, hp, hl, hq => by
    rw [List.pairwise_cons] at hs
    by_cases e : a = k
    · subst e
      have e1 : (a :: l).filter p = a :: l.filter p := by rw [List.filter_cons, if_pos hp]
      have e2 : (a :: l).filter q = l.filter q := by rw [List.filter_cons, if_neg (by rw [hq]; simp)]
      rw [e1, e2]
      congr 1
      refine List.filter_congr fun j hj => ?_
      have := hs.1 j hj
      rw [hq, decide_eq_true (by omega : j ≠ a), Bool.and_true]
    · have hkl : k ∈ l := (List.mem_cons.1 hk).resolve_left fun h => e h.symm
      have hak := hs.1 k hkl
      have e1 : (a :: l).filter p = l.filter p := by rw [List.filter_cons, if_neg (by rw [hl a hak]; simp)]
      have e2 : (a :: l).filter q = l.filter q := by rw [List.filter_cons, if_neg (by rw [hq, hl a hak]; simp)]
      rw [e1, e2]
      exact filter_first hs.2 hkl hp hl hq
theorem low_bits {x : Nat} (hx : x < 2 ^ 64) (h0 : x ≠ 0) : Lib.ctz 64 x < 64 ∧ ∀ j, x.testBit j = (if j < Lib.ctz 64 x + 1 then decide (j = Lib.ctz 64 x) else x.testBit j) ∧ (x &&& (x - 1)).testBit j = (x.testBit j && decide (j ≠ Lib.ctz 64 x)) := by
  have e : Lib.ctz 64 x = Lib.ctzFrom 64 x := by unfold Lib.ctz; rw [if_neg h0]
  obtain ⟨m, hm, hk⟩ := Lib.ctzFrom_spec 64 x (by omega) hx
  rw [e]
  generalize Lib.ctzFrom 64 x = k at *
  refine ⟨hk, fun j => ?_⟩
  have hp : 0 < 2 ^ k := Nat.two_pow_pos _
  have hps : 2 ^ (k + 1) = 2 * 2 ^ k := by rw [Nat.pow_succ, Nat.mul_comm]
  have hx1 : x = 2 ^ (k + 1) * m + 2 ^ k := by rw [hm, hps, Nat.mul_add, Nat.mul_one, ← Nat.mul_assoc, Nat.mul_comm (2 ^ k) 2]
  have hx2 : x - 1 = 2 ^ (k + 1) * m + (2 ^ k - 1) := by omega
  have b1 : x.testBit j = if j < k + 1 then (2 ^ k).testBit j else m.testBit (j - (k + 1)) := by rw [hx1]; exact Nat.testBit_two_pow_mul_add m (by omega) j
  have b2 : (x - 1).testBit j = if j < k + 1 then (2 ^ k - 1).testBit j else m.testBit (j - (k + 1)) := by rw [hx2]; exact Nat.testBit_two_pow_mul_add m (by omega) j
  constructor
  · by_cases hj : j < k + 1
    · rw [if_pos hj] at b1 ⊢
      rw [b1, Nat.testBit_two_pow]
      exact decide_eq_decide.2 eq_comm
    · rw [if_neg hj]
  · rw [Nat.testBit_and, b2]
    by_cases hj : j < k + 1
    · rw [if_pos hj] at b1 ⊢
      rw [b1, Nat.testBit_two_pow, Nat.testBit_two_pow_sub_one]
      by_cases e : k = j
      · subst e; simp
      · have : ¬ (j = k) := fun h => e h.symm
        simp [e]
    · rw [if_neg hj] at b1 ⊢
      rw [b1, decide_eq_true (by omega : j ≠ k)]
      simp
theorem bitsL_zero : bitsL 0 = [] := by unfold bitsL; simp
theorem bitsL_step {x : Nat} (hx : x < 2 ^ 64) (h0 : x ≠ 0) : bitsL x = Lib.ctz 64 x :: bitsL (x &&& (x - 1)) := by
  obtain ⟨hk, hb⟩ := low_bits hx h0
  unfold bitsL
  refine filter_first List.pairwise_lt_range (List.mem_range.2 hk) ?_ (fun j hj => ?_) (fun j => (hb j).2)
  · rw [(hb _).1, if_pos (by omega)]; simp
  · rw [(hb j).1, if_pos (by omega)]; exact decide_eq_false (by omega)
theorem bitsL_len (x : Nat) : (bitsL x).length ≤ 64 := by
  unfold bitsL
  exact Nat.le_trans (List.length_filter_le _ _) (by simp)
def toldL (l : List Int) (first x : Nat) : List Int := l ++ (bitsL x).map fun b => ((first + b : Nat) : Int)
theorem toldL_step {l : List Int} {first x : Nat} (hx : x < 2 ^ 64) (h0 : x ≠ 0) : toldL l first x = toldL (l ++ [((first + Lib.ctz 64 x : Nat) : Int)]) first (x &&& (x - 1)) := by
  unfold toldL
  rw [bitsL_step hx h0, List.map_cons, List.append_assoc, List.singleton_append]
theorem own_any {w : World} {base : Nat} {v : Value} {l : List Int} (h : OwnI w base v l) : ∃ ta tc, v = .slice ta l.length tc := by
  rcases own_shape h with ⟨e, e0⟩ | ⟨g, c, e, _⟩
  · exact ⟨none, 0, by rw [e, e0]⟩
  · exact ⟨_, _, e⟩
theorem grown_trans {w w1 w2 : World} {r r1 : Option Nat} (h : w.grownBy w1 r) (g : w1.grownBy w2 r1) (hr : ∀ b, r1 = some b → r = some b ∨ w.heap.size ≤ b) : w.grownBy w2 r :=
  ⟨g.os.trans h.os, g.tape.trans h.tape, g.output.trans h.output, Nat.le_trans h.size g.size, fun k hk hne => (g.block k (Nat.lt_of_lt_of_le hk h.size) (fun e => by
    rcases hr k e.symm with e2 | e2
    · exact hne e2.symm
    · omega)).trans (h.block k hk hne)⟩
theorem TzAt.grown {w w' : World} {r : Option Nat} (h : TzAt w) (hg : w.grownBy w' r) (hr : r ≠ some 0) : TzAt w' :=
  ⟨Nat.lt_of_lt_of_le h.1 hg.size, fun j hj => (World.cell?_of_block (w := w) (a := ⟨0, j, none⟩) (hg.block 0 h.1 (fun e => hr e.symm))).trans (h.2 j hj)⟩
theorem grown_alloc2 {w w' : World} {o : Obj} {r : Option Nat} (h : (w.alloc o).grownBy w' r) : w.grownBy w' r :=
  ⟨h.os, h.tape, h.output, Nat.le_trans (by simp) h.size, fun k hk hr => (h.block k (Nat.lt_of_lt_of_le hk (by simp)) hr).trans ((below_alloc (Below.refl w.heap.size w) o).block k hk)⟩
set_option maxRecDepth 100000 in
set_option maxHeartbeats 2000000 in
theorem told_any {w : World} {base : Nat} {v : Value} {l : List Int} (h : OwnI w base v l) (hl : l.length ≤ 1000000) (hbs : base ≤ w.heap.size) (hb0 : 0 < base) (hT : TzAt w) (first x : Nat) (hf : first ≤ 100000000) (hx : x < 2 ^ 64) :
    Calls Tryd.prog 31 #[v, .int .i64 (first : Int), .int .u64 (x : Int)] w fun e w' => ∃ v', e = .returned v' ∧ OwnI w' base v' (toldL l first x) ∧ w.grownBy w' v.ownBlock ∧ (∀ g, v'.ownBlock = some g → v.ownBlock = some g ∨ w.heap.size ≤ g) := by
  have HON : Hid (∀ W, Calls Tryd.prog 45 #[.int .u64 (x : Int)] W fun e w' => (∃ c : Nat, c ≤ 127 ∧ e = .returned (.int .i64 c)) ∧ w' = W) := fun W => ones_any x W
  have HGR : Hid (∀ (c : Nat), c ≤ 127 → Calls Tryd.prog 44 #[v, .int .i64 (c : Int)] w fun e w' => ∃ v', e = .returned v' ∧ OwnI w' base v' l ∧ w.grownBy w' v.ownBlock ∧ (v'.ownBlock = v.ownBlock ∨ v'.ownBlock = some w.heap.size)) := fun c hc => grow_own h (by omega) hbs c hc
  have HV : Hid (v.ownBlock ≠ some 0) := fun e => by have := (h.lt 0 e).1; omega
  have HT : Hid (TzAt w) := hT
  have HX : Hid (x < 2 ^ 64) := hx
  have HBS : Hid (base ≤ w.heap.size ∧ 0 < base) := ⟨hbs, hb0⟩
  obtain ⟨RES, hRES⟩ : ∃ RES, RES = toldL l first x := ⟨_, rfl⟩
  rw [← hRES]
  have HR : Hid (toldL l first x = RES) := hRES.symm
  obtain ⟨i0, hi0, hz0, hz1, hz2⟩ := info_parts infoI
  have HLB : Hid (l.length ≤ 1000000) := hl
  clear h hT hx hRES hbs hb0 hl
  go_enter Tryd.func31, Tryd.ntmps31
  go_wp2_with (first
    | (go_at_call 45; go_loud (refine Calls.mono (by exact HON.out _) ?_; rintro e w1 ⟨⟨c, hc, rfl⟩, hw1⟩; subst w1; have HC : Hid (c ≤ 127) := hc; clear hc))
    | (go_at_call 44; go_loud (refine Calls.mono (by exact HGR.out c HC.out) ?_; rintro e w1 ⟨v1, rfl, ho1, hg1, hat1⟩; have HQ1 : Hid (OwnI w1 base v1 l ∧ w.grownBy w1 v.ownBlock ∧ (∀ g, v1.ownBlock = some g → v.ownBlock = some g ∨ w.heap.size ≤ g)) := ⟨ho1, hg1, fun g hg => by
        rcases hat1 with e | e
        · exact .inl (e ▸ hg)
        · rw [e] at hg; cases hg; exact .inr (Nat.le_refl _)⟩; clear ho1 hg1 hat1; obtain ⟨a1, c1, rfl⟩ : ∃ ta tc, v1 = .slice ta l.length tc := own_any HQ1.out.1)))
  go_loopw [0, 2] (fun t0 t2 wr => ∃ (ta : Option Addr) (tc xx : Nat) (ll : List Int), t0 = .slice ta ll.length tc ∧ t2 = .int .u64 xx ∧ Hid (xx < 2 ^ 64 ∧ OwnI wr base (.slice ta ll.length tc) ll ∧ toldL ll first xx = RES ∧ ll.length + (bitsL xx).length ≤ 1000064 ∧ w.grownBy wr v.ownBlock ∧ (∀ g, (Value.slice ta ll.length tc).ownBlock = some g → v.ownBlock = some g ∨ w.heap.size ≤ g))) (fun _ t2 _ => (intOf t2).toNat)
  case atStart => exact ⟨a1, c1, x, l, rfl, rfl, HX.out, HQ1.out.1, HR.out, by have := bitsL_len x; have := HLB.out; omega, HQ1.out.2⟩
  case round =>
    obtain ⟨ta, tc, xx, ll, rfl, rfl, hr⟩ := hrel
    clear HQ1 HR HX HGR HON HC
    by_cases hz : xx = 0
    · subst hz
      have HE : Hid (ll = RES) := by show _ = _; rw [← hr.out.2.2.1]; unfold toldL; rw [bitsL_zero]; simp
      go_wp2
      go_ret
      exact ⟨_, rfl, by rw [← HE.out]; exact hr.out.2.1, hr.out.2.2.2.2⟩
    · have hne : ((xx : Int) != 0) = true := by simpa using hz
      have hT2 : TzAt wr := HT.out.grown hr.out.2.2.2.2.1 HV.out
      have HTZ : Hid _ := tz_any xx hr.out.1 hz wr hT2
      obtain ⟨y, hy⟩ : ∃ y, y = xx - 1 := ⟨_, rfl⟩
      obtain ⟨z, hzz⟩ : ∃ z, z = xx &&& y := ⟨_, rfl⟩
      have hx64 := hr.out.1
      have hsub : IntKind.u64.wrap ((xx : Int) - 1) = (y : Int) := by rw [IntKind.wrap_u64]; omega
      have hand : bits .and .u64 (xx : Int) (y : Int) = (z : Int) := by rw [hzz]; exact and_wd hx64 (by omega)
      have hzx : z < xx := by have : z ≤ y := by rw [hzz]; exact Nat.and_le_right
                              omega
      have hst := toldL_step (l := ll) (first := first) hx64 hz
      rw [← hy, ← hzz, hr.out.2.2.1] at hst
      have hbl : (bitsL z).length + 1 = (bitsL xx).length := by rw [bitsL_step hx64 hz, ← hy, ← hzz]; simp
      have HST : Hid _ := hst
      have hck : Lib.ctz 64 xx < 64 := (low_bits hx64 hz).1
      have HZ : Hid (z < 2 ^ 64 ∧ (ll.length + 1) + (bitsL z).length ≤ 1000064) := ⟨by omega, by have := hr.out.2.2.2.1; omega⟩
      have hlb : ll.length ≤ 1000064 := by have := hr.out.2.2.2.1; omega
      have HLL : Hid (ll.length ≤ 1000064) := hlb
      generalize Lib.ctz 64 xx = ck at *
      have hck' : (ck : Int) < 64 := by omega
      have hf' : (first : Int) ≤ 100000000 := by omega
      have HO : Hid (wr.ownsRow base 3 1 (.slice ta ll.length tc) ll.length (ll.map intV)) := hr.out.2.1
      have HSZ : Hid (base ≤ wr.heap.size) := Nat.le_trans HBS.out.1 hr.out.2.2.2.2.1.size
      clear hst hbl hy hzz hT2 hck hf hlb
      generalize hlg : ll.length = lg at *
      go_wp2_with (first
        | (go_at_call 46; go_loud (refine Calls.mono (by exact HTZ.out) ?_; rintro e w1 ⟨rfl, hw1⟩; subst w1))
        | (at_builtin; go_loud (refine wpList_append_own_at _ rfl _ _ 33 rfl base 3 i0 (.int .i64 0) 1 8 Tryd.underlying33 hi0 hz0 hz1 hz2 rfl (by decide) _ lg (ll.map intV) rfl (HO.out.alloc _) ⟨_, 0, none⟩ 1 1 [intV ((first : Int) + (ck : Int))] rfl rfl ?c1 ?c2 ?c3 ?c4 ?c5 ?_)))
      case c1 => exact cell_one_new _ _ 3
      case c2 => intro u hu; simp at hu; subst hu; rfl
      case c3 => have := HLL.out; unfold maxLen; omega
      case c4 => have := HLL.out; omega
      case c5 => have := HSZ.out; simp; omega
      intro v2 w2 ho hg2 _ hat
      obtain ⟨g2, cc2, rfl, _, _, _, _⟩ := own_form ho
      have HQ : Hid (OwnI w2 base (.slice (some ⟨g2, 0, none⟩) (lg + 1) cc2) (ll ++ [((first + ck : Nat) : Int)]) ∧ w.grownBy w2 v.ownBlock ∧ (∀ g, (Value.slice (some ⟨g2, 0, none⟩) (lg + 1) cc2).ownBlock = some g → v.ownBlock = some g ∨ w.heap.size ≤ g)) := by
        have hsz := hr.out.2.2.2.2.1.size
        refine ⟨?_, grown_trans hr.out.2.2.2.2.1 (grown_alloc2 hg2) hr.out.2.2.2.2.2, fun g hg => ?_⟩
        · show World.ownsRow _ _ _ _ _ _ _
          rw [List.length_append, hlg, List.map_append]
          exact ho
        · rcases hat with e | e
          · rw [e] at hg; exact hr.out.2.2.2.2.2 g hg
          · rw [e] at hg; simp at hg; exact .inr (by omega)
      clear ho hg2 hat
      go_wp2
      go_roundw
      case rel => exact ⟨_, cc2, z, ll ++ [((first + ck : Nat) : Int)], by rw [List.length_append, hlg]; rfl, rfl, HZ.out.1, by rw [List.length_append, hlg]; exact HQ.out.1, HST.out.symm, by rw [List.length_append, hlg]; exact HZ.out.2, HQ.out.2.1, by rw [List.length_append, hlg]; exact HQ.out.2.2⟩
      case measure => simp [intOf]; omega
end Go.Proofs.YtcggbedjhglmmaaDoor
