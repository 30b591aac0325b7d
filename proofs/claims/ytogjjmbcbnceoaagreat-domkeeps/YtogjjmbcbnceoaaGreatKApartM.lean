/- Lists of numbers that lie apart. -/
import Derived.Test.YtogjjmbcbnceoaaGreatKRowsOM
import Derived.Test.YtogjjmbcbnceoaaGreatKBag
import Derived.Test.YtogjjmbcbnceoaaGreatDHp
namespace Go.Proofs.YtogjjmbcbnceoaaGreat
open Go.RowKit

theorem Only.grown {w w1 w2 : World} {S : Nat → Prop} {row : Option Nat} (h : Only w w1 S) (hg : w1.grownBy w2 row) (hS : ∀ k, k < w.heap.size → row = some k → S k) : Only w w2 S :=
  ⟨h.low.trans ⟨hg.os, hg.tape, hg.output, hg.size, fun k hk => by omega⟩, fun k hk hn => (hg.block k (Nat.lt_of_lt_of_le hk h.low.size) (fun e => hn (hS k hk e.symm))).trans (h.same k hk hn)⟩
/-- Rows of one's own, no two in one block. -/
structure Aparts (w : World) (base : Nat) (vs : List Value) (ls : List (List Int)) : Prop where
  len : vs.length = ls.length
  own : ∀ (k : Nat) (x : Value) (l : List Int), vs[k]? = some x → ls[k]? = some l → OwnI w base x l ∧ l.length ≤ 100000
  apart : ∀ (i j : Nat) (a b : Value) (g : Nat), i ≠ j → vs[i]? = some a → vs[j]? = some b → a.ownBlock = some g → b.ownBlock ≠ some g
theorem Aparts.below {w w' : World} {base : Nat} {vs : List Value} {ls : List (List Int)} (h : Aparts w base vs ls) (hb : Below w.heap.size w w') : Aparts w' base vs ls :=
  ⟨h.len, fun k x l h1 h2 => ⟨owns_below (h.own k x l h1 h2).1 hb, (h.own k x l h1 h2).2⟩, h.apart⟩
theorem Aparts.lt {w : World} {base : Nat} {vs : List Value} {ls : List (List Int)} (h : Aparts w base vs ls) {x : Value} (hx : x ∈ vs) {g : Nat} (hg : x.ownBlock = some g) : base ≤ g ∧ g < w.heap.size := by
  obtain ⟨k, hk⟩ := List.getElem?_of_mem hx
  have hkl : k < ls.length := by rw [← h.len]; exact (List.getElem?_eq_some_iff.1 hk).1
  exact (h.own k x _ hk (List.getElem?_eq_getElem hkl)).1.lt g hg
abbrev rowBl (vs : List Value) (k : Nat) : Prop := ∃ x ∈ vs, x.ownBlock = some k
def FlatOk : Prop := ∀ (base : Nat) (v : Value) (vs : List Value) (ls : List (List Int)) (W : World), vs.length ≤ 100000 → base ≤ W.heap.size → W.ownsRow base 23 1 v vs.length vs → Aparts W base vs ls → (∀ x ∈ vs, ∀ g, x.ownBlock = some g → v.ownBlock ≠ some g) →
  Calls Tryz.prog 57 #[v] W fun e w' => e = .returned (.bool true) ∧ Only W w' (rowBl vs)
end Go.Proofs.YtogjjmbcbnceoaaGreat
/- A list put into the bag. -/
namespace Go.Proofs.YtogjjmbcbnceoaaGreat
open Go.RowKit

theorem bag_set (v u : Value) : (bagL v).set 1 u = bagL u := rfl
set_option maxRecDepth 100000 in
set_option maxHeartbeats 1000000 in
theorem putInts_any (base b n m c : Nat) (v : Value) (a : Option Addr) (hs : List Value) (w : World) (hbase : base ≤ w.heap.size) (hX : Box w b (bagL v)) (ho : w.ownsRow base 23 1 v n hs) (hn : n ≤ 1000000) (hv : v.ownBlock ≠ some b) :
    Calls Tryz.prog 37 #[ptr b, .slice a m c] w fun e w' => e = .returned (.tuple #[]) ∧ ∃ v', Box w' b (bagL v') ∧ w'.ownsRow base 23 1 v' (n + 1) (hs ++ [.slice a m c]) ∧ v'.ownBlock ≠ some b ∧ (v'.ownBlock = v.ownBlock ∨ ∃ g, v'.ownBlock = some g ∧ w.heap.size ≤ g) ∧ Only w w' (fun k => k = b ∨ v.ownBlock = some k) := by
  obtain ⟨i0, hi0, hz0, hz1, hz2⟩ := info_parts infoS
  have HX : Hid (Box w b (bagL v)) := hX
  have HO : Hid (w.ownsRow base 23 1 v n hs) := ho
  have HV : Hid (v.ownBlock ≠ some b) := hv
  have c1 : w.cell? ⟨b, 1, none⟩ = some v := hX.cell 1 _ rfl
  clear hX ho hv
  go_enter Tryz.func37, Tryz.ntmps37
  go_wp2_with (at_builtin; clear c1; go_loud (refine wpList_append_own_at _ rfl _ _ 22 rfl base 23 i0 (.slice none 0 0) 1 24 Tryz.underlying22 hi0 hz0 hz1 hz2 rfl (by decide) v n hs rfl (HO.out.alloc _) ⟨w.heap.size, 0, none⟩ 1 1 [.slice a m c] rfl rfl ?c1 ?c2 ?c3 ?c4 ?c5 ?_))
  case c1 => exact cell_one_new _ _ 23
  case c2 => intro u hu; simp at hu; subst hu; rfl
  case c3 => unfold maxLen; omega
  case c4 => omega
  case c5 => simp; omega
  intro v2 w2 ho2 hg2 _ hat
  obtain ⟨g2, cap2, rfl, _, _, _, _⟩ := own_form ho2
  have hb1 : Below w.heap.size w (w.alloc (.cells #[.slice a m c] 23)) := below_alloc (Below.refl _ _) _
  have hX2 : Box w2 b (bagL v) := (HX.out.below hb1).same (hg2.block b (by have := HX.out.lt; simp; omega) (fun e => HV.out e.symm))
  have c2 : w2.cell? ⟨b, 1, none⟩ = some v := hX2.cell 1 _ rfl
  have f2 : w2.frozen? ⟨b, 1, none⟩ = false := hX2.fz 1
  have hv2 : (Value.slice (some ⟨g2, 0, none⟩) (n + 1) cap2).ownBlock ≠ some b := by
    rcases hat with e | e
    · rw [e]; exact HV.out
    · rw [e]; intro e2; have := HX.out.lt; simp at e2; omega
  have HP : Hid (Box (w2.setCell ⟨b, 1, none⟩ (.slice (some ⟨g2, 0, none⟩) (n + 1) cap2)) b (bagL (.slice (some ⟨g2, 0, none⟩) (n + 1) cap2)) ∧ (w2.setCell ⟨b, 1, none⟩ (.slice (some ⟨g2, 0, none⟩) (n + 1) cap2)).ownsRow base 23 1 (.slice (some ⟨g2, 0, none⟩) (n + 1) cap2) (n + 1) (hs ++ [.slice a m c]) ∧ (Value.slice (some ⟨g2, 0, none⟩) (n + 1) cap2).ownBlock ≠ some b ∧ ((Value.slice (some ⟨g2, 0, none⟩) (n + 1) cap2).ownBlock = v.ownBlock ∨ ∃ g, (Value.slice (some ⟨g2, 0, none⟩) (n + 1) cap2).ownBlock = some g ∧ w.heap.size ≤ g) ∧ Only w (w2.setCell ⟨b, 1, none⟩ (.slice (some ⟨g2, 0, none⟩) (n + 1) cap2)) (fun k => k = b ∨ v.ownBlock = some k)) := by
    refine ⟨by have h9 := hX2.set (j := 1) (by simp) (.slice (some ⟨g2, 0, none⟩) (n + 1) cap2); exact h9, owns_other ho2 hv2 _, hv2, ?_, ?_⟩
    · rcases hat with e | e
      · exact .inl e
      · exact .inr ⟨_, e, by simp⟩
    · exact ((((Only.refl w _).alloc _).grown hg2 (fun k _ e => .inr e)).set (.inl rfl) _ _)
  clear ho2 hg2 hat hb1 hX2 hv2
  go_wp2
  first
    | exact bodyPost_end (results_none rfl _ _ _) rfl ⟨rfl, _, HP.out⟩
    | exact bodyPost_ret (results_none rfl _ _ _) rfl ⟨rfl, _, HP.out⟩
end Go.Proofs.YtogjjmbcbnceoaaGreat
/- Lists of numbers that lie apart: found so, if the innermost walk (FlatOk) does. -/
namespace Go.Proofs.YtogjjmbcbnceoaaGreat
open Go.RowKit

theorem bag_new (w : World) : Box (w.alloc (.cells (bagL (.slice none 0 0)).toArray 82)) w.heap.size (bagL (.slice none 0 0)) := Box.new _ _ _
set_option maxRecDepth 100000 in
set_option maxHeartbeats 2000000 in
theorem apartI_any (hF : FlatOk) (base g o c : Nat) (vs : List Value) (ls : List (List Int)) (w : World) (hbase : base ≤ w.heap.size) (hn : vs.length ≤ 100000) (hc : ∀ j u, vs[j]? = some u → w.cell? ⟨g, o + j, none⟩ = some u) (hg : g < w.heap.size) (hA : Aparts w base vs ls) :
    Calls Tryz.prog 20 #[.slice (some ⟨g, o, none⟩) vs.length c] w fun e w' => e = .returned (.bool true) ∧ Only w w' (rowBl vs) := by
  have HX0 : Hid _ := bag_new w
  have HB0 : Hid (Below w.heap.size w (w.alloc (.cells (bagL (.slice none 0 0)).toArray 82))) := below_alloc (Below.refl _ _) _
  have HO0 : Hid ((w.alloc (.cells (bagL (.slice none 0 0)).toArray 82)).ownsRow w.heap.size 23 1 (.slice none 0 0) 0 []) := World.ownsRow_nil _ _ _ _
  have HA : Hid (Aparts w base vs ls) := hA
  have HC : Hid (∀ k, k < vs.length → ∃ a m cc, vs[k]? = some (.slice a m cc) ∧ w.cell? ⟨g, o + k, none⟩ = some (.slice a m cc)) := fun k hk => by
    have h1 := List.getElem?_eq_getElem hk
    have h2 : k < ls.length := by rw [← hA.len]; exact hk
    obtain ⟨ha, hl⟩ := hA.own k _ _ h1 (List.getElem?_eq_getElem h2)
    obtain ⟨a, cc, e, _⟩ := (OwnI.at' ha (by omega)).form
    exact ⟨a, _, cc, by rw [h1, e], by rw [hc k _ h1, e]⟩
  have HEND : Hid (∀ (v : Value) (wr : World), Below w.heap.size w wr → Box wr w.heap.size (bagL v) → wr.ownsRow w.heap.size 23 1 v vs.length vs → Calls Tryz.prog 38 #[ptr w.heap.size] wr fun e w' => e = .returned (.bool true) ∧ Only w w' (rowBl vs)) := fun v wr hb hx ho => by
    refine (apart_any (rowBl vs) w.heap.size v wr hx fun W hW => ?_).mono fun e w' hh => ⟨hh.1, ((Only.refl w _).after hb).trans hh.2⟩
    have hbW : Below w.heap.size w W := below_trans hb hW
    refine (hF base v vs ls W hn (Nat.le_trans hbase hbW.size) (own_mono (owns_below ho hW) hbase) (hA.below hbW) fun x hx g hg hv => ?_).mono fun e w' hh => ⟨hh.1, hh.2, hh.2.same _ (Nat.lt_of_lt_of_le hx.lt hW.size) fun ⟨x, hx, hg⟩ => ?_⟩
    · have h1 := (hA.lt hx hg).2
      have h2 := (ho.lt g hv).1
      omega
    · have h1 := (hA.lt hx hg).2
      omega
  obtain ⟨n, hnn⟩ : ∃ n, n = vs.length := ⟨_, rfl⟩
  have HN : Hid (n = vs.length) := hnn
  rw [← hnn] at HC HEND hn
  rw [← hnn]
  clear hF hc hA hnn hbase
  go_enter Tryz.func20, Tryz.ntmps20
  go_wp2
  go_loopw [4] (fun vi wr => ∃ (k : Nat) (v : Value), vi = .int .i64 k ∧ k ≤ n ∧ Hid (Below w.heap.size w wr ∧ Box wr w.heap.size (bagL v) ∧ wr.ownsRow w.heap.size 23 1 v k (vs.take k) ∧ v.ownBlock ≠ some w.heap.size)) (fun vi _ => n - (intOf vi).toNat)
  case atStart => exact ⟨0, .slice none 0 0, rfl, by omega, HB0.out, HX0.out, HO0.out, fun e => by cases e⟩
  case round =>
    obtain ⟨k, v, rfl, hk, hr⟩ := hrel
    clear HB0 HX0 HO0
    by_cases hkn : k < n
    · have hkn' : (k : Int) < n := by omega
      obtain ⟨a, m, cc, hv, c0⟩ := HC.out k hkn
      have c0' : wr.cell? ⟨g, o + k, none⟩ = some (.slice a m cc) := (hr.out.1.cell (p := ⟨g, o + k, none⟩) hg).trans c0
      have HT : Hid (vs.take (k + 1) = vs.take k ++ [.slice a m cc]) := by
        show _ = _
        rw [List.take_add_one, hv]
        rfl
      have HP : Hid (Calls Tryz.prog 37 #[ptr w.heap.size, .slice a m cc] wr _) := putInts_any w.heap.size w.heap.size k m cc v a (vs.take k) wr hr.out.1.size hr.out.2.1 hr.out.2.2.1 (by omega) hr.out.2.2.2
      clear HC hv c0
      go_wp2_with (go_at_call 37; go_loud (refine Calls.mono (by exact HP.out) ?_; rintro e w1 ⟨rfl, v1, h1, h2, h3, h4, h5⟩; have H1 : Hid _ := h1; have H2 : Hid _ := h2; have H3 : Hid _ := h3; have H5 : Hid _ := h5; clear h1 h2 h3 h4 h5))
      go_roundw
      case rel =>
        refine ⟨k + 1, v1, by first | rfl | (congr 1; omega), by omega, hr.out.1.trans (H5.out.below hr.out.1.size fun q hq => ?_), H1.out, by rw [HT.out]; exact H2.out, H3.out⟩
        rcases hq with rfl | hq
        · exact Nat.le_refl _
        · exact (hr.out.2.2.1.lt q hq).1
      case measure => simp [intOf]; omega
    · obtain rfl : k = n := by omega
      have HE : Hid (Calls Tryz.prog 38 #[ptr w.heap.size] wr _) := HEND.out v wr hr.out.1 hr.out.2.1 (by have h9 := hr.out.2.2.1; rw [HN.out, List.take_length, ← HN.out] at h9; exact h9)
      clear HC HEND hr
      go_wp2_with (go_at_call 38; go_loud (refine Calls.mono (by exact HE.out) ?_; rintro e w1 ⟨rfl, h1⟩; have H1 : Hid _ := h1; clear h1))
      go_ret
      exact ⟨rfl, H1.out⟩
end Go.Proofs.YtogjjmbcbnceoaaGreat
