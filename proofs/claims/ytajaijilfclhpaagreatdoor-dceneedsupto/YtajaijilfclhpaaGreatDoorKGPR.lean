/- A list put into the bag; lists that lie apart are found so. -/
import Derived.Test.YtajaijilfclhpaaGreatDoorKGBRM
import Derived.Test.YtajaijilfclhpaaGreatDoorKGFR
namespace Go.Proofs.YtajaijilfclhpaaGreatDoor
open Go.RowKit

set_option maxRecDepth 100000 in
set_option maxHeartbeats 1000000 in
theorem putR_any (base b n m c : Nat) (v : Value) (a : Option Addr) (hs : List Value) (w : World) (hbase : base ≤ w.heap.size) (hX : Box w b (bagR v)) (ho : w.ownsRow base 33 1 v n hs) (hn : n ≤ 1000000) (hv : v.ownBlock ≠ some b) :
  Calls Tryz.prog 36 #[ptr b, .slice a m c] w fun e w' => e = .returned (.tuple #[]) ∧ ∃ v', Box w' b (bagR v') ∧ w'.ownsRow base 33 1 v' (n + 1) (hs ++ [.slice a m c]) ∧ v'.ownBlock ≠ some b ∧ Only w w' (fun k => k = b ∨ v.ownBlock = some k) := by
 obtain ⟨i0, hi0, hz0, hz1, hz2⟩ := info_parts infoKSR
 have HX : Hid (Box w b (bagR v)) := hX
 have HO : Hid (w.ownsRow base 33 1 v n hs) := ho
 have HV : Hid (v.ownBlock ≠ some b) := hv
 have c1 : w.cell? ⟨b, 6, none⟩ = some v := hX.cell 6 _ rfl
 clear hX ho hv
 go_enter Tryz.func36, Tryz.ntmps36
 go_wp2_with (at_builtin; clear c1; go_loud (refine wpList_append_own_at _ rfl _ _ 38 rfl base 33 i0 (.slice none 0 0) 1 24 Tryz.underlying38 hi0 hz0 hz1 hz2 rfl (by decide) v n hs rfl (World.ownsRow.alloc HO.out _) ⟨w.heap.size, 0, none⟩ 1 1 [.slice a m c] rfl rfl ?c1 ?c2 ?c3 ?c4 ?c5 ?_))
 case c1 => intro q u hq; rw [Addr.add_lit, Nat.zero_add]; exact (Box.new w [.slice a m c] 33).cell q u hq
 case c2 => intro u hu; simp at hu; subst hu; rfl
 case c3 => unfold maxLen; omega
 case c4 => omega
 case c5 => simp; omega
 intro v2 w2 ho2 hg2 _ hat
 obtain ⟨g2, cap2, rfl, _, _, _, _⟩ := own_form ho2
 have hb1 : Below w.heap.size w (w.alloc (.cells #[.slice a m c] 33)) := below_alloc (Below.refl _ _) _
 have hX2 : Box w2 b (bagR v) := (HX.out.below hb1).same (hg2.block b (by have := HX.out.lt; simp; omega) (fun e => HV.out e.symm))
 have c2 : w2.cell? ⟨b, 6, none⟩ = some v := hX2.cell 6 _ rfl
 have f2 : w2.frozen? ⟨b, 6, none⟩ = false := hX2.fz 6
 have hv2 : (Value.slice (some ⟨g2, 0, none⟩) (n + 1) cap2).ownBlock ≠ some b := by
  rcases hat with e | e
  ·rw [e]; exact HV.out
  ·rw [e]; intro e2; have := HX.out.lt; simp at e2; omega
 have HP : Hid (Box (w2.setCell ⟨b, 6, none⟩ (.slice (some ⟨g2, 0, none⟩) (n + 1) cap2)) b (bagR (.slice (some ⟨g2, 0, none⟩) (n + 1) cap2)) ∧ (w2.setCell ⟨b, 6, none⟩ (.slice (some ⟨g2, 0, none⟩) (n + 1) cap2)).ownsRow base 33 1 (.slice (some ⟨g2, 0, none⟩) (n + 1) cap2) (n + 1) (hs ++ [.slice a m c]) ∧ (Value.slice (some ⟨g2, 0, none⟩) (n + 1) cap2).ownBlock ≠ some b ∧ Only w (w2.setCell ⟨b, 6, none⟩ (.slice (some ⟨g2, 0, none⟩) (n + 1) cap2)) (fun k => k = b ∨ v.ownBlock = some k)) := by
  refine ⟨by have h9 := hX2.set (j := 6) (by simp) (.slice (some ⟨g2, 0, none⟩) (n + 1) cap2); exact h9, owns_other ho2 hv2 _, hv2, ?_⟩
  exact ((((Only.refl w _).alloc _).grown hg2 (fun k _ e => .inr e)).set (.inr (.inl rfl)) _ _)
 clear ho2 hg2 hat hb1 hX2 hv2
 go_wp2
 first
  | exact bodyPost_end (results_none rfl _ _ _) rfl ⟨rfl, _, HP.out⟩
  | exact bodyPost_ret (results_none rfl _ _ _) rfl ⟨rfl, _, HP.out⟩
set_option maxRecDepth 100000 in
set_option maxHeartbeats 2000000 in
theorem apartR_any (base g o c : Nat) (vs : List Value) (w : World) (hbase : base ≤ w.heap.size) (hn : vs.length ≤ 100000) (hc : ∀ j u, vs[j]? = some u → w.cell? ⟨g, o + j, none⟩ = some u) (hg : g < w.heap.size) (hA : ApartsC 4 1 w base vs) :
  Calls Tryz.prog 13 #[.slice (some ⟨g, o, none⟩) vs.length c] w fun e w' => e = .returned (.bool true) ∧ Only w w' (rowBl vs) := by
 have HX0 : Hid (Box (w.alloc (.cells (bagR (.slice none 0 0)).toArray 102)) w.heap.size (bagR (.slice none 0 0))) := Box.new _ _ _
 have HB0 : Hid (Below w.heap.size w (w.alloc (.cells (bagR (.slice none 0 0)).toArray 102))) := below_alloc (Below.refl _ _) _
 have HO0 : Hid ((w.alloc (.cells (bagR (.slice none 0 0)).toArray 102)).ownsRow w.heap.size 33 1 (.slice none 0 0) 0 []) := World.ownsRow_nil _ _ _ _
 have HC : Hid (∀ k, k < vs.length → ∃ a m cc, vs[k]? = some (.slice a m cc) ∧ w.cell? ⟨g, o + k, none⟩ = some (.slice a m cc)) := fun k hk => by
  have h1 := List.getElem?_eq_getElem hk
  obtain ⟨n, cs, _, ho⟩ := hA.own k _ h1
  obtain ⟨a, cc, e, _⟩ := own_slK ho
  exact ⟨a, _, cc, by rw [h1, e], by rw [hc k _ h1, e]⟩
 have HEND : Hid (∀ (v : Value) (wr : World), Below w.heap.size w wr → Box wr w.heap.size (bagR v) → wr.ownsRow w.heap.size 33 1 v vs.length vs → Calls Tryz.prog 37 #[ptr w.heap.size] wr fun e w' => e = .returned (.bool true) ∧ Only w w' (rowBl vs)) := fun v wr hb hx ho => by
  refine (apartBR_any (rowBl vs) w.heap.size v wr hx fun W hW => ?_).mono fun e w' hh => ⟨hh.1, ((Only.refl w _).after hb).trans hh.2⟩
  have hbW : Below w.heap.size w W := below_trans hb hW
  refine (flatR_ok base v vs W hn (Nat.le_trans hbase hbW.size) (own_mono (owns_below ho hW) hbase) (hA.below hbW) fun g hg hv => ?_).mono fun e w' hh => ⟨hh.1, hh.2, hh.2.same _ (Nat.lt_of_lt_of_le hx.lt hW.size) fun hg => ?_⟩
  ·have h1 := (hA.lt hg).2
   have h2 := (World.ownsRow.lt ho g hv).1
   omega
  ·have h1 := (hA.lt hg).2
   omega
 obtain ⟨n, hnn⟩ : ∃ n, n = vs.length := ⟨_, rfl⟩
 have HN : Hid (n = vs.length) := hnn
 rw [← hnn] at HC HEND hn
 rw [← hnn]
 clear hc hA hnn hbase
 go_enter Tryz.func13, Tryz.ntmps13
 go_wp2
 go_loopw [4] (fun vi wr => ∃ (k : Nat) (v : Value), vi = .int .i64 k ∧ k ≤ n ∧ Hid (Below w.heap.size w wr ∧ Box wr w.heap.size (bagR v) ∧ wr.ownsRow w.heap.size 33 1 v k (vs.take k) ∧ v.ownBlock ≠ some w.heap.size)) (fun vi _ => n - (intOf vi).toNat)
 case atStart => exact ⟨0, .slice none 0 0, rfl, by omega, HB0.out, HX0.out, HO0.out, fun e => by cases e⟩
 case round =>
  obtain ⟨k, v, rfl, hk, hr⟩ := hrel
  clear HB0 HX0 HO0
  by_cases hkn : k < n
  ·have hkn' : (k : Int) < n := by omega
   obtain ⟨a, m, cc, hv, c0⟩ := HC.out k hkn
   have c0' : wr.cell? ⟨g, o + k, none⟩ = some (.slice a m cc) := (hr.out.1.cell (p := ⟨g, o + k, none⟩) hg).trans c0
   have HT : Hid (vs.take (k + 1) = vs.take k ++ [.slice a m cc]) := by
    show _ = _
    rw [List.take_add_one, hv]
    rfl
   have HP : Hid (Calls Tryz.prog 36 #[ptr w.heap.size, .slice a m cc] wr _) := putR_any w.heap.size w.heap.size k m cc v a (vs.take k) wr hr.out.1.size hr.out.2.1 hr.out.2.2.1 (by omega) hr.out.2.2.2
   clear HC hv c0
   go_wp2_with (go_at_call 36; go_loud (refine Calls.mono (by exact HP.out) ?_; rintro e w1 ⟨rfl, v1, h1, h2, h3, h5⟩; have H1 : Hid _ := h1; have H2 : Hid _ := h2; have H3 : Hid _ := h3; have H5 : Hid _ := h5; clear h1 h2 h3 h5))
   go_roundw
   case rel =>
    refine ⟨k + 1, v1, by first | rfl | (congr 1; omega), by omega, hr.out.1.trans (H5.out.below hr.out.1.size fun q hq => ?_), H1.out, by rw [HT.out]; exact H2.out, H3.out⟩
    rcases hq with rfl | hq
    ·exact Nat.le_refl _
    ·exact (World.ownsRow.lt hr.out.2.2.1 q hq).1
   case measure => simp [intOf]; omega
  ·obtain rfl : k = n := by omega
   have HE : Hid (Calls Tryz.prog 37 #[ptr w.heap.size] wr _) := HEND.out v wr hr.out.1 hr.out.2.1 (by have h9 := hr.out.2.2.1; rw [HN.out, List.take_length, ← HN.out] at h9; exact h9)
   clear HC HEND hr
   go_wp2_with (go_at_call 37; go_loud (refine Calls.mono (by exact HE.out) ?_; rintro e w1 ⟨rfl, h1⟩; have H1 : Hid _ := h1; clear h1))
   go_ret
   exact ⟨rfl, H1.out⟩
end Go.Proofs.YtajaijilfclhpaaGreatDoor
