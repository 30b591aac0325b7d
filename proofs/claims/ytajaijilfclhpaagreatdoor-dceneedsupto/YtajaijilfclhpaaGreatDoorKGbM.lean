/- Instructions lent. -/
import Derived.Test.YtajaijilfclhpaaGreatDoorKGiM
import Derived.Test.YtajaijilfclhpaaGreatDoorNEvM
namespace Go.Proofs.YtajaijilfclhpaaGreatDoor
open Go.RowKit

theorem size_setK (w : World) (a : Addr) (u : Value) : (w.setCell a u).heap.size = w.heap.size := by simp [World.setCell]
theorem LentI.widen {w : World} {lo hi lo' hi' : Nat} {v : Value} {l : List Int} (h : LentI w lo hi v l) (h1 : lo' ≤ lo) (h2 : hi ≤ hi') : LentI w lo' hi' v l := by
 obtain ⟨g, cap, h⟩ := h
 exact ⟨g, cap, h.mono h1 h2⟩
theorem LentT.widen {w : World} {lo hi lo' hi' : Nat} {v : Value} {l : List Int} (h : LentT w lo hi v l) (h1 : lo' ≤ lo) (h2 : hi ≤ hi') : LentT w lo' hi' v l := by
 obtain ⟨g, cap, h⟩ := h
 exact ⟨g, cap, h.mono h1 h2⟩
theorem LentA.widen {w : World} {lo hi lo' hi' : Nat} {v : Value} {l : List (Int × Int)} (h : LentA w lo hi v l) (h1 : lo' ≤ lo) (h2 : hi ≤ hi') : LentA w lo' hi' v l := by
 obtain ⟨g, cap, h⟩ := h
 exact ⟨g, cap, h.mono h1 h2⟩
theorem LentN.widen {w : World} {lo hi lo' hi' : Nat} {v : Value} {l : List In} (h : LentN w lo hi v l) (h1 : lo' ≤ lo) (h2 : hi ≤ hi') : LentN w lo' hi' v l := by
 obtain ⟨g, cap, avs, q1, q2⟩ := h.row
 exact ⟨h.wf, g, cap, avs, q1.mono h1 h2, q2.imp h1 h2 fun _ _ _ _ _ _ hk => hk⟩
theorem LentB.widen {w : World} {lo hi lo' hi' : Nat} {v : Value} {l : List Bl} (h : LentB w lo hi v l) (h1 : lo' ≤ lo) (h2 : hi ≤ hi') : LentB w lo' hi' v l := by
 obtain ⟨g, cap, avs, q1, q2⟩ := h.row
 exact ⟨g, cap, avs, q1.mono h1 h2, q2.imp h1 h2 fun _ _ _ _ _ _ hk => hk⟩
theorem LentI.form {w : World} {lo hi : Nat} {v : Value} {l : List Int} (h : LentI w lo hi v l) : ∃ a c, v = .slice a l.length c := by
 obtain ⟨g, cap, h⟩ := h
 exact ⟨_, _, h.eq⟩
theorem LentT.form {w : World} {lo hi : Nat} {v : Value} {l : List Int} (h : LentT w lo hi v l) : ∃ a c, v = .slice a l.length c := by
 obtain ⟨g, cap, h⟩ := h
 exact ⟨_, _, h.eq⟩
theorem LentA.form {w : World} {lo hi : Nat} {v : Value} {l : List (Int × Int)} (h : LentA w lo hi v l) : ∃ a c, v = .slice a l.length c := by
 obtain ⟨g, cap, h⟩ := h
 exact ⟨_, _, h.eq⟩
theorem LentN.form {w : World} {lo hi : Nat} {v : Value} {l : List In} (h : LentN w lo hi v l) : ∃ a c, v = .slice a l.length c := by
 obtain ⟨g, cap, avs, h, _⟩ := h.row
 exact ⟨_, _, h.eq⟩
theorem LentB.form {w : World} {lo hi : Nat} {v : Value} {l : List Bl} (h : LentB w lo hi v l) : ∃ a c, v = .slice a l.length c := by
 obtain ⟨g, cap, avs, h, _⟩ := h.row
 exact ⟨_, _, h.eq⟩
set_option maxRecDepth 100000 in
set_option maxHeartbeats 2000000 in
theorem lentIns_any (x : In) (av : Value) (w : World) (h : IntsAt w av x.args) (hl : x.args.length ≤ 1100000) :
  Calls Tryz.prog 163 #[inV x av] w fun e w' => ∃ av', e = .returned (inV x av') ∧ LentI w' w.heap.size w'.heap.size av' x.args ∧ Below w.heap.size w w' := by
 obtain ⟨k, op, dst, args, bits, ref⟩ := x
 dsimp only at h hl ⊢
 obtain ⟨a, c, rfl, _⟩ := h.form
 have HCI : Hid (∀ W, Below w.heap.size w W → Calls Tryz.prog 22 #[.slice a args.length c] W fun e w' => ∃ v', e = .returned v' ∧ LentI w' W.heap.size w'.heap.size v' args ∧ Below W.heap.size W w') := fun W hb => lentI_any args _ W (h.below hb) hl
 have HB0 : Hid (Box ((w.alloc (.cells #[.int .u8 k, .int .u8 op, .int .i64 dst, .slice a args.length c, .int .u64 bits, .int .i64 ref] 55)).alloc (.cells #[.int .u8 0, .int .u8 0, .int .i64 0, .slice none 0 0, .int .u64 0, .int .i64 0] 55)) w.heap.size [.int .u8 k, .int .u8 op, .int .i64 dst, .slice a args.length c, .int .u64 bits, .int .i64 ref] ∧ Box ((w.alloc (.cells #[.int .u8 k, .int .u8 op, .int .i64 dst, .slice a args.length c, .int .u64 bits, .int .i64 ref] 55)).alloc (.cells #[.int .u8 0, .int .u8 0, .int .i64 0, .slice none 0 0, .int .u64 0, .int .i64 0] 55)) (w.heap.size + 1) [.int .u8 0, .int .u8 0, .int .i64 0, .slice none 0 0, .int .u64 0, .int .i64 0] ∧ Below w.heap.size w ((w.alloc (.cells #[.int .u8 k, .int .u8 op, .int .i64 dst, .slice a args.length c, .int .u64 bits, .int .i64 ref] 55)).alloc (.cells #[.int .u8 0, .int .u8 0, .int .i64 0, .slice none 0 0, .int .u64 0, .int .i64 0] 55))) := by
  refine ⟨(Box.new w [.int .u8 k, .int .u8 op, .int .i64 dst, .slice a args.length c, .int .u64 bits, .int .i64 ref] 55).below (below_alloc (Below.refl _ _) _), ?_, below_alloc (below_alloc (Below.refl _ _) _) _⟩
  have h9 := Box.new (w.alloc (.cells #[.int .u8 k, .int .u8 op, .int .i64 dst, .slice a args.length c, .int .u64 bits, .int .i64 ref] 55)) [.int .u8 0, .int .u8 0, .int .i64 0, .slice none 0 0, .int .u64 0, .int .i64 0] 55
  rwa [show (w.alloc (.cells #[.int .u8 k, .int .u8 op, .int .i64 dst, .slice a args.length c, .int .u64 bits, .int .i64 ref] 55)).heap.size = w.heap.size + 1 by simp] at h9
 have HOB : Hid (∀ W, Below (w.heap.size + 2) ((w.alloc (.cells #[.int .u8 k, .int .u8 op, .int .i64 dst, .slice a args.length c, .int .u64 bits, .int .i64 ref] 55)).alloc (.cells #[.int .u8 0, .int .u8 0, .int .i64 0, .slice none 0 0, .int .u64 0, .int .i64 0] 55)) W → W.heap[w.heap.size + 1]? = some (.cells #[.int .u8 0, .int .u8 0, .int .i64 0, .slice none 0 0, .int .u64 0, .int .i64 0] 55 (0, 0))) := fun W hb => by
  rw [hb.block (w.heap.size + 1) (by omega)]
  have e : (w.alloc (.cells #[.int .u8 k, .int .u8 op, .int .i64 dst, .slice a args.length c, .int .u64 bits, .int .i64 ref] 55)).heap.size = w.heap.size + 1 := by simp
  have h9 := heap_alloc_new (w.alloc (.cells #[.int .u8 k, .int .u8 op, .int .i64 dst, .slice a args.length c, .int .u64 bits, .int .i64 ref] 55)) (.cells #[.int .u8 0, .int .u8 0, .int .i64 0, .slice none 0 0, .int .u64 0, .int .i64 0] 55)
  rw [e] at h9
  exact h9
 have HSZ : Hid (∀ o o' : Obj, ((w.alloc o).alloc o').heap.size = w.heap.size + 2) := fun o o' => by simp
 clear h hl
 generalize hal : args.length = al at *
 have HAL : Hid _ := hal
 clear hal
 go_enter Tryz.func163, Tryz.ntmps163
 go_wp2_with (go_at_call 22; go_loud (refine Calls.mono (by exact HCI.out _ HB0.out.2.2) ?_; rintro e w2 ⟨v2, rfl, ho2, hb2⟩; obtain ⟨ya, yc, rfl⟩ : ∃ ya yc, v2 = .slice ya al yc := (by obtain ⟨ya, yc, hv⟩ := ho2.form; rw [HAL.out] at hv; exact ⟨ya, yc, hv⟩); obtain ⟨e0, e1, e2, e3, e4, e5⟩ := box6 (HB0.out.1.below hb2); have ef := (HB0.out.1.below hb2).fz 3; have HX1 := HB0.out.2.1.below hb2; obtain ⟨g0, g1, g2, g3, g4, g5⟩ := box6 HX1; have gf := HX1.fz; have hwl := (HB0.out.1.below hb2).lt; have hwl2 := HX1.lt; have HO2 : Hid _ := ho2; have HB2 : Hid _ := hb2; clear ho2 hb2 HX1))
 have hoi := HOB.out w2 (by have h9 := HB2.out; rw [HSZ.out] at h9; exact h9)
 have hoi2 : (w2.setCell ⟨w.heap.size, 3, none⟩ (.slice ya al yc)).heap[w.heap.size + 1]? = _ := (Below.heap_setCell w2 ⟨w.heap.size, 3, none⟩ (.slice ya al yc) (w.heap.size + 1) (by show w.heap.size + 1 ≠ w.heap.size; omega)).trans hoi
 have hbw : Below w.heap.size w (w2.setCell ⟨w.heap.size, 3, none⟩ (.slice ya al yc)) := (below_trans HB0.out.2.2 HB2.out).setCell (p := ⟨w.heap.size, 3, none⟩) (Nat.le_refl _) _
 obtain ⟨q1, q2, q3⟩ := six_end hbw (Nat.le_succ _) hoi2 (.int .u8 k) (.int .u8 op) (.int .i64 dst) (.slice ya al yc) (.int .u64 bits) (.int .i64 ref)
 refine bodyPost_ret (results_cell_row rfl _ _ (w.heap.size + 1) 55 #[.int .u8 k, .int .u8 op, .int .i64 dst, .slice ya al yc, .int .u64 bits, .int .i64 ref] _ _ rfl q2 Tryz.underlying55 rfl (by rfl)) rfl ⟨_, rfl, ?_, q1⟩
 have h7 := HO2.out
 rw [HSZ.out] at h7
 refine (h7.stands fun g hg _ _ => ?_).widen (by omega) (Nat.le_of_eq (by simp only [size_setK]))
 rw [q3 g (by omega)]
 exact Below.heap_setCell w2 ⟨w.heap.size, 3, none⟩ (.slice ya al yc) g (by show g ≠ w.heap.size; omega)
set_option maxRecDepth 100000 in
set_option maxHeartbeats 4000000 in
theorem lentN_any (l : List In) (v : Value) (w : World) (h : InsAt w v l) (hl : SzN l) :
  Calls Tryz.prog 106 #[v] w fun e w' => ∃ v', e = .returned v' ∧ LentN w' w.heap.size w'.heap.size v' l ∧ Below w.heap.size w w' := by
 obtain ⟨i0, hi0, hz0, hz1, hz2⟩ := info_parts infoKN
 have hll : l.length ≤ 1100000 := hl.1
 obtain ⟨O, hmk, hO⟩ := roomKN l.length (by omega)
 obtain ⟨a, c, rfl, _⟩ := h.form
 have HO : Hid ((w.alloc O).ownsRow w.heap.size 55 6 (.slice (some ⟨w.heap.size, 0, none⟩) 0 (l.length + 12)) 0 []) := hO w
 have HB : Hid (Below w.heap.size w (w.alloc O)) := below_alloc (Below.refl _ _) _
 have HI : Hid (∀ i, i < l.length → _) := fun i hi => h.get (i := i) hi
 have HCP : Hid (∀ i, i < l.length → ∀ (av : Value), ∀ W, IntsAt W av (l.getD i default).args → Calls Tryz.prog 163 #[inV (l.getD i default) av] W fun e w' => ∃ av', e = .returned (inV (l.getD i default) av') ∧ LentI w' W.heap.size w'.heap.size av' (l.getD i default).args ∧ Below W.heap.size W w') := fun i hi av W hW => lentIns_any _ av W hW (hl.2 _ (getD_memI hi))
 have HTK : Hid (∀ i, i < l.length → l.take (i + 1) = l.take i ++ [l.getD i default]) := fun i hi => by
  rw [List.take_add_one, List.getElem?_eq_getElem hi, List.getD, List.getElem?_eq_getElem hi]; rfl
 have HTF : Hid (l.take l.length = l) := List.take_length
 have HLT : Hid (∀ i, i ≤ l.length → (l.take i).length = i) := fun i hi => by rw [List.length_take]; omega
 have HM : Hid (∀ (i : Nat) (W : World), i < 12 → _) := fun i W hi => markN_any 1 (i : Int) (by omega) (by omega) (by omega) (by omega) W
 have HEND : Hid (∀ (w' : World) (v' : Value) (g cap : Nat) (qs : List Value), RowL w' w.heap.size w'.heap.size 55 6 (mkN 1) v' l.length (insCells l qs) g cap → KidsL (fun a b q (x : In) => LentI w' a b q x.args) w.heap.size w'.heap.size g qs l → LentN w' w.heap.size w'.heap.size v' l) := fun w' v' g cap qs h1 h2 => ⟨h.wf, g, cap, qs, h1, h2⟩
 have HKS : Hid (∀ (wa w' : World) (lo hi hi' g : Nat) (qs : List Value) (l' : List In), KidsL (fun a b q (x : In) => LentI wa a b q x.args) lo hi g qs l' → Stands lo hi wa w' → hi ≤ hi' → KidsL (fun a b q (x : In) => LentI w' a b q x.args) lo hi' g qs l') := fun wa w' lo hi hi' g qs l' hk hs hh => hk.imp (Nat.le_refl _) hh fun a b q x h1 h2 h3 => h3.stands (hs.sub h1 h2)
 have HLN : Hid (∀ (qs : List Value), qs.length = l.length → (insCells l qs).length = l.length * 6) := fun qs hq => insCells_len hq
 clear h hO hl
 generalize hnn : l.length = n at *
 have HNN : Hid _ := hnn
 clear hnn
 have hl' : (n : Int) ≤ 1100000 := by omega
 go_enter Tryz.func106, Tryz.ntmps106
 go_wp2
 clear hmk
 go_loopw [3, 4] (fun vo vi wr => ∃ (i : Nat) (qs : List Value) (g cap : Nat), vi = .int .i64 i ∧ vo = .slice (some ⟨g, 0, none⟩) i cap ∧ i ≤ n ∧ Hid (Below w.heap.size w wr ∧ wr.ownsRow w.heap.size 55 6 (.slice (some ⟨g, 0, none⟩) i cap) i (insCells (l.take i) qs) ∧ KidsL (fun a b q (x : In) => LentI wr a b q x.args) w.heap.size wr.heap.size g qs (l.take i))) (fun _ vi _ => n - (intOf vi).toNat)
 case atStart => exact ⟨0, [], _, _, rfl, rfl, by omega, HB.out, by exact HO.out, KidsL.nil _ _ _ _⟩
 case round =>
  obtain ⟨i, qs, g, cap, rfl, rfl, hi, hr⟩ := hrel
  clear HO HB
  generalize wr = wo at *
  by_cases hin : i < n
  ·obtain ⟨g1, o, av, rfl, hg, c0, c1, c2, c3, c4, c5, hxa⟩ := HI.out i hin
   have hin' : (i : Int) < n := by omega
   have hcl : ∀ j, wo.cell? ⟨g1, j, none⟩ = w.cell? ⟨g1, j, none⟩ := fun j => hr.out.1.cell (p := ⟨g1, j, none⟩) hg
   rw [← hcl] at c0 c1 c2 c3 c4 c5
   have HC1 : Hid _ := HCP.out i hin av wo (hxa.below hr.out.1)
   have HT1 : Hid _ := HTK.out i hin
   have HRR : Hid _ := hr.out
   have HLI : Hid ((l.take i).length = i) := HLT.out i hi
   clear hr HI HCP HTK hcl HTF HLT
   obtain ⟨xa, xc, rfl, hxl⟩ := hxa.form
   generalize l.getD i default = X at *
   obtain ⟨k, op, dst, args, bits, ref⟩ := X
   dsimp only at *
   clear hxa
   have HSZ : Hid (∀ (V : World) (o : Obj), (V.alloc o).heap.size = V.heap.size + 1) := fun V o => by simp
   have HSB : Hid (w.heap.size ≤ wo.heap.size) := HRR.out.1.size
   go_wp2_with (first | (go_at_call 163; go_loud (refine Calls.mono (by exact HC1.out) ?_; rintro e w2 ⟨av2, rfl, ho2, hb2⟩; obtain ⟨ya, yc, rfl⟩ := ho2.form; have HO2 : Hid _ := ho2; have HB2 : Hid _ := hb2; clear ho2 hb2)) | (at_builtin; go_loud (refine wpList_append_own_at _ rfl _ _ 56 rfl w.heap.size 55 i0 (.agg #[.int .u8 0, .int .u8 0, .int .i64 0, .slice none 0 0, .int .u64 0, .int .i64 0]) 6 56 Tryz.underlying56 hi0 hz0 hz1 hz2 rfl (by decide) _ i (insCells (l.take i) qs) rfl (owns_below (owns_below HRR.out.2.1 HB2.out) (below_alloc (below_alloc (Below.refl _ _) _) _)) ⟨w2.heap.size + 1, 0, none⟩ 1 1 (inCells ⟨k, op, dst, args, bits, ref⟩ (.slice ya args.length yc)) rfl rfl ?c1 ?c2 ?c3 ?c4 ?c5 ?_)))
   case c1 => intro j u hj; rw [Addr.add_lit, Nat.zero_add]; have h9 := (Box.new (w2.alloc (.cells #[.int .u8 k, .int .u8 op, .int .i64 dst, .slice ya args.length yc, .int .u64 bits, .int .i64 ref] 55)) (inCells ⟨k, op, dst, args, bits, ref⟩ (.slice ya args.length yc)) 55).cell j u hj; rw [HSZ.out] at h9; exact h9
   case c2 => exact in_cells_one rfl
   case c3 => unfold maxLen; omega
   case c4 => omega
   case c5 => have h9 := HB2.out.size; have h8 := HSB.out; simp; omega
   intro v2 w3 ho hg2 _ hat
   obtain ⟨g2, cc2, rfl, _, hg2l, _, _⟩ := own_form ho
   have HBA : Hid (Below wo.heap.size wo ((w2.alloc (.cells #[.int .u8 k, .int .u8 op, .int .i64 dst, .slice ya args.length yc, .int .u64 bits, .int .i64 ref] 55)).alloc (.cells #[.int .u8 k, .int .u8 op, .int .i64 dst, .slice ya args.length yc, .int .u64 bits, .int .i64 ref] 55))) := below_trans HB2.out (below_alloc (below_alloc (Below.refl _ _) _) _)
   have HN : Hid (Below w.heap.size w w3 ∧ w3.ownsRow w.heap.size 55 6 (.slice (some ⟨g2, 0, none⟩) (i + 1) cc2) (i + 1) (insCells (l.take (i + 1)) (qs ++ [.slice ya args.length yc])) ∧ KidsL (fun a b q (x : In) => LentI w3 a b q x.args) w.heap.size w3.heap.size g2 (qs ++ [.slice ya args.length yc]) (l.take (i + 1))) := by
    have hgs : w2.heap.size ≤ w3.heap.size := by have h9 := hg2.size; rw [HSZ.out, HSZ.out] at h9; omega
    have hgo := (HRR.out.2.1.lt g rfl).2
    have blk : ∀ bk, bk < w2.heap.size → bk ≠ g → w3.heap[bk]? = w2.heap[bk]? := fun bk hk hkg => by
     rw [hg2.block bk (by rw [HSZ.out, HSZ.out]; omega) (fun e => hkg (by cases e; rfl))]
     exact (below_alloc (below_alloc (Below.refl w2.heap.size w2) (.cells #[.int .u8 k, .int .u8 op, .int .i64 dst, .slice ya args.length yc, .int .u64 bits, .int .i64 ref] 55)) (.cells #[.int .u8 k, .int .u8 op, .int .i64 dst, .slice ya args.length yc, .int .u64 bits, .int .i64 ref] 55)).block bk hk
    refine ⟨below_grown (below_trans HRR.out.1 HBA.out) hg2 (fun q hq => (HRR.out.2.1.lt q hq).1), ?_, ?_⟩
    ·rw [HT1.out, insCells_snoc _ _ (by rw [HRR.out.2.2.1])]
     exact ho
    ·rw [HT1.out]
     have hg2w : g2 = g ∨ w2.heap.size ≤ g2 := by
      rcases hat with e | e
      ·left; simpa [Value.ownBlock] using e
      ·right; simp [Value.ownBlock] at e; omega
     have k1 : KidsL (fun a b q (x : In) => LentI w3 a b q x.args) w.heap.size wo.heap.size g qs (l.take i) := by
      obtain ⟨hl1, A, B, hk1⟩ := HRR.out.2.2
      refine ⟨hl1, A, B, fun j x q hx hq => ?_⟩
      obtain ⟨p1, p2, p3, p4, p5⟩ := hk1 j x q hx hq
      refine ⟨p1, p2, p3.stands fun k h1 h2 hk => ?_, p4, p5⟩
      rw [blk k (by have := HB2.out.size; omega) (fun e => p4 (by subst e; exact ⟨h1, h2⟩))]
      exact HB2.out.block k hk
     have k2 : LentI w3 wo.heap.size w2.heap.size (.slice ya args.length yc) args := by
      refine (HO2.out.stands fun k h1 h2 hk => blk k hk (fun e => by omega)).widen (Nat.le_refl _) ?_
      exact Nat.le_refl _
     have h2l := HB2.out.size
     obtain ⟨hl1, A, B, hk1⟩ := KidsL.push (K := fun a b q (x : In) => LentI w3 a b q x.args) (q := .slice ya args.length yc) (x := ⟨k, op, dst, args, bits, ref⟩) (g2 := g2) k1 k2 HSB.out (Nat.le_refl _) h2l (fun hc => by
      have h5 := hc.1
      have h6 := hc.2
      rcases hg2w with rfl | h7
      ·omega
      ·omega) (by
      rcases hg2w with e | e
      ·exact .inl e
      ·exact .inr (by omega))
     refine ⟨hl1, A, B, fun j x q hx hq => ?_⟩
     obtain ⟨p1, p2, p3, p4, p5⟩ := hk1 j x q hx hq
     exact ⟨p1, by omega, p3, p4, p5⟩
   clear ho hg2 hat hg2l
   go_wp2
   go_roundw
   case rel => exact ⟨i + 1, _, _, _, by first | rfl | (congr 1; omega), rfl, by omega, HN.out⟩
   case measure => simp [intOf]; omega
  ·obtain rfl : i = n := by omega
   rw [HTF.out] at hr
   have H0 : Hid _ := hr.out
   clear hr HI HCP HTK
   go_wp2
   go_loopw [3, 6] (fun vo vi wr => ∃ (j g cap : Nat), vi = .int .i64 j ∧ vo = .slice (some ⟨g, 0, none⟩) (i + j) cap ∧ j ≤ 12 ∧ Hid (Below w.heap.size w wr ∧ wr.ownsRow w.heap.size 55 6 (.slice (some ⟨g, 0, none⟩) (i + j) cap) (i + j) (insCells l qs ++ mksL (mkN 1) j) ∧ KidsL (fun a b q (x : In) => LentI wr a b q x.args) w.heap.size wr.heap.size g qs l)) (fun _ vi _ => 12 - (intOf vi).toNat)
   case atStart => exact ⟨0, g, cap, rfl, rfl, by omega, H0.out.1, by (show World.ownsRow _ _ _ _ _ _ _; rw [show mksL (mkN 1) 0 = [] from rfl, List.append_nil]; exact H0.out.2.1), H0.out.2.2⟩
   case round =>
    obtain ⟨j, g, cap, rfl, rfl, hj, hr⟩ := hrel
    clear H0
    generalize wr = wp at *
    by_cases hjn : j < 12
    ·have hjn' : (j : Int) < 12 := by omega
     have HRR : Hid _ := hr.out
     have HSZ : Hid (∀ (V : World) (o : Obj), (V.alloc o).heap.size = V.heap.size + 1) := fun V o => by simp
     clear hr
     go_wp2_with (first
      | (go_at_call 139; go_loud (refine Calls.mono (by exact HM.out j _ hjn) ?_; rintro e w2 ⟨rfl, hb2⟩; have HB2 : Hid _ := hb2; clear hb2))
      | (at_builtin; go_loud (refine wpList_append_own_at _ rfl _ _ 56 rfl w.heap.size 55 i0 (.agg #[.int .u8 0, .int .u8 0, .int .i64 0, .slice none 0 0, .int .u64 0, .int .i64 0]) 6 56 Tryz.underlying56 hi0 hz0 hz1 hz2 rfl (by decide) _ (i + j) (insCells l qs ++ mksL (mkN 1) j) rfl ((owns_below HRR.out.2.1 HB2.out).alloc _) ⟨w2.heap.size, 0, none⟩ 1 1 (mkN 1 j) rfl rfl ?c1 ?c2 ?c3 ?c4 ?c5 ?_)))
     case c1 => intro q u hq; rw [Addr.add_lit, Nat.zero_add]; exact (Box.new w2 (mkN 1 j) 55).cell q u hq
     case c2 => intro u hu; simp at hu; rcases hu with rfl | rfl | rfl | rfl | rfl | rfl <;> rfl
     case c3 => unfold maxLen; omega
     case c4 => omega
     case c5 => have := HRR.out.1.size; have := HB2.out.size; simp; omega
     intro v2 w3 ho hg2 _ hat
     obtain ⟨g2, cc2, rfl, _, hg2l, _, _⟩ := own_form (n := i + j) ho
     have HN : Hid (Below w.heap.size w w3 ∧ w3.ownsRow w.heap.size 55 6 (.slice (some ⟨g2, 0, none⟩) (i + j + 1) cc2) (i + (j + 1)) (insCells l qs ++ mksL (mkN 1) (j + 1)) ∧ KidsL (fun a b q (x : In) => LentI w3 a b q x.args) w.heap.size w3.heap.size g2 qs l) := by
      have hgs : w2.heap.size ≤ w3.heap.size := by have h9 := hg2.size; rw [HSZ.out] at h9; omega
      have blk : ∀ k, k < wp.heap.size → k ≠ g → w3.heap[k]? = wp.heap[k]? := fun k hk hkg => by
       have h1 := HB2.out.size
       rw [hg2.block k (by rw [HSZ.out]; omega) (fun e => hkg (by cases e; rfl)), (below_alloc (Below.refl w2.heap.size w2) (.cells #[bytV 0, bytV 0, intV (markI 1 j), .slice none 0 0, .int .u64 0, intV 0] 55)).block k (by omega)]
       exact HB2.out.block k hk
      refine ⟨below_grown (below_alloc (below_trans HRR.out.1 HB2.out) (.cells #[bytV 0, bytV 0, intV (markI 1 j), .slice none 0 0, .int .u64 0, intV 0] 55)) hg2 (fun q hq => (HRR.out.2.1.lt q hq).1), ?_, ?_⟩
      ·rw [mksL_succ, ← Nat.add_assoc]
       exact ho
      ·have hg2w : g2 = g ∨ wp.heap.size ≤ g2 := by
        have h1 := HB2.out.size
        rcases hat with e | e
        ·left; simpa [Value.ownBlock] using e
        ·right; simp [Value.ownBlock] at e; omega
       obtain ⟨hl1, A, B, hk1⟩ := HRR.out.2.2
       refine ⟨hl1, A, B, fun j' x q hx hq => ?_⟩
       obtain ⟨p1, p2, p3, p4, p5⟩ := hk1 j' x q hx hq
       refine ⟨p1, by have := HB2.out.size; omega, p3.stands fun k h1 h2 hk => blk k hk (fun e => p4 (by subst e; exact ⟨h1, h2⟩)), fun hc => ?_, p5⟩
       rcases hg2w with rfl | h7
       ·exact p4 hc
       ·have := hc.2; omega
     clear ho hg2 hat hg2l
     go_wp2
     go_roundw
     case rel => exact ⟨j + 1, _, _, by first | rfl | (congr 1; omega), rfl, by omega, HN.out⟩
     case measure => simp [intOf]; omega
    ·obtain rfl : j = 12 := by omega
     have hcap : i + 12 ≤ cap := by
      obtain ⟨g', cap', hv, _, _, h3, _⟩ := own_form (n := i + 11) hr.out.2.1
      cases hv
      exact h3
     have hsl := cutKN (g := g) (m := i + 12) (c := cap) (f := i) (by omega)
     have HW : Hid (LentN wp w.heap.size wp.heap.size (.slice (some ⟨g, 0, none⟩) i cap) l) := HEND.out _ _ g cap qs ⟨rfl, hr.out.2.1, HLN.out qs (by rw [hr.out.2.2.1, HNN.out]), (hr.out.2.1.lt g rfl).2⟩ hr.out.2.2
     have HZ : Hid _ := hr.out.1
     clear hr
     go_wp2
     go_ret
     exact ⟨_, rfl, HW.out, HZ.out⟩
end Go.Proofs.YtajaijilfclhpaaGreatDoor
/- Blocks lent. -/
namespace Go.Proofs.YtajaijilfclhpaaGreatDoor
open Go.RowKit

set_option maxRecDepth 100000 in
set_option maxHeartbeats 2000000 in
theorem lentBlock_any (b : Bl) (iv : Value) (w : World) (h : InsAt w iv b.ins) (hl : SzN b.ins) :
  Calls Tryz.prog 51 #[.agg (blArr iv b.tm)] w fun e w' => ∃ av', e = .returned (.agg (blArr av' b.tm)) ∧ LentN w' w.heap.size w'.heap.size av' b.ins ∧ Below w.heap.size w w' := by
 obtain ⟨L, k, ta, t0, t1, tt⟩ := b
 dsimp only at h hl ⊢
 obtain ⟨a, c, rfl, _⟩ := h.form
 have HCI : Hid (∀ W, Below w.heap.size w W → Calls Tryz.prog 106 #[.slice a L.length c] W fun e w' => ∃ v', e = .returned v' ∧ LentN w' W.heap.size w'.heap.size v' L ∧ Below W.heap.size W w') := fun W hb => lentN_any L _ W (h.below hb) hl
 have HB0 : Hid (Box ((w.alloc (.cells #[.slice a L.length c, .int .u8 k, .int .i64 ta, .int .i64 t0, .int .i64 t1, .int .u8 tt] 63)).alloc (.cells #[.slice none 0 0, .int .u8 0, .int .i64 0, .int .i64 0, .int .i64 0, .int .u8 0] 63)) w.heap.size [.slice a L.length c, .int .u8 k, .int .i64 ta, .int .i64 t0, .int .i64 t1, .int .u8 tt] ∧ Box ((w.alloc (.cells #[.slice a L.length c, .int .u8 k, .int .i64 ta, .int .i64 t0, .int .i64 t1, .int .u8 tt] 63)).alloc (.cells #[.slice none 0 0, .int .u8 0, .int .i64 0, .int .i64 0, .int .i64 0, .int .u8 0] 63)) (w.heap.size + 1) [.slice none 0 0, .int .u8 0, .int .i64 0, .int .i64 0, .int .i64 0, .int .u8 0] ∧ Below w.heap.size w ((w.alloc (.cells #[.slice a L.length c, .int .u8 k, .int .i64 ta, .int .i64 t0, .int .i64 t1, .int .u8 tt] 63)).alloc (.cells #[.slice none 0 0, .int .u8 0, .int .i64 0, .int .i64 0, .int .i64 0, .int .u8 0] 63))) := by
  refine ⟨(Box.new w [.slice a L.length c, .int .u8 k, .int .i64 ta, .int .i64 t0, .int .i64 t1, .int .u8 tt] 63).below (below_alloc (Below.refl _ _) _), ?_, below_alloc (below_alloc (Below.refl _ _) _) _⟩
  have h9 := Box.new (w.alloc (.cells #[.slice a L.length c, .int .u8 k, .int .i64 ta, .int .i64 t0, .int .i64 t1, .int .u8 tt] 63)) [.slice none 0 0, .int .u8 0, .int .i64 0, .int .i64 0, .int .i64 0, .int .u8 0] 63
  rwa [show (w.alloc (.cells #[.slice a L.length c, .int .u8 k, .int .i64 ta, .int .i64 t0, .int .i64 t1, .int .u8 tt] 63)).heap.size = w.heap.size + 1 by simp] at h9
 have HOB : Hid (∀ W, Below (w.heap.size + 2) ((w.alloc (.cells #[.slice a L.length c, .int .u8 k, .int .i64 ta, .int .i64 t0, .int .i64 t1, .int .u8 tt] 63)).alloc (.cells #[.slice none 0 0, .int .u8 0, .int .i64 0, .int .i64 0, .int .i64 0, .int .u8 0] 63)) W → W.heap[w.heap.size + 1]? = some (.cells #[.slice none 0 0, .int .u8 0, .int .i64 0, .int .i64 0, .int .i64 0, .int .u8 0] 63 (0, 0))) := fun W hb => by
  rw [hb.block (w.heap.size + 1) (by omega)]
  have e : (w.alloc (.cells #[.slice a L.length c, .int .u8 k, .int .i64 ta, .int .i64 t0, .int .i64 t1, .int .u8 tt] 63)).heap.size = w.heap.size + 1 := by simp
  have h9 := heap_alloc_new (w.alloc (.cells #[.slice a L.length c, .int .u8 k, .int .i64 ta, .int .i64 t0, .int .i64 t1, .int .u8 tt] 63)) (.cells #[.slice none 0 0, .int .u8 0, .int .i64 0, .int .i64 0, .int .i64 0, .int .u8 0] 63)
  rw [e] at h9
  exact h9
 have HSZ : Hid (∀ o o' : Obj, ((w.alloc o).alloc o').heap.size = w.heap.size + 2) := fun o o' => by simp
 clear h hl
 generalize hal : L.length = al at *
 have HAL : Hid _ := hal
 clear hal
 go_enter Tryz.func51, Tryz.ntmps51
 go_wp2_with (go_at_call 106; go_loud (refine Calls.mono (by exact HCI.out _ HB0.out.2.2) ?_; rintro e w2 ⟨v2, rfl, ho2, hb2⟩; obtain ⟨ya, yc, rfl⟩ : ∃ ya yc, v2 = .slice ya al yc := (by obtain ⟨ya, yc, hv⟩ := ho2.form; rw [HAL.out] at hv; exact ⟨ya, yc, hv⟩); obtain ⟨e0, e1, e2, e3, e4, e5⟩ := box6 (HB0.out.1.below hb2); have ef := (HB0.out.1.below hb2).fz 0; have HX1 := HB0.out.2.1.below hb2; obtain ⟨g0, g1, g2, g3, g4, g5⟩ := box6 HX1; have gf := HX1.fz; have hwl := (HB0.out.1.below hb2).lt; have hwl2 := HX1.lt; have HO2 : Hid _ := ho2; have HB2 : Hid _ := hb2; clear ho2 hb2 HX1))
 have hoi := HOB.out w2 (by have h9 := HB2.out; rw [HSZ.out] at h9; exact h9)
 have hoi2 : (w2.setCell ⟨w.heap.size, 0, none⟩ (.slice ya al yc)).heap[w.heap.size + 1]? = _ := (Below.heap_setCell w2 ⟨w.heap.size, 0, none⟩ (.slice ya al yc) (w.heap.size + 1) (by show w.heap.size + 1 ≠ w.heap.size; omega)).trans hoi
 have hbw : Below w.heap.size w (w2.setCell ⟨w.heap.size, 0, none⟩ (.slice ya al yc)) := (below_trans HB0.out.2.2 HB2.out).setCell (p := ⟨w.heap.size, 0, none⟩) (Nat.le_refl _) _
 obtain ⟨q1, q2, q3⟩ := six_end hbw (Nat.le_succ _) hoi2 (.slice ya al yc) (.int .u8 k) (.int .i64 ta) (.int .i64 t0) (.int .i64 t1) (.int .u8 tt)
 refine bodyPost_ret (results_cell_row rfl _ _ (w.heap.size + 1) 63 #[.slice ya al yc, .int .u8 k, .int .i64 ta, .int .i64 t0, .int .i64 t1, .int .u8 tt] _ _ rfl q2 Tryz.underlying63 rfl (by rfl)) rfl ⟨_, rfl, ?_, q1⟩
 have h7 := HO2.out
 rw [HSZ.out] at h7
 refine (h7.stands fun g hg _ _ => ?_).widen (by omega) (Nat.le_of_eq (by simp only [size_setK]))
 rw [q3 g (by omega)]
 exact Below.heap_setCell w2 ⟨w.heap.size, 0, none⟩ (.slice ya al yc) g (by show g ≠ w.heap.size; omega)
set_option maxRecDepth 100000 in
set_option maxHeartbeats 4000000 in
theorem lentB_any (l : List Bl) (v : Value) (w : World) (h : BlsAt w v l) (hl : SzB l) :
  Calls Tryz.prog 25 #[v] w fun e w' => ∃ v', e = .returned v' ∧ LentB w' w.heap.size w'.heap.size v' l ∧ Below w.heap.size w w' := by
 obtain ⟨i0, hi0, hz0, hz1, hz2⟩ := info_parts infoKB
 have hll : l.length ≤ 1100000 := hl.1
 obtain ⟨O, hmk, hO⟩ := roomKB l.length (by omega)
 obtain ⟨a, c, rfl, _⟩ := h.form
 have HO : Hid ((w.alloc O).ownsRow w.heap.size 63 6 (.slice (some ⟨w.heap.size, 0, none⟩) 0 (l.length + 12)) 0 []) := hO w
 have HB : Hid (Below w.heap.size w (w.alloc O)) := below_alloc (Below.refl _ _) _
 have HI : Hid (∀ i, i < l.length → _) := fun i hi => h.get (i := i) hi
 have HCP : Hid (∀ i, i < l.length → ∀ (av : Value), ∀ W, InsAt W av (l.getD i default).ins → Calls Tryz.prog 51 #[.agg (blArr av (l.getD i default).tm)] W fun e w' => ∃ av', e = .returned (.agg (blArr av' (l.getD i default).tm)) ∧ LentN w' W.heap.size w'.heap.size av' (l.getD i default).ins ∧ Below W.heap.size W w') := fun i hi av W hW => lentBlock_any _ av W hW (hl.2 _ (getD_memB hi))
 have HTK : Hid (∀ i, i < l.length → l.take (i + 1) = l.take i ++ [l.getD i default]) := fun i hi => by
  rw [List.take_add_one, List.getElem?_eq_getElem hi, List.getD, List.getElem?_eq_getElem hi]; rfl
 have HTF : Hid (l.take l.length = l) := List.take_length
 have HLT : Hid (∀ i, i ≤ l.length → (l.take i).length = i) := fun i hi => by rw [List.length_take]; omega
 have HM : Hid (∀ (i : Nat) (W : World), i < 12 → _) := fun i W hi => markB_any 1 (i : Int) (by omega) (by omega) (by omega) (by omega) W
 have HEND : Hid (∀ (w' : World) (v' : Value) (g cap : Nat) (qs : List Value), RowL w' w.heap.size w'.heap.size 63 6 (mkB 1) v' l.length (blsCells l qs) g cap → KidsL (fun a b q (x : Bl) => LentN w' a b q x.ins) w.heap.size w'.heap.size g qs l → LentB w' w.heap.size w'.heap.size v' l) := fun w' v' g cap qs h1 h2 => ⟨g, cap, qs, h1, h2⟩
 have HKS : Hid (∀ (wa w' : World) (lo hi hi' g : Nat) (qs : List Value) (l' : List Bl), KidsL (fun a b q (x : Bl) => LentN wa a b q x.ins) lo hi g qs l' → Stands lo hi wa w' → hi ≤ hi' → KidsL (fun a b q (x : Bl) => LentN w' a b q x.ins) lo hi' g qs l') := fun wa w' lo hi hi' g qs l' hk hs hh => hk.imp (Nat.le_refl _) hh fun a b q x h1 h2 h3 => h3.stands (hs.sub h1 h2)
 have HLN : Hid (∀ (qs : List Value), qs.length = l.length → (blsCells l qs).length = l.length * 6) := fun qs hq => blsCells_len hq
 clear h hO hl
 generalize hnn : l.length = n at *
 have HNN : Hid _ := hnn
 clear hnn
 have hl' : (n : Int) ≤ 1100000 := by omega
 go_enter Tryz.func25, Tryz.ntmps25
 go_wp2
 clear hmk
 go_loopw [3, 4] (fun vo vi wr => ∃ (i : Nat) (qs : List Value) (g cap : Nat), vi = .int .i64 i ∧ vo = .slice (some ⟨g, 0, none⟩) i cap ∧ i ≤ n ∧ Hid (Below w.heap.size w wr ∧ wr.ownsRow w.heap.size 63 6 (.slice (some ⟨g, 0, none⟩) i cap) i (blsCells (l.take i) qs) ∧ KidsL (fun a b q (x : Bl) => LentN wr a b q x.ins) w.heap.size wr.heap.size g qs (l.take i))) (fun _ vi _ => n - (intOf vi).toNat)
 case atStart => exact ⟨0, [], _, _, rfl, rfl, by omega, HB.out, by exact HO.out, KidsL.nil _ _ _ _⟩
 case round =>
  obtain ⟨i, qs, g, cap, rfl, rfl, hi, hr⟩ := hrel
  clear HO HB
  generalize wr = wo at *
  by_cases hin : i < n
  ·obtain ⟨g1, o, av, rfl, hg, c0, c1, c2, c3, c4, c5, hxa⟩ := HI.out i hin
   have hin' : (i : Int) < n := by omega
   have hcl : ∀ j, wo.cell? ⟨g1, j, none⟩ = w.cell? ⟨g1, j, none⟩ := fun j => hr.out.1.cell (p := ⟨g1, j, none⟩) hg
   rw [← hcl] at c0 c1 c2 c3 c4 c5
   have HC1 : Hid _ := HCP.out i hin av wo (hxa.below hr.out.1)
   have HT1 : Hid _ := HTK.out i hin
   have HRR : Hid _ := hr.out
   have HLI : Hid ((l.take i).length = i) := HLT.out i hi
   clear hr HI HCP HTK hcl HTF HLT
   obtain ⟨xa, xc, rfl, hxl⟩ := hxa.form
   generalize l.getD i default = X at *
   obtain ⟨L, tk, ta, t0, t1, tt⟩ := X
   dsimp only at *
   clear hxa
   have HSZ : Hid (∀ (V : World) (o : Obj), (V.alloc o).heap.size = V.heap.size + 1) := fun V o => by simp
   have HSB : Hid (w.heap.size ≤ wo.heap.size) := HRR.out.1.size
   go_wp2_with (first | (go_at_call 51; go_loud (refine Calls.mono (by exact HC1.out) ?_; rintro e w2 ⟨av2, rfl, ho2, hb2⟩; obtain ⟨ya, yc, rfl⟩ := ho2.form; have HO2 : Hid _ := ho2; have HB2 : Hid _ := hb2; clear ho2 hb2)) | (at_builtin; go_loud (refine wpList_append_own_at _ rfl _ _ 26 rfl w.heap.size 63 i0 (.agg #[.slice none 0 0, .int .u8 0, .int .i64 0, .int .i64 0, .int .i64 0, .int .u8 0]) 6 64 Tryz.underlying26 hi0 hz0 hz1 hz2 rfl (by decide) _ i (blsCells (l.take i) qs) rfl (owns_below (owns_below HRR.out.2.1 HB2.out) (below_alloc (below_alloc (Below.refl _ _) _) _)) ⟨w2.heap.size + 1, 0, none⟩ 1 1 (blCells ⟨L, ⟨tk, ta, t0, t1, tt⟩⟩ (.slice ya L.length yc)) rfl rfl ?c1 ?c2 ?c3 ?c4 ?c5 ?_)))
   case c1 => intro j u hj; rw [Addr.add_lit, Nat.zero_add]; have h9 := (Box.new (w2.alloc (.cells #[.slice ya L.length yc, .int .u8 tk, .int .i64 ta, .int .i64 t0, .int .i64 t1, .int .u8 tt] 63)) (blCells ⟨L, ⟨tk, ta, t0, t1, tt⟩⟩ (.slice ya L.length yc)) 63).cell j u hj; rw [HSZ.out] at h9; exact h9
   case c2 => exact bl_cells_one rfl
   case c3 => unfold maxLen; omega
   case c4 => omega
   case c5 => have h9 := HB2.out.size; have h8 := HSB.out; simp; omega
   intro v2 w3 ho hg2 _ hat
   obtain ⟨g2, cc2, rfl, _, hg2l, _, _⟩ := own_form ho
   have HBA : Hid (Below wo.heap.size wo ((w2.alloc (.cells #[.slice ya L.length yc, .int .u8 tk, .int .i64 ta, .int .i64 t0, .int .i64 t1, .int .u8 tt] 63)).alloc (.cells #[.slice ya L.length yc, .int .u8 tk, .int .i64 ta, .int .i64 t0, .int .i64 t1, .int .u8 tt] 63))) := below_trans HB2.out (below_alloc (below_alloc (Below.refl _ _) _) _)
   have HN : Hid (Below w.heap.size w w3 ∧ w3.ownsRow w.heap.size 63 6 (.slice (some ⟨g2, 0, none⟩) (i + 1) cc2) (i + 1) (blsCells (l.take (i + 1)) (qs ++ [.slice ya L.length yc])) ∧ KidsL (fun a b q (x : Bl) => LentN w3 a b q x.ins) w.heap.size w3.heap.size g2 (qs ++ [.slice ya L.length yc]) (l.take (i + 1))) := by
    have hgs : w2.heap.size ≤ w3.heap.size := by have h9 := hg2.size; rw [HSZ.out, HSZ.out] at h9; omega
    have hgo := (HRR.out.2.1.lt g rfl).2
    have blk : ∀ bk, bk < w2.heap.size → bk ≠ g → w3.heap[bk]? = w2.heap[bk]? := fun bk hk hkg => by
     rw [hg2.block bk (by rw [HSZ.out, HSZ.out]; omega) (fun e => hkg (by cases e; rfl))]
     exact (below_alloc (below_alloc (Below.refl w2.heap.size w2) (.cells #[.slice ya L.length yc, .int .u8 tk, .int .i64 ta, .int .i64 t0, .int .i64 t1, .int .u8 tt] 63)) (.cells #[.slice ya L.length yc, .int .u8 tk, .int .i64 ta, .int .i64 t0, .int .i64 t1, .int .u8 tt] 63)).block bk hk
    refine ⟨below_grown (below_trans HRR.out.1 HBA.out) hg2 (fun q hq => (HRR.out.2.1.lt q hq).1), ?_, ?_⟩
    ·rw [HT1.out, blsCells_snoc _ _ (by rw [HRR.out.2.2.1])]
     exact ho
    ·rw [HT1.out]
     have hg2w : g2 = g ∨ w2.heap.size ≤ g2 := by
      rcases hat with e | e
      ·left; simpa [Value.ownBlock] using e
      ·right; simp [Value.ownBlock] at e; omega
     have k1 : KidsL (fun a b q (x : Bl) => LentN w3 a b q x.ins) w.heap.size wo.heap.size g qs (l.take i) := by
      obtain ⟨hl1, A, B, hk1⟩ := HRR.out.2.2
      refine ⟨hl1, A, B, fun j x q hx hq => ?_⟩
      obtain ⟨p1, p2, p3, p4, p5⟩ := hk1 j x q hx hq
      refine ⟨p1, p2, p3.stands fun k h1 h2 hk => ?_, p4, p5⟩
      rw [blk k (by have := HB2.out.size; omega) (fun e => p4 (by subst e; exact ⟨h1, h2⟩))]
      exact HB2.out.block k hk
     have k2 : LentN w3 wo.heap.size w2.heap.size (.slice ya L.length yc) L := by
      refine (HO2.out.stands fun k h1 h2 hk => blk k hk (fun e => by omega)).widen (Nat.le_refl _) ?_
      exact Nat.le_refl _
     have h2l := HB2.out.size
     obtain ⟨hl1, A, B, hk1⟩ := KidsL.push (K := fun a b q (x : Bl) => LentN w3 a b q x.ins) (q := .slice ya L.length yc) (x := ⟨L, ⟨tk, ta, t0, t1, tt⟩⟩) (g2 := g2) k1 k2 HSB.out (Nat.le_refl _) h2l (fun hc => by
      have h5 := hc.1
      have h6 := hc.2
      rcases hg2w with rfl | h7
      ·omega
      ·omega) (by
      rcases hg2w with e | e
      ·exact .inl e
      ·exact .inr (by omega))
     refine ⟨hl1, A, B, fun j x q hx hq => ?_⟩
     obtain ⟨p1, p2, p3, p4, p5⟩ := hk1 j x q hx hq
     exact ⟨p1, by omega, p3, p4, p5⟩
   clear ho hg2 hat hg2l
   go_wp2
   go_roundw
   case rel => exact ⟨i + 1, _, _, _, by first | rfl | (congr 1; omega), rfl, by omega, HN.out⟩
   case measure => simp [intOf]; omega
  ·obtain rfl : i = n := by omega
   rw [HTF.out] at hr
   have H0 : Hid _ := hr.out
   clear hr HI HCP HTK
   go_wp2
   go_loopw [3, 6] (fun vo vi wr => ∃ (j g cap : Nat), vi = .int .i64 j ∧ vo = .slice (some ⟨g, 0, none⟩) (i + j) cap ∧ j ≤ 12 ∧ Hid (Below w.heap.size w wr ∧ wr.ownsRow w.heap.size 63 6 (.slice (some ⟨g, 0, none⟩) (i + j) cap) (i + j) (blsCells l qs ++ mksL (mkB 1) j) ∧ KidsL (fun a b q (x : Bl) => LentN wr a b q x.ins) w.heap.size wr.heap.size g qs l)) (fun _ vi _ => 12 - (intOf vi).toNat)
   case atStart => exact ⟨0, g, cap, rfl, rfl, by omega, H0.out.1, by (show World.ownsRow _ _ _ _ _ _ _; rw [show mksL (mkB 1) 0 = [] from rfl, List.append_nil]; exact H0.out.2.1), H0.out.2.2⟩
   case round =>
    obtain ⟨j, g, cap, rfl, rfl, hj, hr⟩ := hrel
    clear H0
    generalize wr = wp at *
    by_cases hjn : j < 12
    ·have hjn' : (j : Int) < 12 := by omega
     have HRR : Hid _ := hr.out
     have HSZ : Hid (∀ (V : World) (o : Obj), (V.alloc o).heap.size = V.heap.size + 1) := fun V o => by simp
     clear hr
     go_wp2_with (first
      | (go_at_call 52; go_loud (refine Calls.mono (by exact HM.out j _ hjn) ?_; rintro e w2 ⟨rfl, hb2⟩; have HB2 : Hid _ := hb2; clear hb2))
      | (at_builtin; go_loud (refine wpList_append_own_at _ rfl _ _ 26 rfl w.heap.size 63 i0 (.agg #[.slice none 0 0, .int .u8 0, .int .i64 0, .int .i64 0, .int .i64 0, .int .u8 0]) 6 64 Tryz.underlying26 hi0 hz0 hz1 hz2 rfl (by decide) _ (i + j) (blsCells l qs ++ mksL (mkB 1) j) rfl ((owns_below HRR.out.2.1 HB2.out).alloc _) ⟨w2.heap.size, 0, none⟩ 1 1 (mkB 1 j) rfl rfl ?c1 ?c2 ?c3 ?c4 ?c5 ?_)))
     case c1 => intro q u hq; rw [Addr.add_lit, Nat.zero_add]; exact (Box.new w2 (mkB 1 j) 63).cell q u hq
     case c2 => intro u hu; simp at hu; rcases hu with rfl | rfl | rfl | rfl | rfl | rfl <;> rfl
     case c3 => unfold maxLen; omega
     case c4 => omega
     case c5 => have := HRR.out.1.size; have := HB2.out.size; simp; omega
     intro v2 w3 ho hg2 _ hat
     obtain ⟨g2, cc2, rfl, _, hg2l, _, _⟩ := own_form (n := i + j) ho
     have HN : Hid (Below w.heap.size w w3 ∧ w3.ownsRow w.heap.size 63 6 (.slice (some ⟨g2, 0, none⟩) (i + j + 1) cc2) (i + (j + 1)) (blsCells l qs ++ mksL (mkB 1) (j + 1)) ∧ KidsL (fun a b q (x : Bl) => LentN w3 a b q x.ins) w.heap.size w3.heap.size g2 qs l) := by
      have hgs : w2.heap.size ≤ w3.heap.size := by have h9 := hg2.size; rw [HSZ.out] at h9; omega
      have blk : ∀ k, k < wp.heap.size → k ≠ g → w3.heap[k]? = wp.heap[k]? := fun k hk hkg => by
       have h1 := HB2.out.size
       rw [hg2.block k (by rw [HSZ.out]; omega) (fun e => hkg (by cases e; rfl)), (below_alloc (Below.refl w2.heap.size w2) (.cells #[.slice none 0 0, bytV 0, intV (markI 1 j), intV 0, intV 0, bytV 0] 63)).block k (by omega)]
       exact HB2.out.block k hk
      refine ⟨below_grown (below_alloc (below_trans HRR.out.1 HB2.out) (.cells #[.slice none 0 0, bytV 0, intV (markI 1 j), intV 0, intV 0, bytV 0] 63)) hg2 (fun q hq => (HRR.out.2.1.lt q hq).1), ?_, ?_⟩
      ·rw [mksL_succ, ← Nat.add_assoc]
       exact ho
      ·have hg2w : g2 = g ∨ wp.heap.size ≤ g2 := by
        have h1 := HB2.out.size
        rcases hat with e | e
        ·left; simpa [Value.ownBlock] using e
        ·right; simp [Value.ownBlock] at e; omega
       obtain ⟨hl1, A, B, hk1⟩ := HRR.out.2.2
       refine ⟨hl1, A, B, fun j' x q hx hq => ?_⟩
       obtain ⟨p1, p2, p3, p4, p5⟩ := hk1 j' x q hx hq
       refine ⟨p1, by have := HB2.out.size; omega, p3.stands fun k h1 h2 hk => blk k hk (fun e => p4 (by subst e; exact ⟨h1, h2⟩)), fun hc => ?_, p5⟩
       rcases hg2w with rfl | h7
       ·exact p4 hc
       ·have := hc.2; omega
     clear ho hg2 hat hg2l
     go_wp2
     go_roundw
     case rel => exact ⟨j + 1, _, _, by first | rfl | (congr 1; omega), rfl, by omega, HN.out⟩
     case measure => simp [intOf]; omega
    ·obtain rfl : j = 12 := by omega
     have hcap : i + 12 ≤ cap := by
      obtain ⟨g', cap', hv, _, _, h3, _⟩ := own_form (n := i + 11) hr.out.2.1
      cases hv
      exact h3
     have hsl := cutKB (g := g) (m := i + 12) (c := cap) (f := i) (by omega)
     have HW : Hid (LentB wp w.heap.size wp.heap.size (.slice (some ⟨g, 0, none⟩) i cap) l) := HEND.out _ _ g cap qs ⟨rfl, hr.out.2.1, HLN.out qs (by rw [hr.out.2.2.1, HNN.out]), (hr.out.2.1.lt g rfl).2⟩ hr.out.2.2
     have HZ : Hid _ := hr.out.1
     clear hr
     go_wp2
     go_ret
     exact ⟨_, rfl, HW.out, HZ.out⟩
end Go.Proofs.YtajaijilfclhpaaGreatDoor
