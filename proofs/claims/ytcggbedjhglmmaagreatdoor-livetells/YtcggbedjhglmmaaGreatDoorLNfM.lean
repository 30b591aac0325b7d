/- All strips of a graph. -/
import Derived.Test.YtcggbedjhglmmaaGreatDoorLSmaM
import Derived.Test.YtcggbedjhglmmaaGreatDoorLTell
import Derived.Test.YtcggbedjhglmmaaGreatDoorGFit2M
import Derived.Test.YtcggbedjhglmmaaGreatDoorLRo1M
namespace Go.Proofs.YtcggbedjhglmmaaGreatDoor
open Go.RowKit

def szI (l : List In) : Nat := (l.map fun x => x.args.length + 1).sum
def szB (bs : List Bl) : Nat := (bs.map fun b => szI b.ins + 1).sum
theorem szI_drop {l : List In} {k : Nat} (h : k < l.length) : szI (l.drop k) = (l.getD k default).args.length + 1 + szI (l.drop (k + 1)) := by
  unfold szI
  rw [List.drop_eq_getElem_cons h, List.map_cons, List.sum_cons]
  simp [List.getElem?_eq_getElem h]
theorem szB_drop {l : List Bl} {k : Nat} (h : k < l.length) : szB (l.drop k) = szI (blk l k).ins + 1 + szB (l.drop (k + 1)) := by
  unfold szB blk
  rw [List.drop_eq_getElem_cons h, List.map_cons, List.sum_cons]
  simp [List.getElem?_eq_getElem h]
theorem szI_len : ∀ l : List In, l.length ≤ szI l
  | [] => by simp [szI]
  | b :: l => by
    have := szI_len l
    unfold szI at this ⊢
    simp only [List.map_cons, List.sum_cons, List.length_cons]; omega
theorem szB_len : ∀ l : List Bl, l.length ≤ szB l
  | [] => by simp [szB]
  | b :: l => by
    have := szB_len l
    unfold szB at this ⊢
    simp only [List.map_cons, List.sum_cons, List.length_cons]; omega
theorem rows_ints {wA : World} {b0 G n : Nat} {kvs : List Value} {rows : List (List Int)} (h : RowsIn wA b0 G n kvs rows) {j : Nat} (hj : j < n) (hl : (rows.getD j []).length ≤ 1000000) :
    ∃ a c, ∀ W, Below wA.heap.size wA W → W.cell? ⟨G, j, none⟩ = some (.slice a (rows.getD j []).length c) ∧ IntsAt W (.slice a (rows.getD j []).length c) (rows.getD j []) := by
  have hr : rows[j]? = some (rows.getD j []) := by rw [List.getD, List.getElem?_eq_getElem (by rw [h.rlen]; exact hj)]; rfl
  have hk : kvs[j]? = some (kvs[j]'(by rw [h.klen]; exact hj)) := List.getElem?_eq_getElem _
  generalize kvs[j]'(by rw [h.klen]; exact hj) = kv at hk
  have ho := OwnI.at' (h.kid j _ kv hr hk).1 (by omega)
  have hc := h.cellG hk
  obtain ⟨a, c, rfl, _⟩ := ho.form
  exact ⟨a, c, fun W hW => ⟨(hW.cell (p := ⟨G, j, none⟩) h.ltG.2).trans hc, ho.below hW⟩⟩
theorem insS_drop {i : Nat} {ah : List Int} {l : List In} {k : Nat} (h : k < l.length) (s : List Sp) : (l.drop k).foldl (insS i ah) s = (l.drop (k + 1)).foldl (insS i ah) (insS i ah s (l.getD k default)) := by
  rw [List.drop_eq_getElem_cons h, List.foldl_cons]
  congr 2
  simp [List.getElem?_eq_getElem h]
theorem StOk.asked {n : Nat} {i : Nat} (hi : i < n) : ∀ (l : List Int) {L : Nat} {all : List Sp}, StOk n L all → StOk n (L + l.length) (askAll i all l)
  | [], _, _, h => h
  | a :: l, L, all, h => by
    have := StOk.asked hi l (h.askOne hi a)
    unfold askAll at this ⊢
    rw [List.foldl_cons, List.length_cons, show L + (l.length + 1) = L + 1 + l.length by omega]
    exact this
theorem StOk.handed {n : Nat} : ∀ (l : List (Int × Int)) {L : Nat} {all : List Sp}, StOk n L all → (∀ q ∈ l, q.2.toNat < n) → StOk n (L + l.length) (l.foldl handOne all)
  | [], _, _, h, _ => h
  | q :: l, L, all, h, hl => by
    have h1 : StOk n (L + 1) (handOne all q) := h.addHand (hl q (by simp)) _
    have := StOk.handed l h1 fun x hx => hl x (by simp [hx])
    rw [List.foldl_cons, List.length_cons, show L + (l.length + 1) = L + 1 + l.length by omega]
    exact this
theorem infoSt : (Tryz.prog.info? 64).map (fun i => (i.zero, i.size, i.bytes)) = some (some (.agg #[.slice none 0 0, .slice none 0 0, .slice none 0 0]), 3, 72) := by kernel_rfl
theorem make_strips (m : Nat) (hm : m ≤ 1000000) (W : World) : (Instr.makeSlice 60 (.int .i64 (m : Int)) (.int .i64 (m : Int))).run Tryz.prog W = .ok (.slice (some ⟨W.heap.size, 0, none⟩) m m) (W.alloc (.cells (madeCells #[.slice none 0 0, .slice none 0 0, .slice none 0 0] (m * 3)) 64)) := by
  obtain ⟨i, hi, hz, hs, hb⟩ := info_parts infoSt
  have hr := run_make (P := Tryz.prog) W 60 64 i _ Tryz.underlying60 hi hz .i64 .i64 m m (by omega) (Int.le_refl _) (by rw [hb]; omega) (by omega)
  simp only [Int.toNat_natCast, hs] at hr
  exact hr
theorem made3 (m : Nat) : (madeCells #[.slice none 0 0, .slice none 0 0, .slice none 0 0] (m * 3)).toList = flat v3Cells (List.replicate m (Value.slice none 0 0, Value.slice none 0 0, Value.slice none 0 0)) := by
  have hl : (flat v3Cells (List.replicate m (Value.slice none 0 0, Value.slice none 0 0, Value.slice none 0 0))).length = m * 3 := by rw [flat_len v3Cells_len]; simp
  have hall : ∀ x ∈ flat v3Cells (List.replicate m (Value.slice none 0 0, Value.slice none 0 0, Value.slice none 0 0)), x = Value.slice none 0 0 := fun x hx => by
    unfold flat at hx
    obtain ⟨a, ha, hx⟩ := List.mem_flatMap.1 hx
    rw [List.eq_of_mem_replicate ha] at hx
    simpa [v3Cells] using hx
  rw [List.eq_replicate_of_mem hall, hl]
  refine List.ext_getElem (by simp [size_madeCells]) fun k h1 h2 => ?_
  rw [List.getElem_replicate]
  have h3 : k < m * 3 := by simpa [size_madeCells] using h1
  have hk : k % 3 = 0 ∨ k % 3 = 1 ∨ k % 3 = 2 := by omega
  simp only [madeCells, Array.getElem_toList, Array.getElem_map, Array.getElem_range]
  rcases hk with e | e | e <;> simp [e]
theorem sts_new (w0 w : World) (hb : Below w0.heap.size w0 w) (m : Nat) (hm : m ≤ 1000000) : ∃ ss, Sts w0 (w.alloc (.cells (madeCells #[.slice none 0 0, .slice none 0 0, .slice none 0 0] (m * 3)) 64)) w.heap.size m ss (List.replicate m (Value.slice none 0 0, Value.slice none 0 0, Value.slice none 0 0)) (List.replicate m emp) := by
  have hn := World.ownsRow_lit (base := w0.heap.size) (e := 64) (size := 3) w (madeCells #[.slice none 0 0, .slice none 0 0, .slice none 0 0] (m * 3)) m hb.size (by unfold maxLen; omega) (by simp [size_madeCells])
  rw [made3] at hn
  refine ⟨⟨.slice (some ⟨w.heap.size, 0, none⟩) m m, 64, 3, m, flat v3Cells (List.replicate m (Value.slice none 0 0, Value.slice none 0 0, Value.slice none 0 0))⟩ :: List.replicate (3 * m) (mkSlot (.slice none 0 0) []), below_alloc hb _, by simp, by simp, ⟨fun i s hs => ?_, fun i j a b g hij ha hb' hga hgb => ?_⟩, by simp; omega, rfl, fun i t s ht hs => ?_⟩
  · cases i with
    | zero => simp at hs; subst hs; exact hn
    | succ i =>
      rw [List.getElem?_cons_succ, List.getElem?_replicate] at hs
      split at hs
      · cases hs; exact World.ownsRow_nil _ _ _ _
      · cases hs
  · cases i with
    | zero =>
      cases j with
      | zero => exact hij rfl
      | succ j =>
        rw [List.getElem?_cons_succ, List.getElem?_replicate] at hb'
        split at hb'
        · cases hb'; simp [mkSlot, Value.ownBlock] at hgb
        · cases hb'
    | succ i =>
      rw [List.getElem?_cons_succ, List.getElem?_replicate] at ha
      split at ha
      · cases ha; simp [mkSlot, Value.ownBlock] at hga
      · cases ha
  · rw [List.getElem?_replicate] at ht hs
    split at ht
    · rename_i hi
      rw [if_pos hi] at hs
      cases ht; cases hs
      have k : ∀ q, q < 3 → (⟨.slice (some ⟨w.heap.size, 0, none⟩) m m, 64, 3, m, flat v3Cells (List.replicate m (Value.slice none 0 0, Value.slice none 0 0, Value.slice none 0 0))⟩ :: List.replicate (3 * m) (mkSlot (.slice none 0 0) []))[1 + 3 * i + q]? = some (mkSlot (.slice none 0 0) []) := fun q hq => by
        rw [show 1 + 3 * i + q = (3 * i + q) + 1 by omega, List.getElem?_cons_succ, List.getElem?_replicate, if_pos (by omega)]
      exact ⟨k 0 (by omega), k 1 (by omega), k 2 (by omega)⟩
    · cases ht
theorem stOk_new (n m : Nat) : StOk n 0 (List.replicate m emp) := by
  have e : ∀ k, (List.replicate m emp).getD k default = ⟨[], [], []⟩ := fun k => by
    rw [List.getD_eq_getElem?_getD, List.getElem?_replicate]; split <;> rfl
  exact ⟨fun k => by rw [e]; exact ⟨OkM.nil _, by simp⟩, fun k => by rw [e]; exact ⟨OkM.nil _, by simp⟩, fun k => by rw [e]; exact ⟨OkM.nil _, by simp⟩⟩
end Go.Proofs.YtcggbedjhglmmaaGreatDoor
/- A flow with nothing in it (live.newFlow). -/
namespace Go.Proofs.YtcggbedjhglmmaaGreatDoor
open Go.RowKit

theorem infoU64 : (Tryz.prog.info? 52).map (fun i => (i.zero, i.size, i.bytes)) = some (some (.int .u64 0), 1, 8) := by kernel_rfl
theorem make_words (n : Nat) (hn : n ≤ 1000000) (W : World) : (Instr.makeSlice 74 (.int .i64 (n : Int)) (.int .i64 (n : Int))).run Tryz.prog W = .ok (rowN W.heap.size n) (W.alloc (.cells (madeCells #[.int .u64 0] n) 52)) := by
  obtain ⟨i, hi, hz, hs, hb⟩ := info_parts infoU64
  have hr := run_make (P := Tryz.prog) W 74 52 i _ Tryz.underlying74 hi hz .i64 .i64 n n (by omega) (Int.le_refl _) (by rw [hb]; omega) (by omega)
  simp only [Int.toNat_natCast, hs, Nat.mul_one] at hr
  exact hr
abbrev wZ (W : World) (n : Nat) : World := W.alloc (.cells (madeCells #[.int .u64 0] n) 52)
set_option maxRecDepth 100000 in
theorem newrow_any (W : World) (B n c : Nat) (a : Option Addr) (hn : n ≤ 1000000) (hc : W.cell? ⟨B, 0, none⟩ = some (.slice a n c)) :
    Calls Tryz.prog 34 #[ptr B] W fun e w' => e = .returned (rowN W.heap.size n) ∧ w' = wZ W n := by
  have hm := make_words n hn W
  go_enter Tryz.func34, Tryz.ntmps34
  go_wp2
  go_ret
  exact ⟨rfl, rfl⟩
set_option maxRecDepth 100000 in
set_option maxHeartbeats 4000000 in
theorem newflow_any (w : World) (n c : Nat) (a : Option Addr) (hn : n ≤ 1000000) :
    Calls Tryz.prog 18 #[.slice a n c] w fun e w' => ∃ W, Below w.heap.size w W ∧ e = .returned (ptr (W.heap.size + 4)) ∧ w'.heap = ((wZ (wZ (wZ (wZ W n) n) n) n).alloc (.cells #[.slice a n c, rowN W.heap.size n, rowN (W.heap.size + 1) n, rowN (W.heap.size + 2) n, rowN (W.heap.size + 3) n, .slice none 0 0, .slice none 0 0] 77)).heap ∧ Below w.heap.size w w' := by
  have HC : Hid (∀ W, Below (w.alloc (.cells #[.slice a n c] 31)).heap.size (w.alloc (.cells #[.slice a n c] 31)) W → Calls Tryz.prog 34 #[ptr w.heap.size] W fun e w' => e = .returned (rowN W.heap.size n) ∧ w' = wZ W n) := fun W hW => newrow_any W w.heap.size n c a hn (((Box.new w [.slice a n c] 31).below hW).cell 0 _ rfl)
  clear hn
  go_enter Tryz.func18, Tryz.ntmps18
  go_wp2
  have k3 : (w.alloc (.cells #[.slice a n c] 31)).drew.cell? ⟨w.heap.size, 0, none⟩ = some (.slice a n c) := (Box.new w [.slice a n c] 31).cell 0 _ rfl
  refine wp_region_late (fun w' => w'.cell? ⟨w.heap.size, 0, none⟩ = some (.slice a n c)) (fun _ => false) (by kernel_rfl) k3 (fun hHeld => ?_)
  refine wpAnyL_take 0 (v := ?_) rfl (by kernel_rfl) (by kernel_rfl) (by kernel_rfl) (by kernel_rfl) (fun _ _ _ h => h) hHeld (Or.inl ⟨by rfl, ?_⟩) ?_
  rotate_left 1
  · (intro w hSw; (try dsimp only at hSw); first | (go_simp; done) | (go_simp; with_reducible rfl))
  simp only [Act.put, List.setIfInBounds_toArray]
  refine wpAnyL_take 1 (v := ?_) rfl (by kernel_rfl) (by kernel_rfl) (by kernel_rfl) (by kernel_rfl) (fun _ _ _ h => h) hHeld (Or.inl ⟨by rfl, ?_⟩) ?_
  rotate_left 1
  · (intro w hSw; (try dsimp only at hSw); first | (go_simp; done) | (go_simp; with_reducible rfl))
  simp only [Act.put]
  refine wpAnyL_take 3 (v := ?_) rfl (by kernel_rfl) (by kernel_rfl) (by kernel_rfl) (by kernel_rfl) (fun _ _ _ h => h) hHeld (Or.inl ⟨by rfl, ?_⟩) ?_
  rotate_left 1
  · (intro w hSw; (try dsimp only at hSw); first | (go_simp; done) | (go_simp; with_reducible rfl))
  simp only [Act.put]
  refine wpAnyL_take 5 (v := ?_) rfl (by kernel_rfl) (by kernel_rfl) (by kernel_rfl) (by kernel_rfl) (fun _ _ _ h => h) hHeld (Or.inl ⟨by rfl, ?_⟩) ?_
  rotate_left 1
  · (intro w hSw; (try dsimp only at hSw); first | (go_simp; done) | (go_simp; with_reducible rfl))
  simp only [Act.put]
  refine wpAnyL_take 7 (v := ?_) rfl (by kernel_rfl) (by kernel_rfl) (by kernel_rfl) (by kernel_rfl) (fun _ _ _ h => h) hHeld (Or.inl ⟨by rfl, ?_⟩) ?_
  rotate_left 1
  · (intro w hSw; (try dsimp only at hSw); first | (go_simp; done) | (go_simp; with_reducible rfl))
  simp only [Act.put]
  have HC2 : Hid (∀ W', Below (w.alloc (.cells #[.slice a n c] 31)).drew.heap.size (w.alloc (.cells #[.slice a n c] 31)).drew W' → Calls Tryz.prog 34 #[ptr w.heap.size] W' fun e w' => e = .returned (rowN W'.heap.size n) ∧ w' = wZ W' n) := fun W' hW' => HC.out W' (below_trans (below_drew (Below.refl _ _)) hW')
  have hBW : Below w.heap.size w (w.alloc (.cells #[.slice a n c] 31)).drew := below_drew (below_alloc (Below.refl _ _) _)
  have hlt : w.heap.size < (w.alloc (.cells #[.slice a n c] 31)).drew.heap.size := by show w.heap.size < (w.alloc (.cells #[.slice a n c] 31)).heap.size; simp
  clear HC hHeld
  generalize (w.alloc (.cells #[.slice a n c] 31)).drew = W at *
  have HK : Hid (∀ W', Below W.heap.size W W' → W'.cell? ⟨w.heap.size, 0, none⟩ = some (.slice a n c)) := fun W' hW' => (hW'.cell (p := ⟨w.heap.size, 0, none⟩) hlt).trans k3
  have HBW : Hid _ := hBW
  have hb1 : Below W.heap.size W (wZ W n) := below_alloc (Below.refl _ _) _
  have hb2 : Below W.heap.size W (wZ (wZ W n) n) := below_alloc hb1 _
  have hb3 : Below W.heap.size W (wZ (wZ (wZ W n) n) n) := below_alloc hb2 _
  have hb4 : Below W.heap.size W (wZ (wZ (wZ (wZ W n) n) n) n) := below_alloc hb3 _
  have HB : Hid (Below W.heap.size W (wZ W n) ∧ Below W.heap.size W (wZ (wZ W n) n) ∧ Below W.heap.size W (wZ (wZ (wZ W n) n) n) ∧ Below W.heap.size W (wZ (wZ (wZ (wZ W n) n) n) n)) := ⟨hb1, hb2, hb3, hb4⟩
  have hs1 : (wZ W n).heap.size = W.heap.size + 1 := by simp
  have hs2 : (wZ (wZ W n) n).heap.size = W.heap.size + 2 := by simp
  have hs3 : (wZ (wZ (wZ W n) n) n).heap.size = W.heap.size + 3 := by simp
  have hs4 : (wZ (wZ (wZ (wZ W n) n) n) n).heap.size = W.heap.size + 4 := by simp
  have HC3 : Hid ((Calls Tryz.prog 34 #[ptr w.heap.size] W fun e w' => e = .returned (rowN W.heap.size n) ∧ w' = wZ W n) ∧ (Calls Tryz.prog 34 #[ptr w.heap.size] (wZ W n) fun e w' => e = .returned (rowN (W.heap.size + 1) n) ∧ w' = wZ (wZ W n) n) ∧ (Calls Tryz.prog 34 #[ptr w.heap.size] (wZ (wZ W n) n) fun e w' => e = .returned (rowN (W.heap.size + 2) n) ∧ w' = wZ (wZ (wZ W n) n) n) ∧ (Calls Tryz.prog 34 #[ptr w.heap.size] (wZ (wZ (wZ W n) n) n) fun e w' => e = .returned (rowN (W.heap.size + 3) n) ∧ w' = wZ (wZ (wZ (wZ W n) n) n) n)) := by
    refine ⟨HC2.out W (Below.refl _ _), ?_, ?_, ?_⟩
    · have := HC2.out _ hb1; rw [hs1] at this; exact this
    · have := HC2.out _ hb2; rw [hs2] at this; exact this
    · have := HC2.out _ hb3; rw [hs3] at this; exact this
  unfold rowN at HC3
  clear HC2 hb1 hb2 hb3 hb4 hs1 hs2 hs3 k3 hBW
  obtain ⟨W1, hW1⟩ : ∃ W1, W1 = wZ W n := ⟨_, rfl⟩
  rw [← hW1] at HC3 HB hs4
  obtain ⟨W2, hW2⟩ : ∃ W2, W2 = wZ W1 n := ⟨_, rfl⟩
  rw [← hW2] at HC3 HB hs4
  obtain ⟨W3, hW3⟩ : ∃ W3, W3 = wZ W2 n := ⟨_, rfl⟩
  rw [← hW3] at HC3 HB hs4
  obtain ⟨W4, hW4⟩ : ∃ W4, W4 = wZ W3 n := ⟨_, rfl⟩
  rw [← hW4] at HC3 HB hs4
  have HE : Hid (W4 = wZ (wZ (wZ (wZ W n) n) n) n) := by show _ = _; rw [hW4, hW3, hW2, hW1]
  have HS4 : Hid _ := hs4
  clear hW1 hW2 hW3 hW4 hs4
  refine wpAnyL_one 2 (by kernel_rfl) rfl (fun K hK0 => ?_)
  have hK : Shut _ := hK0
  clear hK0
  go_simp
  refine Calls.mono (by exact HC3.out.1) ?_
  rintro e w2 ⟨rfl, rfl⟩
  dsimp only
  refine hK.out _ _ (fun _ => HK.out _ HB.out.1) ?_
  clear hK K
  refine wpAnyL_one 4 (by kernel_rfl) rfl (fun K hK0 => ?_)
  have hK : Shut _ := hK0
  clear hK0
  go_simp
  refine Calls.mono (by exact HC3.out.2.1) ?_
  rintro e w2 ⟨rfl, rfl⟩
  dsimp only
  refine hK.out _ _ (fun _ => HK.out _ HB.out.2.1) ?_
  clear hK K
  refine wpAnyL_one 6 (by kernel_rfl) rfl (fun K hK0 => ?_)
  have hK : Shut _ := hK0
  clear hK0
  go_simp
  refine Calls.mono (by exact HC3.out.2.2.1) ?_
  rintro e w2 ⟨rfl, rfl⟩
  dsimp only
  refine hK.out _ _ (fun _ => HK.out _ HB.out.2.2.1) ?_
  clear hK K
  refine wpAnyL_one 8 (by kernel_rfl) rfl (fun K hK0 => ?_)
  have hK : Shut _ := hK0
  clear hK0
  go_simp
  refine Calls.mono (by exact HC3.out.2.2.2) ?_
  rintro e w2 ⟨rfl, rfl⟩
  dsimp only
  refine hK.out _ _ (fun _ => HK.out _ HB.out.2.2.2) ?_
  clear hK K
  refine wpAnyL_one 9 (by kernel_rfl) rfl (fun K hK0 => ?_)
  have hK : Shut _ := hK0
  clear hK0
  go_simp
  refine hK.out _ _ (fun _ => HK.out _ HB.out.2.2.2) ?_
  clear hK K
  refine wpAnyL_one 10 (by kernel_rfl) rfl (fun K hK0 => ?_)
  have hK : Shut _ := hK0
  clear hK0
  go_simp
  refine hK.out _ _ (fun _ => HK.out _ (below_alloc HB.out.2.2.2 _)) ?_
  clear hK K
  refine wpAnyL_one 11 (by kernel_rfl) rfl (fun K hK0 => ?_)
  have hK : Shut _ := hK0
  clear hK0
  go_simp
  refine hK.out _ _ (fun _ => HK.out _ (below_alloc HB.out.2.2.2 _)) ?_
  clear hK K
  refine wpAnyL_done (by kernel_rfl) ?_
  go_wp2
  go_ret
  refine ⟨W, HBW.out, ?_, ?_, below_alloc (below_trans HBW.out HB.out.2.2.2) _⟩
  · first | rfl | (rw [HS4.out]; rfl)
  · rw [HE.out]; rfl
end Go.Proofs.YtcggbedjhglmmaaGreatDoor
