/- The walk of TokenLong. -/
import Derived.Test.YtcinlpiidgbnaaaScansWalk
import Derived.Laws.IdiomStrings
import Derived.Deep.OwnRows
namespace Go.Proofs.Ytcinlpiidgbnaaa
open Go.RowKit

theorem info5 : (Try.prog.info? 5).map (fun i => (i.zero, i.size, i.bytes)) = some (some (.int .u8 0), 1, 1) := by kernel_rfl
/-- The source of a name and n - 1 bytes of one sort. -/
def longL (n : Nat) (c : UInt8) : List UInt8 := 97 :: List.replicate (n - 1) c
theorem longL_len {n : Nat} (c : UInt8) (h : 0 < n) : (longL n c).length = n := by simp [longL]; omega
theorem longL_at {n : Nat} (c : UInt8) (j : Nat) (h : j < n) : (longL n c)[j]? = some (if j = 0 then 97 else c) := by
  match j with
  | 0 => rfl
  | j + 1 =>
    show (List.replicate (n - 1) c)[j]? = _
    rw [List.getElem?_replicate, if_pos (by omega)]; simp
theorem conv_long {W : World} {g n : Nat} {c : UInt8} (h0 : 0 < n) (h : ∀ j, j < n → W.cell? ⟨g, j, none⟩ = some (.int .u8 (if j = 0 then 97 else (c.toNat : Int)))) :
    (convert 31 9 (.slice (some ⟨g, 0, none⟩) n n)).run Try.prog W = .ok (.string ⟨(longL n c).toArray⟩) W := by
  have hl := longL_len c h0
  have := run_convert_bytes_back (P := Try.prog) W 31 9 5 ⟨g, 0, none⟩ n (longL n c) Try.underlying31 Try.underlying5 Try.underlying9 ?_
  · rw [hl] at this; exact this
  · intro j hj
    rw [hl] at hj
    have hg := longL_at c j hj
    obtain ⟨h1, h2⟩ := List.getElem?_eq_some_iff.1 hg
    rw [h2]
    have ea : (⟨g, 0, none⟩ : Addr).add j = ⟨g, j, none⟩ := by simp [Addr.add_lit]
    rw [ea, h j hj]
    by_cases h0 : j = 0 <;> simp [h0]

set_option maxRecDepth 100000 in
set_option maxHeartbeats 2000000 in
theorem long_ff (m : Int) (c : UInt8) (h2 : (m.tmod 2 != 0) = false) (h3 : (m.tmod 3 == 0) = false) (w : World) : Calls Try.prog 5 #[.int .i64 m, .int .u8 (c.toNat : Int)] w fun e w' => e = .returned (.bool true) ∧ Below w.heap.size w w' := by
  have e26 := eql_flt
  go_enter Try.func5, Try.ntmps5
  generalize hN0 : (65535 : Int) = N0
  generalize hN1 : (65536 : Int) = N1
  generalize hN2 : (65537 : Int) = N2
  obtain ⟨n, hn, hn0, hnm⟩ : ∃ n : Nat, N0 = (n : Int) ∧ 0 < n ∧ n ≤ 65537 := ⟨65535, by rw [← hN0]; rfl, by omega, by omega⟩
  subst hn
  clear hN0 hN1 hN2
  have hlen : (longL n c).length = n := longL_len c hn0
  have hsz : (⟨(longL n c).toArray⟩ : ByteArray).data.toList.length = n := by simpa using hlen
  have hmx : (⟨(longL n c).toArray⟩ : ByteArray).size ≤ maxLen := by
    have : (⟨(longL n c).toArray⟩ : ByteArray).size = n := by rw [Lib.size_eq]; exact hsz
    unfold maxLen; omega
  obtain ⟨S, hS⟩ : ∃ S : ByteArray, (⟨(longL n c).toArray⟩ : ByteArray) = S := ⟨_, rfl⟩
  rw [hS] at hmx
  have hC1 := fun w => scan_lies S hmx w
  have hC2 := fun w => rscan_lies S hmx w
  have hL : Hid ((toksOf S.data.toList).length ≤ 65537) := toks_len _
  generalize toksOf S.data.toList = ts at hC1 hC2 hL
  generalize errOf S.data.toList = er at hC1 hC2
  generalize atOf S.data.toList = a at hC1 hC2
  have HCV : Hid (∀ (W : World) (g : Nat), (∀ j, j < n → W.cell? ⟨g, j, none⟩ = some (.int .u8 (if j = 0 then 97 else (c.toNat : Int)))) → (convert 31 9 (.slice (some ⟨g, 0, none⟩) n n)).run Try.prog W = .ok (.string S) W) := by
    intro W g h
    rw [← hS]; exact conv_long hn0 h
  clear hlen hsz hmx hS
  have hmk := run_make_row' (P := Try.prog) 31 5 (.int .u8 0) 1 Try.underlying31 info5 rfl .i64 .i64 n (by omega) (by omega)
  go_wp2_with (go_at_call 9; refine (awake_any _).mono ?_; rintro e w0 ⟨rfl, hb0⟩)
  have hR0 : Hid ((w0.alloc (.cells (madeCells #[.int .u8 0] n) 5)).rowIs w0.heap.size 5 n (fun j => if j < 0 then .int .u8 (c.toNat : Int) else .int .u8 0)) := (World.rowIs_made w0 (.int .u8 0) n 5).congr (fun i _ => by simp)
  have hB0 : Hid (Below w.heap.size w (w0.alloc (.cells (madeCells #[.int .u8 0] n) 5)) ∧ w.heap.size ≤ w0.heap.size) := ⟨hb0.alloc hb0.size _, hb0.size⟩
  clear hmk hb0
  go_loopw [7] (fun i wr => ∃ k : Nat, k ≤ n ∧ i = .int .i64 k ∧ Hid (wr.rowIs w0.heap.size 5 n (fun j => if j < k then .int .u8 (c.toNat : Int) else .int .u8 0) ∧ Below w.heap.size w wr)) (fun i _ => n - (intOf i).toNat)
  case atStart => exact ⟨0, Nat.zero_le _, rfl, hR0.out, hB0.out.1⟩
  case round =>
    have hZ : Hid (w.heap.size ≤ w0.heap.size) := hB0.out.2
    clear hR0 hB0
    obtain ⟨k, hk, rfl, hr⟩ := hrel
    by_cases hlt : k < n
    · have hlt' : (k : Int) < n := by omega
      have hck : wr.cell? ⟨w0.heap.size, k, none⟩ = some (.int .u8 0) := by have := hr.out.1.cell hlt; simpa using this
      have hfk := hr.out.1.frozen k
      go_wp2
      go_roundw
      case rel =>
        refine ⟨k + 1, by omega, by go_num, (hr.out.1.set k (.int .u8 (c.toNat : Int))).congr ?_, hr.out.2.setCell hZ.out _⟩
        intro i hi
        by_cases h1 : i = k
        · subst h1; simp
        · by_cases h2 : i < k
          · simp [h1, h2, Nat.lt_succ_of_lt h2]
          · have h3 : ¬ i < k + 1 := by omega
            simp [h1, h2, h3]
      case measure => simp [intOf]; omega
    · have hkn : k = n := by omega
      subst hkn
      have hc0 : wr.cell? ⟨w0.heap.size, 0, none⟩ = some (.int .u8 (c.toNat : Int)) := by have := hr.out.1.cell hn0; simpa [hn0] using this
      have hf0 := hr.out.1.frozen 0
      have hrow : (wr.setCell ⟨w0.heap.size, 0, none⟩ (.int .u8 97)).rowIs w0.heap.size 5 k (fun j => .int .u8 (if j = 0 then 97 else (c.toNat : Int))) := (hr.out.1.set 0 (.int .u8 97)).congr (by
        intro i hi
        by_cases h1 : i = 0
        · subst h1; simp
        · simp [h1, hi])
      have hcv1 := HCV.out (wr.setCell ⟨w0.heap.size, 0, none⟩ (.int .u8 97)) w0.heap.size (fun j hj => hrow.cell hj)
      have HB : Hid (Below w.heap.size w (wr.setCell ⟨w0.heap.size, 0, none⟩ (.int .u8 97))) := hr.out.2.setCell hZ.out _
      have hgz : w0.heap.size < (wr.setCell ⟨w0.heap.size, 0, none⟩ (.int .u8 97)).heap.size := hrow.lt
      have HQ : Hid (∀ (w1 : World) (o : Obj), Below (wr.setCell ⟨w0.heap.size, 0, none⟩ (.int .u8 97)).heap.size (wr.setCell ⟨w0.heap.size, 0, none⟩ (.int .u8 97)) w1 → ∀ j, j < k → (w1.alloc o).cell? ⟨w0.heap.size, j, none⟩ = some (.int .u8 (if j = 0 then 97 else (c.toNat : Int)))) := by
        intro w1 o hb j hj
        have hz := hb.size
        exact (past1 (show w0.heap.size < w1.heap.size by omega) o j).trans ((hb.cell (p := ⟨w0.heap.size, j, none⟩) hgz).trans (hrow.cell hj))
      clear hgz
      clear hrow hr hlt
      go_wp2_with (first | (go_at_call 10; refine (hC1 _).mono ?_; rintro e w1 ⟨v1, rfl, hl1, hb1⟩; have hcv2 := HCV.out _ _ (HQ.out w1 (.cells #[.int .i64 er, .int .i64 a] 26) hb1)) | (go_at_call 11; refine (hC2 _).mono ?_; rintro e w2 ⟨v2, rfl, hl2, hb2⟩; obtain ⟨q0, q1, q2⟩ := kept_flt hb2; have q3 := past1 q2; have hl3 := lies_below hl1 ((Below.refl _ _).alloc (Nat.le_refl _) _ |>.trans (hb2.mono (by simp)))) | (go_at_call 12; refine (same_below _ _ ts ts _ (lies_below hl3 ((Below.refl _ _).alloc (Nat.le_refl _) _)) (lies_below hl2 ((Below.refl _ _).alloc (Nat.le_refl _) _)) hL.out).mono ?_; rintro e w3 ⟨rfl, hb3⟩))
      go_ret
      refine ⟨ret_bool (by simp), ?_⟩
      have y0 := HB.out.size
      have y1 := hb1.size
      have y2 := hb2.size
      have y3 := hb3.size
      simp at y0 y1 y2 y3
      have b1 : Below w.heap.size w w1 := HB.out.trans (hb1.mono (by simp; omega))
      have b2 : Below w.heap.size w w2 := (b1.alloc (by omega) _).trans (hb2.mono (by simp; omega))
      exact (b2.alloc (by omega) _).trans (hb3.mono (by simp; omega))

set_option maxRecDepth 100000 in
set_option maxHeartbeats 2000000 in
theorem long_tf (m : Int) (c : UInt8) (h2 : (m.tmod 2 != 0) = true) (h3 : (m.tmod 3 == 0) = false) (w : World) : Calls Try.prog 5 #[.int .i64 m, .int .u8 (c.toNat : Int)] w fun e w' => e = .returned (.bool true) ∧ Below w.heap.size w w' := by
  have e26 := eql_flt
  go_enter Try.func5, Try.ntmps5
  generalize hN0 : (65535 : Int) = N0
  generalize hN1 : (65536 : Int) = N1
  generalize hN2 : (65537 : Int) = N2
  obtain ⟨n, hn, hn0, hnm⟩ : ∃ n : Nat, N1 = (n : Int) ∧ 0 < n ∧ n ≤ 65537 := ⟨65536, by rw [← hN1]; rfl, by omega, by omega⟩
  subst hn
  clear hN0 hN1 hN2
  have hlen : (longL n c).length = n := longL_len c hn0
  have hsz : (⟨(longL n c).toArray⟩ : ByteArray).data.toList.length = n := by simpa using hlen
  have hmx : (⟨(longL n c).toArray⟩ : ByteArray).size ≤ maxLen := by
    have : (⟨(longL n c).toArray⟩ : ByteArray).size = n := by rw [Lib.size_eq]; exact hsz
    unfold maxLen; omega
  obtain ⟨S, hS⟩ : ∃ S : ByteArray, (⟨(longL n c).toArray⟩ : ByteArray) = S := ⟨_, rfl⟩
  rw [hS] at hmx
  have hC1 := fun w => scan_lies S hmx w
  have hC2 := fun w => rscan_lies S hmx w
  have hL : Hid ((toksOf S.data.toList).length ≤ 65537) := toks_len _
  generalize toksOf S.data.toList = ts at hC1 hC2 hL
  generalize errOf S.data.toList = er at hC1 hC2
  generalize atOf S.data.toList = a at hC1 hC2
  have HCV : Hid (∀ (W : World) (g : Nat), (∀ j, j < n → W.cell? ⟨g, j, none⟩ = some (.int .u8 (if j = 0 then 97 else (c.toNat : Int)))) → (convert 31 9 (.slice (some ⟨g, 0, none⟩) n n)).run Try.prog W = .ok (.string S) W) := by
    intro W g h
    rw [← hS]; exact conv_long hn0 h
  clear hlen hsz hmx hS
  have hmk := run_make_row' (P := Try.prog) 31 5 (.int .u8 0) 1 Try.underlying31 info5 rfl .i64 .i64 n (by omega) (by omega)
  go_wp2_with (go_at_call 9; refine (awake_any _).mono ?_; rintro e w0 ⟨rfl, hb0⟩)
  have hR0 : Hid ((w0.alloc (.cells (madeCells #[.int .u8 0] n) 5)).rowIs w0.heap.size 5 n (fun j => if j < 0 then .int .u8 (c.toNat : Int) else .int .u8 0)) := (World.rowIs_made w0 (.int .u8 0) n 5).congr (fun i _ => by simp)
  have hB0 : Hid (Below w.heap.size w (w0.alloc (.cells (madeCells #[.int .u8 0] n) 5)) ∧ w.heap.size ≤ w0.heap.size) := ⟨hb0.alloc hb0.size _, hb0.size⟩
  clear hmk hb0
  go_loopw [7] (fun i wr => ∃ k : Nat, k ≤ n ∧ i = .int .i64 k ∧ Hid (wr.rowIs w0.heap.size 5 n (fun j => if j < k then .int .u8 (c.toNat : Int) else .int .u8 0) ∧ Below w.heap.size w wr)) (fun i _ => n - (intOf i).toNat)
  case atStart => exact ⟨0, Nat.zero_le _, rfl, hR0.out, hB0.out.1⟩
  case round =>
    have hZ : Hid (w.heap.size ≤ w0.heap.size) := hB0.out.2
    clear hR0 hB0
    obtain ⟨k, hk, rfl, hr⟩ := hrel
    by_cases hlt : k < n
    · have hlt' : (k : Int) < n := by omega
      have hck : wr.cell? ⟨w0.heap.size, k, none⟩ = some (.int .u8 0) := by have := hr.out.1.cell hlt; simpa using this
      have hfk := hr.out.1.frozen k
      go_wp2
      go_roundw
      case rel =>
        refine ⟨k + 1, by omega, by go_num, (hr.out.1.set k (.int .u8 (c.toNat : Int))).congr ?_, hr.out.2.setCell hZ.out _⟩
        intro i hi
        by_cases h1 : i = k
        · subst h1; simp
        · by_cases h2 : i < k
          · simp [h1, h2, Nat.lt_succ_of_lt h2]
          · have h3 : ¬ i < k + 1 := by omega
            simp [h1, h2, h3]
      case measure => simp [intOf]; omega
    · have hkn : k = n := by omega
      subst hkn
      have hc0 : wr.cell? ⟨w0.heap.size, 0, none⟩ = some (.int .u8 (c.toNat : Int)) := by have := hr.out.1.cell hn0; simpa [hn0] using this
      have hf0 := hr.out.1.frozen 0
      have hrow : (wr.setCell ⟨w0.heap.size, 0, none⟩ (.int .u8 97)).rowIs w0.heap.size 5 k (fun j => .int .u8 (if j = 0 then 97 else (c.toNat : Int))) := (hr.out.1.set 0 (.int .u8 97)).congr (by
        intro i hi
        by_cases h1 : i = 0
        · subst h1; simp
        · simp [h1, hi])
      have hcv1 := HCV.out (wr.setCell ⟨w0.heap.size, 0, none⟩ (.int .u8 97)) w0.heap.size (fun j hj => hrow.cell hj)
      have HB : Hid (Below w.heap.size w (wr.setCell ⟨w0.heap.size, 0, none⟩ (.int .u8 97))) := hr.out.2.setCell hZ.out _
      have hgz : w0.heap.size < (wr.setCell ⟨w0.heap.size, 0, none⟩ (.int .u8 97)).heap.size := hrow.lt
      have HQ : Hid (∀ (w1 : World) (o : Obj), Below (wr.setCell ⟨w0.heap.size, 0, none⟩ (.int .u8 97)).heap.size (wr.setCell ⟨w0.heap.size, 0, none⟩ (.int .u8 97)) w1 → ∀ j, j < k → (w1.alloc o).cell? ⟨w0.heap.size, j, none⟩ = some (.int .u8 (if j = 0 then 97 else (c.toNat : Int)))) := by
        intro w1 o hb j hj
        have hz := hb.size
        exact (past1 (show w0.heap.size < w1.heap.size by omega) o j).trans ((hb.cell (p := ⟨w0.heap.size, j, none⟩) hgz).trans (hrow.cell hj))
      clear hgz
      clear hrow hr hlt
      go_wp2_with (first | (go_at_call 10; refine (hC1 _).mono ?_; rintro e w1 ⟨v1, rfl, hl1, hb1⟩; have hcv2 := HCV.out _ _ (HQ.out w1 (.cells #[.int .i64 er, .int .i64 a] 26) hb1)) | (go_at_call 11; refine (hC2 _).mono ?_; rintro e w2 ⟨v2, rfl, hl2, hb2⟩; obtain ⟨q0, q1, q2⟩ := kept_flt hb2; have q3 := past1 q2; have hl3 := lies_below hl1 ((Below.refl _ _).alloc (Nat.le_refl _) _ |>.trans (hb2.mono (by simp)))) | (go_at_call 12; refine (same_below _ _ ts ts _ (lies_below hl3 ((Below.refl _ _).alloc (Nat.le_refl _) _)) (lies_below hl2 ((Below.refl _ _).alloc (Nat.le_refl _) _)) hL.out).mono ?_; rintro e w3 ⟨rfl, hb3⟩))
      go_ret
      refine ⟨ret_bool (by simp), ?_⟩
      have y0 := HB.out.size
      have y1 := hb1.size
      have y2 := hb2.size
      have y3 := hb3.size
      simp at y0 y1 y2 y3
      have b1 : Below w.heap.size w w1 := HB.out.trans (hb1.mono (by simp; omega))
      have b2 : Below w.heap.size w w2 := (b1.alloc (by omega) _).trans (hb2.mono (by simp; omega))
      exact (b2.alloc (by omega) _).trans (hb3.mono (by simp; omega))

set_option maxRecDepth 100000 in
set_option maxHeartbeats 2000000 in
theorem long_ft (m : Int) (c : UInt8) (h2 : (m.tmod 2 != 0) = false) (h3 : (m.tmod 3 == 0) = true) (w : World) : Calls Try.prog 5 #[.int .i64 m, .int .u8 (c.toNat : Int)] w fun e w' => e = .returned (.bool true) ∧ Below w.heap.size w w' := by
  have e26 := eql_flt
  go_enter Try.func5, Try.ntmps5
  generalize hN0 : (65535 : Int) = N0
  generalize hN1 : (65536 : Int) = N1
  generalize hN2 : (65537 : Int) = N2
  obtain ⟨n, hn, hn0, hnm⟩ : ∃ n : Nat, N2 = (n : Int) ∧ 0 < n ∧ n ≤ 65537 := ⟨65537, by rw [← hN2]; rfl, by omega, by omega⟩
  subst hn
  clear hN0 hN1 hN2
  have hlen : (longL n c).length = n := longL_len c hn0
  have hsz : (⟨(longL n c).toArray⟩ : ByteArray).data.toList.length = n := by simpa using hlen
  have hmx : (⟨(longL n c).toArray⟩ : ByteArray).size ≤ maxLen := by
    have : (⟨(longL n c).toArray⟩ : ByteArray).size = n := by rw [Lib.size_eq]; exact hsz
    unfold maxLen; omega
  obtain ⟨S, hS⟩ : ∃ S : ByteArray, (⟨(longL n c).toArray⟩ : ByteArray) = S := ⟨_, rfl⟩
  rw [hS] at hmx
  have hC1 := fun w => scan_lies S hmx w
  have hC2 := fun w => rscan_lies S hmx w
  have hL : Hid ((toksOf S.data.toList).length ≤ 65537) := toks_len _
  generalize toksOf S.data.toList = ts at hC1 hC2 hL
  generalize errOf S.data.toList = er at hC1 hC2
  generalize atOf S.data.toList = a at hC1 hC2
  have HCV : Hid (∀ (W : World) (g : Nat), (∀ j, j < n → W.cell? ⟨g, j, none⟩ = some (.int .u8 (if j = 0 then 97 else (c.toNat : Int)))) → (convert 31 9 (.slice (some ⟨g, 0, none⟩) n n)).run Try.prog W = .ok (.string S) W) := by
    intro W g h
    rw [← hS]; exact conv_long hn0 h
  clear hlen hsz hmx hS
  have hmk := run_make_row' (P := Try.prog) 31 5 (.int .u8 0) 1 Try.underlying31 info5 rfl .i64 .i64 n (by omega) (by omega)
  go_wp2_with (go_at_call 9; refine (awake_any _).mono ?_; rintro e w0 ⟨rfl, hb0⟩)
  have hR0 : Hid ((w0.alloc (.cells (madeCells #[.int .u8 0] n) 5)).rowIs w0.heap.size 5 n (fun j => if j < 0 then .int .u8 (c.toNat : Int) else .int .u8 0)) := (World.rowIs_made w0 (.int .u8 0) n 5).congr (fun i _ => by simp)
  have hB0 : Hid (Below w.heap.size w (w0.alloc (.cells (madeCells #[.int .u8 0] n) 5)) ∧ w.heap.size ≤ w0.heap.size) := ⟨hb0.alloc hb0.size _, hb0.size⟩
  clear hmk hb0
  go_loopw [7] (fun i wr => ∃ k : Nat, k ≤ n ∧ i = .int .i64 k ∧ Hid (wr.rowIs w0.heap.size 5 n (fun j => if j < k then .int .u8 (c.toNat : Int) else .int .u8 0) ∧ Below w.heap.size w wr)) (fun i _ => n - (intOf i).toNat)
  case atStart => exact ⟨0, Nat.zero_le _, rfl, hR0.out, hB0.out.1⟩
  case round =>
    have hZ : Hid (w.heap.size ≤ w0.heap.size) := hB0.out.2
    clear hR0 hB0
    obtain ⟨k, hk, rfl, hr⟩ := hrel
    by_cases hlt : k < n
    · have hlt' : (k : Int) < n := by omega
      have hck : wr.cell? ⟨w0.heap.size, k, none⟩ = some (.int .u8 0) := by have := hr.out.1.cell hlt; simpa using this
      have hfk := hr.out.1.frozen k
      go_wp2
      go_roundw
      case rel =>
        refine ⟨k + 1, by omega, by go_num, (hr.out.1.set k (.int .u8 (c.toNat : Int))).congr ?_, hr.out.2.setCell hZ.out _⟩
        intro i hi
        by_cases h1 : i = k
        · subst h1; simp
        · by_cases h2 : i < k
          · simp [h1, h2, Nat.lt_succ_of_lt h2]
          · have h3 : ¬ i < k + 1 := by omega
            simp [h1, h2, h3]
      case measure => simp [intOf]; omega
    · have hkn : k = n := by omega
      subst hkn
      have hc0 : wr.cell? ⟨w0.heap.size, 0, none⟩ = some (.int .u8 (c.toNat : Int)) := by have := hr.out.1.cell hn0; simpa [hn0] using this
      have hf0 := hr.out.1.frozen 0
      have hrow : (wr.setCell ⟨w0.heap.size, 0, none⟩ (.int .u8 97)).rowIs w0.heap.size 5 k (fun j => .int .u8 (if j = 0 then 97 else (c.toNat : Int))) := (hr.out.1.set 0 (.int .u8 97)).congr (by
        intro i hi
        by_cases h1 : i = 0
        · subst h1; simp
        · simp [h1, hi])
      have hcv1 := HCV.out (wr.setCell ⟨w0.heap.size, 0, none⟩ (.int .u8 97)) w0.heap.size (fun j hj => hrow.cell hj)
      have HB : Hid (Below w.heap.size w (wr.setCell ⟨w0.heap.size, 0, none⟩ (.int .u8 97))) := hr.out.2.setCell hZ.out _
      have hgz : w0.heap.size < (wr.setCell ⟨w0.heap.size, 0, none⟩ (.int .u8 97)).heap.size := hrow.lt
      have HQ : Hid (∀ (w1 : World) (o : Obj), Below (wr.setCell ⟨w0.heap.size, 0, none⟩ (.int .u8 97)).heap.size (wr.setCell ⟨w0.heap.size, 0, none⟩ (.int .u8 97)) w1 → ∀ j, j < k → (w1.alloc o).cell? ⟨w0.heap.size, j, none⟩ = some (.int .u8 (if j = 0 then 97 else (c.toNat : Int)))) := by
        intro w1 o hb j hj
        have hz := hb.size
        exact (past1 (show w0.heap.size < w1.heap.size by omega) o j).trans ((hb.cell (p := ⟨w0.heap.size, j, none⟩) hgz).trans (hrow.cell hj))
      clear hgz
      clear hrow hr hlt
      go_wp2_with (first | (go_at_call 10; refine (hC1 _).mono ?_; rintro e w1 ⟨v1, rfl, hl1, hb1⟩; have hcv2 := HCV.out _ _ (HQ.out w1 (.cells #[.int .i64 er, .int .i64 a] 26) hb1)) | (go_at_call 11; refine (hC2 _).mono ?_; rintro e w2 ⟨v2, rfl, hl2, hb2⟩; obtain ⟨q0, q1, q2⟩ := kept_flt hb2; have q3 := past1 q2; have hl3 := lies_below hl1 ((Below.refl _ _).alloc (Nat.le_refl _) _ |>.trans (hb2.mono (by simp)))) | (go_at_call 12; refine (same_below _ _ ts ts _ (lies_below hl3 ((Below.refl _ _).alloc (Nat.le_refl _) _)) (lies_below hl2 ((Below.refl _ _).alloc (Nat.le_refl _) _)) hL.out).mono ?_; rintro e w3 ⟨rfl, hb3⟩))
      go_ret
      refine ⟨ret_bool (by simp), ?_⟩
      have y0 := HB.out.size
      have y1 := hb1.size
      have y2 := hb2.size
      have y3 := hb3.size
      simp at y0 y1 y2 y3
      have b1 : Below w.heap.size w w1 := HB.out.trans (hb1.mono (by simp; omega))
      have b2 : Below w.heap.size w w2 := (b1.alloc (by omega) _).trans (hb2.mono (by simp; omega))
      exact (b2.alloc (by omega) _).trans (hb3.mono (by simp; omega))

set_option maxRecDepth 100000 in
set_option maxHeartbeats 2000000 in
theorem long_tt (m : Int) (c : UInt8) (h2 : (m.tmod 2 != 0) = true) (h3 : (m.tmod 3 == 0) = true) (w : World) : Calls Try.prog 5 #[.int .i64 m, .int .u8 (c.toNat : Int)] w fun e w' => e = .returned (.bool true) ∧ Below w.heap.size w w' := by
  have e26 := eql_flt
  go_enter Try.func5, Try.ntmps5
  generalize hN0 : (65535 : Int) = N0
  generalize hN1 : (65536 : Int) = N1
  generalize hN2 : (65537 : Int) = N2
  obtain ⟨n, hn, hn0, hnm⟩ : ∃ n : Nat, N2 = (n : Int) ∧ 0 < n ∧ n ≤ 65537 := ⟨65537, by rw [← hN2]; rfl, by omega, by omega⟩
  subst hn
  clear hN0 hN1 hN2
  have hlen : (longL n c).length = n := longL_len c hn0
  have hsz : (⟨(longL n c).toArray⟩ : ByteArray).data.toList.length = n := by simpa using hlen
  have hmx : (⟨(longL n c).toArray⟩ : ByteArray).size ≤ maxLen := by
    have : (⟨(longL n c).toArray⟩ : ByteArray).size = n := by rw [Lib.size_eq]; exact hsz
    unfold maxLen; omega
  obtain ⟨S, hS⟩ : ∃ S : ByteArray, (⟨(longL n c).toArray⟩ : ByteArray) = S := ⟨_, rfl⟩
  rw [hS] at hmx
  have hC1 := fun w => scan_lies S hmx w
  have hC2 := fun w => rscan_lies S hmx w
  have hL : Hid ((toksOf S.data.toList).length ≤ 65537) := toks_len _
  generalize toksOf S.data.toList = ts at hC1 hC2 hL
  generalize errOf S.data.toList = er at hC1 hC2
  generalize atOf S.data.toList = a at hC1 hC2
  have HCV : Hid (∀ (W : World) (g : Nat), (∀ j, j < n → W.cell? ⟨g, j, none⟩ = some (.int .u8 (if j = 0 then 97 else (c.toNat : Int)))) → (convert 31 9 (.slice (some ⟨g, 0, none⟩) n n)).run Try.prog W = .ok (.string S) W) := by
    intro W g h
    rw [← hS]; exact conv_long hn0 h
  clear hlen hsz hmx hS
  have hmk := run_make_row' (P := Try.prog) 31 5 (.int .u8 0) 1 Try.underlying31 info5 rfl .i64 .i64 n (by omega) (by omega)
  go_wp2_with (go_at_call 9; refine (awake_any _).mono ?_; rintro e w0 ⟨rfl, hb0⟩)
  have hR0 : Hid ((w0.alloc (.cells (madeCells #[.int .u8 0] n) 5)).rowIs w0.heap.size 5 n (fun j => if j < 0 then .int .u8 (c.toNat : Int) else .int .u8 0)) := (World.rowIs_made w0 (.int .u8 0) n 5).congr (fun i _ => by simp)
  have hB0 : Hid (Below w.heap.size w (w0.alloc (.cells (madeCells #[.int .u8 0] n) 5)) ∧ w.heap.size ≤ w0.heap.size) := ⟨hb0.alloc hb0.size _, hb0.size⟩
  clear hmk hb0
  go_loopw [7] (fun i wr => ∃ k : Nat, k ≤ n ∧ i = .int .i64 k ∧ Hid (wr.rowIs w0.heap.size 5 n (fun j => if j < k then .int .u8 (c.toNat : Int) else .int .u8 0) ∧ Below w.heap.size w wr)) (fun i _ => n - (intOf i).toNat)
  case atStart => exact ⟨0, Nat.zero_le _, rfl, hR0.out, hB0.out.1⟩
  case round =>
    have hZ : Hid (w.heap.size ≤ w0.heap.size) := hB0.out.2
    clear hR0 hB0
    obtain ⟨k, hk, rfl, hr⟩ := hrel
    by_cases hlt : k < n
    · have hlt' : (k : Int) < n := by omega
      have hck : wr.cell? ⟨w0.heap.size, k, none⟩ = some (.int .u8 0) := by have := hr.out.1.cell hlt; simpa using this
      have hfk := hr.out.1.frozen k
      go_wp2
      go_roundw
      case rel =>
        refine ⟨k + 1, by omega, by go_num, (hr.out.1.set k (.int .u8 (c.toNat : Int))).congr ?_, hr.out.2.setCell hZ.out _⟩
        intro i hi
        by_cases h1 : i = k
        · subst h1; simp
        · by_cases h2 : i < k
          · simp [h1, h2, Nat.lt_succ_of_lt h2]
          · have h3 : ¬ i < k + 1 := by omega
            simp [h1, h2, h3]
      case measure => simp [intOf]; omega
    · have hkn : k = n := by omega
      subst hkn
      have hc0 : wr.cell? ⟨w0.heap.size, 0, none⟩ = some (.int .u8 (c.toNat : Int)) := by have := hr.out.1.cell hn0; simpa [hn0] using this
      have hf0 := hr.out.1.frozen 0
      have hrow : (wr.setCell ⟨w0.heap.size, 0, none⟩ (.int .u8 97)).rowIs w0.heap.size 5 k (fun j => .int .u8 (if j = 0 then 97 else (c.toNat : Int))) := (hr.out.1.set 0 (.int .u8 97)).congr (by
        intro i hi
        by_cases h1 : i = 0
        · subst h1; simp
        · simp [h1, hi])
      have hcv1 := HCV.out (wr.setCell ⟨w0.heap.size, 0, none⟩ (.int .u8 97)) w0.heap.size (fun j hj => hrow.cell hj)
      have HB : Hid (Below w.heap.size w (wr.setCell ⟨w0.heap.size, 0, none⟩ (.int .u8 97))) := hr.out.2.setCell hZ.out _
      have hgz : w0.heap.size < (wr.setCell ⟨w0.heap.size, 0, none⟩ (.int .u8 97)).heap.size := hrow.lt
      have HQ : Hid (∀ (w1 : World) (o : Obj), Below (wr.setCell ⟨w0.heap.size, 0, none⟩ (.int .u8 97)).heap.size (wr.setCell ⟨w0.heap.size, 0, none⟩ (.int .u8 97)) w1 → ∀ j, j < k → (w1.alloc o).cell? ⟨w0.heap.size, j, none⟩ = some (.int .u8 (if j = 0 then 97 else (c.toNat : Int)))) := by
        intro w1 o hb j hj
        have hz := hb.size
        exact (past1 (show w0.heap.size < w1.heap.size by omega) o j).trans ((hb.cell (p := ⟨w0.heap.size, j, none⟩) hgz).trans (hrow.cell hj))
      clear hgz
      clear hrow hr hlt
      go_wp2_with (first | (go_at_call 10; refine (hC1 _).mono ?_; rintro e w1 ⟨v1, rfl, hl1, hb1⟩; have hcv2 := HCV.out _ _ (HQ.out w1 (.cells #[.int .i64 er, .int .i64 a] 26) hb1)) | (go_at_call 11; refine (hC2 _).mono ?_; rintro e w2 ⟨v2, rfl, hl2, hb2⟩; obtain ⟨q0, q1, q2⟩ := kept_flt hb2; have q3 := past1 q2; have hl3 := lies_below hl1 ((Below.refl _ _).alloc (Nat.le_refl _) _ |>.trans (hb2.mono (by simp)))) | (go_at_call 12; refine (same_below _ _ ts ts _ (lies_below hl3 ((Below.refl _ _).alloc (Nat.le_refl _) _)) (lies_below hl2 ((Below.refl _ _).alloc (Nat.le_refl _) _)) hL.out).mono ?_; rintro e w3 ⟨rfl, hb3⟩))
      go_ret
      refine ⟨ret_bool (by simp), ?_⟩
      have y0 := HB.out.size
      have y1 := hb1.size
      have y2 := hb2.size
      have y3 := hb3.size
      simp at y0 y1 y2 y3
      have b1 : Below w.heap.size w w1 := HB.out.trans (hb1.mono (by simp; omega))
      have b2 : Below w.heap.size w w2 := (b1.alloc (by omega) _).trans (hb2.mono (by simp; omega))
      exact (b2.alloc (by omega) _).trans (hb3.mono (by simp; omega))

theorem long_walk (m a1 : Int) (w1 : (Lit.int .u8 a1).wf = true) (w : World) : Calls Try.prog 5 #[.int .i64 m, .int .u8 a1] w fun e w' => e = .returned (.bool true) ∧ Below w.heap.size w w' := by
  have hr : 0 ≤ a1 ∧ a1 < 256 := by
    simp [Lit.wf] at w1
    have h1 : IntKind.u8.min = 0 := by decide
    have h2 : IntKind.u8.max = 255 := by decide
    omega
  obtain ⟨c, rfl⟩ : ∃ c : UInt8, a1 = (c.toNat : Int) := ⟨UInt8.ofNat a1.toNat, by
    rw [UInt8.toNat_ofNat']; omega⟩
  cases h2 : (m.tmod 2 != 0) <;> cases h3 : (m.tmod 3 == 0)
  · exact long_ff m c h2 h3 w
  · exact long_ft m c h2 h3 w
  · exact long_tf m c h2 h3 w
  · exact long_tt m c h2 h3 w
end Go.Proofs.Ytcinlpiidgbnaaa
