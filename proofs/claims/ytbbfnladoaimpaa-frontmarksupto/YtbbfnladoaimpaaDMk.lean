/- Marks, and the last one on the way up, as the laws find them. -/
import Derived.Test.YtbbfnladoaimpaaDLawM1
import Derived.Test.YtbbfnladoaimpaaDPk
namespace Go.Proofs.Ytbbfnladoaimpaa
open Go.RowKit

def b2i (b : Bool) : Int := if b then 1 else 0
abbrev OwnZ (w : World) (base b n : Nat) (l : List Bool) : Prop := w.ownsRow base 3 1 (.slice (some ⟨b, 0, none⟩) n n) n (l.map fun x => intV (b2i x))
theorem OwnZ.len {w : World} {base b n : Nat} {l : List Bool} (h : OwnZ w base b n l) : l.length = n := by have := h.1; simpa using this
theorem OwnZ.at' {w : World} {base b n : Nat} {l : List Bool} (h : OwnZ w base b n l) {k : Nat} (hk : k < n) (d : Bool) : w.cell? ⟨b, k, none⟩ = some (.int .i64 (b2i (l.getD k d))) := by
  rw [h.cellAt k (by omega), List.getElem?_map, List.getElem?_eq_getElem (by rw [h.len]; exact hk), getD_of (by rw [h.len]; exact hk)]
  rfl
theorem OwnZ.lt' {w : World} {base b n : Nat} {l : List Bool} (h : OwnZ w base b n l) : base ≤ b ∧ b < w.heap.size := h.lt b rfl
theorem OwnZ.set' {w : World} {base b n : Nat} {l : List Bool} (h : OwnZ w base b n l) (k : Nat) : OwnZ (w.setCell ⟨b, k, none⟩ (.int .i64 1)) base b n (l.set k true) := by
  have := (World.ownsRow.stored h k (.int .i64 1)).1
  show World.ownsRow _ _ _ _ _ _ _
  rw [List.map_set]
  exact this
theorem made_ints (n : Nat) : (madeCells #[.int .i64 0] n).toList = (List.replicate n false).map fun x => intV (b2i x) := by
  rw [toList_madeCells_one]
  simp [b2i]
theorem OwnZ.made (w : World) (base n : Nat) (hb : base ≤ w.heap.size) (hn : n ≤ 1000000) : OwnZ (w.alloc (.cells (madeCells #[.int .i64 0] n) 3)) base w.heap.size n (List.replicate n false) := by
  have r1 := World.ownsRow_lit (base := base) (e := 3) (size := 1) w (madeCells #[.int .i64 0] n) n hb (by unfold maxLen; omega) (by simp [size_madeCells])
  rw [made_ints] at r1
  exact r1
theorem OwnZ.ints {w : World} {base b n : Nat} {l : List Bool} (h : OwnZ w base b n l) (hn : n ≤ 140737488355328) : IntsAt w (.slice (some ⟨b, 0, none⟩) n n) (l.map b2i) := by
  have e : (l.map b2i).length = n := by simp [h.len]
  have h2 : OwnI w base (.slice (some ⟨b, 0, none⟩) n n) (l.map b2i) := by
    show World.ownsRow _ _ _ _ _ _ _
    rw [e, List.map_map]
    exact h
  exact OwnI.at' h2 (by omega)
/-- The entry, and k of a list, are marked, and no other one. -/
def MarkTo (n : Nat) (m : List Bool) (p : Nat → Prop) : Prop := m.length = n ∧ ∀ i, i < n → (m.getD i false = true ↔ p i)
theorem MarkTo.set' {n : Nat} {m : List Bool} {p q : Nat → Prop} {t : Nat} (h : MarkTo n m p) (ht : t < n) (hq : ∀ i, q i ↔ p i ∨ i = t) : MarkTo n (m.set t true) q := by
  refine ⟨by simp [h.1], fun i hi => ?_⟩
  rw [getD_setB (by rw [h.1]; exact ht), hq]
  by_cases e : t = i
  · rw [if_pos e]; exact ⟨fun _ => .inr e.symm, fun _ => rfl⟩
  · rw [if_neg e, h.2 i hi]
    exact ⟨.inl, fun hh => hh.elim id fun e2 => absurd e2.symm e⟩
theorem MarkTo.same {n : Nat} {m : List Bool} {p q : Nat → Prop} (h : MarkTo n m p) (hq : ∀ i, i < n → (q i ↔ p i)) : MarkTo n m q := ⟨h.1, fun i hi => (h.2 i hi).trans (hq i hi).symm⟩
theorem take_mem {l : List Int} {k : Nat} (hk : k < l.length) (x : Int) : x ∈ l.take (k + 1) ↔ x ∈ l.take k ∨ x = l.getD k 0 := by
  rw [List.take_add_one, List.getElem?_eq_getElem hk, List.mem_append, getD_of hk]
  simp
set_option maxRecDepth 100000 in
set_option maxHeartbeats 2000000 in
theorem marks_any (n : Nat) (s j : List Int) (sv jv : Value) (w : World) (hs : IntsAt w sv s) (hj : IntsAt w jv j) (hn : 1 ≤ n) (hn2 : n ≤ 100000) (hS : AllIn n s) :
    Calls Try.prog 19 #[.int .i64 (n : Int), sv, jv] w fun e w' => ∃ m, e = .returned (.slice (some ⟨w.heap.size, 0, none⟩) n n) ∧ OwnZ w' w.heap.size w.heap.size n m ∧ MarkTo n m (fun i => i = 0 ∨ (i : Int) ∈ s ∨ (i : Int) ∈ j) ∧ Below w.heap.size w w' := by
  obtain ⟨sa, sc, rfl, hsl⟩ := hs.form
  obtain ⟨ja, jc, rfl, hjl⟩ := hj.form
  have HSI : Hid (∀ i, i < s.length → _) := fun i hi => hs.get (i := i) hi
  have HJI : Hid (∀ i, i < j.length → _) := fun i hi => hj.get (i := i) hi
  have HSA : Hid (∀ i, i < s.length → _) := fun i hi => hS.get (k := i) hi
  have HST : Hid (∀ k, k < s.length → ∀ x : Int, x ∈ s.take (k + 1) ↔ x ∈ s.take k ∨ x = s.getD k 0) := fun k hk x => take_mem hk x
  have HJT : Hid (∀ k, k < j.length → ∀ x : Int, x ∈ j.take (k + 1) ↔ x ∈ j.take k ∨ x = j.getD k 0) := fun k hk x => take_mem hk x
  have HSE : Hid (s.take s.length = s) := by show _ = _; rw [List.take_length]
  have HJE : Hid (j.take j.length = j) := by show _ = _; rw [List.take_length]
  obtain ⟨sl, hsl2⟩ : ∃ sl, sl = s.length := ⟨_, rfl⟩
  obtain ⟨jl, hjl2⟩ : ∃ jl, jl = j.length := ⟨_, rfl⟩
  rw [← hsl2] at HSI HSA HST HSE hsl
  rw [← hjl2] at HJI HJT HJE hjl
  rw [← hsl2, ← hjl2]
  clear hs hj hS hsl2 hjl2
  have hmk := run_make_row' (P := Try.prog) 29 3 (.int .i64 0) 8 Try.underlying29 infoI rfl .i64 .i64 n (by omega) (by omega)
  have h0 : OwnZ (w.alloc (.cells (madeCells #[.int .i64 0] n) 3)) w.heap.size w.heap.size n (List.replicate n false) := OwnZ.made w w.heap.size n (Nat.le_refl _) (by omega)
  have k0 : (w.alloc (.cells (madeCells #[.int .i64 0] n) 3)).cell? ⟨w.heap.size, 0, none⟩ = some (.int .i64 (b2i ((List.replicate n false).getD 0 false))) := h0.at' (by omega) false
  have k1 : (w.alloc (.cells (madeCells #[.int .i64 0] n) 3)).frozen? ⟨w.heap.size, 0, none⟩ = false := h0.frozenAt 0
  have HZ0 : Hid _ := h0.set' 0
  rw [alloc_set0] at HZ0
  have HM0 : Hid (MarkTo n ((List.replicate n false).set 0 true) (fun i => i = 0)) := by
    refine MarkTo.set' (p := fun _ => False) ⟨by simp, fun i hi => ?_⟩ (by omega) (fun i => by simp)
    simp [List.getD, hi]
  have hn0' : (0 : Int) < n := by omega
  clear h0
  go_enter Try.func19, Try.ntmps19
  go_wp2
  clear k0 k1 hmk
  go_loopw [8] (fun vi wr => ∃ (i : Nat) (m : List Bool), vi = .int .i64 i ∧ i ≤ sl ∧ Hid (Below w.heap.size w wr ∧ OwnZ wr w.heap.size w.heap.size n m ∧ MarkTo n m (fun q => q = 0 ∨ (q : Int) ∈ s.take i))) (fun vi _ => sl - (intOf vi).toNat)
  case atStart => exact ⟨0, _, rfl, by omega, below_alloc (Below.refl _ _) _, HZ0.out, HM0.out.same (fun q _ => by simp)⟩
  case round =>
    obtain ⟨i, m, rfl, hi, hr⟩ := hrel
    clear HZ0 HM0
    by_cases hin : i < sl
    · have hin' : (i : Int) < sl := by omega
      obtain ⟨g, o, rfl, hg, c0⟩ := HSI.out i hin
      obtain ⟨hx0, hx1⟩ := HSA.out i hin
      obtain ⟨t, et⟩ : ∃ t : Nat, s.getD i 0 = (t : Int) := Int.eq_ofNat_of_zero_le hx0
      have HT : Hid (∀ x : Int, x ∈ s.take (i + 1) ↔ x ∈ s.take i ∨ x = (t : Int)) := fun x => by rw [← et]; exact HST.out i hin x
      have c0' : wr.cell? ⟨g, o + i, none⟩ = some (.int .i64 (t : Int)) := by rw [← et]; exact (hr.out.1.cell (p := ⟨g, o + i, none⟩) hg).trans c0
      have htn : t < n := by rw [et] at hx1; omega
      have htn' : (t : Int) < n := by omega
      have cm := hr.out.2.1.at' htn false
      have fm : wr.frozen? ⟨w.heap.size, t, none⟩ = false := hr.out.2.1.frozenAt t
      have HQ : Hid (∀ q : Nat, (q = 0 ∨ (q : Int) ∈ s.take (i + 1)) ↔ (q = 0 ∨ (q : Int) ∈ s.take i) ∨ q = t) := fun q => by
        rw [HT.out]
        constructor
        · rintro (h | h | h)
          · exact .inl (.inl h)
          · exact .inl (.inr h)
          · exact .inr (by omega)
        · rintro ((h | h) | h)
          · exact .inl h
          · exact .inr (.inl h)
          · exact .inr (.inr (by omega))
      generalize b2i (m.getD t false) = z9 at *
      clear HSI HJI HSA HST HJT c0 et hx0 hx1
      go_wp2
      go_roundw
      case rel => exact ⟨i + 1, m.set t true, by first | rfl | (congr 1; omega), by omega, below_set hr.out.1 (Nat.le_refl _) _ _, hr.out.2.1.set' t, hr.out.2.2.set' htn HQ.out⟩
      case measure => simp [intOf]; omega
    · obtain rfl : i = sl := by omega
      have HM1 : Hid (MarkTo n m (fun q => q = 0 ∨ (q : Int) ∈ s)) := by have h9 := hr.out.2.2; rw [HSE.out] at h9; exact h9
      have HR1 : Hid (Below w.heap.size w wr ∧ OwnZ wr w.heap.size w.heap.size n m) := ⟨hr.out.1, hr.out.2.1⟩
      clear HSI HSA HST hr
      generalize wr = wo at *
      go_wp2
      go_loopw [9] (fun vi wr => ∃ (i : Nat) (m : List Bool), vi = .int .i64 i ∧ i ≤ jl ∧ Hid (Below w.heap.size w wr ∧ OwnZ wr w.heap.size w.heap.size n m ∧ MarkTo n m (fun q => q = 0 ∨ (q : Int) ∈ s ∨ (q : Int) ∈ j.take i))) (fun vi _ => jl - (intOf vi).toNat)
      case atStart => exact ⟨0, m, rfl, by omega, HR1.out.1, HR1.out.2, HM1.out.same (fun q _ => by simp)⟩
      case round =>
        obtain ⟨k, m2, rfl, hk, hq⟩ := hrel
        clear HR1 HM1
        by_cases hkn : k < jl
        · have hkn' : (k : Int) < jl := by omega
          obtain ⟨g, o, rfl, hg, c0⟩ := HJI.out k hkn
          have c0' : wr.cell? ⟨g, o + k, none⟩ = some (.int .i64 (j.getD k 0)) := (hq.out.1.cell (p := ⟨g, o + k, none⟩) hg).trans c0
          have HT : Hid _ := HJT.out k hkn
          clear HJI HJT c0
          generalize j.getD k 0 = y at *
          by_cases hy : 0 ≤ y
          · by_cases hyn : y < (n : Int)
            · obtain ⟨t, et⟩ : ∃ t : Nat, y = (t : Int) := Int.eq_ofNat_of_zero_le hy
              subst et
              have htn : t < n := by omega
              have cm := hq.out.2.1.at' htn false
              have fm : wr.frozen? ⟨w.heap.size, t, none⟩ = false := hq.out.2.1.frozenAt t
              have HQ : Hid (∀ q : Nat, (q = 0 ∨ (q : Int) ∈ s ∨ (q : Int) ∈ j.take (k + 1)) ↔ (q = 0 ∨ (q : Int) ∈ s ∨ (q : Int) ∈ j.take k) ∨ q = t) := fun q => by
                rw [HT.out]
                constructor
                · rintro (h | h | h | h)
                  · exact .inl (.inl h)
                  · exact .inl (.inr (.inl h))
                  · exact .inl (.inr (.inr h))
                  · exact .inr (by omega)
                · rintro ((h | h | h) | h)
                  · exact .inl h
                  · exact .inr (.inl h)
                  · exact .inr (.inr (.inl h))
                  · exact .inr (.inr (.inr (by omega)))
              generalize b2i (m2.getD t false) = z9 at *
              go_wp2
              go_roundw
              case rel => exact ⟨k + 1, m2.set t true, by first | rfl | (congr 1; omega), by omega, below_set hq.out.1 (Nat.le_refl _) _ _, hq.out.2.1.set' t, hq.out.2.2.set' htn HQ.out⟩
              case measure => simp [intOf]; omega
            · have HQ : Hid (∀ q : Nat, q < n → ((q = 0 ∨ (q : Int) ∈ s ∨ (q : Int) ∈ j.take (k + 1)) ↔ (q = 0 ∨ (q : Int) ∈ s ∨ (q : Int) ∈ j.take k))) := fun q hqn => by
                rw [HT.out]
                constructor
                · rintro (h | h | h | h)
                  · exact .inl h
                  · exact .inr (.inl h)
                  · exact .inr (.inr h)
                  · omega
                · rintro (h | h | h)
                  · exact .inl h
                  · exact .inr (.inl h)
                  · exact .inr (.inr (.inl h))
              go_wp2
              go_roundw
              case rel => exact ⟨k + 1, m2, by first | rfl | (congr 1; omega), by omega, hq.out.1, hq.out.2.1, hq.out.2.2.same HQ.out⟩
              case measure => simp [intOf]; omega
          · have HQ : Hid (∀ q : Nat, q < n → ((q = 0 ∨ (q : Int) ∈ s ∨ (q : Int) ∈ j.take (k + 1)) ↔ (q = 0 ∨ (q : Int) ∈ s ∨ (q : Int) ∈ j.take k))) := fun q hqn => by
              rw [HT.out]
              constructor
              · rintro (h | h | h | h)
                · exact .inl h
                · exact .inr (.inl h)
                · exact .inr (.inr h)
                · omega
              · rintro (h | h | h)
                · exact .inl h
                · exact .inr (.inl h)
                · exact .inr (.inr (.inl h))
            go_wp2
            go_roundw
            case rel => exact ⟨k + 1, m2, by first | rfl | (congr 1; omega), by omega, hq.out.1, hq.out.2.1, hq.out.2.2.same HQ.out⟩
            case measure => simp [intOf]; omega
        · obtain rfl : k = jl := by omega
          have HM2 : Hid (MarkTo n m2 (fun q => q = 0 ∨ (q : Int) ∈ s ∨ (q : Int) ∈ j)) := by have h9 := hq.out.2.2; rw [HJE.out] at h9; exact h9
          clear HJI HJT
          go_wp2
          go_ret
          exact ⟨m2, rfl, hq.out.2.1, HM2.out, hq.out.1⟩
theorem upF_out {t mk : List Int} {f : Nat} {i : Int} (h : ¬ (0 ≤ i ∧ i < (t.length : Int))) : upF t mk f i = -1 := by
  cases f with
  | zero => rfl
  | succ f => rw [upF, if_neg h]
theorem upF_here {t mk : List Int} {f : Nat} {i : Nat} (h : i < t.length) (hm : mk.getD i 0 ≠ 0) : upF t mk (f + 1) (i : Int) = (i : Int) := by
  rw [upF, if_pos ⟨by omega, by omega⟩, Int.toNat_natCast, if_pos hm]
theorem upF_up {t mk : List Int} {f : Nat} {i : Nat} (h : i < t.length) (hm : mk.getD i 0 = 0) : upF t mk (f + 1) (i : Int) = upF t mk f (t.getD i 0) := by
  rw [upF, if_pos ⟨by omega, by omega⟩, Int.toNat_natCast, if_neg (fun h => h hm)]
set_option maxRecDepth 100000 in
set_option maxHeartbeats 1000000 in
theorem nearestM_any (t mk : List Int) (i0 : Nat) (tv mv : Value) (w : World) (ht : IntsAt w tv t) (hm : IntsAt w mv mk) (hl : mk.length = t.length) :
    Calls Try.prog 21 #[tv, mv, .int .i64 (i0 : Int)] w fun e w' => e = .returned (.int .i64 (upF t mk (t.length + 1) (i0 : Int))) ∧ w' = w := by
  obtain ⟨ta, tc, rfl, htl⟩ := ht.form
  obtain ⟨ma, mc, rfl, _⟩ := hm.form
  have HTI : Hid (∀ i, i < t.length → _) := fun i hi => ht.get (i := i) hi
  have HMI : Hid (∀ i, i < mk.length → _) := fun i hi => hm.get (i := i) hi
  have HO : Hid (∀ (f : Nat) (i : Int), ¬ (0 ≤ i ∧ i < (t.length : Int)) → upF t mk f i = -1) := fun f i h => upF_out h
  have HH : Hid (∀ (f i : Nat), i < t.length → mk.getD i 0 ≠ 0 → upF t mk (f + 1) (i : Int) = (i : Int)) := fun f i h h2 => upF_here h h2
  have HU : Hid (∀ (f i : Nat), i < t.length → mk.getD i 0 = 0 → upF t mk (f + 1) (i : Int) = upF t mk f (t.getD i 0)) := fun f i h h2 => upF_up h h2
  have HZ : Hid (∀ i : Int, upF t mk 0 i = -1) := fun i => rfl
  rw [hl] at HMI
  rw [hl]
  obtain ⟨n, hn⟩ : ∃ n, n = t.length := ⟨_, rfl⟩
  rw [← hn] at HTI HMI HO HH HU htl
  rw [← hn]
  clear ht hm hl hn
  obtain ⟨R, hR⟩ : ∃ R, R = upF t mk (n + 1) (i0 : Int) := ⟨_, rfl⟩
  rw [← hR]
  have HR : Hid (upF t mk (n + 1 - 0) (i0 : Int) = R) := hR.symm
  clear hR
  go_enter Try.func21, Try.ntmps21
  go_wp2
  go_loopw [2, 7] (fun vi vk wr => ∃ (k : Nat) (i : Int), vk = .int .i64 k ∧ k ≤ n + 1 ∧ vi = .int .i64 i ∧ Hid (upF t mk (n + 1 - k) i = R ∧ wr = w)) (fun _ vk _ => n + 1 - (intOf vk).toNat)
  case atStart => exact ⟨0, (i0 : Int), rfl, by omega, rfl, HR.out, rfl⟩
  case round =>
    obtain ⟨k, i, rfl, hk, rfl, hr⟩ := hrel
    have hw := hr.out.2
    subst hw
    have HRR : Hid _ := hr.out.1
    clear HR hr
    by_cases hkn : k ≤ n
    · have hkn' : (k : Int) ≤ n := by omega
      by_cases hi0 : 0 ≤ i
      · by_cases hin : i < (n : Int)
        · obtain ⟨j, ej⟩ : ∃ j : Nat, i = (j : Int) := Int.eq_ofNat_of_zero_le hi0
          subst ej
          have hjn : j < n := by omega
          rw [show n + 1 - k = (n - k) + 1 by omega] at HRR
          obtain ⟨gm, om, rfl, hgm, cm⟩ := HMI.out j hjn
          obtain ⟨gt, ot, rfl, hgt, ct⟩ := HTI.out j hjn
          by_cases hz : mk.getD j 0 = 0
          · have HX : Hid (upF t mk (n - k) (t.getD j 0) = R) := by show _ = R; rw [← HRR.out, HU.out _ j hjn hz]
            rw [hz] at cm
            clear HTI HMI HO HH HU HZ HRR hz
            generalize t.getD j 0 = y at *
            go_wp2
            go_roundw
            case rel => exact ⟨k + 1, y, by first | rfl | (congr 1; omega), by omega, rfl, by rw [show n + 1 - (k + 1) = n - k by omega]; exact HX.out, by first | rfl | trivial⟩
            case measure => simp [intOf]; omega
          · have HX : Hid ((j : Int) = R) := by show _ = R; rw [← HRR.out, HH.out _ j hjn hz]
            have hz' : (mk.getD j 0 != 0) = true := bne_iff_ne.2 hz
            clear HTI HMI HO HH HU HZ HRR
            generalize mk.getD j 0 = y at *
            go_wp2
            go_ret
            exact ⟨ret_int HX.out, rfl⟩
        · have HX : Hid (-1 = R) := by show _ = R; rw [← HRR.out, HO.out _ _ (by omega)]
          clear HTI HMI HO HH HU HZ HRR
          go_wp2
          go_ret
          exact ⟨ret_int HX.out, rfl⟩
      · have HX : Hid (-1 = R) := by show _ = R; rw [← HRR.out, HO.out _ _ (by omega)]
        clear HTI HMI HO HH HU HZ HRR
        go_wp2
        go_ret
        exact ⟨ret_int HX.out, rfl⟩
    · obtain rfl : k = n + 1 := by omega
      have hkn' : ¬ ((n + 1 : Nat) : Int) ≤ n := by omega
      have HX : Hid (-1 = R) := by show _ = R; rw [← HRR.out, Nat.sub_self, HZ.out]
      clear HTI HMI HO HH HU HZ HRR
      go_wp2
      go_ret
      exact ⟨ret_int HX.out, rfl⟩
end Go.Proofs.Ytbbfnladoaimpaa
