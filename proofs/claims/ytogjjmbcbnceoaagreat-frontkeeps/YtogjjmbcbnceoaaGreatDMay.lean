/- Whether a net may be, as the document asks it. -/
import Derived.Test.YtogjjmbcbnceoaaGreatDMem
namespace Go.Proofs.YtogjjmbcbnceoaaGreat
open Go.RowKit

/-- The rows ahead of i, and k numbers of the row i, name nodes. -/
def MayTo (nx : List (List Int)) (i : Nat) : Prop := ∀ q, q < i → ∀ x ∈ nx.getD q [], 0 ≤ x ∧ x < (nx.length : Int)
def RowTo (n : Nat) (r : List Int) (k : Nat) : Prop := ∀ q, q < k → 0 ≤ r.getD q 0 ∧ r.getD q 0 < (n : Int)
theorem MayTo.next {nx : List (List Int)} {i : Nat} (h : MayTo nx i) (hr : RowTo nx.length (nx.getD i []) (nx.getD i []).length) : MayTo nx (i + 1) := by
  intro q hq x hx
  rcases Nat.lt_or_ge q i with h1 | h1
  · exact h q h1 x hx
  · have : q = i := by omega
    subst this
    obtain ⟨j, hj, rfl⟩ := List.mem_iff_getElem.1 hx
    have := hr j hj
    rwa [getD_of hj] at this
theorem MayTo.all {nx : List (List Int)} (h : MayTo nx nx.length) (h0 : 0 < nx.length) : May nx := by
  refine ⟨h0, fun r hr x hx => ?_⟩
  obtain ⟨j, hj, rfl⟩ := List.mem_iff_getElem.1 hr
  exact h j hj x (by rw [getD_of hj]; exact hx)
theorem May.row {nx : List (List Int)} (h : May nx) {i k : Nat} (hi : i < nx.length) (hk : k < (nx.getD i []).length) : 0 ≤ (nx.getD i []).getD k 0 ∧ (nx.getD i []).getD k 0 < (nx.length : Int) := by
  refine h.2 (nx.getD i []) ?_ _ ?_
  · rw [getD_of hi]
    exact List.getElem_mem hi
  · exact getD_mem hk
set_option maxRecDepth 100000 in
set_option maxHeartbeats 1000000 in
theorem rmay_any (nx : List (List Int)) (v : Value) (w : World) (h : NetAt w v nx) : Calls Tryz.prog 35 #[v] w fun e w' => e = .returned (.bool (dec (May nx))) ∧ Below w.heap.size w w' := by
  obtain ⟨a, c, rfl, hll⟩ := h.form
  have HI : Hid (∀ i, i < nx.length → _) := fun i hi => h.get (i := i) hi
  have HN : Hid (∀ i k, i < nx.length → k < (nx.getD i []).length → ¬ (0 ≤ (nx.getD i []).getD k 0 ∧ (nx.getD i []).getD k 0 < (nx.length : Int)) → dec (May nx) = false) := fun i k hi hk hn => dec_false fun hm => hn (hm.row hi hk)
  have HT : Hid (MayTo nx nx.length → 0 < nx.length → dec (May nx) = true) := fun h h0 => dec_true (h.all h0)
  have H0 : Hid (nx.length = 0 → dec (May nx) = false) := fun h0 => dec_false fun hm => by have := hm.1; omega
  have HS : Hid (∀ i, MayTo nx i → RowTo nx.length (nx.getD i []) (nx.getD i []).length → MayTo nx (i + 1)) := fun i h1 h2 => h1.next h2
  obtain ⟨R, hR⟩ : ∃ R, R = dec (May nx) := ⟨_, rfl⟩
  rw [← hR] at HN HT H0
  rw [← hR]
  clear hR h
  obtain ⟨n, hn⟩ : ∃ n, n = nx.length := ⟨_, rfl⟩
  rw [← hn] at HI HN HT H0 HS hll
  rw [← hn]
  clear hn
  go_enter Tryz.func35, Tryz.ntmps35
  go_wp2
  go_loopw [3] (fun vi wr => ∃ i : Nat, vi = .int .i64 i ∧ i ≤ n ∧ Hid (MayTo nx i ∧ Below w.heap.size w wr)) (fun vi _ => n - (intOf vi).toNat)
  case atStart => exact ⟨0, rfl, by omega, fun q hq => by omega, Below.refl _ _⟩
  case round =>
    obtain ⟨i, rfl, hi, hr⟩ := hrel
    generalize wr = wo at *
    by_cases hin : i < n
    · obtain ⟨g, o, ra, rc, rfl, hg, c0, hI⟩ := HI.out i hin
      have hin' : (i : Int) < n := by omega
      obtain ⟨_, _, _, hml⟩ := hI.form
      have HS' : Hid _ := HS.out i hr.out.1
      have HN' : Hid (∀ k, k < (nx.getD i []).length → _) := fun k hk => HN.out i k hin hk
      have HR : Hid (∀ k, k < (nx.getD i []).length → _) := fun k hk => hI.get (i := k) hk
      clear HI HT H0 HS HN hI
      generalize nx.getD i [] = r at *
      obtain ⟨m, hm⟩ : ∃ m, m = r.length := ⟨_, rfl⟩
      rw [← hm] at HR HS' HN' c0 hml
      clear hm
      go_wp2
      go_loopw [4] (fun vk wq => ∃ k : Nat, vk = .int .i64 k ∧ k ≤ m ∧ Hid (RowTo n r k ∧ Below w.heap.size w wq)) (fun vk _ => m - (intOf vk).toNat)
      case atStart => exact ⟨0, rfl, by omega, fun q hq => by omega, hr.out.2⟩
      case round =>
        obtain ⟨k, rfl, hk, hq⟩ := hrel
        have c0' : wr.cell? ⟨g, o + i, none⟩ = some (.slice ra m rc) := (hq.out.2.cell (p := ⟨g, o + i, none⟩) hg).trans c0
        by_cases hkm : k < m
        · obtain ⟨gr, or, rfl, hgr, cr⟩ := HR.out k hkm
          have hkm' : (k : Int) < m := by omega
          have cr' : wr.cell? ⟨gr, or + k, none⟩ = some (.int .i64 (r.getD k 0)) := (hq.out.2.cell (p := ⟨gr, or + k, none⟩) hgr).trans cr
          have HX : Hid _ := HN'.out k hkm
          have HY : Hid (0 ≤ r.getD k 0 → r.getD k 0 < (n : Int) → RowTo n r (k + 1)) := fun h1 h2 q hq2 => by
            rcases Nat.lt_or_ge q k with h3 | h3
            · exact hq.out.1 q h3
            · have : q = k := by omega
              subst this; exact ⟨h1, h2⟩
          clear HR HN' HS' c0 cr
          generalize r.getD k 0 = x at *
          by_cases hx0 : x < 0
          · have HF : Hid (R = false) := HX.out (by omega)
            clear HX HY
            go_wp2
            go_ret
            exact ⟨ret_bool HF.out.symm, by first | exact hq.out.2 | exact below_drewN hq.out.2 _⟩
          · have hx0' : ¬ (x : Int) < 0 := hx0
            by_cases hxn : x < (n : Int)
            · have HF : Hid _ := HY.out (by omega) hxn
              have hxn' : ¬ (n : Int) ≤ x := by omega
              clear HX HY
              go_wp2
              go_roundw
              case rel => exact ⟨k + 1, by first | rfl | (congr 1; omega), by omega, HF.out, by first | exact hq.out.2 | exact below_drewN hq.out.2 _⟩
              case measure => simp [intOf]; omega
            · have HF : Hid (R = false) := HX.out (by omega)
              have hxn' : (n : Int) ≤ x := by omega
              clear HX HY
              go_wp2
              go_ret
              exact ⟨ret_bool HF.out.symm, by first | exact hq.out.2 | exact below_drewN hq.out.2 _⟩
        · obtain rfl : k = m := by omega
          have HF : Hid _ := HS'.out hq.out.1
          clear HR HN' HS' c0
          go_wp2
          go_roundw
          case rel => exact ⟨i + 1, by first | rfl | (congr 1; omega), by omega, HF.out, by first | exact hq.out.2 | exact below_drewN hq.out.2 _⟩
          case measure => simp [intOf]; omega
    · obtain rfl : i = n := by omega
      by_cases h0 : i = 0
      · have HF : Hid (R = false) := H0.out h0
        have h0' : ¬ (0 : Int) < i := by omega
        clear HI HT H0 HS HN
        go_wp2
        go_ret
        exact ⟨ret_bool (by rw [HF.out]; try (first | (simp; done) | (simp; omega))), hr.out.2⟩
      · have HF : Hid (R = true) := HT.out hr.out.1 (by omega)
        have h0' : (0 : Int) < i := by omega
        clear HI HT H0 HS HN
        go_wp2
        go_ret
        exact ⟨ret_bool (by rw [HF.out]; try (first | (simp; done) | (simp; omega))), hr.out.2⟩
end Go.Proofs.YtogjjmbcbnceoaaGreat
