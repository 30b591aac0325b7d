/- Nets that come in, with how much they hold. -/
import Derived.Test.YtbbfnladoaimpaaDOpen
import Derived.Test.YtbbfnladoaimpaaRows
namespace Go.Proofs.Ytbbfnladoaimpaa
open Go.RowKit Go.ChangeShapes

theorem bulk_one {H : Type} (d : DataW H) : 1 ≤ Rows.uptoBulk d := by
  cases d with
  | lit l => cases l <;> simp [Rows.uptoBulk]
  | nil => simp [Rows.uptoBulk]
  | ptr d => simp [Rows.uptoBulk]
  | slice elems spare => simp [Rows.uptoBulk]
  | agg parts => simp [Rows.uptoBulk]
  | iface t d => simp [Rows.uptoBulk]
  | map entries => simp [Rows.uptoBulk]
  | held h => simp [Rows.uptoBulk]
theorem bulk_part {H : Type} {d : DataW H} : ∀ {l : List (DataW H)}, d ∈ l → Rows.uptoBulk d ≤ Rows.uptoBulkAll l
  | x :: r, h => by
    simp only [Rows.uptoBulkAll]
    rcases List.mem_cons.1 h with e | e
    · subst e; omega
    · have := bulk_part e; omega
theorem bulk_len {H : Type} : ∀ (l : List (DataW H)), l.length ≤ Rows.uptoBulkAll l
  | [] => by simp [Rows.uptoBulkAll]
  | x :: r => by have := bulk_one x; have := bulk_len r; simp only [Rows.uptoBulkAll, List.length_cons]; omega
theorem row_size {H : Type} {enc : TypeId × Value → H} {P : Program} {w : World} {spare : Nat → Bool} {held : Bool} {t e : TypeId} {sz fuel : Nat} {cs : List Value} {x : DataW H × List MemPlace} (ht : P.underlying t = some (.slice e)) (hc : P.cellsOf e = sz) (h : DataW.trod enc P w 0 spare held fuel t cs = some x) :
    ∃ (a : Option Addr) (len cap : Nat), cs = [.slice a len cap] ∧ len ≤ Rows.uptoBulk x.1 ∧ ∀ ad, a = some ad → ∃ m, ∀ i, i < len → ∃ c y, w.cells? 0 (ad.add (i * sz)) sz = some c ∧ DataW.trod enc P w 0 spare held m e c = some y ∧ Rows.uptoBulk y.1 ≤ Rows.uptoBulk x.1 := by
  rcases DataW.trod_slice ht h with ⟨rfl, _⟩ | ⟨a, len, cap, elems, rest, n, _, rfl, rfl, _, hl, hm, hlen, hel, _, _⟩
  · exact ⟨none, 0, 0, rfl, Nat.zero_le _, fun ad h => by cases h⟩
  · rw [hc] at hel
    have hB : Rows.uptoBulkAll (elems.map (·.1)) + 1 ≤ Rows.uptoBulk (DataW.slice (elems.map (·.1)) (rest.map (·.1))) := by simp only [Rows.uptoBulk]; omega
    refine ⟨some a, len, cap, rfl, ?_, fun ad had => ⟨n, fun i hi => ?_⟩⟩
    · have h9 := bulk_len (elems.map (·.1))
      rw [List.length_map] at h9
      show len ≤ Rows.uptoBulk (DataW.slice (elems.map (·.1)) (rest.map (·.1)))
      omega
    · cases had
      have h1 := hel i hi
      rw [List.getElem?_eq_getElem (by omega), Option.bind_eq_some_iff] at h1
      obtain ⟨c, h2, h3⟩ := h1
      refine ⟨c, _, h2, h3, ?_⟩
      have h9 := bulk_part (List.mem_map.2 ⟨_, List.getElem_mem (by omega : i < elems.length), rfl⟩ : (elems[i]'(by omega)).1 ∈ elems.map (·.1))
      show _ ≤ Rows.uptoBulk (DataW.slice (elems.map (·.1)) (rest.map (·.1)))
      omega
/-- A net's rows are no longer than what came in. -/
theorem net_size {H : Type} {enc : TypeId × Value → H} {w : World} {spare : Nat → Bool} {held : Bool} {m : Nat} {v : Value} {y : DataW H × List MemPlace} {nx : List (List Int)} (h : DataW.trod enc Try.prog w 0 spare held m 22 [v] = some y) (hN : NetAt w v nx) : nx.length ≤ Rows.uptoBulk y.1 ∧ ∀ r ∈ nx, r.length ≤ Rows.uptoBulk y.1 := by
  obtain ⟨a, len, cap, e1, hlen, hk⟩ := row_size slR (show Try.prog.cellsOf 29 = 1 by kernel_rfl) h
  cases e1
  obtain ⟨a', c', e2, _⟩ := hN.form
  injection e2 with e2 e3 e4
  subst e2; subst e3
  refine ⟨hlen, fun r hr => ?_⟩
  obtain ⟨i, hi, rfl⟩ := List.mem_iff_getElem.1 hr
  obtain ⟨g, o, ra, rc, rfl, _, hcell, _⟩ := hN.get hi
  obtain ⟨mm, hkk⟩ := hk _ rfl
  obtain ⟨c, yy, hc, hy, hb⟩ := hkk i hi
  have e5 : (nx.getD i []) = nx[i] := getD_of hi _
  rw [e5] at hcell
  have hcs : c = [.slice ra (nx[i]).length rc] := by
    unfold World.cells? at hc
    rw [if_pos (Nat.zero_le _)] at hc
    have l1 : c.length = 1 := by simpa using mapM_some_length hc
    rcases c with _ | ⟨u, _ | ⟨_, _⟩⟩
    · simp at l1
    · have h9 := mapM_some_get hc 0 0 (by simp)
      rw [Nat.mul_one, Addr.add_lit, Addr.add_lit, Nat.add_zero, hcell] at h9
      simp at h9
      rw [h9]
    · simp at l1
  subst hcs
  obtain ⟨a9, l9, c9, e9, hl9, _⟩ := row_size slI (show Try.prog.cellsOf 3 = 1 by kernel_rfl) hy
  injection e9 with e9 _
  injection e9 with _ e10 _
  omega
end Go.Proofs.Ytbbfnladoaimpaa
