/- What a scan hands back: told by cases, and where it lies. -/
import Derived.Test.YtcinlpiidgbnaaaAwake
import Derived.Test.YtcinlpiidgbnaaaJoin
import Derived.SizedLaws
namespace Go.Proofs.Ytcinlpiidgbnaaa
open Go.RowKit

theorem lies_at {w w2 : World} {g n cap : Nat} {ts : List Tok} (h : Lies w (.slice (some ⟨g, 0, none⟩) n cap) ts) (hb : Below w.heap.size w w2) {k : Nat} {t : Tok} (ht : ts[k]? = some t) :
    w2.cell? ⟨g, k * 3, none⟩ = some (.int .u8 (t.1 : Int)) ∧ w2.cell? ⟨g, k * 3 + 1, none⟩ = some (.int .i64 (t.2.1 : Int)) ∧ w2.cell? ⟨g, k * 3 + 2, none⟩ = some (.int .i64 (t.2.2 : Int)) := by
  obtain ⟨ad2, cap2, hv2, hcs⟩ := lies_below h hb
  obtain ⟨hk, he⟩ := List.getElem?_eq_some_iff.1 ht
  obtain ⟨g2, hg2, hcs⟩ := hcs (by omega)
  rw [hg2] at hv2
  injection hv2 with hg3 _ _
  injection hg3 with hg4
  injection hg4 with hg5
  subst hg5
  have := hcs k hk
  rw [he] at this
  exact this
theorem scan_good {s : ByteArray} {ts : List Tok} (hs : s.size ≤ 65536) (h : scanS true s.data.toList = .ok ts) (w : World) : Calls Try.prog 10 #[.string s] w fun e w' => ∃ v, e = .returned (.tuple #[v, .agg #[.int .i64 0, .int .i64 0]]) ∧ Lies w' v ts ∧ Below w.heap.size w w' := by
  refine (scan_any s w (by unfold maxLen; omega)).mono ?_
  rintro e w' ⟨v, rfl, ho, hb⟩
  have hT := of_ok (l := s.data.toList) (by have : s.data.toList.length = s.size := by simp
                                            omega) h
  rw [hT.2.1, hT.2.2]
  rw [hT.1] at ho
  exact ⟨v, rfl, lies_own ho, hb⟩
theorem scan_bad {s : ByteArray} {p : Nat} (hs : s.size ≤ 65536) (h : scanS true s.data.toList = .error p) (w : World) : Calls Try.prog 10 #[.string s] w fun e w' => ∃ ad cap, e = .returned (.tuple #[.slice ad 0 cap, .agg #[.int .i64 120, .int .i64 (p : Int)]]) ∧ Below w.heap.size w w' := by
  refine (scan_any s w (by unfold maxLen; omega)).mono ?_
  rintro e w' ⟨v, rfl, ho, hb⟩
  have hT := of_err (l := s.data.toList) (by have : s.data.toList.length = s.size := by simp
                                             omega) h
  rw [hT.2.1, hT.2.2]
  rw [hT.1] at ho
  obtain ⟨ad, cap, rfl, _⟩ := lies_own ho
  exact ⟨ad, cap, rfl, hb⟩
end Go.Proofs.Ytcinlpiidgbnaaa
