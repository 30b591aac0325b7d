/- The entry is met. -/
import Derived.Test.YthedgacidphgnaaDLv
namespace Go.Proofs.Ythedgacidphgnaa
open Go.RowKit Lt

theorem meet_first {base b1 b2 b3 b4 pg n : Nat} {F : Value} {w : World} (hpos : 0 < n) (hn : n ≤ 2000000) (A : WAt w base ⟨b1, b2, b3, b4, pg, n, F⟩ ⟨-1, nilV, nilV, nilV, [], [], [], List.replicate n (-1)⟩) :
    Calls Try.prog 29 #[.int .i64 0, .pointer (some ⟨b1, 0, none⟩), .pointer (some ⟨b3, 0, none⟩), .pointer (some ⟨b2, 0, none⟩)] w fun r w' => r = .returned (.tuple #[]) ∧ (∃ nV fV gV, WAt w' base ⟨b1, b2, b3, b4, pg, n, F⟩ ⟨0, nV, fV, gV, [0], [-1], [0], (List.replicate n (-1)).set 0 0⟩) ∧ Below base w w' := by
  have h := meet_any base ⟨b1, b2, b3, b4, pg, n, F⟩ ⟨-1, nilV, nilV, nilV, [], [], [], List.replicate n (-1)⟩ 0 w A hpos (by simp) hn (by simp) (by simp) (by simp)
  simp only [List.length_nil, List.nil_append] at h
  refine Calls.mono h ?_
  rintro r w' ⟨h1, ⟨nV, fV, gV, h2⟩, h3⟩
  exact ⟨h1, ⟨nV, fV, gV, h2⟩, h3⟩
end Go.Proofs.Ythedgacidphgnaa
