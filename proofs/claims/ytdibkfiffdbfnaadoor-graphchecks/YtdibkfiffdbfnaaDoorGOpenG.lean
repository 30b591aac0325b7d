/- A program that comes in: its reading gives its graphs in memory. -/
import Derived.Test.YtdibkfiffdbfnaaDoorGOpen
namespace Go.Proofs.YtdibkfiffdbfnaaDoor
open Go.RowKit Go.ChangeShapes

theorem slG : Tryd.prog.underlying 22 = some (.slice 35) := by kernel_rfl
theorem bzG : 0 < Tryd.prog.bytesOf 35 := by rw [show Tryd.prog.bytesOf 35 = 120 by kernel_rfl]; omega
theorem grs_flat : ∀ bs : List (Gr × (Value × Value × Value × Value)), (bs.flatMap fun b => grL b.1 b.2.1 b.2.2.1 b.2.2.2.1 b.2.2.2.2) = grsCells (bs.map (·.1)) (bs.map (·.2))
  | [] => rfl
  | b :: bs => by rw [List.flatMap_cons, grs_flat bs]; rfl
theorem grs_of {H : Type} {enc : TypeId × Value → H} {w : World} {spare : Nat → Bool} {held : Bool} {m : Nat} {c : List Value} {y : DataW H × List MemPlace} (h : DataW.trod enc Tryd.prog w 0 spare held m 22 c = some y) (hw : ∀ n ∈ y.1.weights Tryd.prog 22, n ≤ reachBytes) : ∃ (v : Value) (l : List Gr), c = [v] ∧ GrsAt w v l := by
  obtain ⟨v, css, m2, e1, hr, hq⟩ := row_of slG (show Tryd.prog.cellsOf 35 = 6 by kernel_rfl) (by omega) bzG h hw
  obtain ⟨bs, h1, h2, h3⟩ := flat_pick (fun b : Gr × (Value × Value × Value × Value) => grL b.1 b.2.1 b.2.2.1 b.2.2.2.1 b.2.2.2.2) (fun b => GrAt w b.2.1 b.2.2.1 b.2.2.2.1 b.2.2.2.2 b.1) css fun c hm => by
    obtain ⟨hl, y, hy, hwy⟩ := hq c hm
    obtain ⟨G, pv, vv, av, bv, ec, hG⟩ := gr_of hy hl hwy
    exact ⟨(G, pv, vv, av, bv), ec, hG⟩
  rw [h1, h2, grs_flat] at hr
  refine ⟨v, bs.map (·.1), e1, ⟨bs.map (·.2), by simp, by simpa using hr, ?_⟩⟩
  intro i x a hx ha
  rw [List.getElem?_map] at hx ha
  obtain ⟨b, hb, rfl⟩ := Option.map_eq_some_iff.1 hx
  rw [hb] at ha
  cases ha
  exact h3 b (List.mem_of_getElem? hb)
end Go.Proofs.YtdibkfiffdbfnaaDoor
