/- The chapter's graph. -/
import Derived.Test.YtabpnjakfoofpaaGreatDoorGWd2M
import Derived.Laws.Rows
import Derived.Test.YtabpnjakfoofpaaGreatDoorGBoxM
import Derived.Test.YtabpnjakfoofpaaGreatDoorGCheck
import Derived.Test.YtabpnjakfoofpaaGreatDoorGOrd4M
namespace Go.Proofs.YtabpnjakfoofpaaGreatDoor
open Go.RowKit

def allocs (w : World) (os : List Obj) : World := os.foldl World.alloc w
theorem allocs_below : ∀ (os : List Obj) (w : World), Below w.heap.size w (allocs w os)
  | [], _ => Below.refl _ _
  | o :: os, w => below_trans (below_alloc (Below.refl _ _) o) (allocs_below os (w.alloc o))
theorem allocs_get : ∀ (os : List Obj) (w : World) (k : Nat) (o : Obj), os[k]? = some o → (allocs w os).heap[w.heap.size + k]? = some o
  | o' :: os, w, 0, o, h => by
    cases h
    have h1 := (allocs_below os (w.alloc o')).block w.heap.size (by simp)
    exact h1.trans (heap_alloc_new w o')
  | o' :: os, w, k + 1, o, h => by
    have h1 := allocs_get os (w.alloc o') k o (by simpa using h)
    rw [show (w.alloc o').heap.size = w.heap.size + 1 by simp, show w.heap.size + 1 + k = w.heap.size + (k + 1) by omega] at h1
    exact h1
theorem row_lit {W : World} {g : Nat} {cs : List Value} {t : TypeId} (n : Nat) (h : W.heap[g]? = some (.cells cs.toArray t)) (hn : n ≤ 1000) : RowAt W (.slice (some ⟨g, 0, none⟩) n n) n cs := by
  refine ⟨_, _, rfl, ⟨Nat.le_refl _, by omega⟩, .inr ⟨g, 0, rfl, (Array.getElem?_eq_some_iff.1 h).1, fun j u hj => ?_⟩⟩
  simp only [World.cell?, h]
  simpa using hj
theorem row_nil (W : World) (cs : List Value) : RowAt W (.slice none 0 0) 0 cs := ⟨_, _, rfl, ⟨Nat.le_refl _, by omega⟩, .inl rfl⟩
abbrev sl (g n : Nat) : Value := .slice (some ⟨g, 0, none⟩) n n
abbrev u64V (k : Int) : Value := .int .u64 k
def insA : List In := [⟨2, 0, 2, [], 5, 0⟩, ⟨4, 13, 1, [0, 2], 0, 0⟩]
def insB : List In := [⟨10, 0, 0, [0], 0, 0⟩]
def insC (more : Bool) : List In := [⟨1, 0, 2, if more then [0, 2, 2] else [0, 2], 0, 0⟩]
def smallG (more : Bool) : Gr := ⟨⟨#[103]⟩, [0], 4, [4, 1, 4], [], [⟨insA, ⟨2, 1, 2, 1, 0⟩⟩, ⟨insB, ⟨1, 0, 3, 0, 0⟩⟩, ⟨[], ⟨1, 0, 3, 0, 0⟩⟩, ⟨insC more, ⟨3, 2, 0, 0, 0⟩⟩, ⟨[], ⟨1, 0, 3, 0, 0⟩⟩]⟩
def objs (more : Bool) (N : Nat) : List Obj := [
  .cells #[.string ⟨#[103]⟩, sl (N + 1) 1, bytV 4, sl (N + 2) 3, .slice none 0 0, sl (N + 9) 5] 28,
  .cells #[intV 0] 3,
  .cells #[bytV 4, bytV 1, bytV 4] 23,
  .cells #[intV 0, intV 2] 3,
  .cells #[bytV 2, bytV 0, intV 2, .slice none 0 0, u64V 5, intV 0, bytV 4, bytV 13, intV 1, sl (N + 3) 2, u64V 0, intV 0] 58,
  .cells #[intV 0] 3,
  .cells #[bytV 10, bytV 0, intV 0, sl (N + 5) 1, u64V 0, intV 0] 58,
  .cells #[intV 0, intV 2] 3,
  .cells #[bytV 1, bytV 0, intV 2, if more then sl (N + 11) 3 else sl (N + 7) 2, u64V 0, intV 0] 58,
  .cells #[sl (N + 4) 2, bytV 2, intV 1, intV 2, intV 1, bytV 0, sl (N + 6) 1, bytV 1, intV 0, intV 3, intV 0, bytV 0, .slice none 0 0, bytV 1, intV 0, intV 3, intV 0, bytV 0, sl (N + 8) 1, bytV 3, intV 2, intV 0, intV 0, bytV 0, .slice none 0 0, bytV 1, intV 0, intV 3, intV 0, bytV 0] 40,
  .cells #[.string ⟨#[103]⟩, sl (N + 1) 1, bytV 4, sl (N + 2) 3, .slice none 0 0, sl (N + 9) 5] 28] ++ (if more then [.cells #[intV 0, intV 2, intV 2] 3] else [])
theorem small_at_f (w : World) : GrAt (allocs w (objs false w.heap.size)) (sl (w.heap.size + 1) 1) (sl (w.heap.size + 2) 3) (.slice none 0 0) (sl (w.heap.size + 9) 5) (smallG false) := by
  have g := fun k o (h : (objs false w.heap.size)[k]? = some o) => allocs_get (objs false w.heap.size) w k o h
  have i0 : InsAt (allocs w (objs false w.heap.size)) (sl (w.heap.size + 4) 2) insA := by
    refine ⟨by decide, [.slice none 0 0, sl (w.heap.size + 3) 2], rfl, row_lit (t := 58) 2 (g 4 _ rfl) (by omega), fun i x a hx ha => ?_⟩
    rcases i with _ | _ | i
    · cases hx; cases ha; exact row_nil _ _
    · cases hx; cases ha; exact row_lit (t := 3) 2 (g 3 _ rfl) (by omega)
    · simp [insA] at hx
  have i1 : InsAt (allocs w (objs false w.heap.size)) (sl (w.heap.size + 6) 1) insB := by
    refine ⟨by decide, [sl (w.heap.size + 5) 1], rfl, row_lit (t := 58) 1 (g 6 _ rfl) (by omega), fun i x a hx ha => ?_⟩
    rcases i with _ | i
    · cases hx; cases ha; exact row_lit (t := 3) 1 (g 5 _ rfl) (by omega)
    · simp [insB] at hx
  have i2 : InsAt (allocs w (objs false w.heap.size)) (.slice none 0 0) [] := ⟨by simp, [], rfl, row_nil _ _, fun i x a hx ha => by simp at hx⟩
  have i3 : InsAt (allocs w (objs false w.heap.size)) (sl (w.heap.size + 8) 1) (insC false) := by
    refine ⟨by decide, [sl (w.heap.size + 7) 2], rfl, row_lit (t := 58) 1 (g 8 _ rfl) (by omega), fun i x a hx ha => ?_⟩
    rcases i with _ | i
    · cases hx; cases ha; exact row_lit (t := 3) 2 (g 7 _ rfl) (by omega)
    · simp [insC] at hx
  refine ⟨row_lit (t := 3) 1 (g 1 _ rfl) (by omega), row_lit (t := 23) 3 (g 2 _ rfl) (by omega), row_nil _ _, ⟨[sl (w.heap.size + 4) 2, sl (w.heap.size + 6) 1, .slice none 0 0, sl (w.heap.size + 8) 1, .slice none 0 0], rfl, row_lit (t := 40) 5 (g 9 _ rfl) (by omega), fun i x a hx ha => ?_⟩⟩
  rcases i with _ | _ | _ | _ | _ | i
  · cases hx; cases ha; exact i0
  · cases hx; cases ha; exact i1
  · cases hx; cases ha; exact i2
  · cases hx; cases ha; exact i3
  · cases hx; cases ha; exact i2
  · simp [smallG] at hx
set_option maxRecDepth 100000 in
set_option maxHeartbeats 4000000 in
theorem small_f (w : World) : Calls Tryz.prog 23 #[.bool false] w fun e w' => e = .returned (.agg #[.string ⟨#[103]⟩, sl (w.heap.size + 1) 1, .int .u8 4, sl (w.heap.size + 2) 3, .slice none 0 0, sl (w.heap.size + 9) 5]) ∧ GrAt w' (sl (w.heap.size + 1) 1) (sl (w.heap.size + 2) 3) (.slice none 0 0) (sl (w.heap.size + 9) 5) (smallG false) ∧ Below w.heap.size w w' := by
  go_enter Tryz.func23, Tryz.ntmps23
  go_wp2
  change bodyPost _ _ _ _ _ (allocs w (objs false w.heap.size))
  exact bodyPost_ret (results_cell_row rfl _ _ w.heap.size 28 #[.string ⟨#[103]⟩, sl (w.heap.size + 1) 1, bytV 4, sl (w.heap.size + 2) 3, .slice none 0 0, sl (w.heap.size + 9) 5] _ _ rfl (allocs_get (objs false w.heap.size) w 0 _ rfl) Tryz.underlying28 rfl (by rfl)) rfl ⟨rfl, small_at_f w, allocs_below _ _⟩
theorem small_at_t (w : World) : GrAt (allocs w (objs true w.heap.size)) (sl (w.heap.size + 1) 1) (sl (w.heap.size + 2) 3) (.slice none 0 0) (sl (w.heap.size + 9) 5) (smallG true) := by
  have g := fun k o (h : (objs true w.heap.size)[k]? = some o) => allocs_get (objs true w.heap.size) w k o h
  have i0 : InsAt (allocs w (objs true w.heap.size)) (sl (w.heap.size + 4) 2) insA := by
    refine ⟨by decide, [.slice none 0 0, sl (w.heap.size + 3) 2], rfl, row_lit (t := 58) 2 (g 4 _ rfl) (by omega), fun i x a hx ha => ?_⟩
    rcases i with _ | _ | i
    · cases hx; cases ha; exact row_nil _ _
    · cases hx; cases ha; exact row_lit (t := 3) 2 (g 3 _ rfl) (by omega)
    · simp [insA] at hx
  have i1 : InsAt (allocs w (objs true w.heap.size)) (sl (w.heap.size + 6) 1) insB := by
    refine ⟨by decide, [sl (w.heap.size + 5) 1], rfl, row_lit (t := 58) 1 (g 6 _ rfl) (by omega), fun i x a hx ha => ?_⟩
    rcases i with _ | i
    · cases hx; cases ha; exact row_lit (t := 3) 1 (g 5 _ rfl) (by omega)
    · simp [insB] at hx
  have i2 : InsAt (allocs w (objs true w.heap.size)) (.slice none 0 0) [] := ⟨by simp, [], rfl, row_nil _ _, fun i x a hx ha => by simp at hx⟩
  have i3 : InsAt (allocs w (objs true w.heap.size)) (sl (w.heap.size + 8) 1) (insC true) := by
    refine ⟨by decide, [sl (w.heap.size + 11) 3], rfl, row_lit (t := 58) 1 (g 8 _ rfl) (by omega), fun i x a hx ha => ?_⟩
    rcases i with _ | i
    · cases hx; cases ha; exact row_lit (t := 3) 3 (g 11 _ rfl) (by omega)
    · simp [insC] at hx
  refine ⟨row_lit (t := 3) 1 (g 1 _ rfl) (by omega), row_lit (t := 23) 3 (g 2 _ rfl) (by omega), row_nil _ _, ⟨[sl (w.heap.size + 4) 2, sl (w.heap.size + 6) 1, .slice none 0 0, sl (w.heap.size + 8) 1, .slice none 0 0], rfl, row_lit (t := 40) 5 (g 9 _ rfl) (by omega), fun i x a hx ha => ?_⟩⟩
  rcases i with _ | _ | _ | _ | _ | i
  · cases hx; cases ha; exact i0
  · cases hx; cases ha; exact i1
  · cases hx; cases ha; exact i2
  · cases hx; cases ha; exact i3
  · cases hx; cases ha; exact i2
  · simp [smallG] at hx
set_option maxRecDepth 100000 in
set_option maxHeartbeats 4000000 in
theorem small_t (w : World) : Calls Tryz.prog 23 #[.bool true] w fun e w' => e = .returned (.agg #[.string ⟨#[103]⟩, sl (w.heap.size + 1) 1, .int .u8 4, sl (w.heap.size + 2) 3, .slice none 0 0, sl (w.heap.size + 9) 5]) ∧ GrAt w' (sl (w.heap.size + 1) 1) (sl (w.heap.size + 2) 3) (.slice none 0 0) (sl (w.heap.size + 9) 5) (smallG true) ∧ Below w.heap.size w w' := by
  go_enter Tryz.func23, Tryz.ntmps23
  go_wp2
  change bodyPost _ _ _ _ _ (allocs w (objs true w.heap.size))
  exact bodyPost_ret (results_cell_row rfl _ _ w.heap.size 28 #[.string ⟨#[103]⟩, sl (w.heap.size + 1) 1, bytV 4, sl (w.heap.size + 2) 3, .slice none 0 0, sl (w.heap.size + 9) 5] _ _ rfl (allocs_get (objs true w.heap.size) w 0 _ rfl) Tryz.underlying28 rfl (by rfl)) rfl ⟨rfl, small_at_t w, allocs_below _ _⟩
end Go.Proofs.YtabpnjakfoofpaaGreatDoor
/- How many instructions there are, and blocks. -/
namespace Go.Proofs.YtabpnjakfoofpaaGreatDoor
open Go.RowKit

def sumIns (bs : List Bl) : Nat := (bs.map fun b => b.ins.length).sum
theorem sumIns_take {bs : List Bl} {i : Nat} (h : i < bs.length) : sumIns (bs.take (i + 1)) = sumIns (bs.take i) + (bs.getD i default).ins.length := by
  unfold sumIns
  rw [List.take_add_one, List.map_append, List.sum_append, List.getElem?_eq_getElem h]
  congr 1
  simp [List.getD, List.getElem?_eq_getElem h]
theorem sumIns_le (bs : List Bl) (i : Nat) : sumIns (bs.take i) ≤ sumIns bs := by
  have : sumIns bs = sumIns (bs.take i) + sumIns (bs.drop i) := by
    unfold sumIns
    rw [← List.sum_append, ← List.map_append, List.take_append_drop]
  omega
set_option maxRecDepth 100000 in
set_option maxHeartbeats 1000000 in
theorem count_any (G : Gr) (pv vv av bv : Value) (w : World) (h : GrAt w pv vv av bv G) (hs : countG G.blocks ≤ 1000000000) :
    Calls Tryz.prog 15 #[.agg #[.string G.name, pv, .int .u8 G.result, vv, av, bv]] w fun e w' => e = .returned (.int .i64 (countG G.blocks : Nat)) ∧ Below w.heap.size w w' := by
  obtain ⟨nm, ps, r, vs, ars, bs⟩ := G
  have hB := h.bs
  obtain ⟨a, c, rfl, hlen⟩ := hB.form
  have HI : Hid (∀ i, i < bs.length → _) := fun i hi => hB.get hi
  change countG bs ≤ _ at hs
  have hc : countG bs = bs.length + sumIns bs := rfl
  have HC : Hid (countG bs = bs.length + sumIns bs) := hc
  have hbl : bs.length ≤ 1000000000 := by omega
  have hsm : Hid (bs.length + sumIns bs ≤ 1000000000) := by rw [← hc]; exact hs
  clear h hB hlen hc hs
  dsimp only at HI ⊢
  obtain ⟨R, hR⟩ : ∃ R, R = countG bs := ⟨_, rfl⟩
  rw [← hR]
  have HR : Hid (R = bs.length + sumIns bs) := hR.trans HC.out
  clear hR HC
  obtain ⟨n, hn⟩ : ∃ n, n = bs.length := ⟨_, rfl⟩
  rw [← hn] at hbl ⊢
  have HN : Hid (n = bs.length) := hn
  clear hn
  go_enter Tryz.func15, Tryz.ntmps15
  go_wp2
  go_loopw [3, 12] (fun vm vi wr => ∃ i : Nat, vi = .int .i64 i ∧ i ≤ n ∧ vm = .int .i64 ((n + sumIns (bs.take i) : Nat) : Int) ∧ Hid (Below w.heap.size w wr)) (fun _ vi _ => n - (intOf vi).toNat)
  case atStart => exact ⟨0, rfl, by omega, by simp [sumIns], below_alloc (Below.refl _ _) _⟩
  case round =>
    obtain ⟨i, rfl, hi, rfl, hr⟩ := hrel
    by_cases hin : i < n
    · obtain ⟨g, o, iv, rfl, hg, c0, c1, c2, c3, c4, c5, hins⟩ := HI.out i (by rw [← HN.out]; exact hin)
      obtain ⟨ia, ic, rfl, hil⟩ := hins.form
      have hin' : (i : Int) < n := by omega
      have hcl : ∀ j, wr.cell? ⟨g, j, none⟩ = w.cell? ⟨g, j, none⟩ := fun j => hr.out.cell (p := ⟨g, j, none⟩) hg
      rw [← hcl] at c0 c1 c2 c3 c4 c5
      have HT : Hid (sumIns (bs.take (i + 1)) = sumIns (bs.take i) + (bs.getD i default).ins.length) := sumIns_take (by rw [← HN.out]; exact hin)
      have hle : n + sumIns (bs.take (i + 1)) ≤ 1000000000 := by
        have := sumIns_le bs (i + 1)
        have := hsm.out
        rw [← HN.out] at this
        omega
      have hle2 : n + (sumIns (bs.take i) + (bs.getD i default).ins.length) ≤ 1000000000 := by rw [← HT.out]; exact hle
      clear HI hcl hins hle hil
      generalize sumIns (bs.take i) = S at *
      generalize (bs.getD i default).ins.length = L at *
      generalize (bs.getD i default).tm.kind = t0 at *
      generalize (bs.getD i default).tm.arg = t1 at *
      generalize (bs.getD i default).tm.t0 = t2 at *
      generalize (bs.getD i default).tm.t1 = t3 at *
      generalize (bs.getD i default).tm.trap = t4 at *
      go_wp2
      go_roundw
      case rel => exact ⟨i + 1, by first | rfl | (congr 1; omega), by omega, by rw [HT.out]; first | rfl | (congr 1; omega), below_alloc hr.out _⟩
      case measure => simp [intOf]; omega
    · obtain rfl : i = n := by omega
      clear HI
      go_wp2
      go_ret
      exact ⟨ret_int (by rw [HR.out, HN.out, List.take_length]), hr.out⟩
end Go.Proofs.YtabpnjakfoofpaaGreatDoor
/- The law is awake. -/
namespace Go.Proofs.YtabpnjakfoofpaaGreatDoor
open Go.RowKit

abbrev gCells (a b c : Nat) : List Value := [.string ⟨#[103]⟩, sl a 1, .int .u8 4, sl b 3, .slice none 0 0, sl c 5]
theorem heap_new (w : World) (cs : List Value) (t : TypeId) : (w.alloc (.cells cs.toArray t)).heap[w.heap.size]? = some (.cells cs.toArray t) := heap_alloc_new w _
theorem grs_two (w : World) (m1 m2 : Bool) (a b c d e f : Nat) (h1 : GrAt w (sl a 1) (sl b 3) (.slice none 0 0) (sl c 5) (smallG m1)) (h2 : GrAt w (sl d 1) (sl e 3) (.slice none 0 0) (sl f 5) (smallG m2)) :
    GrsAt (w.alloc (.cells #[.string ⟨#[103]⟩, sl a 1, .int .u8 4, sl b 3, .slice none 0 0, sl c 5, .string ⟨#[103]⟩, sl d 1, .int .u8 4, sl e 3, .slice none 0 0, sl f 5] 28)) (sl w.heap.size 2) [smallG m1, smallG m2] := by
  refine ⟨[(sl a 1, sl b 3, .slice none 0 0, sl c 5), (sl d 1, sl e 3, .slice none 0 0, sl f 5)], rfl, row_lit (t := 28) 2 (heap_new w (gCells a b c ++ gCells d e f) 28) (by omega), fun i x q hx hq => ?_⟩
  have hb := below_alloc (Below.refl w.heap.size w) (.cells #[.string ⟨#[103]⟩, sl a 1, .int .u8 4, sl b 3, .slice none 0 0, sl c 5, .string ⟨#[103]⟩, sl d 1, .int .u8 4, sl e 3, .slice none 0 0, sl f 5] 28)
  rcases i with _ | _ | i
  · cases hx; cases hq; exact h1.below hb
  · cases hx; cases hq; exact h2.below hb
  · simp at hx
theorem grs_one (w : World) (m1 : Bool) (a b c : Nat) (h1 : GrAt w (sl a 1) (sl b 3) (.slice none 0 0) (sl c 5) (smallG m1)) :
    GrsAt (w.alloc (.cells #[.string ⟨#[103]⟩, sl a 1, .int .u8 4, sl b 3, .slice none 0 0, sl c 5] 28)) (sl w.heap.size 1) [smallG m1] := by
  refine ⟨[(sl a 1, sl b 3, .slice none 0 0, sl c 5)], rfl, row_lit (t := 28) 1 (heap_new w (gCells a b c) 28) (by omega), fun i x q hx hq => ?_⟩
  have hb := below_alloc (Below.refl w.heap.size w) (.cells #[.string ⟨#[103]⟩, sl a 1, .int .u8 4, sl b 3, .slice none 0 0, sl c 5] 28)
  rcases i with _ | i
  · cases hx; cases hq; exact h1.below hb
  · simp at hx
theorem ints_new (w : World) (l : List Int) (hl : l.length ≤ 1000) : IntsAt (w.alloc (.cells (l.map intV).toArray 3)) (sl w.heap.size l.length) l := row_lit (t := 3) l.length (heap_new w (l.map intV) 3) hl
theorem grs_nil (w : World) : GrsAt w (.slice none 0 0) [] := ⟨[], rfl, row_nil _ _, fun i x q hx _ => by simp at hx⟩
theorem chk_two : checkT [smallG true, smallG false] = (4, 1) := by decide +kernel
theorem chk_one : checkT [smallG true] = (0, 0) := by decide +kernel
theorem typ_one : typeI [] (smallG true) ⟨4, 13, 1, [0, 2], 0, 0⟩ = 1 ∧ standsB [] (smallG true) ⟨4, 13, 1, [0, 2], 0, 0⟩ = true := by decide +kernel
theorem ord_one : orderT (tms (smallG false).blocks) = [0, 1, 2, 3] := by decide +kernel
theorem cnt_one : countG (smallG false).blocks = 9 := by decide +kernel
def SmP (m : Bool) (W : World) (e : Ending) (w' : World) : Prop := ∃ a b c : Nat, e = .returned (.agg #[.string ⟨#[103]⟩, sl a 1, .int .u8 4, sl b 3, .slice none 0 0, sl c 5]) ∧ GrAt w' (sl a 1) (sl b 3) (.slice none 0 0) (sl c 5) (smallG m) ∧ Below W.heap.size W w'
theorem awk_small (m : Bool) (W : World) : Calls Tryz.prog 23 #[.bool m] W fun e w' => ∃ a b c : Nat, e = .returned (.agg #[.string ⟨#[103]⟩, sl a 1, .int .u8 4, sl b 3, .slice none 0 0, sl c 5]) ∧ GrAt w' (sl a 1) (sl b 3) (.slice none 0 0) (sl c 5) (smallG m) ∧ Below W.heap.size W w' := by
  cases m with
  | true => exact Calls.mono (small_t W) fun e w' ⟨h1, h2, h3⟩ => ⟨_, _, _, h1, h2, h3⟩
  | false => exact Calls.mono (small_f W) fun e w' ⟨h1, h2, h3⟩ => ⟨_, _, _, h1, h2, h3⟩
theorem awk_check2 (W : World) (v : Value) (h : GrsAt W v [smallG true, smallG false]) (hP : PartsAt W) : Calls Tryz.prog 21 #[v] W fun e w' => e = .returned (.tuple #[.int .i64 4, .int .i64 1]) ∧ Below W.heap.size W w' := by
  have := check_any _ v W h hP (fun _ => by decide +kernel)
  rwa [chk_two] at this
theorem awk_check1 (W : World) (v : Value) (h : GrsAt W v [smallG true]) (hP : PartsAt W) : Calls Tryz.prog 21 #[v] W fun e w' => e = .returned (.tuple #[.int .i64 0, .int .i64 0]) ∧ Below W.heap.size W w' := by
  have := check_any _ v W h hP (fun _ => by decide +kernel)
  rwa [chk_one] at this
theorem awk_type (W : World) (a b c : Nat) (xv : Value) (h : GrAt W (sl a 1) (sl b 3) (.slice none 0 0) (sl c 5) (smallG true)) (hx : IntsAt W xv [0, 2]) (hP : PartsAt W) : Calls Tryz.prog 24 #[.slice none 0 0, .agg #[.string ⟨#[103]⟩, sl a 1, .int .u8 4, sl b 3, .slice none 0 0, sl c 5], .agg #[.int .u8 4, .int .u8 13, .int .i64 1, xv, .int .u64 0, .int .i64 0]] W fun e w' => e = .returned (.tuple #[.int .u8 1, .bool true]) ∧ Below W.heap.size W w' := by
  have := type_any [] (.slice none 0 0) (smallG true) _ _ _ _ ⟨4, 13, 1, [0, 2], 0, 0⟩ xv W (grs_nil W) h hx (by decide) hP
  rwa [typ_one.1, typ_one.2] at this
theorem awk_order (W : World) (a b c : Nat) (h : GrAt W (sl a 1) (sl b 3) (.slice none 0 0) (sl c 5) (smallG false)) : Calls Tryz.prog 13 #[.agg #[.string ⟨#[103]⟩, sl a 1, .int .u8 4, sl b 3, .slice none 0 0, sl c 5]] W fun e w' => ∃ g k, e = .returned (.slice g 4 k) ∧ IntsAt w' (.slice g 4 k) [0, 1, 2, 3] ∧ Below W.heap.size W w' := by
  refine Calls.mono (order_any (smallG false) _ _ _ _ W h (by decide +kernel)) ?_
  rintro e w' ⟨v, he, ho, hb⟩
  rw [ord_one] at ho
  have h1 := OwnI.at' ho (by decide)
  obtain ⟨g, k, rfl, _⟩ := h1.form
  exact ⟨g, k, he, h1, hb⟩
theorem awk_count (W : World) (a b c : Nat) (h : GrAt W (sl a 1) (sl b 3) (.slice none 0 0) (sl c 5) (smallG false)) : Calls Tryz.prog 15 #[.agg #[.string ⟨#[103]⟩, sl a 1, .int .u8 4, sl b 3, .slice none 0 0, sl c 5]] W fun e w' => e = .returned (.int .i64 9) ∧ Below W.heap.size W w' := by
  have := count_any (smallG false) _ _ _ _ W h (by rw [cnt_one]; decide)
  rw [cnt_one] at this
  exact this
end Go.Proofs.YtabpnjakfoofpaaGreatDoor
/- The law is awake: its run. -/
namespace Go.Proofs.YtabpnjakfoofpaaGreatDoor
open Go.RowKit

set_option maxRecDepth 100000 in
set_option maxHeartbeats 4000000 in
theorem awake_any (w : World) (hP : PartsAt w) : Calls Tryz.prog 6 #[] w fun e w' => e = .returned (.bool true) ∧ Below w.heap.size w w' := by
  have HP : Hid (∀ W, Below w.heap.size w W → PartsAt W) := fun W hb => hP.below hb
  have T0 : Hid (Below w.heap.size w w) := Below.refl _ _
  have HSA : Hid (∀ W (l1 l2 : List Int) (v1 v2 : Value), IntsAt W v1 l1 → IntsAt W v2 l2 → _) := fun W l1 l2 v1 v2 h1 h2 => same_any l1 l2 v1 v2 W h1 h2
  have S1 : True := trivial
  have S2 : True := trivial
  have S3 : True := trivial
  have S4 : True := trivial
  have S5 : True := trivial
  have S6 : True := trivial
  have K1 : True := trivial
  have K2 : True := trivial
  clear hP
  go_enter Tryz.func6, Tryz.ntmps6
  go_wp2_with (first
  | (go_at_call 23; clear S1; refine Calls.mono (by exact awk_small _ _) ?_; rintro e w1 ⟨a1, b1, c1, rfl, hG, hb⟩; have G1 : Hid _ := hG; have B1 : Hid _ := hb; have T1 : Hid (Below w.heap.size w w1) := below_trans T0.out hb; clear hG hb)
  | (go_at_call 23; clear S2; refine Calls.mono (by exact awk_small _ _) ?_; rintro e w2 ⟨a2, b2, c2, rfl, hG, hb⟩; have G2 : Hid _ := hG; have B2 : Hid _ := hb; have T2 : Hid (Below w.heap.size w w2) := below_trans T1.out hb; clear hG hb)
  | (go_at_call 21; clear K1; go_loud (refine Calls.mono (by exact awk_check2 _ _ (grs_two w2 true false a1 b1 c1 a2 b2 c2 (G1.out.below B2.out) G2.out) (HP.out _ (below_alloc T2.out _))) ?_; rintro e w3 ⟨rfl, hb⟩; have T3 : Hid (Below w.heap.size w w3) := below_trans (below_alloc T2.out _) hb; clear hb))
  | (go_at_call 23; clear S3; refine Calls.mono (by exact awk_small _ _) ?_; rintro e w4 ⟨a3, b3, c3, rfl, hG, hb⟩; have G3 : Hid _ := hG; have B3 : Hid _ := hb; have T4 : Hid (Below w.heap.size w w4) := below_trans T3.out hb; clear hG hb)
  | (go_at_call 21; clear K2; go_loud (refine Calls.mono (by exact awk_check1 _ _ (grs_one w4 true a3 b3 c3 G3.out) (HP.out _ (below_alloc T4.out _))) ?_; rintro e w5 ⟨rfl, hb⟩; have T5 : Hid (Below w.heap.size w w5) := below_trans (below_alloc T4.out _) hb; clear hb))
  | (go_at_call 23; clear S4; refine Calls.mono (by exact awk_small _ _) ?_; rintro e w6 ⟨a4, b4, c4, rfl, hG, hb⟩; have G4 : Hid _ := hG; have B4 : Hid _ := hb; have T6 : Hid (Below w.heap.size w w6) := below_trans T5.out hb; clear hG hb)
  | (go_at_call 24; go_loud (refine Calls.mono (by exact awk_type _ a4 b4 c4 _ (G4.out.below (below_alloc (Below.refl _ _) _)) (ints_new w6 [0, 2] (by decide)) (HP.out _ (below_alloc T6.out _))) ?_; rintro e w7 ⟨rfl, hb⟩; have T7 : Hid (Below w.heap.size w w7) := below_trans (below_alloc T6.out _) hb; clear hb))
  | (go_at_call 23; clear S5; refine Calls.mono (by exact awk_small _ _) ?_; rintro e w8 ⟨a5, b5, c5, rfl, hG, hb⟩; have G5 : Hid _ := hG; have B5 : Hid _ := hb; have T8 : Hid (Below w.heap.size w w8) := below_trans T7.out hb; clear hG hb)
  | (go_at_call 13; go_loud (refine Calls.mono (by exact awk_order _ a5 b5 c5 G5.out) ?_; rintro e w9 ⟨og, ok, rfl, hi, hb⟩; have HI9 : Hid _ := hi; have T9 : Hid (Below w.heap.size w w9) := below_trans T8.out hb; clear hi hb))
  | (go_at_call 7; go_loud (refine Calls.mono (by exact HSA.out _ [0, 1, 2, 3] [0, 1, 2, 3] _ _ (HI9.out.below (below_alloc (Below.refl _ _) _)) (ints_new w9 [0, 1, 2, 3] (by decide))) ?_; rintro e w10 ⟨rfl, hb⟩; have T10 : Hid (Below w.heap.size w w10) := below_trans (below_alloc T9.out _) hb; clear hb))
  | (go_at_call 23; clear S6; refine Calls.mono (by exact awk_small _ _) ?_; rintro e w11 ⟨a6, b6, c6, rfl, hG, hb⟩; have G6 : Hid _ := hG; have B6 : Hid _ := hb; have T11 : Hid (Below w.heap.size w w11) := below_trans T10.out hb; clear hG hb)
  | (go_at_call 15; go_loud (refine Calls.mono (by exact awk_count _ a6 b6 c6 G6.out) ?_; rintro e w12 ⟨rfl, hb⟩; have T12 : Hid (Below w.heap.size w w12) := below_trans T11.out hb; clear hb)))
  go_ret
  exact ⟨ret_bool (by first | rfl | simp), T12.out⟩
end Go.Proofs.YtabpnjakfoofpaaGreatDoor
