/- The law's own: is a number among these? is a graph great? -/
import Derived.Test.YtkgjcjakadofpaaDoorGSmall
import Derived.Test.YtkgjcjakadofpaaDoorGBox
import Derived.Test.YtkgjcjakadofpaaDoorGChk2
namespace Go.Proofs.YtkgjcjakadofpaaDoor
open Go.RowKit

def amongB (l : List Int) (x : Int) : Bool := decide (x ∈ l)
theorem among_drop {l : List Int} {i : Nat} {x : Int} (h : i < l.length) : amongB (l.drop i) x = (decide (l.getD i 0 = x) || amongB (l.drop (i + 1)) x) := by
  have e : l.getD i 0 = l[i] := by simp [List.getD, List.getElem?_eq_getElem h]
  rw [e, List.drop_eq_getElem_cons h]
  unfold amongB
  rw [← Bool.decide_or]
  exact decide_eq_decide.2 (by rw [List.mem_cons]; exact or_congr_left eq_comm)
set_option maxRecDepth 100000 in
set_option maxHeartbeats 1000000 in
theorem among_any (l : List Int) (x : Int) (v : Value) (w : World) (h : IntsAt w v l) : Calls Tryd.prog 13 #[v, .int .i64 x] w fun e w' => e = .returned (.bool (amongB l x)) ∧ w' = w := by
  obtain ⟨a, c, rfl, hll⟩ := h.form
  have HI : Hid (∀ i, i < l.length → _) := fun i hi => h.get (i := i) hi
  have HD : Hid (∀ i, i < l.length → _) := fun i hi => among_drop (l := l) (x := x) hi
  have HZ : Hid (amongB (l.drop l.length) x = false) := by show _ = _; rw [List.drop_length]; rfl
  obtain ⟨R, hR⟩ : ∃ R, R = amongB l x := ⟨_, rfl⟩
  rw [← hR]
  have HR : Hid (amongB (l.drop 0) x = R) := hR.symm
  obtain ⟨n, hn⟩ : ∃ n, n = l.length := ⟨_, rfl⟩
  rw [← hn] at HI HD HZ hll ⊢
  clear h hR hn
  go_enter Tryd.func13, Tryd.ntmps13
  go_wp2
  go_loopw [5] (fun vi wr => ∃ i : Nat, vi = .int .i64 i ∧ i ≤ n ∧ Hid (amongB (l.drop i) x = R ∧ wr = w)) (fun vi _ => n - (intOf vi).toNat)
  case atStart => exact ⟨0, rfl, by omega, HR.out, rfl⟩
  case round =>
    obtain ⟨i, rfl, hi, hr⟩ := hrel
    have hw := hr.out.2
    subst hw
    clear HR
    by_cases hin : i < n
    · obtain ⟨g, o, rfl, hg, c0⟩ := HI.out i hin
      have hin' : (i : Int) < n := by omega
      have HDD : Hid _ := HD.out i hin
      rw [hr.out.1] at HDD
      clear HI HD HZ
      generalize l.getD i 0 = y at *
      by_cases hy : y = x
      · subst hy
        have HX : Hid (R = true) := by show R = true; have h9 := HDD.out; simpa using h9
        clear HDD
        go_wp2
        go_ret
        exact ⟨ret_bool HX.out.symm, rfl⟩
      · have hyf : (y == x) = false := beq_false_of_ne hy
        have HX : Hid (R = amongB (l.drop (i + 1)) x) := by show R = amongB (l.drop (i + 1)) x; have h9 := HDD.out; simpa [hy] using h9
        clear HDD
        go_wp2
        go_roundw
        case rel => exact ⟨i + 1, by first | rfl | (congr 1; omega), by omega, HX.out.symm, by first | rfl | trivial⟩
        case measure => simp [intOf]; omega
    · obtain rfl : i = n := by omega
      have HX : Hid (false = R) := by have h9 := hr.out.1; rw [HZ.out] at h9; exact h9
      clear HI HD HZ
      go_wp2
      go_ret
      exact ⟨ret_bool HX.out, rfl⟩
set_option maxRecDepth 100000 in
set_option maxHeartbeats 2000000 in
theorem great_any (G : Gr) (pv vv av bv : Value) (w : World) (h : GrAt w pv vv av bv G) :
    Calls Tryd.prog 9 #[.agg #[.string G.name, pv, .int .u8 G.result, vv, av, bv]] w fun e w' => ∃ b, e = .returned (.bool b) ∧ Hid (b = false → G.blocks.length ≤ 400) ∧ Below w.heap.size w w' := by
  obtain ⟨pa, pc, va, vc, aa, ac, ba, bc, rfl, rfl, rfl, rfl, _, _, _, hbl⟩ := h.openF
  have HB : Hid (∀ i, i < G.blocks.length → _) := fun i hi => h.bs.get (i := i) hi
  obtain ⟨nm, ps, r, vs, ars, bs⟩ := G
  dsimp only at HB hbl ⊢
  clear h
  generalize bs.length = n at *
  generalize ps.length = pl at *
  generalize vs.length = m at *
  generalize ars.length = al at *
  have H0 : Hid (Below w.heap.size w (w.alloc (.cells #[.string nm, .slice pa pl pc, .int .u8 r, .slice va m vc, .slice aa al ac, .slice ba n bc] 34)) ∧ Box (w.alloc (.cells #[.string nm, .slice pa pl pc, .int .u8 r, .slice va m vc, .slice aa al ac, .slice ba n bc] 34)) w.heap.size [.string nm, .slice pa pl pc, .int .u8 r, .slice va m vc, .slice aa al ac, .slice ba n bc]) := ⟨below_alloc (Below.refl _ _) _, Box.new w [.string nm, .slice pa pl pc, .int .u8 r, .slice va m vc, .slice aa al ac, .slice ba n bc] 34⟩
  obtain ⟨C, hCt, hCf, hCn⟩ : ∃ C : Bool → Prop, C true ∧ (n ≤ 400 → C false) ∧ (∀ b, C b → Hid (b = false → n ≤ 400)) := ⟨fun b => b = false → n ≤ 400, (fun h => nomatch h), (fun h _ => h), (fun b h => h)⟩
  have HCT : Hid (C true) := hCt
  have HCF : Hid (n ≤ 400 → C false) := hCf
  refine Calls.mono (R := fun e w' => ∃ b, e = .returned (.bool b) ∧ C b ∧ Below w.heap.size w w') ?_ (fun e w' ⟨b, he, hc, hb⟩ => ⟨b, he, hCn b hc, hb⟩)
  clear hCt hCf hCn
  by_cases h1 : 400 < n
  · have h1' : (400 : Int) < n := by omega
    go_enter Tryd.func9, Tryd.ntmps9
    go_wp2
    go_ret
    first | exact ⟨true, rfl, HCT.out, H0.out.1⟩ | exact Or.inr ⟨rfl, HCT.out, H0.out.1⟩
  have h1' : ¬ (400 : Int) < n := by omega
  by_cases h2 : 2000 < m
  · have h2' : (2000 : Int) < m := by omega
    go_enter Tryd.func9, Tryd.ntmps9
    go_wp2
    go_ret
    first | exact ⟨true, rfl, HCT.out, H0.out.1⟩ | exact Or.inr ⟨rfl, HCT.out, H0.out.1⟩
  have h2' : ¬ (2000 : Int) < m := by omega
  by_cases h3 : 2000 < al
  · have h3' : (2000 : Int) < al := by omega
    go_enter Tryd.func9, Tryd.ntmps9
    go_wp2
    go_ret
    first | exact ⟨true, rfl, HCT.out, H0.out.1⟩ | exact Or.inr ⟨rfl, HCT.out, H0.out.1⟩
  have h3' : ¬ (2000 : Int) < al := by omega
  by_cases h4 : 2000 < pl
  · have h4' : (2000 : Int) < pl := by omega
    go_enter Tryd.func9, Tryd.ntmps9
    go_wp2
    go_ret
    first | exact ⟨true, rfl, HCT.out, H0.out.1⟩ | exact Or.inr ⟨rfl, HCT.out, H0.out.1⟩
  have h4' : ¬ (2000 : Int) < pl := by omega
  have HN : Hid (n ≤ 400) := by show n ≤ 400; omega
  go_enter Tryd.func9, Tryd.ntmps9
  go_wp2
  clear h1 h2 h3 h4 h1' h2' h3' h4'
  go_loopw [3, 4] (fun vn vi wr => ∃ (x : Int) (i : Nat), vn = .int .i64 x ∧ vi = .int .i64 i ∧ i ≤ n ∧ Hid (Below w.heap.size w wr ∧ Box wr w.heap.size [.string nm, .slice pa pl pc, .int .u8 r, .slice va m vc, .slice aa al ac, .slice ba n bc])) (fun _ vi _ => n - (intOf vi).toNat)
  case atStart => exact ⟨0, 0, rfl, rfl, by omega, H0.out⟩
  case round =>
    obtain ⟨x, i, rfl, rfl, hi, hr⟩ := hrel
    clear H0
    obtain ⟨e0, e1, e2, e3, e4, e5⟩ := box6 hr.out.2
    have hwl := hr.out.2.lt
    by_cases hin : i < n
    · obtain ⟨g, o, iv, rfl, hg, c0, c1, c2, c3, c4, c5, hins⟩ := HB.out i hin
      obtain ⟨ia, ic, rfl, _⟩ := hins.form
      have hin' : (i : Int) < n := by omega
      generalize (bs.getD i default).ins = L at *
      have HI : Hid (∀ k, k < L.length → _) := fun k hk => hins.get (i := k) hk
      have HC0 : Hid _ := c0
      have HG : Hid (g < w.heap.size) := hg
      have c0' : wr.cell? ⟨g, o + i * 6, none⟩ = some (.slice ia L.length ic) := (hr.out.1.cell (p := ⟨g, o + i * 6, none⟩) hg).trans c0
      clear HB c0 c1 c2 c3 c4 c5 hins hg
      generalize wr = wo at *
      go_wp2
      go_loopw [3, 5] (fun vn vk wr => ∃ (x : Int) (k : Nat), vn = .int .i64 x ∧ vk = .int .i64 k ∧ k ≤ L.length ∧ Hid (Below w.heap.size w wr ∧ Box wr w.heap.size [.string nm, .slice pa pl pc, .int .u8 r, .slice va m vc, .slice aa al ac, .slice (some ⟨g, o, none⟩) n bc])) (fun _ vk _ => L.length - (intOf vk).toNat)
      case atStart => exact ⟨_, 0, rfl, rfl, by omega, hr.out⟩
      case round =>
        obtain ⟨y, k, rfl, rfl, hk, hq⟩ := hrel
        clear e0 e1 e2 e3 e4 e5 c0'
        obtain ⟨e0, e1, e2, e3, e4, e5⟩ := box6 hq.out.2
        have hwl2 := hq.out.2.lt
        have c0' : wr.cell? ⟨g, o + i * 6, none⟩ = some (.slice ia L.length ic) := (hq.out.1.cell (p := ⟨g, o + i * 6, none⟩) HG.out).trans HC0.out
        by_cases hkn : k < L.length
        · have hkn' : (k : Int) < L.length := by omega
          obtain ⟨gi, oi, xv, rfl, hgi, d0, d1, d2, d3, d4, d5, hxa⟩ := HI.out k hkn
          obtain ⟨xa, xc, rfl, _⟩ := hxa.form
          have d3' := (hq.out.1.cell (p := ⟨gi, oi + k * 6 + 3, none⟩) hgi).trans d3
          generalize (L.getD k default).args.length = xn at *
          clear d0 d1 d2 d3 d4 d5 hxa HI hgi
          by_cases hy : y ≤ 2000
          · go_wp2
            go_roundw
            case rel => exact ⟨_, k + 1, rfl, by first | rfl | (congr 1; omega), by omega, hq.out⟩
            case measure => simp [intOf]; omega
          · have hy' : 2000 < y := by omega
            go_wp2
            go_ret
            first | exact ⟨true, rfl, HCT.out, hq.out.1⟩ | exact Or.inr ⟨rfl, HCT.out, hq.out.1⟩
        · obtain rfl : k = L.length := by omega
          clear HI
          by_cases hy : 2000 < y
          · go_wp2
            go_ret
            first | exact ⟨true, rfl, HCT.out, hq.out.1⟩ | exact Or.inr ⟨rfl, HCT.out, hq.out.1⟩
          · go_wp2
            go_roundw
            case rel => exact ⟨y, i + 1, rfl, by first | rfl | (congr 1; omega), by omega, hq.out⟩
            case measure => simp [intOf]; omega
    · obtain rfl : i = n := by omega
      clear HB
      go_wp2
      go_ret
      first | exact ⟨false, rfl, HCF.out HN.out, hr.out.1⟩ | exact Or.inl ⟨rfl, HCF.out HN.out, hr.out.1⟩
end Go.Proofs.YtkgjcjakadofpaaDoor
