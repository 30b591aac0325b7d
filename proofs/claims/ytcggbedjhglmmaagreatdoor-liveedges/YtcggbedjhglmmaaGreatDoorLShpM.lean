/- A graph with copies in the place of calls is right just if it is right by itself; what is known of graphs that are. Plain. -/
import Derived.Test.YtcggbedjhglmmaaGreatDoorGEqX
import Derived.Test.YtcggbedjhglmmaaGreatDoorLStw
namespace Go.Proofs.YtcggbedjhglmmaaGreatDoor

def uncI (x : In) : In := if x.kind = 9 then ⟨3, x.op, x.dst, [x.dst], x.bits, 0⟩ else x
def uncB (b : Bl) : Bl := ⟨b.ins.map uncI, b.tm⟩
def uncG (G : Gr) : Gr := { G with blocks := G.blocks.map uncB }
def callB (nv : Nat) (x : In) : Bool := (x.kind == 9) && (decide (x.ref < 0) || x.args.any fun v => !inB v nv)
def callsB (G : Gr) : Bool := G.blocks.all fun b => b.ins.all fun x => !callB G.vars.length x
theorem uncI_kind (x : In) : (uncI x).kind = 1 ↔ x.kind = 1 := by
  unfold uncI; split
  · rename_i h; rw [h]; simp
  · rfl
theorem uncI_phi {x : In} (h : x.kind = 1) : uncI x = x := by unfold uncI; rw [if_neg (by omega)]
theorem phiR_unc {i na : Nat} : ∀ (l : List In) (k : Nat) (st : List Int), phiR i na (l.map uncI) k st = phiR i na l k st
  | [], _, _ => rfl
  | x :: l, k, st => by
    rw [List.map_cons]
    unfold phiR
    by_cases h : x.kind = 1
    · rw [if_pos ((uncI_kind x).2 h), if_pos h, uncI_phi h, phiR_unc l]
    · rw [if_neg (fun hc => h ((uncI_kind x).1 hc)), if_neg h, phiR_unc l]
theorem phisRF_unc {rows : List (List Int)} : ∀ (l : List Bl) (i : Nat), phisRF rows (l.map uncB) i = phisRF rows l i
  | [], _ => rfl
  | b :: l, i => by
    rw [List.map_cons]
    unfold phisRF
    rw [phisRF_unc l]
    congr 1
    exact phiR_unc b.ins 0 []
theorem aloneR_unc (G : Gr) (x : In) : (!callB G.vars.length x && aloneR (uncG G) (uncI x)) = aloneR G x := by
  have e : ∀ y, aloneR (uncG G) y = aloneR G y := fun y => rfl
  rw [e]
  by_cases h : x.kind = 9
  · obtain ⟨k, op, dst, args, bits, ref⟩ := x
    dsimp only at h
    subst h
    have e2 : uncI ⟨9, op, dst, args, bits, ref⟩ = ⟨3, op, dst, [dst], bits, 0⟩ := rfl
    rw [e2]
    unfold callB aloneR kindR plainB
    dsimp only
    have ha : (!args.any fun v => !inB v G.vars.length) = args.all (inB · G.vars.length) := by
      rw [Bool.eq_iff_iff]
      simp
    have hr : (!decide (ref < 0)) = decide (0 ≤ ref) := by
      rw [Bool.eq_iff_iff]; simp
    simp only [beq_self_eq_true, Bool.true_and, Bool.not_or, ha, hr]
    cases h1 : args.all (inB · G.vars.length) <;> cases h2 : decide (0 ≤ ref) <;> simp_all
  · have e2 : uncI x = x := by unfold uncI; rw [if_neg h]
    have e3 : callB G.vars.length x = false := by unfold callB; rw [beq_false_of_ne h]; rfl
    rw [e2, e3]; rfl
theorem tms_unc (bs : List Bl) : tms (bs.map uncB) = tms bs := by
  unfold tms; rw [List.map_map]; rfl
theorem aloneG_unc (G : Gr) : (callsB G && aloneG (uncG G)) = aloneG G := by
  have hh : headR (uncG G) = headR G := by unfold headR uncG; simp
  have hp : phisR (uncG G) = phisR G := by
    unfold phisR uncG
    dsimp only
    rw [tms_unc, phisRF_unc]
  have hr : ∀ t, rendB (uncG G) t = rendB G t := fun t => by unfold rendB uncG; simp
  have hb : (callsB G && (uncG G).blocks.all (blockR (uncG G))) = G.blocks.all (blockR G) := by
    rw [Bool.eq_iff_iff, Bool.and_eq_true]
    unfold callsB
    simp only [List.all_eq_true, uncG, List.mem_map, forall_exists_index, and_imp, forall_apply_eq_imp_iff₂]
    have key : ∀ b, (∀ x ∈ b.ins, (!callB G.vars.length x) = true) ∧ blockR (uncG G) (uncB b) = true ↔ blockR G b = true := fun b => by
      unfold blockR uncB
      dsimp only
      rw [Bool.and_eq_true, Bool.and_eq_true, hr, List.all_map]
      simp only [List.all_eq_true, Function.comp]
      constructor
      · rintro ⟨h1, h2, h3⟩
        exact ⟨h2, fun x hx => by rw [← aloneR_unc, h1 x hx, h3 x hx]; rfl⟩
      · rintro ⟨h2, h3⟩
        refine ⟨fun x hx => ?_, h2, fun x hx => ?_⟩
        · have := h3 x hx; rw [← aloneR_unc, Bool.and_eq_true] at this; exact this.1
        · have := h3 x hx; rw [← aloneR_unc, Bool.and_eq_true] at this; exact this.2
    constructor
    · rintro ⟨h1, h2⟩ b hb
      exact (key b).1 ⟨h1 b hb, h2 b hb⟩
    · intro h
      exact ⟨fun b hb => ((key b).2 (h b hb)).1, fun b hb => ((key b).2 (h b hb)).2⟩
  unfold aloneG
  rw [hh, hp, ← hb]
  cases headR G <;> cases callsB G <;> simp
def aloneP (G : Gr) : Bool := callsB G && graphB [uncG G] (uncG G)
theorem uncG_nocall (G : Gr) (p : List Gr) : (uncG G).blocks.all (bodyR p (uncG G)) = true := by
  simp only [List.all_eq_true, uncG, List.mem_map, forall_exists_index, and_imp, forall_apply_eq_imp_iff₂]
  intro b _
  unfold bodyR uncB
  simp only [List.all_eq_true, List.mem_map, forall_exists_index, and_imp, forall_apply_eq_imp_iff₂]
  intro x _
  unfold insR
  have : ((uncI x).kind != 9) = true := by
    unfold uncI; split
    · rfl
    · rename_i h; simpa using h
  rw [this]; rfl
theorem alone_same {G : Gr} (hl : ∀ b ∈ G.blocks, ∀ x ∈ b.ins, x.args.length ≤ 140737488355328) : aloneP G = aloneG G := by
  unfold aloneP
  rw [graph_same (p := [uncG G]) (G := uncG G)]
  · unfold rightR
    rw [uncG_nocall, Bool.and_true, aloneG_unc]
  · intro b hb x hx
    simp only [uncG, List.mem_map] at hb
    obtain ⟨b0, hb0, rfl⟩ := hb
    simp only [uncB, List.mem_map] at hx
    obtain ⟨x0, hx0, rfl⟩ := hx
    unfold uncI
    split
    · simp
    · exact hl b0 hb0 x0 hx0
theorem check_one (G : Gr) : checkT [G] = if graphB [G] G = true then (0, 0) else (4, 0) := by
  unfold checkT
  rw [if_neg (by simp)]
  unfold checkF
  split
  · rfl
  · rfl
/- What is known of a graph that is right by itself. -/
theorem alone_ins {G : Gr} (h : aloneG G = true) : ∀ b ∈ G.blocks, rendB G b.tm = true ∧ ∀ x ∈ b.ins, aloneR G x = true := by
  intro b hb
  unfold aloneG at h
  simp only [Bool.and_eq_true] at h
  have h1 := List.all_eq_true.1 h.2.1 b hb
  unfold blockR at h1
  rw [Bool.and_eq_true] at h1
  exact ⟨h1.1, fun x hx => List.all_eq_true.1 h1.2 x hx⟩
theorem rend_next {G : Gr} {t : Tm} (h : rendB G t = true) : ∀ a ∈ nextT t, 0 ≤ a ∧ a < (G.blocks.length : Int) := by
  intro a ha
  rw [next_named] at ha
  unfold namedT at ha
  unfold rendB at h
  by_cases h1 : t.kind = 1
  · rw [if_pos h1] at ha h
    simp at ha; subst ha
    simp only [Bool.and_eq_true, innerB, decide_eq_true_eq] at h
    have := h.1; omega
  · rw [if_neg h1] at ha h
    by_cases h2 : t.kind = 2
    · rw [if_pos h2] at ha h
      simp only [Bool.and_eq_true, innerB, decide_eq_true_eq] at h
      simp at ha
      rcases ha with rfl | rfl
      · have := h.1; omega
      · have := h.2.1; omega
    · rw [if_neg h2] at ha; simp at ha
theorem rend_arg {G : Gr} {t : Tm} (h : rendB G t = true) (hk : t.kind = 2 ∨ t.kind = 3) : 0 ≤ t.arg ∧ t.arg < (G.vars.length : Int) := by
  unfold rendB at h
  rcases hk with hk | hk
  · rw [if_neg (by omega), if_pos hk] at h
    simp only [Bool.and_eq_true] at h
    exact inB_iff.1 h.2.2.1
  · rw [if_neg (by omega), if_neg (by omega), if_pos hk] at h
    simp only [Bool.and_eq_true] at h
    exact inB_iff.1 h.1
theorem blk_mem {bs : List Bl} {i : Nat} (h : i < bs.length) : blk bs i ∈ bs := by
  unfold blk
  rw [List.getD_eq_getElem?_getD, List.getElem?_eq_getElem h]
  exact List.getElem_mem h
theorem phiR_args {i na : Nat} : ∀ (l : List In) (k : Nat) (st : List Int), phiR i na l k st = true → ∀ x ∈ l, x.kind = 1 → x.args.length = na
  | [], _, _, _, x, hx, _ => by simp at hx
  | y :: l, k, st, h, x, hx, hk => by
    unfold phiR at h
    rcases List.mem_cons.1 hx with rfl | hx
    · rw [if_pos hk] at h
      simp only [Bool.and_eq_true, decide_eq_true_eq] at h
      exact h.1.2.2.1
    · split at h
      · rw [Bool.and_eq_true] at h
        exact phiR_args l _ _ h.2 x hx hk
      · exact phiR_args l _ _ h x hx hk
theorem phisRF_at {rows : List (List Int)} : ∀ (bs : List Bl) (i j : Nat), phisRF rows bs i = true → j < bs.length → phiR (i + j) (rows.getD (i + j) []).length (blk bs j).ins 0 [] = true
  | [], _, _, _, hj => by simp at hj
  | b :: bs, i, 0, h, _ => by unfold phisRF at h; rw [Bool.and_eq_true] at h; exact h.1
  | b :: bs, i, j + 1, h, hj => by
    unfold phisRF at h
    rw [Bool.and_eq_true] at h
    have := phisRF_at bs (i + 1) j h.2 (by simpa using hj)
    rw [show i + (j + 1) = i + 1 + j by omega]
    exact this
theorem ahead_mem {bs : List Bl} {i j : Nat} : (i : Int) ∈ (aheadT (tms bs)).getD j [] ↔ (i < bs.length ∧ j < bs.length ∧ (j : Int) ∈ nextT (blk bs i).tm) := by
  have hl : (tms bs).length = bs.length := by simp [tms]
  by_cases hj : j < bs.length
  · rw [mem_ahead (by rw [hl]; exact hj)]
    constructor
    · rintro ⟨k, e, hk, hm⟩
      have : i = k := by omega
      subst this
      rw [hl] at hk
      rw [tms_getD hk] at hm
      exact ⟨hk, hj, hm⟩
    · rintro ⟨hi, _, hm⟩
      exact ⟨i, rfl, by rw [hl]; exact hi, by rw [tms_getD hi]; exact hm⟩
  · constructor
    · intro h
      rw [List.getD_eq_getElem?_getD, List.getElem?_eq_none (by rw [aheadT_len, hl]; omega)] at h
      simp at h
    · rintro ⟨_, h, _⟩; exact absurd h hj
theorem ahead_int {bs : List Bl} {j : Nat} {a : Int} (h : a ∈ (aheadT (tms bs)).getD j []) : 0 ≤ a ∧ a < (bs.length : Int) := by
  have hl : (tms bs).length = bs.length := by simp [tms]
  by_cases hj : j < bs.length
  · rw [mem_ahead (by rw [hl]; exact hj)] at h
    obtain ⟨k, e, hk, _⟩ := h
    rw [hl] at hk
    omega
  · rw [List.getD_eq_getElem?_getD, List.getElem?_eq_none (by rw [aheadT_len, hl]; omega)] at h
    simp at h
theorem nx_mem {G : Gr} (h : aloneG G = true) {i j : Nat} : (i : Int) ∈ (aheadT (tms G.blocks)).getD j [] ↔ j ∈ nxB G.blocks i := by
  rw [ahead_mem]
  unfold nxB
  by_cases hi : i < G.blocks.length
  · have hr := rend_next (alone_ins h _ (blk_mem hi)).1
    rw [List.mem_map]
    constructor
    · rintro ⟨_, _, hm⟩; exact ⟨_, hm, by simp⟩
    · rintro ⟨a, ha, e⟩
      have := hr a ha
      have e2 : a = (j : Int) := by omega
      subst e2
      exact ⟨hi, by omega, ha⟩
  · have e : nextT (blk G.blocks i).tm = [] := by
      unfold blk
      rw [List.getD_eq_getElem?_getD, List.getElem?_eq_none (by omega)]
      rfl
    rw [e]; simp [hi]
theorem nx_lt {G : Gr} (h : aloneG G = true) {i j : Nat} (hj : j ∈ nxB G.blocks i) : i < G.blocks.length ∧ j < G.blocks.length := by
  have := ahead_mem.1 ((nx_mem h).2 hj)
  exact ⟨this.1, this.2.1⟩
theorem ahead_len {bs : List Bl} (j : Nat) : ((aheadT (tms bs)).getD j []).length ≤ 2 * bs.length := by
  have hl : (tms bs).length = bs.length := by simp [tms]
  have h1 := lens_ahead (tms bs)
  have h2 := edgesF_le (tms bs).length (tms bs)
  by_cases hj : j < bs.length
  · have hm : (aheadT (tms bs)).getD j [] ∈ aheadT (tms bs) := by
      rw [List.getD_eq_getElem?_getD, List.getElem?_eq_getElem (by rw [aheadT_len, hl]; exact hj)]
      exact List.getElem_mem _
    have := lens_mem hm
    omega
  · rw [List.getD_eq_getElem?_getD, List.getElem?_eq_none (by rw [aheadT_len, hl]; omega)]
    simp
theorem stp_ok {G : Gr} (h : aloneG G = true) (hsz : szB G.blocks ≤ 300000) : StpOk G.blocks (aheadT (tms G.blocks)) G.vars.length ∨ ¬ (G.vars.length ≤ 1000000) := by
  by_cases hv : G.vars.length ≤ 1000000
  · left
    have hn := szB_len G.blocks
    refine ⟨⟨fun i hi x hx => ⟨fun a ha => ?_, fun hs => ?_⟩, fun i hi hk => rend_arg (alone_ins h _ (blk_mem hi)).1 hk, fun i a ha => ahead_int ha⟩, fun i hi x hx hk => ?_, by omega, hv, fun j => Nat.le_trans (ahead_len j) (by omega)⟩
    · have := aloneR_args ((alone_ins h _ (blk_mem hi)).2 x hx)
      exact inB_iff.1 (List.all_eq_true.1 this a ha)
    · have ha := (alone_ins h _ (blk_mem hi)).2 x hx
      refine inB_iff.1 (aloneR_dst ha ?_)
      have hk1 : 1 ≤ x.kind ∧ x.kind ≤ 10 := by
        unfold aloneR at ha
        simp only [Bool.and_eq_true, decide_eq_true_eq] at ha
        exact ⟨ha.1, ha.2.1⟩
      unfold setsI at hs
      simp only [Bool.and_eq_true, bne_iff_ne] at hs
      omega
    · unfold aloneG phisR at h
      simp only [Bool.and_eq_true] at h
      have := phisRF_at G.blocks 0 i h.2.2 hi
      rw [Nat.zero_add] at this
      exact phiR_args _ _ _ this x hx hk
  · exact .inr hv
end Go.Proofs.YtcggbedjhglmmaaGreatDoor
/- Small parts of 'right by itself': calls, what contains one, copies of rows. -/
namespace Go.Proofs.YtcggbedjhglmmaaGreatDoor
open Go.RowKit

set_option maxRecDepth 100000 in
theorem isCall_any (x : In) (av : Value) (w : World) : Calls Tryz.prog 66 #[inV x av] w fun e w' => e = .returned (.bool (x.kind == 9)) ∧ Below w.heap.size w w' := by
  obtain ⟨k, op, dst, args, bits, ref⟩ := x
  unfold inV
  dsimp only
  go_enter Tryz.func66, Tryz.ntmps66
  go_wp2
  go_ret
  exact ⟨rfl, below_alloc (Below.refl _ _) _⟩
set_option maxRecDepth 100000 in
theorem isNone_any (v : Int) (B n c : Nat) (va : Option Addr) (W : World) (h : W.cell? ⟨B, 3, none⟩ = some (.slice va n c)) : Calls Tryz.prog 65 #[.int .i64 v, ptr B] W fun e w' => e = .returned (.bool (!inB v n)) ∧ w' = W := by
  obtain ⟨R, hR⟩ : ∃ R, R = (!inB v n) := ⟨_, rfl⟩
  rw [← hR]
  by_cases h0 : v < 0
  · have HR : Hid (R = true) := by show _ = _; rw [hR]; unfold inB; rw [decide_eq_false (by omega)]; rfl
    clear hR
    go_enter Tryz.func65, Tryz.ntmps65
    go_wp2
    go_ret
    exact ⟨ret_bool HR.out.symm, rfl⟩
  · by_cases h1 : (n : Int) ≤ v
    · have HR : Hid (R = true) := by show _ = _; rw [hR]; unfold inB; rw [decide_eq_false (by omega)]; rfl
      clear hR
      go_enter Tryz.func65, Tryz.ntmps65
      go_wp2
      go_ret
      exact ⟨ret_bool HR.out.symm, rfl⟩
    · have HR : Hid (R = false) := by show _ = _; rw [hR]; unfold inB; rw [decide_eq_true (by omega)]; rfl
      clear hR
      go_enter Tryz.func65, Tryz.ntmps65
      go_wp2
      go_ret
      exact ⟨ret_bool HR.out.symm, rfl⟩
theorem any_drop {α : Type} {l : List α} {d : α} {k : Nat} (h : k < l.length) (p : α → Bool) : (l.drop k).any p = (p (l.getD k d) || (l.drop (k + 1)).any p) := by
  rw [List.drop_eq_getElem_cons h, List.any_cons]
  simp [List.getElem?_eq_getElem h]
set_option maxRecDepth 100000 in
set_option maxHeartbeats 1000000 in
theorem idxI_any {w : World} {v : Value} {l : List Int} (h : IntsAt w v l) (hl : l.length ≤ 1000000) (B n c : Nat) (va : Option Addr) (hc : w.cell? ⟨B, 3, none⟩ = some (.slice va n c)) :
    Calls Tryz.prog 93 #[v, .func (.func 65) #[] #[ptr B]] w fun e w' => (∃ r : Int, e = .returned (.int .i64 r) ∧ decide (0 ≤ r) = l.any fun x => !inB x n) ∧ w' = w := by
  obtain ⟨a, cc, rfl, _⟩ := h.form
  have HG : Hid (∀ i, i < l.length → _) := fun i hi => h.get (i := i) hi
  have HC : Hid (∀ x : Int, Calls Tryz.prog 65 #[.int .i64 x, ptr B] w fun e w' => e = .returned (.bool (!inB x n)) ∧ w' = w) := fun x => isNone_any x B n c va w hc
  obtain ⟨R, hR⟩ : ∃ R, R = l.any fun x => !inB x n := ⟨_, rfl⟩
  rw [← hR]
  have HR : Hid (((l.drop 0).any fun x => !inB x n) = R) := by show _ = _; rw [List.drop_zero, hR]
  have hlb : (l.length : Int) ≤ 1000000 := by omega
  clear h hl hR hc
  generalize hll : l.length = ll at *
  have HLL : Hid (l.length = ll) := hll
  clear hll
  go_enter Tryz.func93, Tryz.ntmps93
  go_wp2
  go_loopw [8] (fun vk wr => ∃ k : Nat, vk = .int .i64 k ∧ k ≤ ll ∧ wr = w ∧ Hid (((l.drop k).any fun x => !inB x n) = R)) (fun vk _ => ll - (intOf vk).toNat)
  case atStart => exact ⟨0, rfl, by omega, rfl, HR.out⟩
  case round =>
    obtain ⟨k, rfl, hk, rfl, hr⟩ := hrel
    clear HR
    by_cases hkn : k < ll
    · have hkn' : (k : Int) < ll := by omega
      have hkl : k < l.length := by rw [HLL.out]; exact hkn
      obtain ⟨g, o, rfl, _, cx⟩ := HG.out k hkn
      have hd := any_drop (d := 0) hkl (fun x => !inB x n)
      rw [hr.out] at hd
      have hC := HC.out (l.getD k 0)
      have HD : Hid _ := hd
      generalize l.getD k 0 = x at *
      clear hd
      cases hb : inB x n with
      | true =>
        rw [hb] at hC HD
        have HCC : Hid _ := hC
        clear hC
        go_wp2_with (go_at_call 65; refine Calls.mono (by exact HCC.out) ?_; rintro e wx ⟨rfl, hwx⟩; subst wx)
        go_roundw
        case rel => exact ⟨k + 1, by first | rfl | (congr 1; omega), by omega, by first | rfl | trivial, show _ = _ from by have h9 := HD.out; simpa using h9.symm⟩
        case measure => simp [intOf]; omega
      | false =>
        rw [hb] at hC HD
        have HCC : Hid _ := hC
        clear hC
        go_wp2_with (go_at_call 65; refine Calls.mono (by exact HCC.out) ?_; rintro e wx ⟨rfl, hwx⟩; subst wx)
        go_ret
        have h8 : R = true := by have h9 := HD.out; simpa using h9
        exact ⟨⟨(k : Int), rfl, by rw [h8]; exact decide_eq_true (by omega)⟩, rfl⟩
    · obtain rfl : k = ll := by omega
      have h8 : R = false := by have h9 := hr.out; rw [← HLL.out, List.drop_length] at h9; exact h9.symm
      have H8 : Hid _ := h8
      clear h8
      go_wp2
      go_ret
      exact ⟨⟨-1, rfl, by rw [H8.out]; rfl⟩, rfl⟩
set_option maxRecDepth 100000 in
theorem anyI_any {w : World} {v : Value} {l : List Int} (h : IntsAt w v l) (hl : l.length ≤ 1000000) (B n c : Nat) (va : Option Addr) (hc : w.cell? ⟨B, 3, none⟩ = some (.slice va n c)) :
    Calls Tryz.prog 67 #[v, .func (.func 65) #[] #[ptr B]] w fun e w' => e = .returned (.bool (l.any fun x => !inB x n)) ∧ w' = w := by
  have HI : Hid _ := idxI_any h hl B n c va hc
  obtain ⟨a, cc, rfl, _⟩ := h.form
  clear h hl hc
  generalize l.length = ll at *
  generalize (l.any fun x => !inB x n) = R at *
  go_enter Tryz.func67, Tryz.ntmps67
  go_wp2_with (go_at_call 93; go_loud (refine Calls.mono (by exact HI.out) ?_; rintro e wx ⟨⟨r, rfl, hr⟩, hwx⟩; subst wx; have HR : Hid _ := hr; clear hr))
  go_ret
  exact ⟨ret_bool HR.out, rfl⟩
set_option maxRecDepth 100000 in
set_option maxHeartbeats 1000000 in
theorem idxN_any {w : World} {v : Value} {l : List In} (h : InsAt w v l) (hl : l.length ≤ 1000000) :
    Calls Tryz.prog 94 #[v, .func (.func 66) #[] #[]] w fun e w' => (∃ r : Int, e = .returned (.int .i64 r) ∧ decide (0 ≤ r) = l.any fun x => x.kind == 9) ∧ Below w.heap.size w w' := by
  obtain ⟨a, cc, rfl, _⟩ := h.form
  have HG : Hid (∀ i, i < l.length → _) := fun i hi => h.get (i := i) hi
  have HC : Hid (∀ (x : In) (av : Value) (W : World), Calls Tryz.prog 66 #[.agg #[.int .u8 x.kind, .int .u8 x.op, .int .i64 x.dst, av, .int .u64 x.bits, .int .i64 x.ref]] W fun e w' => e = .returned (.bool (x.kind == 9)) ∧ Below W.heap.size W w') := fun x av W => isCall_any x av W
  obtain ⟨R, hR⟩ : ∃ R, R = l.any fun x => x.kind == 9 := ⟨_, rfl⟩
  rw [← hR]
  have HR : Hid (((l.drop 0).any fun x => x.kind == 9) = R) := by show _ = _; rw [List.drop_zero, hR]
  have hlb : (l.length : Int) ≤ 1000000 := by omega
  clear h hl hR
  generalize hll : l.length = ll at *
  have HLL : Hid (l.length = ll) := hll
  clear hll
  go_enter Tryz.func94, Tryz.ntmps94
  go_wp2
  go_loopw [8] (fun vk wr => ∃ k : Nat, vk = .int .i64 k ∧ k ≤ ll ∧ Hid (((l.drop k).any fun x => x.kind == 9) = R ∧ Below w.heap.size w wr)) (fun vk _ => ll - (intOf vk).toNat)
  case atStart => exact ⟨0, rfl, by omega, HR.out, Below.refl _ _⟩
  case round =>
    obtain ⟨k, rfl, hk, hr⟩ := hrel
    clear HR
    by_cases hkn : k < ll
    · have hkn' : (k : Int) < ll := by omega
      have hkl : k < l.length := by rw [HLL.out]; exact hkn
      obtain ⟨g, o, xv, rfl, hg, c0, c1, c2, c3, c4, c5, hxa⟩ := HG.out k hkn
      have hcl : ∀ j, wr.cell? ⟨g, j, none⟩ = w.cell? ⟨g, j, none⟩ := fun j => hr.out.2.cell (p := ⟨g, j, none⟩) hg
      rw [← hcl] at c0 c1 c2 c3 c4 c5
      have hd := any_drop (d := default) hkl (fun x : In => x.kind == 9)
      rw [hr.out.1] at hd
      have hC := HC.out (l.getD k default) xv
      obtain ⟨xa, xc, rfl, _⟩ := hxa.form
      have HD : Hid _ := hd
      have HB : Hid _ := hr.out.2
      generalize (l.getD k default).args.length = xn at *
      clear hd hxa hcl hr
      generalize l.getD k default = x at *
      obtain ⟨xk, xo, xd, xar, xb, xr⟩ := x
      dsimp only at *
      cases hb : (xk == 9) with
      | false =>
        rw [hb] at hC HD
        have HCC : Hid _ := hC
        clear hC hb
        go_wp2_with (go_at_call 66; refine Calls.mono (by exact HCC.out _) ?_; rintro e wx ⟨rfl, hwx⟩; have HW : Hid _ := hwx; clear hwx)
        go_roundw
        case rel => exact ⟨k + 1, by first | rfl | (congr 1; omega), by omega, by have h9 := HD.out; simpa using h9.symm, below_trans HB.out HW.out⟩
        case measure => simp [intOf]; omega
      | true =>
        rw [hb] at hC HD
        have HCC : Hid _ := hC
        clear hC hb
        go_wp2_with (go_at_call 66; refine Calls.mono (by exact HCC.out _) ?_; rintro e wx ⟨rfl, hwx⟩; have HW : Hid _ := hwx; clear hwx)
        go_ret
        have h8 : R = true := by have h9 := HD.out; simpa using h9
        exact ⟨⟨(k : Int), rfl, by rw [h8]; exact decide_eq_true (by omega)⟩, below_trans HB.out HW.out⟩
    · obtain rfl : k = ll := by omega
      have h8 : R = false := by have h9 := hr.out.1; rw [← HLL.out, List.drop_length] at h9; exact h9.symm
      have H8 : Hid _ := h8
      clear h8
      go_wp2
      go_ret
      exact ⟨⟨-1, rfl, by rw [H8.out]; rfl⟩, hr.out.2⟩
set_option maxRecDepth 100000 in
theorem anyN_any {w : World} {v : Value} {l : List In} (h : InsAt w v l) (hl : l.length ≤ 1000000) :
    Calls Tryz.prog 69 #[v, .func (.func 66) #[] #[]] w fun e w' => e = .returned (.bool (l.any fun x => x.kind == 9)) ∧ Below w.heap.size w w' := by
  have HI : Hid _ := idxN_any h hl
  obtain ⟨a, cc, rfl, _⟩ := h.form
  clear h hl
  generalize l.length = ll at *
  generalize (l.any fun x : In => x.kind == 9) = R at *
  go_enter Tryz.func69, Tryz.ntmps69
  go_wp2_with (go_at_call 94; go_loud (refine Calls.mono (by exact HI.out) ?_; rintro e wx ⟨⟨r, rfl, hr⟩, hwx⟩; have HR : Hid _ := hr; have HW : Hid _ := hwx; clear hr hwx))
  go_ret
  exact ⟨ret_bool HR.out, HW.out⟩
end Go.Proofs.YtcggbedjhglmmaaGreatDoor
