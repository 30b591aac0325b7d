/- A graph with copies in the place of calls is right just if it is right by itself; what is known of graphs that are. Plain. -/
import Derived.Test.YtajaijilfclhpaaGreatDoorGEqX
import Derived.Test.YtajaijilfclhpaaGreatDoorGCp0M
namespace Go.Proofs.YtajaijilfclhpaaGreatDoor

def uncI (x : In) : In := if x.kind = 9 then ⟨3, x.op, x.dst, [x.dst], x.bits, 0⟩ else x
def uncB (b : Bl) : Bl := ⟨b.ins.map uncI, b.tm⟩
def uncG (G : Gr) : Gr := { G with blocks := G.blocks.map uncB }
def callB (nv : Nat) (x : In) : Bool := (x.kind == 9) && (decide (x.ref < 0) || x.args.any fun v => !inB v nv)
def callsB (G : Gr) : Bool := G.blocks.all fun b => b.ins.all fun x => !callB G.vars.length x
theorem uncI_kind (x : In) : (uncI x).kind = 1 ↔ x.kind = 1 := by
 unfold uncI; split
 ·rename_i h; rw [h]; simp
 ·rfl
theorem uncI_phi {x : In} (h : x.kind = 1) : uncI x = x := by unfold uncI; rw [if_neg (by omega)]
theorem phiR_unc {i na : Nat} : ∀ (l : List In) (k : Nat) (st : List Int), phiR i na (l.map uncI) k st = phiR i na l k st
 | [], _, _ => rfl
 | x :: l, k, st => by
  rw [List.map_cons]
  unfold phiR
  by_cases h : x.kind = 1
  ·rw [if_pos ((uncI_kind x).2 h), if_pos h, uncI_phi h, phiR_unc l]
  ·rw [if_neg (fun hc => h ((uncI_kind x).1 hc)), if_neg h, phiR_unc l]
theorem phisRF_unc {rows : List (List Int)} : ∀ (l : List Bl) (i : Nat), phisRF rows (l.map uncB) i = phisRF rows l i
 | [], _ => rfl
 | b :: l, i => by
  rw [List.map_cons]
  unfold phisRF
  rw [phisRF_unc l]
  congr 1
  exact phiR_unc b.ins 0 []
theorem aloneR_unc (G : Gr) (x : In) : (!callB G.vars.length x && aloneR (uncG G) (uncI x)) = aloneR G x := by
 have e : ∀ y, aloneR (uncG G) y = aloneR G y := fun y => rfl
 rw [e]
 by_cases h : x.kind = 9
 ·obtain ⟨k, op, dst, args, bits, ref⟩ := x
  dsimp only at h
  subst h
  have e2 : uncI ⟨9, op, dst, args, bits, ref⟩ = ⟨3, op, dst, [dst], bits, 0⟩ := rfl
  rw [e2]
  unfold callB aloneR kindR plainB
  dsimp only
  have ha : (!args.any fun v => !inB v G.vars.length) = args.all (inB · G.vars.length) := by
   rw [Bool.eq_iff_iff]
   simp
  have hr : (!decide (ref < 0)) = decide (0 ≤ ref) := by
   rw [Bool.eq_iff_iff]; simp
  simp only [beq_self_eq_true, Bool.true_and, Bool.not_or, ha, hr]
  cases h1 : args.all (inB · G.vars.length) <;> cases h2 : decide (0 ≤ ref) <;> simp_all
 ·have e2 : uncI x = x := by unfold uncI; rw [if_neg h]
  have e3 : callB G.vars.length x = false := by unfold callB; rw [beq_false_of_ne h]; rfl
  rw [e2, e3]; rfl
theorem tms_unc (bs : List Bl) : tms (bs.map uncB) = tms bs := by
 unfold tms; rw [List.map_map]; rfl
theorem aloneG_unc (G : Gr) : (callsB G && aloneG (uncG G)) = aloneG G := by
 have hh : headR (uncG G) = headR G := by unfold headR uncG; simp
 have hp : phisR (uncG G) = phisR G := by
  unfold phisR uncG
  dsimp only
  rw [tms_unc, phisRF_unc]
 have hr : ∀ t, rendB (uncG G) t = rendB G t := fun t => by unfold rendB uncG; simp
 have hb : (callsB G && (uncG G).blocks.all (blockR (uncG G))) = G.blocks.all (blockR G) := by
  rw [Bool.eq_iff_iff, Bool.and_eq_true]
  unfold callsB
  simp only [List.all_eq_true, uncG, List.mem_map, forall_exists_index, and_imp, forall_apply_eq_imp_iff₂]
  have key : ∀ b, (∀ x ∈ b.ins, (!callB G.vars.length x) = true) ∧ blockR (uncG G) (uncB b) = true ↔ blockR G b = true := fun b => by
   unfold blockR uncB
   dsimp only
   rw [Bool.and_eq_true, Bool.and_eq_true, hr, List.all_map]
   simp only [List.all_eq_true, Function.comp]
   constructor
   ·rintro ⟨h1, h2, h3⟩
    exact ⟨h2, fun x hx => by rw [← aloneR_unc, h1 x hx, h3 x hx]; rfl⟩
   ·rintro ⟨h2, h3⟩
    refine ⟨fun x hx => ?_, h2, fun x hx => ?_⟩
    ·have := h3 x hx; rw [← aloneR_unc, Bool.and_eq_true] at this; exact this.1
    ·have := h3 x hx; rw [← aloneR_unc, Bool.and_eq_true] at this; exact this.2
  constructor
  ·rintro ⟨h1, h2⟩ b hb
   exact (key b).1 ⟨h1 b hb, h2 b hb⟩
  ·intro h
   exact ⟨fun b hb => ((key b).2 (h b hb)).1, fun b hb => ((key b).2 (h b hb)).2⟩
 unfold aloneG
 rw [hh, hp, ← hb]
 cases headR G <;> cases callsB G <;> simp
def aloneP (G : Gr) : Bool := callsB G && graphB [uncG G] (uncG G)
theorem uncG_nocall (G : Gr) (p : List Gr) : (uncG G).blocks.all (bodyR p (uncG G)) = true := by
 simp only [List.all_eq_true, uncG, List.mem_map, forall_exists_index, and_imp, forall_apply_eq_imp_iff₂]
 intro b _
 unfold bodyR uncB
 simp only [List.all_eq_true, List.mem_map, forall_exists_index, and_imp, forall_apply_eq_imp_iff₂]
 intro x _
 unfold insR
 have : ((uncI x).kind != 9) = true := by
  unfold uncI; split
  ·rfl
  ·rename_i h; simpa using h
 rw [this]; rfl
theorem alone_same {G : Gr} (hl : ∀ b ∈ G.blocks, ∀ x ∈ b.ins, x.args.length ≤ 140737488355328) : aloneP G = aloneG G := by
 unfold aloneP
 rw [graph_same (p := [uncG G]) (G := uncG G)]
 ·unfold rightR
  rw [uncG_nocall, Bool.and_true, aloneG_unc]
 ·intro b hb x hx
  simp only [uncG, List.mem_map] at hb
  obtain ⟨b0, hb0, rfl⟩ := hb
  simp only [uncB, List.mem_map] at hx
  obtain ⟨x0, hx0, rfl⟩ := hx
  unfold uncI
  split
  ·simp
  ·exact hl b0 hb0 x0 hx0
theorem check_one (G : Gr) : checkT [G] = if graphB [G] G = true then (0, 0) else (4, 0) := by
 unfold checkT
 rw [if_neg (by simp)]
 unfold checkF
 split
 ·rfl
 ·rfl
end Go.Proofs.YtajaijilfclhpaaGreatDoor
/- Small parts of 'right by itself': calls, what contains one, copies of rows. -/
namespace Go.Proofs.YtajaijilfclhpaaGreatDoor
open Go.RowKit

set_option maxRecDepth 100000 in
theorem isCall_any (x : In) (av : Value) (w : World) : Calls Tryz.prog 108 #[inV x av] w fun e w' => e = .returned (.bool (x.kind == 9)) ∧ Below w.heap.size w w' := by
 obtain ⟨k, op, dst, args, bits, ref⟩ := x
 unfold inV
 dsimp only
 go_enter Tryz.func108, Tryz.ntmps108
 go_wp2
 go_ret
 exact ⟨rfl, below_alloc (Below.refl _ _) _⟩
set_option maxRecDepth 100000 in
theorem isNone_any (v : Int) (B n c : Nat) (va : Option Addr) (W : World) (h : W.cell? ⟨B, 3, none⟩ = some (.slice va n c)) : Calls Tryz.prog 107 #[.int .i64 v, ptr B] W fun e w' => e = .returned (.bool (!inB v n)) ∧ w' = W := by
 obtain ⟨R, hR⟩ : ∃ R, R = (!inB v n) := ⟨_, rfl⟩
 rw [← hR]
 by_cases h0 : v < 0
 ·have HR : Hid (R = true) := by show _ = _; rw [hR]; unfold inB; rw [decide_eq_false (by omega)]; rfl
  clear hR
  go_enter Tryz.func107, Tryz.ntmps107
  go_wp2
  go_ret
  exact ⟨ret_bool HR.out.symm, rfl⟩
 ·by_cases h1 : (n : Int) ≤ v
  ·have HR : Hid (R = true) := by show _ = _; rw [hR]; unfold inB; rw [decide_eq_false (by omega)]; rfl
   clear hR
   go_enter Tryz.func107, Tryz.ntmps107
   go_wp2
   go_ret
   exact ⟨ret_bool HR.out.symm, rfl⟩
  ·have HR : Hid (R = false) := by show _ = _; rw [hR]; unfold inB; rw [decide_eq_true (by omega)]; rfl
   clear hR
   go_enter Tryz.func107, Tryz.ntmps107
   go_wp2
   go_ret
   exact ⟨ret_bool HR.out.symm, rfl⟩
theorem any_drop {α : Type} {l : List α} {d : α} {k : Nat} (h : k < l.length) (p : α → Bool) : (l.drop k).any p = (p (l.getD k d) || (l.drop (k + 1)).any p) := by
 rw [List.drop_eq_getElem_cons h, List.any_cons]
 simp [List.getElem?_eq_getElem h]
set_option maxRecDepth 100000 in
set_option maxHeartbeats 1000000 in
theorem idxI_any {w : World} {v : Value} {l : List Int} (h : IntsAt w v l) (hl : l.length ≤ 140737488355328) (B n c : Nat) (va : Option Addr) (hc : w.cell? ⟨B, 3, none⟩ = some (.slice va n c)) :
  Calls Tryz.prog 164 #[v, .func (.func 107) #[] #[ptr B]] w fun e w' => (∃ r : Int, e = .returned (.int .i64 r) ∧ decide (0 ≤ r) = l.any fun x => !inB x n) ∧ w' = w := by
 obtain ⟨a, cc, rfl, _⟩ := h.form
 have HG : Hid (∀ i, i < l.length → _) := fun i hi => h.get (i := i) hi
 have HC : Hid (∀ x : Int, Calls Tryz.prog 107 #[.int .i64 x, ptr B] w fun e w' => e = .returned (.bool (!inB x n)) ∧ w' = w) := fun x => isNone_any x B n c va w hc
 obtain ⟨R, hR⟩ : ∃ R, R = l.any fun x => !inB x n := ⟨_, rfl⟩
 rw [← hR]
 have HR : Hid (((l.drop 0).any fun x => !inB x n) = R) := by show _ = _; rw [List.drop_zero, hR]
 have hlb : (l.length : Int) ≤ 140737488355328 := by omega
 clear h hl hR hc
 generalize hll : l.length = ll at *
 have HLL : Hid (l.length = ll) := hll
 clear hll
 go_enter Tryz.func164, Tryz.ntmps164
 go_wp2
 go_loopw [8] (fun vk wr => ∃ k : Nat, vk = .int .i64 k ∧ k ≤ ll ∧ wr = w ∧ Hid (((l.drop k).any fun x => !inB x n) = R)) (fun vk _ => ll - (intOf vk).toNat)
 case atStart => exact ⟨0, rfl, by omega, rfl, HR.out⟩
 case round =>
  obtain ⟨k, rfl, hk, rfl, hr⟩ := hrel
  clear HR
  by_cases hkn : k < ll
  ·have hkn' : (k : Int) < ll := by omega
   have hkl : k < l.length := by rw [HLL.out]; exact hkn
   obtain ⟨g, o, rfl, _, cx⟩ := HG.out k hkn
   have hd := any_drop (d := 0) hkl (fun x => !inB x n)
   rw [hr.out] at hd
   have hC := HC.out (l.getD k 0)
   have HD : Hid _ := hd
   generalize l.getD k 0 = x at *
   clear hd
   cases hb : inB x n with
   | true =>
    rw [hb] at hC HD
    have HCC : Hid _ := hC
    clear hC
    go_wp2_with (go_at_call 107; refine Calls.mono (by exact HCC.out) ?_; rintro e wx ⟨rfl, hwx⟩; subst wx)
    go_roundw
    case rel => exact ⟨k + 1, by first | rfl | (congr 1; omega), by omega, by first | rfl | trivial, show _ = _ from by have h9 := HD.out; simpa using h9.symm⟩
    case measure => simp [intOf]; omega
   | false =>
    rw [hb] at hC HD
    have HCC : Hid _ := hC
    clear hC
    go_wp2_with (go_at_call 107; refine Calls.mono (by exact HCC.out) ?_; rintro e wx ⟨rfl, hwx⟩; subst wx)
    go_ret
    have h8 : R = true := by have h9 := HD.out; simpa using h9
    exact ⟨⟨(k : Int), rfl, by rw [h8]; exact decide_eq_true (by omega)⟩, rfl⟩
  ·obtain rfl : k = ll := by omega
   have h8 : R = false := by have h9 := hr.out; rw [← HLL.out, List.drop_length] at h9; exact h9.symm
   have H8 : Hid _ := h8
   clear h8
   go_wp2
   go_ret
   exact ⟨⟨-1, rfl, by rw [H8.out]; rfl⟩, rfl⟩
set_option maxRecDepth 100000 in
theorem anyI_any {w : World} {v : Value} {l : List Int} (h : IntsAt w v l) (hl : l.length ≤ 140737488355328) (B n c : Nat) (va : Option Addr) (hc : w.cell? ⟨B, 3, none⟩ = some (.slice va n c)) :
  Calls Tryz.prog 109 #[v, .func (.func 107) #[] #[ptr B]] w fun e w' => e = .returned (.bool (l.any fun x => !inB x n)) ∧ w' = w := by
 have HI : Hid _ := idxI_any h hl B n c va hc
 obtain ⟨a, cc, rfl, _⟩ := h.form
 clear h hl hc
 generalize l.length = ll at *
 generalize (l.any fun x => !inB x n) = R at *
 go_enter Tryz.func109, Tryz.ntmps109
 go_wp2_with (go_at_call 164; go_loud (refine Calls.mono (by exact HI.out) ?_; rintro e wx ⟨⟨r, rfl, hr⟩, hwx⟩; subst wx; have HR : Hid _ := hr; clear hr))
 go_ret
 exact ⟨ret_bool HR.out, rfl⟩
set_option maxRecDepth 100000 in
set_option maxHeartbeats 1000000 in
theorem idxN_any {w : World} {v : Value} {l : List In} (h : InsAt w v l) (hl : l.length ≤ 1000000) :
  Calls Tryz.prog 165 #[v, .func (.func 108) #[] #[]] w fun e w' => (∃ r : Int, e = .returned (.int .i64 r) ∧ decide (0 ≤ r) = l.any fun x => x.kind == 9) ∧ Below w.heap.size w w' := by
 obtain ⟨a, cc, rfl, _⟩ := h.form
 have HG : Hid (∀ i, i < l.length → _) := fun i hi => h.get (i := i) hi
 have HC : Hid (∀ (x : In) (av : Value) (W : World), Calls Tryz.prog 108 #[.agg #[.int .u8 x.kind, .int .u8 x.op, .int .i64 x.dst, av, .int .u64 x.bits, .int .i64 x.ref]] W fun e w' => e = .returned (.bool (x.kind == 9)) ∧ Below W.heap.size W w') := fun x av W => isCall_any x av W
 obtain ⟨R, hR⟩ : ∃ R, R = l.any fun x => x.kind == 9 := ⟨_, rfl⟩
 rw [← hR]
 have HR : Hid (((l.drop 0).any fun x => x.kind == 9) = R) := by show _ = _; rw [List.drop_zero, hR]
 have hlb : (l.length : Int) ≤ 1000000 := by omega
 clear h hl hR
 generalize hll : l.length = ll at *
 have HLL : Hid (l.length = ll) := hll
 clear hll
 go_enter Tryz.func165, Tryz.ntmps165
 go_wp2
 go_loopw [8] (fun vk wr => ∃ k : Nat, vk = .int .i64 k ∧ k ≤ ll ∧ Hid (((l.drop k).any fun x => x.kind == 9) = R ∧ Below w.heap.size w wr)) (fun vk _ => ll - (intOf vk).toNat)
 case atStart => exact ⟨0, rfl, by omega, HR.out, Below.refl _ _⟩
 case round =>
  obtain ⟨k, rfl, hk, hr⟩ := hrel
  clear HR
  by_cases hkn : k < ll
  ·have hkn' : (k : Int) < ll := by omega
   have hkl : k < l.length := by rw [HLL.out]; exact hkn
   obtain ⟨g, o, xv, rfl, hg, c0, c1, c2, c3, c4, c5, hxa⟩ := HG.out k hkn
   have hcl : ∀ j, wr.cell? ⟨g, j, none⟩ = w.cell? ⟨g, j, none⟩ := fun j => hr.out.2.cell (p := ⟨g, j, none⟩) hg
   rw [← hcl] at c0 c1 c2 c3 c4 c5
   have hd := any_drop (d := default) hkl (fun x : In => x.kind == 9)
   rw [hr.out.1] at hd
   have hC := HC.out (l.getD k default) xv
   obtain ⟨xa, xc, rfl, _⟩ := hxa.form
   have HD : Hid _ := hd
   have HB : Hid _ := hr.out.2
   generalize (l.getD k default).args.length = xn at *
   clear hd hxa hcl hr
   generalize l.getD k default = x at *
   obtain ⟨xk, xo, xd, xar, xb, xr⟩ := x
   dsimp only at *
   cases hb : (xk == 9) with
   | false =>
    rw [hb] at hC HD
    have HCC : Hid _ := hC
    clear hC hb
    go_wp2_with (go_at_call 108; refine Calls.mono (by exact HCC.out _) ?_; rintro e wx ⟨rfl, hwx⟩; have HW : Hid _ := hwx; clear hwx)
    go_roundw
    case rel => exact ⟨k + 1, by first | rfl | (congr 1; omega), by omega, by have h9 := HD.out; simpa using h9.symm, below_trans HB.out HW.out⟩
    case measure => simp [intOf]; omega
   | true =>
    rw [hb] at hC HD
    have HCC : Hid _ := hC
    clear hC hb
    go_wp2_with (go_at_call 108; refine Calls.mono (by exact HCC.out _) ?_; rintro e wx ⟨rfl, hwx⟩; have HW : Hid _ := hwx; clear hwx)
    go_ret
    have h8 : R = true := by have h9 := HD.out; simpa using h9
    exact ⟨⟨(k : Int), rfl, by rw [h8]; exact decide_eq_true (by omega)⟩, below_trans HB.out HW.out⟩
  ·obtain rfl : k = ll := by omega
   have h8 : R = false := by have h9 := hr.out.1; rw [← HLL.out, List.drop_length] at h9; exact h9.symm
   have H8 : Hid _ := h8
   clear h8
   go_wp2
   go_ret
   exact ⟨⟨-1, rfl, by rw [H8.out]; rfl⟩, hr.out.2⟩
set_option maxRecDepth 100000 in
theorem anyN_any {w : World} {v : Value} {l : List In} (h : InsAt w v l) (hl : l.length ≤ 1000000) :
  Calls Tryz.prog 111 #[v, .func (.func 108) #[] #[]] w fun e w' => e = .returned (.bool (l.any fun x => x.kind == 9)) ∧ Below w.heap.size w w' := by
 have HI : Hid _ := idxN_any h hl
 obtain ⟨a, cc, rfl, _⟩ := h.form
 clear h hl
 generalize l.length = ll at *
 generalize (l.any fun x : In => x.kind == 9) = R at *
 go_enter Tryz.func111, Tryz.ntmps111
 go_wp2_with (go_at_call 165; go_loud (refine Calls.mono (by exact HI.out) ?_; rintro e wx ⟨⟨r, rfl, hr⟩, hwx⟩; have HR : Hid _ := hr; have HW : Hid _ := hwx; clear hr hwx))
 go_ret
 exact ⟨ret_bool HR.out, HW.out⟩
end Go.Proofs.YtajaijilfclhpaaGreatDoor
/- A graph with copies in the place of calls, in memory. -/
namespace Go.Proofs.YtajaijilfclhpaaGreatDoor
open Go.RowKit

/-- but for some blocks nothing has changed -/
def Agr (S : Nat → Prop) (w W : World) : Prop := w.heap.size ≤ W.heap.size ∧ ∀ k, k < w.heap.size → ¬ S k → W.heap[k]? = w.heap[k]?
theorem Agr.refl (S : Nat → Prop) (w : World) : Agr S w w := ⟨Nat.le_refl _, fun _ _ _ => rfl⟩
theorem Agr.trans {S : Nat → Prop} {a b c : World} (h : Agr S a b) (g : Agr S b c) : Agr S a c := ⟨Nat.le_trans h.1 g.1, fun k hk hs => (g.2 k (Nat.lt_of_lt_of_le hk h.1) hs).trans (h.2 k hk hs)⟩
theorem Agr.below {S : Nat → Prop} {a b : World} (h : Below a.heap.size a b) : Agr S a b := ⟨h.size, fun k hk _ => h.block k hk⟩
theorem Agr.set {S : Nat → Prop} {w : World} {g : Nat} (hg : S g) (j : Nat) (u : Value) : Agr S w (w.setCell ⟨g, j, none⟩ u) := ⟨by simp [World.setCell], fun k _ hs => Below.heap_setCell _ _ _ _ (by intro e; exact hs (by simpa [e] using hg))⟩
theorem Agr.mono {S T : Nat → Prop} {a b : World} (h : Agr S a b) (hs : ∀ k, S k → T k) : Agr T a b := ⟨h.1, fun k hk ht => h.2 k hk fun hc => ht (hs k hc)⟩
def IntsS (S : Nat → Prop) (w : World) (v : Value) (l : List Int) : Prop := ∀ W, Agr S w W → IntsAt W v l
def InsS (S : Nat → Prop) (w : World) (v : Value) (l : List In) : Prop := ∀ W, Agr S w W → InsAt W v l
theorem IntsS.on {S : Nat → Prop} {w w1 : World} {v : Value} {l : List Int} (h : IntsS S w v l) (ha : Agr S w w1) : IntsS S w1 v l := fun W hW => h W (ha.trans hW)
theorem InsS.on {S : Nat → Prop} {w w1 : World} {v : Value} {l : List In} (h : InsS S w v l) (ha : Agr S w w1) : InsS S w1 v l := fun W hW => h W (ha.trans hW)
theorem RowAt.agr {S : Nat → Prop} {w0 w W : World} {v : Value} {n : Nat} {cs : List Value} (h : RowAt w0 v n cs) (hb : Below w0.heap.size w0 w) (hS : ∀ k, S k → w0.heap.size ≤ k) (ha : Agr S w W) : RowAt W v n cs := by
 obtain ⟨a, c, hv, hn, hc⟩ := h
 refine ⟨a, c, hv, hn, ?_⟩
 rcases hc with h0 | ⟨g, o, e, hg, hc⟩
 ·exact .inl h0
 ·have hgw : g < w.heap.size := Nat.lt_of_lt_of_le hg hb.size
  have eh : W.heap[g]? = w0.heap[g]? := (ha.2 g hgw (fun hs => by have := hS g hs; omega)).trans (hb.block g hg)
  exact .inr ⟨g, o, e, Nat.lt_of_lt_of_le hgw ha.1, fun j u hu => (World.cell?_of_block (w := w0) (a := ⟨g, o + j, none⟩) eh).trans (hc j u hu)⟩
theorem IntsS.old {S : Nat → Prop} {w0 w : World} {v : Value} {l : List Int} (h : IntsAt w0 v l) (hb : Below w0.heap.size w0 w) (hS : ∀ k, S k → w0.heap.size ≤ k) : IntsS S w v l := fun _ hW => RowAt.agr h hb hS hW
theorem InsS.old {S : Nat → Prop} {w0 w : World} {v : Value} {l : List In} (h : InsAt w0 v l) (hb : Below w0.heap.size w0 w) (hS : ∀ k, S k → w0.heap.size ≤ k) : InsS S w v l := fun _ hW => by
 obtain ⟨avs, h1, h2, h3⟩ := h.row
 exact ⟨h.wf, avs, h1, RowAt.agr h2 hb hS hW, fun i x a hx ha => RowAt.agr (h3 i x a hx ha) hb hS hW⟩
/-- six cells of an element are others now -/
theorem insCells_set : ∀ {l : List In} {avs : List Value} {i : Nat} {x y : In} {a b : Value}, l[i]? = some x → avs[i]? = some a → (((((((insCells l avs).set (i * 6) (bytV y.kind)).set (i * 6 + 1) (bytV y.op)).set (i * 6 + 2) (intV y.dst)).set (i * 6 + 3) b).set (i * 6 + 4) (.int .u64 y.bits)).set (i * 6 + 5) (intV y.ref)) = insCells (l.set i y) (avs.set i b)
 | z :: l, c :: avs, 0, x, y, a, b, hx, ha => by
  simp [insCells, inCells]
 | z :: l, c :: avs, i + 1, x, y, a, b, hx, ha => by
  have := insCells_set (l := l) (avs := avs) (i := i) (y := y) (b := b) (by simpa using hx) (by simpa using ha)
  rw [List.set_cons_succ, List.set_cons_succ, insCells_cons, insCells_cons, ← this]
  have h6 : (inCells z c).length = 6 := rfl
  rw [set_six0 h6, set_six h6, set_six h6, set_six h6, set_six h6, set_six h6]
 | [], _, _, _, _, _, _, hx, _ => by simp at hx
 | _ :: _, [], _, _, _, _, _, _, ha => by simp at ha
theorem blsCells_set : ∀ {l : List Bl} {avs : List Value} {i : Nat} {x y : Bl} {a b : Value}, l[i]? = some x → avs[i]? = some a → y.tm = x.tm → (blsCells l avs).set (i * 6) b = blsCells (l.set i y) (avs.set i b)
 | z :: l, c :: avs, 0, x, y, a, b, hx, ha, ht => by
  simp at hx; subst hx
  simp [blsCells, blCells, ht]
 | z :: l, c :: avs, i + 1, x, y, a, b, hx, ha, ht => by
  have := blsCells_set (l := l) (avs := avs) (i := i) (y := y) (b := b) (by simpa using hx) (by simpa using ha) ht
  rw [List.set_cons_succ, List.set_cons_succ, blsCells_cons, blsCells_cons, ← this]
  have h6 : (blCells z c).length = 6 := rfl
  rw [set_six0 h6]
 | [], _, _, _, _, _, _, hx, _, _ => by simp at hx
 | _ :: _, [], _, _, _, _, _, _, ha, _ => by simp at ha
set_option maxRecDepth 100000 in
set_option maxHeartbeats 1000000 in
theorem cloneB_any {w : World} {a : Option Addr} {n c : Nat} {cs : List Value} (h : RowAt w (.slice a n c) n cs) (hl : cs.length = n * 6) (hn : n ≤ 1000000) (h1 : ∀ u ∈ cs, u.oneCell' = true) :
  Calls Tryz.prog 110 #[.slice a n c] w fun e w' => ∃ v', e = .returned v' ∧ w'.ownsRow w.heap.size 63 6 v' n cs ∧ Below w.heap.size w w' := by
 cases a with
 | none =>
  have h0 : n = 0 := by
   obtain ⟨a', c', hv, _, hc⟩ := h
   injection hv with e1 e2 e3
   subst e1
   rcases hc with h0 | ⟨g, o, e, _⟩
   ·exact h0
   ·cases e
  subst h0
  have hcs : cs = [] := List.eq_nil_of_length_eq_zero (by simpa using hl)
  subst hcs
  have hq : ∀ W, (binOp .eql 26 (.slice none 0 c) (.slice none 0 0)).run Tryz.prog W = .ok (.bool true) W := fun W => Lib.run_eql_slice_nil W _ _ none 0 c 0 0 Tryz.underlying26
  clear h hl hn h1
  go_enter Tryz.func110, Tryz.ntmps110
  go_wp2
  go_ret
  exact ⟨_, rfl, World.ownsRow_nil _ _ _ _, Below.refl _ _⟩
 | some ad =>
  obtain ⟨i0, hi0, hz0, hz1, hz2⟩ := info_parts infoBl
  have HC : Hid (∀ j u, cs[j]? = some u → (w.alloc (.cells #[] 63)).cell? (ad.add j) = some u) := by
   intro j u hj
   obtain ⟨a', c', hv, _, hc⟩ := h
   injection hv with e1 e2 e3
   subst e1
   rcases hc with h0 | ⟨g, o, e, hg, hc⟩
   ·subst h0; have := (List.getElem?_eq_some_iff.1 hj).1; omega
   ·cases e
    rw [Addr.add_lit]
    exact ((below_alloc (Below.refl w.heap.size w) (.cells #[] 63)).cell (p := ⟨g, o + j, none⟩) hg).trans (hc j u hj)
  have HL : Hid (cs.length = n * 6) := hl
  have H1 : Hid (∀ u ∈ cs, u.oneCell' = true) := h1
  have HN : Hid (n ≤ 1000000) := hn
  have hq : ∀ W, (binOp .eql 26 (.slice (some ad) n c) (.slice none 0 0)).run Tryz.prog W = .ok (.bool false) W := fun W => Lib.run_eql_slice_nil W _ _ (some ad) n c 0 0 Tryz.underlying26
  clear h hl hn h1
  go_enter Tryz.func110, Tryz.ntmps110
  go_wp2_with (at_builtin; go_loud (refine wpList_append_own_at _ rfl _ _ 26 rfl w.heap.size 63 i0 (.agg #[.slice none 0 0, .int .u8 0, .int .i64 0, .int .i64 0, .int .i64 0, .int .u8 0]) 6 64 Tryz.underlying26 hi0 hz0 hz1 hz2 rfl (by decide) _ 0 [] rfl (World.ownsRow_made w #[] 0 (Nat.le_refl _) (Nat.zero_le _) (by simp)) ad n c cs rfl HL.out HC.out H1.out ?c3 ?c4 ?c5 ?_))
  case c3 => have := HN.out; unfold maxLen; omega
  case c4 => have := HN.out; omega
  case c5 => simp
  intro v2 w2 ho hg2 _ hat
  have HQ : Hid (w2.ownsRow w.heap.size 63 6 v2 n cs ∧ Below w.heap.size w w2) := ⟨by simpa using ho, below_grown (below_alloc (Below.refl _ _) _) hg2 (fun g hg => by simp [Value.ownBlock] at hg; omega)⟩
  clear ho hg2 hat
  go_wp2
  go_ret
  exact ⟨_, rfl, HQ.out.1, HQ.out.2⟩
set_option maxRecDepth 100000 in
set_option maxHeartbeats 1000000 in
theorem cloneI_any {w : World} {a : Option Addr} {n c : Nat} {cs : List Value} (h : RowAt w (.slice a n c) n cs) (hl : cs.length = n * 6) (hn : n ≤ 1000000) (h1 : ∀ u ∈ cs, u.oneCell' = true) :
  Calls Tryz.prog 112 #[.slice a n c] w fun e w' => ∃ v', e = .returned v' ∧ w'.ownsRow w.heap.size 55 6 v' n cs ∧ Below w.heap.size w w' := by
 cases a with
 | none =>
  have h0 : n = 0 := by
   obtain ⟨a', c', hv, _, hc⟩ := h
   injection hv with e1 e2 e3
   subst e1
   rcases hc with h0 | ⟨g, o, e, _⟩
   ·exact h0
   ·cases e
  subst h0
  have hcs : cs = [] := List.eq_nil_of_length_eq_zero (by simpa using hl)
  subst hcs
  have hq : ∀ W, (binOp .eql 56 (.slice none 0 c) (.slice none 0 0)).run Tryz.prog W = .ok (.bool true) W := fun W => Lib.run_eql_slice_nil W _ _ none 0 c 0 0 Tryz.underlying56
  clear h hl hn h1
  go_enter Tryz.func112, Tryz.ntmps112
  go_wp2
  go_ret
  exact ⟨_, rfl, World.ownsRow_nil _ _ _ _, Below.refl _ _⟩
 | some ad =>
  obtain ⟨i0, hi0, hz0, hz1, hz2⟩ := info_parts infoIn
  have HC : Hid (∀ j u, cs[j]? = some u → (w.alloc (.cells #[] 55)).cell? (ad.add j) = some u) := by
   intro j u hj
   obtain ⟨a', c', hv, _, hc⟩ := h
   injection hv with e1 e2 e3
   subst e1
   rcases hc with h0 | ⟨g, o, e, hg, hc⟩
   ·subst h0; have := (List.getElem?_eq_some_iff.1 hj).1; omega
   ·cases e
    rw [Addr.add_lit]
    exact ((below_alloc (Below.refl w.heap.size w) (.cells #[] 55)).cell (p := ⟨g, o + j, none⟩) hg).trans (hc j u hj)
  have HL : Hid (cs.length = n * 6) := hl
  have H1 : Hid (∀ u ∈ cs, u.oneCell' = true) := h1
  have HN : Hid (n ≤ 1000000) := hn
  have hq : ∀ W, (binOp .eql 56 (.slice (some ad) n c) (.slice none 0 0)).run Tryz.prog W = .ok (.bool false) W := fun W => Lib.run_eql_slice_nil W _ _ (some ad) n c 0 0 Tryz.underlying56
  clear h hl hn h1
  go_enter Tryz.func112, Tryz.ntmps112
  go_wp2_with (at_builtin; go_loud (refine wpList_append_own_at _ rfl _ _ 56 rfl w.heap.size 55 i0 (.agg #[.int .u8 0, .int .u8 0, .int .i64 0, .slice none 0 0, .int .u64 0, .int .i64 0]) 6 56 Tryz.underlying56 hi0 hz0 hz1 hz2 rfl (by decide) _ 0 [] rfl (World.ownsRow_made w #[] 0 (Nat.le_refl _) (Nat.zero_le _) (by simp)) ad n c cs rfl HL.out HC.out H1.out ?c3 ?c4 ?c5 ?_))
  case c3 => have := HN.out; unfold maxLen; omega
  case c4 => have := HN.out; omega
  case c5 => simp
  intro v2 w2 ho hg2 _ hat
  have HQ : Hid (w2.ownsRow w.heap.size 55 6 v2 n cs ∧ Below w.heap.size w w2) := ⟨by simpa using ho, below_grown (below_alloc (Below.refl _ _) _) hg2 (fun g hg => by simp [Value.ownBlock] at hg; omega)⟩
  clear ho hg2 hat
  go_wp2
  go_ret
  exact ⟨_, rfl, HQ.out.1, HQ.out.2⟩
end Go.Proofs.YtajaijilfclhpaaGreatDoor
