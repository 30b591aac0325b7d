/- A list in parentheses, its items gone through by a closure. -/
import Derived.Test.YtbejgachdhfakaaGreatDoorRow
import Derived.Test.YtbejgachdhfakaaGreatDoorGA
namespace Go.Proofs.YtbejgachdhfakaaGreatDoor
open Go.RowKit

def listMore {β : Type} (s : ByteArray) (item : Nat → St → Res β) : Nat → List β → St → Res (List β)
  | 0, _, _ => .out
  | n + 1, ks, st =>
    if has s [44] st then (item n (tl st)).bind fun k st1 => listMore s item n (ks ++ [k]) st1
    else (take s [41] st).bind fun _ st1 => .ok ks st1
def listP {β : Type} (s : ByteArray) (item : Nat → St → Res β) (n : Nat) (st : St) : Res (List β) :=
  if has s [41] st then (take s [41] st).bind fun _ st1 => .ok [] st1
  else (item n st).bind fun k st1 => listMore s item n [k] st1
theorem args_list (F : FW) (s : ByteArray) : ∀ (n : Nat) (ks : List Nat) (st : St), argsMore F s n ks st = listMore s (fun n => row F s n 1) n ks st := by
  intro n
  induction n with
  | zero => intro ks st; simp only [argsMore, listMore]
  | succ n ih => intro ks st; simp only [argsMore, listMore, ih]
theorem args_listP (F : FW) (s : ByteArray) (n : Nat) (st : St) : args F s (n + 1) st = listP s (fun n => row F s n 1) n st := by
  simp only [args, listP, args_list]
theorem pars_list (s : ByteArray) : ∀ (n : Nat) (ks : List (ByteArray × Nat × Nat)) (st : St), parsMore s n ks st = listMore s (fun _ => parP s) n ks st := by
  intro n
  induction n with
  | zero => intro ks st; simp only [parsMore, listMore]
  | succ n ih => intro ks st; simp only [parsMore, listMore, ih]
theorem pars_listP (s : ByteArray) (n : Nat) (st : St) : parsP s n st = listP s (fun _ => parP s) n st := by
  simp only [parsP, listP, pars_list]
set_option maxRecDepth 100000 in
set_option maxHeartbeats 1000000 in
theorem list_any {β : Type} {E : Env} {w : World} {v : Value} {kvs : List Value} {st : St} (h : Par E w v kvs st) (K : FuncId) (caps : Array Value) (hE : ∀ w, (callFunc K caps).run Tryz.prog w = .ok (.enter K caps) w) (item : Nat → St → Res β) (n : Nat)
    (Q : List β → World → Value → List Value → Prop) (Z : World → Prop) (hQ0 : Q [] w v kvs) (hQk : ∀ ks w1 v1 k1 w2, Q ks w1 v1 k1 → Kept E.p w1 w2 → Q ks w2 v1 k1) (hZ : ∀ ks w1 v1 k1, Q ks w1 v1 k1 → Z w1)
    (hI : ∀ m, m ≤ n → ∀ ks : List β, ks.length + m ≤ n → ∀ w1 v1 k1 st1, Par E w1 v1 k1 st1 → Q ks w1 v1 k1 → item m st1 ≠ .out → Calls Tryz.prog K caps w1 (PostQ unitV E (fun b => Q (ks ++ [b])) Z (item m st1)))
    (hW : ∀ m st1 b st2, item m st1 = .ok b st2 → Went 0 st1 st2) (hno : listP E.s item n st ≠ .out) :
    Calls Tryz.prog 45 #[ptr E.p, .func (.func K) #[] caps] w (PostQ unitV E Q Z (listP E.s item n st)) := by
  have hH := has_par h ⟨#[41]⟩
  rw [show (⟨#[41]⟩ : ByteArray).toList = [41] by rw [Lib.toList_data]] at hH
  have e41 : (⟨#[41]⟩ : ByteArray).toList = [41] := by rw [Lib.toList_data]
  have e44 : (⟨#[44]⟩ : ByteArray).toList = [44] := by rw [Lib.toList_data]
  have HTK : Hid (∀ W v1 k1 st1, Par E W v1 k1 st1 → Calls Tryz.prog 43 #[ptr E.p, .string ⟨#[41]⟩] W (PostK natV E W v1 k1 (take E.s [41] st1))) := fun W v1 k1 st1 hp => by
    have := take_par hp ⟨#[41]⟩ (by rw [e41]; simp)
    rw [e41] at this
    exact this
  have HHC : Hid (∀ W v1 k1 st1, Par E W v1 k1 st1 → Calls Tryz.prog 91 #[ptr E.p, .string ⟨#[44]⟩] W fun e w' => e = .returned (.bool (has E.s [44] st1)) ∧ Below W.heap.size W w') := fun W v1 k1 st1 hp => by
    have := has_par hp ⟨#[44]⟩
    rw [e44] at this
    exact this
  unfold listP at hno ⊢
  cases hb : has E.s [41] st
  · rw [hb] at hH hno
    simp only [Bool.false_eq_true, if_false] at hno ⊢
    have HI : Hid _ := hI
    have HQ : Hid _ := hQk
    have HZ : Hid _ := hZ
    have HPA : Hid (Par E w v kvs st ∧ Q [] w v kvs) := ⟨h, hQ0⟩
    have hI0 := fun W (hW : Below w.heap.size w W) => hI n (Nat.le_refl _) [] (by simp) W v kvs st (h.below hW) (hQk _ _ _ _ _ hQ0 (.of_below hW)) (bind_ne hno)
    have HW : Hid _ := hW
    generalize hr : item n st = r at hI0 hno ⊢
    unfold PostQ at hI0
    clear hI hQk hZ h hQ0 hW e41 e44 hb
    cases r with
    | out => exact absurd rfl hno
    | err c q =>
      dsimp only [Res.bind] at hI0 ⊢
      have HI0 : Hid _ := hI0
      clear hI0 hr
      go_enter Tryz.func45, Tryz.ntmps45
      go_wp2_with (go_at_call 91; refine hH.mono ?_; rintro e w1 ⟨rfl, hb1⟩)
      refine (HI0.out _ hb1).mono ?_
      rintro e w2 ⟨rfl, hz⟩
      unfold gaveUp
      exact ⟨rfl, rfl, hz⟩
    | ok k st1 =>
      dsimp only [Res.bind] at hI0 hno ⊢
      have HI0 : Hid _ := hI0
      clear hI0 hr
      generalize hRES : listMore E.s item n [k] st1 = RES at hno ⊢
      have HRES : Hid (listMore E.s item n [k] st1 = RES) := hRES
      clear hRES
      go_enter Tryz.func45, Tryz.ntmps45
      go_wp2_with (go_at_call 91; refine hH.mono ?_; rintro e w1 ⟨rfl, hb1⟩)
      refine (HI0.out _ hb1).mono ?_
      rintro e w2 ⟨rfl, v2, k2, hp2, hq2⟩
      have H2 : Hid (Par E w2 v2 k2 st1 ∧ Q [k] w2 v2 k2) := ⟨hp2, hq2⟩
      clear hp2 hq2
      go_wp2_with fail
      go_loopw [9] (fun _ wr => ∃ (m : Nat) (ks : List β) (v' : Value) (k' : List Value) (st' : St), m ≤ n ∧ ks.length + m ≤ n + 1 ∧ Hid (Par E wr v' k' st' ∧ Q ks wr v' k' ∧ listMore E.s item m ks st' = RES)) (fun _ wr => leftIn E.p wr)
      case atStart => exact ⟨n, [k], v2, k2, st1, Nat.le_refl _, by simp; omega, H2.out.1, H2.out.2, HRES.out⟩
      case round =>
        clear H2 HRES HI0
        obtain ⟨m, ks, v3, k3, st3, hmn, hkm, hr3⟩ := hrel
        obtain ⟨m, rfl⟩ : ∃ m', m = m' + 1 := by
          cases m with
          | zero => exact absurd (hr3.out.2.2.symm.trans (by simp only [listMore])) hno
          | succ m => exact ⟨m, rfl⟩
        have hRE := hr3.out.2.2
        simp only [listMore] at hRE
        have hHC := HHC.out _ _ _ _ hr3.out.1
        cases hc : has E.s [44] st3
        · rw [hc] at hHC hRE
          simp only [Bool.false_eq_true, if_false] at hRE
          have hTK := fun W (hW : Below wr.heap.size wr W) => HTK.out W v3 k3 st3 (hr3.out.1.below hW)
          generalize take E.s [41] st3 = q at hRE hTK
          unfold PostK at hTK
          cases q with
          | out => exact absurd hRE.symm hno
          | err c p =>
            have HRE : Hid (Res.err c p = RES) := hRE
            clear hRE
            dsimp only at hTK
            go_wp2_with (first | (go_at_call 91; refine hHC.mono ?_; rintro e w4 ⟨rfl, hb4⟩) | (go_at_call 43; refine (hTK _ hb4).mono ?_; rintro e w5 ⟨rfl, hk5⟩; unfold gaveUp))
            rw [← HRE.out]
            exact ⟨rfl, rfl, HZ.out _ _ _ _ (HQ.out _ _ _ _ _ hr3.out.2.1 ((Kept.of_below hb4).trans hk5))⟩
          | ok a st5 =>
            have HRE : Hid (Res.ok ks st5 = RES) := hRE
            clear hRE
            dsimp only at hTK
            go_wp2_with (first | (go_at_call 91; refine hHC.mono ?_; rintro e w4 ⟨rfl, hb4⟩) | (go_at_call 43; refine (hTK _ hb4).mono ?_; rintro e w5 ⟨rfl, hk5, hp5⟩))
            go_end0
            rw [← HRE.out]
            exact ⟨rfl, v3, k3, hp5, HQ.out _ _ _ _ _ hr3.out.2.1 ((Kept.of_below hb4).trans hk5)⟩
        · rw [hc] at hHC hRE
          simp only [if_true] at hRE
          have hgd : Good E.s (tl st3).toks := good_has (x := ⟨#[44]⟩) hr3.out.1.good (by rw [show (⟨#[44]⟩ : ByteArray).toList = [44] by rw [Lib.toList_data]]; exact hc) (by rw [show (⟨#[44]⟩ : ByteArray).toList = [44] by rw [Lib.toList_data]]; simp)
          have HPASS : Hid (∀ W, Below wr.heap.size wr W → Calls Tryz.prog 93 #[ptr E.p] W fun e w' => e = .returned (.int .i64 ((hd st3).2.1 : Int)) ∧ Kept E.p W w' ∧ Par E w' v3 k3 (tl st3)) := fun W hW => pass_par (hr3.out.1.below hW) hgd
          have hIn : item m (tl st3) ≠ .out := bind_ne (by rw [hRE]; exact hno)
          have hIt := fun W (hk : Kept E.p wr W) (hp : Par E W v3 k3 (tl st3)) => HI.out m (by omega) ks (by omega) W v3 k3 (tl st3) hp (HQ.out _ _ _ _ _ hr3.out.2.1 hk) hIn
          have HWE : Hid (∀ b st4, item m (tl st3) = .ok b st4 → Went 1 st3 st4) := fun b st4 hs => (went_tl (has_ne hc (by simp))).trans (HW.out _ _ _ _ hs)
          generalize (hd st3).2.1 = y at HPASS
          generalize item m (tl st3) = q at hRE hIt HWE hIn
          unfold PostQ at hIt
          clear hgd hc
          cases q with
          | out => exact absurd rfl hIn
          | err c p =>
            have HRE : Hid (Res.err c p = RES) := hRE
            clear hRE hIn
            dsimp only at hIt
            have HIT : Hid _ := hIt
            clear hIt
            go_wp2_with (first | (go_at_call 91; refine hHC.mono ?_; rintro e w4 ⟨rfl, hb4⟩) | (go_at_call 93; refine (HPASS.out _ hb4).mono ?_; rintro e w5 ⟨rfl, hk5, hp5⟩))
            refine (HIT.out _ ((Kept.of_below hb4).trans hk5) hp5).mono ?_
            rintro e w6 ⟨rfl, hz⟩
            unfold gaveUp
            have hre := HRE.out
            subst hre
            exact ⟨rfl, rfl, hz⟩
          | ok b st6 =>
            have HRE : Hid (listMore E.s item m (ks ++ [b]) st6 = RES) := hRE
            clear hRE hIn
            dsimp only at hIt
            have HIT : Hid _ := hIt
            clear hIt
            go_wp2_with (first | (go_at_call 91; refine hHC.mono ?_; rintro e w4 ⟨rfl, hb4⟩) | (go_at_call 93; refine (HPASS.out _ hb4).mono ?_; rintro e w5 ⟨rfl, hk5, hp5⟩))
            refine (HIT.out _ ((Kept.of_below hb4).trans hk5) hp5).mono ?_
            rintro e w6 ⟨rfl, v6, k6, hp6, hq6⟩
            have H6 : Hid (Par E w6 v6 k6 st6 ∧ Q (ks ++ [b]) w6 v6 k6) := ⟨hp6, hq6⟩
            have HM : Hid (leftIn E.p w6 < leftIn E.p wr) := by
              rw [left_par hp6, left_par hr3.out.1]
              have h1 : st6.nodes.length + st6.toks.length + 1 ≤ st3.nodes.length + st3.toks.length := (HWE.out b st6 rfl).sum
              have h2 : st3.nodes.length ≤ st6.nodes.length := (HWE.out b st6 rfl).pre.length_le
              show st6.toks.length < st3.toks.length
              omega
            clear hp6 hq6
            go_wp2_with fail
            go_roundw
            case rel => exact ⟨m, ks ++ [b], v6, k6, st6, by omega, by simp; omega, H6.out.1, H6.out.2, HRE.out⟩
            case measure => exact HM.out
  · rw [hb] at hH hno
    simp only [if_true] at hno ⊢
    have hTK := fun W (hW : Below w.heap.size w W) => HTK.out W v kvs st (h.below hW)
    generalize take E.s [41] st = q at hTK hno ⊢
    unfold PostK at hTK
    unfold PostQ
    have HQ : Hid _ := hQk
    have HZ : Hid _ := hZ
    have HPA : Hid (Par E w v kvs st ∧ Q [] w v kvs) := ⟨h, hQ0⟩
    clear hI hQk hZ h hQ0 hW e41 e44 hb
    cases q with
    | out => exact absurd rfl hno
    | err c p =>
      dsimp only [Res.bind] at hTK ⊢
      go_enter Tryz.func45, Tryz.ntmps45
      go_wp2_with (first | (go_at_call 91; refine hH.mono ?_; rintro e w4 ⟨rfl, hb4⟩) | (go_at_call 43; refine (hTK _ hb4).mono ?_; rintro e w5 ⟨rfl, hk5⟩; unfold gaveUp))
      exact ⟨rfl, rfl, HZ.out _ _ _ _ (HQ.out _ _ _ _ _ HPA.out.2 ((Kept.of_below hb4).trans hk5))⟩
    | ok a st5 =>
      dsimp only [Res.bind] at hTK ⊢
      go_enter Tryz.func45, Tryz.ntmps45
      go_wp2_with (first | (go_at_call 91; refine hH.mono ?_; rintro e w4 ⟨rfl, hb4⟩) | (go_at_call 43; refine (hTK _ hb4).mono ?_; rintro e w5 ⟨rfl, hk5, hp5⟩))
      go_end0
      exact ⟨rfl, v, kvs, hp5, HQ.out _ _ _ _ _ HPA.out.2 ((Kept.of_below hb4).trans hk5)⟩
end Go.Proofs.YtbejgachdhfakaaGreatDoor
/- A row of kids that grows in a variable, while the parser goes on. -/
namespace Go.Proofs.YtbejgachdhfakaaGreatDoor
open Go.RowKit

/-- A call of a Go function of one argument, as one step of a region that draws. -/
theorem step_call {P : Program} {ops : Array Oper} {o : Oper} {a : Act} {w : World} {K : Act → World → Prop} {Q : Exit → Act → World → Prop} {E : Prop} {R : Ending → World → Prop}
    (hg : o.guard = none) (f : FuncId) (x : Operand) (ts : Array TypeId) (hop : o.op = Op.call { callee := Callee.value (Operand.func f), args := #[x], argTypes := ts }) (v : Value) (hx : a.eval x = v)
    (hE : (callFunc f #[v]).run P w = .ok (.enter f #[v]) w) (hc : Calls P f #[v] w R)
    (hK : ∀ e w', R e w' → match e with | .returned r => K (a.put o.dst r) w' | .panicked ch => Q (.panic ch) a w' | .outgrown => False) :
    if Region.wanted o (yielded ops a.tmps) = true then Oper.wp P o a w K Q else E := by
  have hw : Region.wanted o (yielded ops a.tmps) = true := by simp [Region.wanted, hg]
  rw [if_pos hw]
  unfold Oper.wp
  have e1 : (execOp a.eval o).run P w = .ok (.enter f #[v]) w := by
    have hf : a.eval (Operand.func f) = .func (.func f) #[] #[] := rfl
    simp [execOp, hop, resolve, invoke, hx, hf, hE, Deferred.ofValue]
  rw [e1, Oper.upon_enter]
  refine hc.mono ?_
  intro e w' hr
  have := hK e w' hr
  cases e with
  | returned r => exact this
  | panicked ch => exact this
  | outgrown => exact absurd this id
structure KB (E : Env) (w0 : World) (v0 : Value) (k0 : List Value) (b : Nat) (cs : List Value) (ka : Option Addr) (kn kc : Nat) (ks : List Nat) (w : World) (v : Value) (k : List Value) : Prop where
  mv : Moved E.p w0 v0 k0 w v k
  off : Off b v k
  box : Box w b (cs ++ [.slice ka kn kc])
  row : w.ownsRow E.base 3 1 (.slice ka kn kc) ks.length (ints ks)
  fr : ∀ g, (Value.slice ka kn kc).ownBlock = some g → w0.heap.size ≤ g ∧ g ≠ b ∧ ∀ x ∈ k, x.ownBlock ≠ some g
  ge : w0.heap.size ≤ b
  pb : E.p < w0.heap.size
theorem KB.moved {E : Env} {w0 w w1 : World} {v0 v v1 : Value} {k0 k k1 : List Value} {b : Nat} {cs : List Value} {ka : Option Addr} {kn kc : Nat} {ks : List Nat} {st : St} (h : KB E w0 v0 k0 b cs ka kn kc ks w v k) (hp : Par E w v k st) (hm : Moved E.p w v k w1 v1 k1) : KB E w0 v0 k0 b cs ka kn kc ks w1 v1 k1 := by
  have hpb := h.pb
  have hge := h.ge
  refine ⟨h.mv.trans hm, h.off.moved h.box.lt hm, h.box.moved hm (by omega) h.off.1, kids_frame hm.block hp.pb hp.nds.own h.row, fun g hg => ?_, h.ge, h.pb⟩
  obtain ⟨f1, f2, f3⟩ := h.fr g hg
  refine ⟨f1, f2, ?_⟩
  have hlt := (h.row.lt g hg).2
  obtain ⟨more, rfl, hmore⟩ := hm.kids
  intro x hx hc
  rcases List.mem_append.1 hx with hx | hx
  · exact f3 x hx hc
  · have := hmore x hx g hc; omega
theorem KB.kept {E : Env} {w0 w w1 : World} {v0 v : Value} {k0 k : List Value} {b : Nat} {cs : List Value} {ka : Option Addr} {kn kc : Nat} {ks : List Nat} {st : St} (h : KB E w0 v0 k0 b cs ka kn kc ks w v k) (hp : Par E w v k st) (hk : Kept E.p w w1) : KB E w0 v0 k0 b cs ka kn kc ks w1 v k := h.moved hp (hk.moved v k)
theorem heap_grown {w w' : World} {row : Option Nat} (hg : w.grownBy w' row) {b : Nat} (hb : b < w.heap.size) (hr : some b ≠ row) : w'.heap[b]? = w.heap[b]? := hg.block b hb hr
theorem Par.grown {E : Env} {w w' : World} {v : Value} {k : List Value} {st : St} {row : Option Nat} (h : Par E w v k st) (hg : w.grownBy w' row) (hr : ∀ g, row = some g → E.p < g ∧ Off g v k) : Par E w' v k st := by
  have hp := h.tl1
  have ho := h.og1
  have hl := h.lt
  have hx : ∀ g, g ≤ E.p → w'.heap[g]? = w.heap[g]? := fun g hle => hg.block g (by omega) (fun hc => by have := (hr g hc.symm).1; omega)
  have hc : ∀ g j, g ≤ E.p → w'.cell? ⟨g, j, none⟩ = w.cell? ⟨g, j, none⟩ := fun g j hle => World.cell?_of_block (w := w) (a := ⟨g, j, none⟩) (hx g hle)
  have hrow : ∀ {e sz : Nat} {x : Value} {n : Nat} {ys : List Value}, w.ownsRow E.base e sz x n ys → (∀ g, row = some g → x.ownBlock ≠ some g) → w'.ownsRow E.base e sz x n ys := by
    intro e sz x n ys hown hne
    refine hown.kept hg ?_
    cases hxo : x.ownBlock with
    | none => exact .inl rfl
    | some g =>
      right
      intro hc
      exact hne g hc.symm hxo
  exact { h with
    lt := Nat.lt_of_lt_of_le h.lt hg.size
    bs := Nat.le_trans h.bs hg.size
    c0 := (hc _ _ (Nat.le_refl _)).trans h.c0, c1 := (hc _ _ (Nat.le_refl _)).trans h.c1, c2 := (hc _ _ (Nat.le_refl _)).trans h.c2, c3 := (hc _ _ (Nat.le_refl _)).trans h.c3, c4 := (hc _ _ (Nat.le_refl _)).trans h.c4
    fz := fun j => (World.frozen?_of_block (w := w) (a := ⟨E.p, j, none⟩) (hx _ (Nat.le_refl _))).trans (h.fz j)
    tk := h.tk.same fun o => hc _ _ (by omega)
    gl := ⟨h.gl.1, h.gl.2.same fun g hg => hc g 0 (by have := h.gl.1; omega)⟩
    ops := fun i o hi => by rw [hc _ _ (by omega), hc _ _ (by omega), hc _ _ (by omega), hc _ _ (by omega)]; exact h.ops i o hi
    nds := ⟨h.nds.len, hrow h.nds.own (fun g hg => (hr g hg).2.1), fun i n kv h1 h2 => hrow (h.nds.kid i n kv h1 h2) (fun g hg => (hr g hg).2.2 kv (List.mem_of_getElem? h2)), h.nds.apart⟩ }
/-- One kid more: the row has grown, and lies in the variable again. -/
theorem KB.app {E : Env} {w0 w w2 : World} {v0 v v' : Value} {k0 k : List Value} {b : Nat} {cs : List Value} {ka : Option Addr} {kn kc : Nat} {ks : List Nat} {st : St} {x : Nat} (h : KB E w0 v0 k0 b cs ka kn kc ks w v k) (hp : Par E w v k st) {W : World} (hW : Below w.heap.size w W) (hlW : w.heap.size < W.heap.size)
    (ho : w2.ownsRow E.base 3 1 v' (ks.length + 1) (ints ks ++ [natV x])) (hg : W.grownBy w2 (Value.slice ka kn kc).ownBlock) (hs : v'.ownBlock = (Value.slice ka kn kc).ownBlock ∨ v'.ownBlock = some W.heap.size) {n : Nat} (hn : n = cs.length) :
    ∃ g c, v' = .slice (some ⟨g, 0, none⟩) (ks.length + 1) c ∧ KB E w0 v0 k0 b cs (some ⟨g, 0, none⟩) (ks.length + 1) c (ks ++ [x]) (w2.setCell ⟨b, n, none⟩ v') v k ∧ Par E (w2.setCell ⟨b, n, none⟩ v') v k st ∧ w.grownBy w2 (Value.slice ka kn kc).ownBlock ∧
      (g = W.heap.size ∨ (Value.slice ka kn kc).ownBlock = some g) := by
  subst hn
  obtain ⟨g, c, rfl, hb1, hlt, _, _⟩ := own_form ho
  have hpb := h.pb
  have hge := h.ge
  have hvg : ∀ q, (Value.slice ka kn kc).ownBlock = some q → v.ownBlock ≠ some q := by
    intro q hq hc
    rcases h.row.2 with ⟨h0, _⟩ | ⟨g1, c1, cur, h0, _, hh, _⟩
    · rw [h0] at hq; cases hq
    · rcases hp.nds.own.2 with ⟨h2, _⟩ | ⟨g2, c2, cur2, h2, _, hh2, _⟩
      · rw [h2] at hc; cases hc
      · rw [h0] at hq
        rw [h2] at hc
        simp [Value.ownBlock] at hq hc
        subst hq
        subst hc
        rw [hh] at hh2
        simp at hh2
  have hgw : w.grownBy w2 (Value.slice ka kn kc).ownBlock := ⟨hg.os.trans hW.os, hg.tape.trans hW.tape, hg.output.trans hW.output, Nat.le_trans hW.size hg.size, fun i hi hr => (hg.block i (Nat.lt_of_lt_of_le hi hW.size) hr).trans (hW.block i hi)⟩
  have hP2 := hp.grown hgw (fun q hq => ⟨by have := (h.fr q hq).1; omega, hvg q hq, (h.fr q hq).2.2⟩)
  have hbe : w2.heap[b]? = w.heap[b]? := hgw.block b h.box.lt (fun hc => (h.fr b hc.symm).2.1 rfl)
  have hB2 := h.box.same hbe
  have hM2 : Moved E.p w0 v0 k0 w2 v k := by
    have := h.mv
    refine { this with os := hgw.os.trans this.os, tape := hgw.tape.trans this.tape, output := hgw.output.trans this.output, size := Nat.le_trans this.size hgw.size, block := fun i hi hpi hvi => ?_ }
    have hi2 : i < w.heap.size := Nat.lt_of_lt_of_le hi this.size
    rw [hgw.block i hi2 (fun hc => by have := (h.fr i hc.symm).1; omega)]
    exact this.block i hi hpi hvi
  have hgf : g = W.heap.size ∨ (Value.slice ka kn kc).ownBlock = some g := by
    rcases hs with hs | hs
    · exact .inr hs.symm
    · simp [Value.ownBlock] at hs
      exact .inl hs
  have hgb : g ≠ b := by
    rcases hgf with rfl | hgf
    · have := h.box.lt; omega
    · exact (h.fr g hgf).2.1
  refine ⟨g, c, rfl, ⟨hM2.setBox h.ge _ _, h.off, ?_, ?_, fun q hq => ?_, h.ge, h.pb⟩, hP2.setBox (by omega) h.off _ _, hgw, hgf⟩
  · have := hB2.set (j := cs.length) (by simp) (.slice (some ⟨g, 0, none⟩) (ks.length + 1) c)
    rwa [List.set_append_right _ _ (Nat.le_refl _), Nat.sub_self, List.set_cons_zero] at this
  · have : ints (ks ++ [x]) = ints ks ++ [natV x] := by simp
    rw [this, List.length_append]
    exact owns_other ho (by simp [Value.ownBlock]; exact hgb) _
  · simp [Value.ownBlock] at hq
    subst hq
    refine ⟨?_, hgb, fun y hy hc => ?_⟩
    · rcases hgf with rfl | hgf
      · have := h.mv.size; omega
      · exact (h.fr g hgf).1
    · rcases hgf with rfl | hgf
      · have := (hp.nds.blocks y hy _ hc).2; omega
      · exact (h.fr g hgf).2.2 y hy hc
theorem info3 : (Tryz.prog.info? 3).map (fun i => (i.zero, i.size, i.bytes)) = some (some (.int .i64 0), 1, 8) := by kernel_rfl
end Go.Proofs.YtbejgachdhfakaaGreatDoor
/- A call's arguments. -/
namespace Go.Proofs.YtbejgachdhfakaaGreatDoor
open Go.RowKit

def QArgs (E : Env) (w0 : World) (v0 : Value) (k0 : List Value) (b1 b2 : Nat) (cs : List Value) (ks : List Nat) (w : World) (v : Value) (k : List Value) : Prop :=
  ∃ ka kn kc, KB E w0 v0 k0 b2 cs ka kn kc ks w v k ∧ Box w b1 [ptr E.p] ∧ Off b1 v k ∧ (∀ g, (Value.slice ka kn kc).ownBlock = some g → g ≠ b1) ∧ ks.length ≤ k.length
theorem QArgs.kept {E : Env} {w0 : World} {v0 : Value} {k0 : List Value} {b1 b2 : Nat} {cs : List Value} {ks : List Nat} {w w1 : World} {v : Value} {k : List Value} {st : St} (h : QArgs E w0 v0 k0 b1 b2 cs ks w v k) (hp : Par E w v k st) (hk : Kept E.p w w1) (h1 : b1 ≠ E.p) : QArgs E w0 v0 k0 b1 b2 cs ks w1 v k := by
  obtain ⟨ka, kn, kc, hK, hb, ho, hg, hl⟩ := h
  exact ⟨ka, kn, kc, hK.kept hp hk, hb.kept hk h1, ho, hg, hl⟩
set_option maxRecDepth 100000 in
set_option maxHeartbeats 1000000 in
theorem arg_any {F : FW} {n : Nat} (hX : DoesExpr F n) {E : Env} {w w0 : World} {v v0 : Value} {kvs k0 : List Value} {st : St} (h : Par E w v kvs st) {b1 b2 : Nat} {c0 c1 c2 c3 c4 c5 c6 : Value} {ks : List Nat} (hQ : QArgs E w0 v0 k0 b1 b2 [c0, c1, c2, c3, c4, c5, c6] ks w v kvs) (p1 : E.p < b1) (h12 : b1 ≠ b2)
    (hne : row F E.s n 1 st ≠ .out) :
    Calls Tryz.prog 168 #[ptr b2, ptr b1] w (PostQ unitV E (fun x => QArgs E w0 v0 k0 b1 b2 [c0, c1, c2, c3, c4, c5, c6] (ks ++ [x])) (ZMov E w0 v0 k0) (row F E.s n 1 st)) := by
  obtain ⟨ka, kn, kc, hK, hB1, hO1, hg1, hkl⟩ := hQ
  have hc := hX E w.drew v kvs st (h.below (Below.refl _ _).drew) hne
  have HG : Hid (∀ a st', row F E.s n 1 st = .ok a st' → st.nodes.length < st'.nodes.length) := fun a st' hs => (grew_expr F E.s n).1 _ _ _ _ hs
  generalize row F E.s n 1 st = r at hc hne HG ⊢
  have d0 := hB1.cell 0 _ rfl
  have d7 := hK.box.cell 7 _ rfl
  have hl2 := hK.box.lt
  have H : Hid (Par E w v kvs st ∧ KB E w0 v0 k0 b2 [c0, c1, c2, c3, c4, c5, c6] ka kn kc ks w v kvs ∧ Box w b1 [ptr E.p] ∧ Off b1 v kvs ∧ (∀ g, (Value.slice ka kn kc).ownBlock = some g → g ≠ b1) ∧ ks.length ≤ kvs.length) := ⟨h, hK, hB1, hO1, hg1, hkl⟩
  obtain ⟨i0, hi, hz0, hz1, hz2⟩ := info_parts info3
  have hmd : Hid (Moved E.p w v kvs w.drew v kvs) := (Kept.refl _ _).drew.moved v kvs
  unfold PostN at hc
  clear h hK hB1 hO1 hg1 hkl hX
  go_enter Tryz.func168, Tryz.ntmps168
  go_wp2_with fail
  go_region_law (first | (refine step_call rfl 158 (.tmp 4) _ rfl (ptr E.p) (by simp [Act.eval]) (by kernel_rfl) hc ?_; rintro e w1 h1; rcases r with ⟨k, st'⟩ | ⟨c, q⟩ | _; rotate_left; (obtain ⟨rfl, v1, k1, hm1⟩ := h1; exact ⟨rfl, rfl, v1, k1, H.out.2.1.mv.trans (hmd.out.trans hm1)⟩); (exact absurd rfl hne); obtain ⟨rfl, v1, k1, hp1, hm1⟩ := h1; have hm := hmd.out.trans hm1; have hK1 := H.out.2.1.moved H.out.1 hm; have x7 := hK1.box.cell 7 _ rfl; have HK1 : Hid _ := hK1; have HP1 : Hid _ := hp1; have hb1 := hK1.box.lt; clear hK1) | (refine step_append_own rfl (.tmp 3) (.tmp 6) 44 rfl E.base 3 i0 (.int .i64 0) 1 8 Tryz.underlying44 hi hz0 hz1 hz2 rfl (by decide) (.slice ka kn kc) ks.length (ints ks) ?e1 ?e2 ⟨w1.heap.size, 0, none⟩ 1 1 [natV k] ?e3 rfl ?e4 ?e5 ?e6 ?e7 ?e8 ?_; (case e1 => simp [Act.eval]); (case e2 => exact HK1.out.row.alloc _); (case e3 => simp [Act.eval]); (case e4 => exact cell_one_new w1 _ _); (case e5 => intro u hu; simp at hu; subst hu; rfl); (case e6 => have := H.out.2.2.2.2.2; have := H.out.1.nds.len; have := H.out.1.sum; unfold maxLen; omega); (case e7 => have := H.out.2.2.2.2.2; have := H.out.1.nds.len; have := H.out.1.sum; omega); (case e8 => have := HP1.out.bs; simp; omega); intro v2 w2 ho hg hs; obtain ⟨g, c, rfl, hK2, hP2, hgw, hgf⟩ := HK1.out.app HP1.out (W := w1.alloc (.cells #[natV k] 3)) ((Below.refl _ _).alloc (Nat.le_refl _) _) (by simp) ho hg hs (n := 7) rfl; have hbe : w2.heap[b2]? = w1.heap[b2]? := hgw.block b2 hb1 (fun hc => (HK1.out.fr b2 hc.symm).2.1 rfl); have q7 := (World.cell?_of_block (w := w1) (a := ⟨b2, 7, none⟩) hbe).trans x7; have qf := (World.frozen?_of_block (w := w1) (a := ⟨b2, 7, none⟩) hbe).trans (HK1.out.box.fz 7)))
  all_goals (try go_wp2)
  all_goals go_end0
  all_goals
    have B1 := H.out.2.2.1.moved hm (by omega) H.out.2.2.2.1.1
    have O1 := H.out.2.2.2.1.moved H.out.2.2.1.lt hm
    have hgb : g ≠ b1 := by
      rcases hgf with rfl | hgf
      · have := B1.lt; simp; omega
      · exact H.out.2.2.2.2.1 g hgf
    refine ⟨rfl, v1, k1, hP2, some ⟨g, 0, none⟩, ks.length + 1, c, hK2, ?_, O1, ?_, ?_⟩
    · exact (B1.same (hgw.block b1 B1.lt (fun hc => H.out.2.2.2.2.1 b1 hc.symm rfl))).other h12 _
    · intro q hq
      simp [Value.ownBlock] at hq
      rw [← hq]; exact hgb
    · have e1 := HG.out k st' rfl
      have e2 := H.out.1.nds.len
      have e3 := HP1.out.nds.len
      have e4 := H.out.2.2.2.2.2
      simp; omega
end Go.Proofs.YtbejgachdhfakaaGreatDoor
/- A call. -/
namespace Go.Proofs.YtbejgachdhfakaaGreatDoor
open Go.RowKit

def DoesCall (F : FW) (n : Nat) : Prop := ∀ (E : Env) (w : World) (v : Value) (kvs : List Value) (st : St) (p : Nat) (x : ByteArray), Par E w v kvs st → call F E.s n p x st ≠ .out → Calls Tryz.prog 160 #[ptr E.p, natV p, .string x] w (PostN E w v kvs (call F E.s n p x st))
theorem KB.kept2 {E : Env} {w0 w w1 : World} {v0 v : Value} {k0 k : List Value} {b : Nat} {cs : List Value} {ka : Option Addr} {kn kc : Nat} {ks : List Nat} (h : KB E w0 v0 k0 b cs ka kn kc ks w v k) (hb : E.p < E.base) (hk : Kept E.p w w1) : KB E w0 v0 k0 b cs ka kn kc ks w1 v k :=
  ⟨h.mv.kept hk, h.off, h.box.kept hk (by have := h.pb; have := h.ge; omega), owns_kept h.row hk hb, h.fr, h.ge, h.pb⟩
theorem QArgs.kept2 {E : Env} {w0 : World} {v0 : Value} {k0 : List Value} {b1 b2 : Nat} {cs : List Value} {ks : List Nat} {w w1 : World} {v : Value} {k : List Value} (h : QArgs E w0 v0 k0 b1 b2 cs ks w v k) (hb : E.p < E.base) (hk : Kept E.p w w1) (h1 : b1 ≠ E.p) : QArgs E w0 v0 k0 b1 b2 cs ks w1 v k := by
  obtain ⟨ka, kn, kc, hK, hb', ho, hg, hl⟩ := h
  exact ⟨ka, kn, kc, hK.kept2 hb hk, hb'.kept hk h1, ho, hg, hl⟩
theorem QArgs.z {E : Env} {w0 : World} {v0 : Value} {k0 : List Value} {b1 b2 : Nat} {cs : List Value} {ks : List Nat} {w : World} {v : Value} {k : List Value} (h : QArgs E w0 v0 k0 b1 b2 cs ks w v k) : ZMov E w0 v0 k0 w := by
  obtain ⟨ka, kn, kc, hK, _⟩ := h
  exact ⟨v, k, hK.mv⟩
set_option maxRecDepth 100000 in
theorem call1_any {F : FW} {n : Nat} (hX : ∀ m, m ≤ n → DoesExpr F m) {E : Env} {w w0 : World} {v v0 : Value} {kvs k0 : List Value} {st : St} (h : Par E w v kvs st) {b1 b2 : Nat} {c0 c1 c2 c3 c4 c5 c6 : Value} (hQ : QArgs E w0 v0 k0 b1 b2 [c0, c1, c2, c3, c4, c5, c6] [] w v kvs) (p1 : E.p < b1) (h12 : b1 ≠ b2)
    (hne : args F E.s n st ≠ .out) :
    Calls Tryz.prog 167 #[ptr b1, ptr b2] w (PostQ unitV E (fun ks => QArgs E w0 v0 k0 b1 b2 [c0, c1, c2, c3, c4, c5, c6] ks) (ZMov E w0 v0 k0) (args F E.s n st)) := by
  match n, hX, hne with
  | 0, _, hne => exact absurd (by simp only [args]) hne
  | n + 1, hX, hne =>
    rw [args_listP] at hne ⊢
    have hL := list_any h 168 #[ptr b2, ptr b1] (fun w => by kernel_rfl) (fun m => row F E.s m 1) n (fun ks => QArgs E w0 v0 k0 b1 b2 [c0, c1, c2, c3, c4, c5, c6] ks) (ZMov E w0 v0 k0) hQ (fun ks w1 v1 k1 w2 hq hk => hq.kept2 h.pb hk (by omega)) (fun ks w1 v1 k1 hq => hq.z)
      (fun m hm ks _ w1 v1 k1 st1 hp hq hne1 => arg_any (hX m (by omega)) hp hq p1 h12 hne1) (fun m st1 b st2 hs => (went_expr F E.s m).1 _ _ _ _ hs) hne
    obtain ⟨ka, kn, kc, hK, hB1, _⟩ := hQ
    have d0 := hB1.cell 0 _ rfl
    generalize listP E.s (fun m => row F E.s m 1) n st = r at hL hne ⊢
    have hmf := mf
    clear hK hB1 h hX
    unfold PostQ at hL ⊢
    cases r with
    | out => exact absurd rfl hne
    | err c q =>
      dsimp only at hL ⊢
      go_enter Tryz.func167, Tryz.ntmps167
      go_wp2_with (go_at_call 45; refine hL.mono ?_; rintro e w1 ⟨rfl, hz⟩; unfold gaveUp)
      exact ⟨rfl, rfl, hz⟩
    | ok ks st1 =>
      dsimp only at hL ⊢
      go_enter Tryz.func167, Tryz.ntmps167
      go_wp2_with (go_at_call 45; refine hL.mono ?_; rintro e w1 ⟨rfl, hz⟩)
      go_end0
      exact ⟨rfl, hz⟩
set_option maxRecDepth 100000 in
theorem call_any {F : FW} {n : Nat} (hX : ∀ m, m ≤ n → DoesExpr F m) : DoesCall F (n + 1) := by
  intro E w v kvs st p x h hne
  simp only [call] at hne ⊢
  have hl := h.lt
  have hw := wb_below w E.p [.int .u8 4, natV p, .string x, .int .u8 0, .int .u8 0, .int .u64 0, .int .i64 0, .slice none 0 0] 46
  have B1 := wb_box1 w E.p [.int .u8 4, natV p, .string x, .int .u8 0, .int .u8 0, .int .u64 0, .int .i64 0, .slice none 0 0] 46
  have B2 := wb_box2 w E.p [.int .u8 4, natV p, .string x, .int .u8 0, .int .u8 0, .int .u64 0, .int .i64 0, .slice none 0 0] 46
  have hp := h.below hw
  have hm : Moved E.p w v kvs (WB w E.p [.int .u8 4, natV p, .string x, .int .u8 0, .int .u8 0, .int .u64 0, .int .i64 0, .slice none 0 0] 46) v kvs := (Kept.of_below hw).moved v kvs
  have e40 : (⟨#[40]⟩ : ByteArray).toList = [40] := by rw [Lib.toList_data]
  have hQ0 : QArgs E w v kvs w.heap.size (w.heap.size + 1) [.int .u8 4, natV p, .string x, .int .u8 0, .int .u8 0, .int .u64 0, .int .i64 0] [] (WB w E.p [.int .u8 4, natV p, .string x, .int .u8 0, .int .u8 0, .int .u64 0, .int .i64 0, .slice none 0 0] 46) v kvs :=
    ⟨none, 0, 0, ⟨hm, h.off (by omega), B2, World.ownsRow_nil _ _ _ _, fun g hg => (by cases hg), by omega, h.lt⟩, B1, h.off (Nat.le_refl _), fun g hg => (by cases hg), Nat.zero_le _⟩
  have hO := opened_any hp ⟨#[40]⟩ (by rw [e40]; simp) 167 #[ptr w.heap.size, ptr (w.heap.size + 1)] (fun w => by kernel_rfl) (args F E.s n) (fun ks => QArgs E w v kvs w.heap.size (w.heap.size + 1) [.int .u8 4, natV p, .string x, .int .u8 0, .int .u8 0, .int .u64 0, .int .i64 0] ks) (ZMov E w v kvs)
    (fun ks w2 v2 k2 u hq => hq.kept2 h.pb ((Kept.refl _ _).setP u) (by omega)) (fun w1 hk => ⟨v, kvs, hm.kept hk⟩) (fun s1 a s2 hs => ((went_expr F E.s n).2.2.2.2.2.2.2.1 s1 a s2 hs).opn) (by rw [e40]; exact bind_ne hne)
    (fun _ _ hu w1 hk hp1 => call1_any hX hp1 (hQ0.kept2 h.pb hk (by omega)) (by omega) (by omega) hu)
  rw [e40] at hO
  have hsum := h.sum
  have HS : Hid (∀ a st1, opened E.s [40] (args F E.s n) st = .ok a st1 → st1.nodes.length + 1 + st1.toks.length ≤ 140000) := fun a st1 hs => by
    have := (went_opened (d := 1) (by simp) (went_expr F E.s n).2.2.2.2.2.2.2.1 hs).sum
    omega
  generalize opened E.s [40] (args F E.s n) st = r at hO hne HS ⊢
  clear hp hm B1 B2 hw hX hQ0 h hsum
  have hmf := mf
  unfold PostQ at hO
  unfold PostN
  cases r with
  | out => exact absurd rfl hne
  | err c q =>
    dsimp only [Res.bind] at hO ⊢
    go_enter Tryz.func160, Tryz.ntmps160
    go_wp2_with (go_at_call 97; refine Calls.mono (by exact hO) ?_; rintro e w3 ⟨rfl, hz⟩; unfold gaveUp)
    exact ⟨rfl, rfl, hz⟩
  | ok a st1 =>
    dsimp only [Res.bind, putP] at hO ⊢
    go_enter Tryz.func160, Tryz.ntmps160
    go_wp2_with (go_at_call 97; refine Calls.mono (by exact hO) ?_; rintro e w3 ⟨rfl, v3, k3, hp3, ka, kn, kc, hK3, C1, _, _, _⟩; have x0 := C1.cell 0 _ rfl; have y0 := hK3.box.cell 0 _ rfl; have y1 := hK3.box.cell 1 _ rfl; have y2 := hK3.box.cell 2 _ rfl; have y3 := hK3.box.cell 3 _ rfl; have y4 := hK3.box.cell 4 _ rfl; have y5 := hK3.box.cell 5 _ rfl; have y6 := hK3.box.cell 6 _ rfl; have y7 := hK3.box.cell 7 _ rfl)
    have hput : Calls Tryz.prog 100 #[ptr E.p, .agg #[.int .u8 4, natV p, .string x, .int .u8 0, .int .u8 0, .int .u64 0, .int .i64 0, .slice ka kn kc]] w3 (PostN E w v kvs (putP ⟨4, p, x, 0, 0, 0, 0, a.2⟩ st1)) :=
      put_node hp3 hK3.mv ⟨4, p, x, 0, 0, 0, 0, a.2⟩ ka kn kc hK3.row (fun g hg => ⟨(hK3.fr g hg).1, (hK3.fr g hg).2.2⟩) (HS.out a st1 rfl)
    refine hput.mono ?_
    rintro e w4 h4
    unfold putP PostN at h4
    obtain ⟨rfl, h4⟩ := h4
    go_wp2
    go_ret
    exact ⟨rfl, h4⟩
end Go.Proofs.YtbejgachdhfakaaGreatDoor
