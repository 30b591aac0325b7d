/- A row of blocks whose rows of instructions lie in older memory: one more of them. -/
import Derived.Test.YtobnpllppohofaaGreatDoorGRCg
import Derived.Test.YtobnpllppohofaaGreatDoorGAhd2M
import Derived.Test.YtobnpllppohofaaGreatDoorGBoxM
namespace Go.Proofs.YtobnpllppohofaaGreatDoor
open Go.RowKit

/-- two rows of instructions of one copy lie apart -/
theorem CB.apart {w : World} {base : Nat} {v : Value} {bs : List Bl} {ivs : List Value} {avss : List (List Value)} (h : CB w base v bs ivs avss) {i j : Nat} (hij : i ≠ j) {iv jv : Value} {ai aj : List Value} (hi : ivs[i]? = some iv) (hj : ivs[j]? = some jv) (hai : avss[i]? = some ai) (haj : avss[j]? = some aj) :
  (∀ g, iv.ownBlock = some g → ¬ KB jv aj g) ∧ (∀ g, jv.ownBlock = some g → ¬ KB iv ai g) :=
 ⟨fun g hg => h.pw i j iv jv aj g hij hi hj haj hg, fun g hg => h.pw j i jv iv ai g (Ne.symm hij) hj hi hai hg⟩
end Go.Proofs.YtobnpllppohofaaGreatDoor
/- Blocks of a copy in another order: their rows of instructions stay where they lie; arguments put into one of them. -/
namespace Go.Proofs.YtobnpllppohofaaGreatDoor
open Go.RowKit

/-- a new row of blocks whose instructions lie where those of an older one lie -/
theorem CB.order {w w1 : World} {base top : Nat} {v v1 : Value} {bs cs : List Bl} {ivs : List Value} {avss : List (List Value)} (O : List Nat) (h : CB w base v bs ivs avss) (hb : Below top w w1) (htop : top = w.heap.size) (hbt : base ≤ top) (hO : O.Nodup) (hl : ∀ k ∈ O, k < bs.length) (hcl : cs.length = O.length) (hc : ∀ (i k : Nat), O[i]? = some k → (cs.getD i default).ins = (bs.getD k default).ins)
  (hrow : w1.ownsRow top 49 6 v1 cs.length (blsCells cs (O.map fun k => ivs.getD k default))) : CB w1 base v1 cs (O.map fun k => ivs.getD k default) (O.map fun k => avss.getD k default) := by
 subst htop
 have hk : ∀ (i : Nat) (iv : Value), (O.map fun k => ivs.getD k default)[i]? = some iv → ∃ k, O[i]? = some k ∧ k < bs.length ∧ ivs[k]? = some iv := fun i iv hi => by
  rw [List.getElem?_map] at hi
  cases ho : O[i]? with
  | none => rw [ho] at hi; cases hi
  | some k =>
   rw [ho] at hi
   have hkl := hl k (List.mem_of_getElem? ho)
   refine ⟨k, rfl, hkl, ?_⟩
   rw [Option.map_some, Option.some.injEq, List.getD_eq_getElem?_getD, List.getElem?_eq_getElem (by rw [h.al]; exact hkl)] at hi
   rw [List.getElem?_eq_getElem (by rw [h.al]; exact hkl)]
   exact congrArg some hi
 have ha : ∀ (i : Nat) (avs : List Value), (O.map fun k => avss.getD k default)[i]? = some avs → ∃ k, O[i]? = some k ∧ avss[k]? = some avs := fun i iv hi => by
  rw [List.getElem?_map] at hi
  cases ho : O[i]? with
  | none => rw [ho] at hi; cases hi
  | some k =>
   rw [ho] at hi
   have hkl := hl k (List.mem_of_getElem? ho)
   refine ⟨k, rfl, ?_⟩
   rw [Option.map_some, Option.some.injEq, List.getD_eq_getElem?_getD, List.getElem?_eq_getElem (by rw [h.vl]; exact hkl)] at hi
   rw [List.getElem?_eq_getElem (by rw [h.vl]; exact hkl)]
   exact congrArg some hi
 have hsz : ∀ (i : Nat) (iv : Value) (avs : List Value), (O.map fun k => ivs.getD k default)[i]? = some iv → (O.map fun k => avss.getD k default)[i]? = some avs → ∀ g, KB iv avs g → g < w.heap.size := fun i iv avs h1 h2 g hg => by
  obtain ⟨k, e1, e2, e3⟩ := hk i iv h1
  obtain ⟨k', f1, f2⟩ := ha i avs h2
  rw [e1] at f1; cases f1
  exact (h.iv_kb e3 f2 hg).2
 refine ⟨own_mono hrow hbt, by rw [List.length_map, hcl], by rw [List.length_map, hcl], fun i b iv avs h1 h2 h3 => ?_, fun i iv avs g h2 h3 hg hc' => ?_, fun i j iv jv avs g hij h1 h2 h3 hg hkb => ?_⟩
 ·obtain ⟨k, e1, e2, e3⟩ := hk i iv h2
  obtain ⟨k', f1, f2⟩ := ha i avs h3
  rw [e1] at f1; cases f1
  have hbi : (cs.getD i default) = b := by rw [List.getD_eq_getElem?_getD, h1]; rfl
  have := h.kid k (bs.getD k default) iv avs (getD_somL e2) e3 f2
  rw [← hc i k e1, hbi] at this
  exact this.below hb
 ·have h8 := hsz i iv avs h2 h3 g hg
  have := (hrow.lt g hc').1
  omega
 ·obtain ⟨k, e1, e2, e3⟩ := hk i iv h1
  obtain ⟨k2, e4, e5, e6⟩ := hk j jv h2
  obtain ⟨k', f1, f2⟩ := ha j avs h3
  rw [e4] at f1; cases f1
  refine h.pw k k2 iv jv avs g (fun e => ?_) e3 e6 f2 hg hkb
  subst e
  obtain ⟨p1, p2⟩ := List.getElem?_eq_some_iff.1 e1
  obtain ⟨p3, p4⟩ := List.getElem?_eq_some_iff.1 e4
  rcases Nat.lt_trichotomy i j with hlt | heq | hgt
  ·exact List.pairwise_iff_getElem.1 hO _ _ p1 p3 hlt (p2.trans p4.symm)
  ·exact hij heq
  ·exact List.pairwise_iff_getElem.1 hO _ _ p3 p1 hgt (p4.trans p2.symm)
theorem insCells_arg : ∀ {l : List In} {avs : List Value} {k : Nat} {x : In} (xs : List Int) (av : Value), l[k]? = some x → avs.length = l.length → (insCells l avs).set (k * 6 + 3) av = insCells (l.set k { x with args := xs }) (avs.set k av)
 | z :: l, a :: avs, 0, x, xs, av, hx, _ => by
  simp at hx; subst hx
  simp [insCells, inCells]
 | z :: l, a :: avs, k + 1, x, xs, av, hx, hl => by
  have := insCells_arg (l := l) (avs := avs) (k := k) (x := x) xs av (by simpa using hx) (by simpa using hl)
  rw [List.set_cons_succ, List.set_cons_succ, insCells_cons, insCells_cons, set_six rfl, this]
 | [], _, _, _, _, _, hx, _ => by simp at hx
 | _ :: _, [], _, _, _, _, _, hl => by simp at hl
theorem blsCells_ins' : ∀ {bs : List Bl} {ivs : List Value} {i : Nat} {b : Bl} (l : List In), bs[i]? = some b → blsCells (bs.set i ⟨l, b.tm⟩) ivs = blsCells bs ivs
 | c :: bs, a :: ivs, 0, b, l, hx => by
  simp at hx; subst hx
  simp [blsCells, blCells]
 | c :: bs, a :: ivs, i + 1, b, l, hx => by
  have := blsCells_ins' (bs := bs) (ivs := ivs) (i := i) (b := b) l (by simpa using hx)
  rw [List.set_cons_succ, blsCells_cons, blsCells_cons, this]
 | [], _, _, _, _, hx => by simp at hx
 | _ :: _, [], i, _, _, _ => by cases i <;> simp [blsCells]
theorem kb_new {iv av : Value} {avs : List Value} {k g : Nat} (h : KB iv (avs.set k av) g) : KB iv avs g ∨ av.ownBlock = some g := by
 rcases h with h | ⟨i, a, ha, hg⟩
 ·exact .inl (.inl h)
 ·rw [List.getElem?_set] at ha
  split at ha
  ·split at ha
   ·cases ha; exact .inr hg
   ·cases ha
  ·exact .inl (.inr ⟨i, a, ha, hg⟩)
/-- new arguments are put into an instruction -/
theorem CB.arg {w w1 : World} {base : Nat} {v av : Value} {bs : List Bl} {ivs : List Value} {avss : List (List Value)} (h : CB w base v bs ivs avss) (hw : Below w.heap.size w w1) (hbs : base ≤ w.heap.size) {i k g c : Nat} {b : Bl} {x : In} {xs : List Int} {avs : List Value} (hb : bs[i]? = some b) (hx : b.ins[k]? = some x) (hi : ivs[i]? = some (.slice (some ⟨g, 0, none⟩) b.ins.length c)) (ha : avss[i]? = some avs) (hav : OwnI w1 w.heap.size av xs) :
  CB (w1.setCell ⟨g, k * 6 + 3, none⟩ av) base v (bs.set i ⟨b.ins.set k { x with args := xs }, b.tm⟩) ivs (avss.set i (avs.set k av)) := by
 have h1 := h.below hw
 have hil : i < bs.length := (List.getElem?_eq_some_iff.1 hb).1
 have hkl : k < b.ins.length := (List.getElem?_eq_some_iff.1 hx).1
 have hK := h1.kid i b _ avs hb hi ha
 have hgo : (Value.slice (some ⟨g, 0, none⟩) b.ins.length c).ownBlock = some g := rfl
 have hkp := fun {q : Nat} (hq : q ≠ g) => Below.heap_setCell w1 ⟨g, k * 6 + 3, none⟩ av q (by show q ≠ g; exact hq)
 have hnew : ∀ q, av.ownBlock = some q → w.heap.size ≤ q := fun q hq => (hav.lt q hq).1
 have hold : ∀ (j : Nat) (jv : Value) (as' : List Value) (q : Nat), ivs[j]? = some jv → avss[j]? = some as' → KB jv as' q → q < w.heap.size := fun j jv as' q h2 h3 hq => (h.iv_kb h2 h3 hq).2
 have hset : ∀ (j : Nat) (as' : List Value), (avss.set i (avs.set k av))[j]? = some as' → (j = i ∧ as' = avs.set k av) ∨ (j ≠ i ∧ avss[j]? = some as') := fun j as' hj => by
  rw [List.getElem?_set] at hj
  split at hj
  ·rename_i e
   split at hj
   ·cases hj; exact .inl ⟨e.symm, rfl⟩
   ·cases hj
  ·rename_i e
   exact .inr ⟨fun e2 => e e2.symm, hj⟩
 refine ⟨?_, by simp [h.al], by simp [h.vl], fun j b' jv as' h1' h2 h3 => ?_, fun j jv as' q h2 h3 hq => ?_, fun j1 j2 jv kv as' q hij h1' h2 h3 hjq hq => ?_⟩
 ·rw [blsCells_ins' _ hb, List.length_set]
  exact owns_same h1.row fun q hq => hkp (fun e => h1.ap i _ avs q hi ha (.inl (by rw [e]; exact hgo)) hq)
 ·rcases hset j as' h3 with ⟨e, e2⟩ | ⟨e, h3⟩
  ·subst e e2
   rw [hi] at h2
   cases h2
   rw [List.getElem?_set, if_pos rfl, if_pos hil] at h1'
   cases h1'
   refine ⟨?_, by simp [hK.al], fun t z a hz hza => ?_, fun t a q hta hq => ?_⟩
   ·have h6 := (World.ownsRow.stored hK.row (k * 6 + 3) av).1
    rw [insCells_arg xs av hx hK.al] at h6
    show World.ownsRow _ _ _ _ _ (b.ins.set k _).length _
    rw [List.length_set]
    exact h6
   ·rw [List.getElem?_set] at hz hza
    by_cases e : k = t
    ·subst e
     rw [if_pos rfl, if_pos hkl] at hz
     rw [if_pos rfl, if_pos (by rw [hK.al]; exact hkl)] at hza
     cases hz; cases hza
     refine owns_same (own_mono hav hbs) fun q hq => hkp (fun e2 => ?_)
     have := hnew q hq
     have := hold j _ avs q hi ha (.inl (by rw [e2]; exact hgo))
     omega
    ·rw [if_neg e] at hz hza
     refine owns_same (hK.kid t z a hz hza) fun q hq => hkp (fun e2 => hK.ap t a q hza hq (by rw [e2]; exact hgo))
   ·rw [List.getElem?_set] at hta
    split at hta
    ·split at hta
     ·cases hta
      intro hc
      have := hnew q hq
      have := hold j _ avs q hi ha (.inl hc)
      omega
     ·cases hta
    ·exact hK.ap t a q hta hq
  ·rw [List.getElem?_set, if_neg (fun e2 => e e2.symm)] at h1'
   have hc := h1.kid j b' jv as' h1' h2 h3
   exact hc.same fun q hq => hkp (fun e2 => h1.pw i j _ jv as' q (fun e3 => e e3.symm) hi h2 h3 (by rw [e2]; exact hgo) hq)
 ·rcases hset j as' h3 with ⟨e, e2⟩ | ⟨e, h3⟩
  ·subst e e2
   rcases kb_new hq with hq | hq
   ·exact h.ap j jv avs q h2 ha hq
   ·intro hc
    have := hnew q hq
    have := (h.row.lt q hc).2
    omega
  ·exact h.ap j jv as' q h2 h3 hq
 ·rcases hset j2 as' h3 with ⟨e, e2⟩ | ⟨e, h3⟩
  ·subst e e2
   rcases kb_new hq with hq | hq
   ·exact h.pw j1 j2 jv kv avs q hij h1' h2 ha hjq hq
   ·have := hnew q hq
    have hj1 : j1 < avss.length := by rw [h.vl, ← h.al]; exact (List.getElem?_eq_some_iff.1 h1').1
    have := hold j1 jv _ q h1' (List.getElem?_eq_getElem hj1) (.inl hjq)
    omega
  ·exact h.pw j1 j2 jv kv as' q hij h1' h2 h3 hjq hq
end Go.Proofs.YtobnpllppohofaaGreatDoor
/- The document's side: what follows a block. -/
namespace Go.Proofs.YtobnpllppohofaaGreatDoor
open Go.RowKit

theorem own_lit3 (w : World) (o : Obj) (k : Nat) (cs : Array Value) (e : TypeId) (n : Nat) (hm : n ≤ maxLen) (hs : cs.size = n * 1) : (((w.alloc o).drewN k).alloc (.cells cs e)).ownsRow w.heap.size e 1 (.slice (some ⟨w.heap.size + 1, 0, none⟩) n n) n cs.toList := by
 have h := World.ownsRow_lit (base := w.heap.size) (e := e) (size := 1) ((w.alloc o).drewN k) cs n (below_drewN (below_alloc (Below.refl _ _) o) k).size hm hs
 rwa [show ((w.alloc o).drewN k).heap.size = w.heap.size + 1 by show (w.alloc o).heap.size = _; simp] at h
set_option maxRecDepth 100000 in
set_option maxHeartbeats 1000000 in
theorem rnext_any (iv : Value) (t : Tm) (w : World) : Calls Tryz.prog 20 #[.agg (blArr iv t)] w fun e w' => ∃ v, e = .returned v ∧ OwnI w' w.heap.size v (nextT t) ∧ Below w.heap.size w w' := by
 obtain ⟨k, a, x, y, z⟩ := t
 unfold nextT
 dsimp only
 have HB : Hid (∀ o k2 o2, Below w.heap.size w (((w.alloc o).drewN k2).alloc o2)) := fun o k2 o2 => below_alloc (below_drewN (below_alloc (Below.refl _ _) _) _) _
 by_cases h1 : k = 1
 ·subst h1
  go_enter Tryz.func20, Tryz.ntmps20
  go_wp2
  go_quiet (fail)
  go_wp2
  go_ret
  exact ⟨.slice (some ⟨w.heap.size + 1, 0, none⟩) 1 1, rfl, own_lit3 w _ _ #[.int .i64 x] _ 1 (by decide) rfl, HB.out _ _ _⟩
 by_cases h2 : k = 2
 ·subst h2
  by_cases hxy : x = y
  ·subst hxy
   rw [if_neg (by decide), if_pos rfl, if_pos rfl]
   go_enter Tryz.func20, Tryz.ntmps20
   go_wp2
   go_quiet (fail)
   go_wp2
   go_ret
   exact ⟨.slice (some ⟨w.heap.size + 1, 0, none⟩) 1 1, rfl, own_lit3 w _ _ #[.int .i64 x] _ 1 (by decide) rfl, HB.out _ _ _⟩
  ·have hxf : (x == y) = false := beq_false_of_ne hxy
   rw [if_neg (by decide), if_pos rfl, if_neg hxy]
   by_cases hl : x < y
   ·rw [if_pos hl]
    go_enter Tryz.func20, Tryz.ntmps20
    go_wp2
    go_quiet (fail)
    go_wp2
    go_ret
    exact ⟨.slice (some ⟨w.heap.size + 1, 0, none⟩) 2 2, rfl, own_lit3 w _ _ #[.int .i64 x, .int .i64 y] _ 2 (by decide) rfl, HB.out _ _ _⟩
   ·rw [if_neg hl]
    go_enter Tryz.func20, Tryz.ntmps20
    go_wp2
    go_quiet (fail)
    go_wp2
    go_ret
    exact ⟨.slice (some ⟨w.heap.size + 1, 0, none⟩) 2 2, rfl, own_lit3 w _ _ #[.int .i64 y, .int .i64 x] _ 2 (by decide) rfl, HB.out _ _ _⟩
 ·rw [if_neg h1, if_neg h2]
  have k1 : (k == 1) = false := beq_false_of_ne h1
  have k2 : (k == 2) = false := beq_false_of_ne h2
  go_enter Tryz.func20, Tryz.ntmps20
  go_wp2
  go_quiet (fail)
  go_wp2
  go_ret
  exact ⟨_, rfl, World.ownsRow_nil _ _ _ _, below_drewN (below_alloc (Below.refl _ _) _) _⟩
end Go.Proofs.YtobnpllppohofaaGreatDoor
/- append onto a row of one's own, as one step of a region that draws. -/
namespace Go.Proofs.YtobnpllppohofaaGreatDoor
open Go.RowKit

theorem step_append_own {P : Program} {ops : Array Oper} {o : Oper} {a : Act} {w : World} {K : Act → World → Prop} {Q : Exit → Act → World → Prop} {E : Prop}
  (hg : o.guard = none) (s x : Operand) (t : TypeId) (hop : o.op = Op.call { callee := Callee.builtin Builtin.append, args := #[s, x], argTypes := #[t, t] })
  (base : Nat) (e : TypeId) (i : TypeInfo) (z : Value) (size bytes : Nat) (h1 : P.underlying t = some (.slice e)) (h2 : P.info? e = some i) (h3 : i.zero = some z) (h4 : i.size = size) (h5 : i.bytes = bytes) (h6 : z.cells.size = size) (h7 : 0 < size)
  (v : Value) (n : Nat) (xs : List Value) (hs : a.eval s = v) (hown : w.ownsRow base e size v n xs)
  (ad : Addr) (m c : Nat) (news : List Value) (hx : a.eval x = .slice (some ad) m c) (hn : news.length = m * size) (hc : ∀ j u, news[j]? = some u → w.cell? (ad.add j) = some u) (h1c : ∀ u ∈ news, u.oneCell' = true)
  (b1 : n + m ≤ maxLen) (b2 : (n + m) * bytes ≤ 140737488355328) (hbase : base ≤ w.heap.size)
  (hK : ∀ v' w', w'.ownsRow base e size v' (n + m) (xs ++ news) → w.grownBy w' v.ownBlock → (v'.ownBlock = v.ownBlock ∨ v'.ownBlock = some w.heap.size) → K (a.put o.dst v') w') :
  if Region.wanted o (yielded ops a.tmps) = true then Oper.wp P o a w K Q else E := by
 have hw : Region.wanted o (yielded ops a.tmps) = true := by simp [Region.wanted, hg]
 rw [if_pos hw]
 obtain ⟨v', w', hrun, r1, r2, _, r3⟩ := run_append_own_at (P := P) w base t o.type e i z size bytes h1 h2 h3 h4 h5 h6 h7 v n xs hown ad m c news hn hc h1c b1 b2 hbase
 unfold Oper.wp
 simp [execOp, hop, resolve, invoke, builtin, hs, hx, hrun, Result.andThen]
 exact hK v' w' r1 r2 r3
end Go.Proofs.YtobnpllppohofaaGreatDoor
