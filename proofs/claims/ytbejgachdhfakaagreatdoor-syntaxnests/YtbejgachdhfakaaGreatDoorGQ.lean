/- Which trees are right, in plain functions: node by node. -/
import Derived.Test.YtbejgachdhfakaaGreatDoorScal
import Derived.Test.YtbejgachdhfakaaGreatDoorGB
import Derived.Test.YtbejgachdhfakaaGreatDoorGL
import Derived.Test.YtbejgachdhfakaaGreatDoorGC
namespace Go.Proofs.YtbejgachdhfakaaGreatDoor
open Go.RowKit

/-- A node of any tree. -/
structure Nr where
  kind : Int
  pl : Int
  name : ByteArray
  typ : Int
  op : Int
  bits : Int
  size : Int
  kids : List Int
/-- A function of any tree. -/
structure Fr where
  name : ByteArray
  pl : Int
  pars : List (ByteArray × Int × Int)
  res : Int
  body : Int
/-- What a node of a kind has: a name, a type; the first kid's sort, the others', how many at least and at most. -/
abbrev Shp := Bool × Bool × Nat × Nat × Nat × Nat
def shapesL : List Shp :=
  [(false, false, 0, 0, 0, 0), (false, true, 0, 0, 0, 0), (true, false, 0, 0, 0, 0), (true, false, 1, 0, 1, 1), (true, false, 1, 1, 0, 9223372036854775807), (false, true, 1, 0, 1, 1), (false, false, 1, 0, 1, 1),
   (false, false, 1, 1, 2, 2), (false, false, 1, 1, 2, 2), (false, false, 1, 1, 2, 2), (true, true, 1, 0, 1, 1), (true, true, 0, 0, 0, 0), (true, false, 1, 0, 1, 1), (true, false, 1, 1, 2, 2),
   (false, false, 1, 4, 2, 3), (false, false, 1, 4, 2, 2), (false, false, 0, 0, 0, 0), (false, false, 0, 0, 0, 0), (false, false, 1, 0, 1, 1), (false, false, 1, 0, 1, 1), (false, false, 2, 0, 1, 1), (false, false, 3, 3, 0, 9223372036854775807)]
def shapeOf (k : Int) : Shp := shapesL.getD k.toNat (false, false, 0, 0, 0, 0)
def kindB (k : Int) : Bool := decide (1 ≤ k) && decide (k ≤ 21)
def tokOne (n : Nat) : List Tok → Bool
  | [t, _] => decide (t = (2, 0, n))
  | _ => false
def nameB (s : ByteArray) : Bool := decide (s.size ≤ 32) && tokOne s.size (toksOf s.data.toList)
def opB (k o : Int) : Bool := if k = 6 then o == 17 || o == 18 else if k = 7 then decide (1 ≤ o) && decide (o ≤ 16) else o == 0
def bitsB (k t b : Int) : Bool := if k = 1 then litB t b else b == 0
def sizeB (k z : Int) : Bool := if k = 11 then decide (1 ≤ z) && decide (z ≤ 256) else z == 0
def standsB (k s : Int) : Bool := if s = 1 then decide (1 ≤ k) && decide (k ≤ 9) else if s = 2 then k == 4 else if s = 3 then decide (10 ≤ k) && decide (k ≤ 20) else if s = 4 then k == 21 else false
def fieldsB (n : Nr) : Bool := kindB n.kind && (if (shapeOf n.kind).1 then nameB n.name else n.name.toList == []) && (if (shapeOf n.kind).2.1 then typedB n.typ else n.typ == 0) && (opB n.kind n.op && bitsB n.kind n.typ n.bits && sizeB n.kind n.size)
def rankI (k o : Int) : Int := match opsL.find? (fun e => ((e.2.2.1 : Int) == k) && ((e.2.2.2 : Int) == o)) with | some e => (e.2.1 : Int) | none => if k = 6 then 6 else 7
def parenB (a b i : Int) : Bool := if a = 7 then false else decide (b < a) || (b == a && decide (0 < i))
def nodeAt (ns : List Nr) (k : Int) : Nr := ns.getD k.toNat ⟨0, 0, ⟨#[]⟩, 0, 0, 0, 0, []⟩
def standAll (ns : List Nr) (rest : Int) : Int → List Int → Bool
  | _, [] => true
  | want, k :: ks => standsB (nodeAt ns k).kind want && standAll ns rest rest ks
def kidsB (ns : List Nr) (n : Nr) : Bool := decide ((shapeOf n.kind).2.2.2.2.1 ≤ n.kids.length) && decide (n.kids.length ≤ (shapeOf n.kind).2.2.2.2.2) && standAll ns ((shapeOf n.kind).2.2.2.1 : Int) ((shapeOf n.kind).2.2.1 : Int) n.kids
def opensF (ns : List Nr) (os : List Nat) (r : Int) : Nat → Nat → List Int → Nat
  | most, _, [] => most
  | most, i, k :: ks => opensF ns os r (max most (os.getD k.toNat 0 + if parenB r (rankI (nodeAt ns k).kind (nodeAt ns k).op) (i : Int) = true then 1 else 0)) (i + 1) ks
def opensK (k : Int) : Bool := k == 3 || k == 4 || k == 5 || k == 6 || k == 21
def opensN (ns : List Nr) (os : List Nat) (n : Nr) : Nat := opensF ns os (rankI n.kind n.op) 0 0 n.kids + if opensK n.kind = true then 1 else 0
abbrev asInts (l : List Nat) : List Int := l.map fun (k : Nat) => (k : Int)
def rightN (ns : List Nr) : List Nr → Nat → List Nat → List Nat → Option (List Nat × List Nat)
  | [], _, en, os => some (en, os)
  | n :: r, i, en, os =>
    if n.kids.length ≤ en.length ∧ asInts (en.drop (en.length - n.kids.length)) = n.kids ∧ fieldsB n = true ∧ kidsB ns n = true then rightN ns r (i + 1) (en.take (en.length - n.kids.length) ++ [i]) (os ++ [opensN ns os n]) else none
def parsB (ps : List (ByteArray × Int × Int)) : Bool := ps.all fun p => nameB p.1 && typedB p.2.2
def headB (f : Fr) : Bool := parsB f.pars && (nameB f.name && typedB f.res)
def fnsR (ns : List Nr) (os : List Nat) : List Fr → List Nat → Bool
  | f :: fs, e :: es => (f.body == (e : Int)) && ((nodeAt ns f.body).kind == 21) && decide (os.getD f.body.toNat 0 ≤ 32) && headB f && fnsR ns os fs es
  | _, _ => true
def rightT (ns : List Nr) (fs : List Fr) : Bool := match rightN ns ns 0 [] [] with | none => false | some (en, os) => decide (en.length = fs.length) && fnsR ns os fs en
/-- The table of shapes. -/
def ShapesAt (w : World) : Prop := ∀ k s, shapesL[k]? = some s → w.cell? ⟨0, 6 * k, none⟩ = some (.bool s.1) ∧ w.cell? ⟨0, 6 * k + 1, none⟩ = some (.bool s.2.1) ∧ w.cell? ⟨0, 6 * k + 2, none⟩ = some (.int .u8 (s.2.2.1 : Int)) ∧ w.cell? ⟨0, 6 * k + 3, none⟩ = some (.int .u8 (s.2.2.2.1 : Int)) ∧ w.cell? ⟨0, 6 * k + 4, none⟩ = some (.int .i64 (s.2.2.2.2.1 : Int)) ∧ w.cell? ⟨0, 6 * k + 5, none⟩ = some (.int .i64 (s.2.2.2.2.2 : Int))
theorem ShapesAt.same {w w' : World} (h : ShapesAt w) (hc : ∀ j, w'.cell? ⟨0, j, none⟩ = w.cell? ⟨0, j, none⟩) : ShapesAt w' := fun k s hs => by
  rw [hc, hc, hc, hc, hc, hc]; exact h k s hs
/-- A row of ints that is read. -/
def IntsAt (w : World) (v : Value) (ks : List Int) : Prop := ∃ a c, v = .slice a ks.length c ∧ (ks = [] ∨ ∃ g o, a = some ⟨g, o, none⟩ ∧ g < w.heap.size ∧ ∀ j k, ks[j]? = some k → w.cell? ⟨g, o + j, none⟩ = some (.int .i64 k))
theorem IntsAt.below {w w' : World} {v : Value} {ks : List Int} (h : IntsAt w v ks) (hb : Below w.heap.size w w') : IntsAt w' v ks := by
  obtain ⟨a, c, hv, hc⟩ := h
  refine ⟨a, c, hv, ?_⟩
  rcases hc with h0 | ⟨g, o, ha, hg, hc⟩
  · exact .inl h0
  · exact .inr ⟨g, o, ha, Nat.lt_of_lt_of_le hg hb.size, fun j k hk => (hb.cell (p := ⟨g, o + j, none⟩) hg).trans (hc j k hk)⟩
def nrCells (n : Nr) (kv : Value) : List Value := [.int .u8 n.kind, .int .i64 n.pl, .string n.name, .int .u8 n.typ, .int .u8 n.op, .int .u64 n.bits, .int .i64 n.size, kv]
/-- The nodes that are read: a row at a block's place, and for each node a row of its kids. -/
structure NodesAt (w : World) (g o : Nat) (kvs : List Value) (ns : List Nr) : Prop where
  lt : g < w.heap.size
  len : kvs.length = ns.length
  cell : ∀ (i : Nat) (n : Nr) (kv : Value), ns[i]? = some n → kvs[i]? = some kv → ∀ j u, (nrCells n kv)[j]? = some u → w.cell? ⟨g, o + 8 * i + j, none⟩ = some u
  kid : ∀ (i : Nat) (n : Nr) (kv : Value), ns[i]? = some n → kvs[i]? = some kv → IntsAt w kv n.kids
theorem NodesAt.below {w w' : World} {g o : Nat} {kvs : List Value} {ns : List Nr} (h : NodesAt w g o kvs ns) (hb : Below w.heap.size w w') : NodesAt w' g o kvs ns :=
  ⟨Nat.lt_of_lt_of_le h.lt hb.size, h.len, fun i n kv h1 h2 j u hj => (hb.cell (p := ⟨g, o + 8 * i + j, none⟩) h.lt).trans (h.cell i n kv h1 h2 j u hj), fun i n kv h1 h2 => (h.kid i n kv h1 h2).below hb⟩
end Go.Proofs.YtbejgachdhfakaaGreatDoor
/- What is right of a node, but for its kids: small contracts. -/
namespace Go.Proofs.YtbejgachdhfakaaGreatDoor
open Go.RowKit

abbrev nV (k p : Int) (nm : ByteArray) (t o b z : Int) (ka : Option Addr) (kn kc : Nat) : Value := .agg #[.int .u8 k, .int .i64 p, .string nm, .int .u8 t, .int .u8 o, .int .u64 b, .int .i64 z, .slice ka kn kc]
abbrev nArr (k p : Int) (nm : ByteArray) (t o b z : Int) (ka : Option Addr) (kn kc : Nat) : Array Value := #[.int .u8 k, .int .i64 p, .string nm, .int .u8 t, .int .u8 o, .int .u64 b, .int .i64 z, .slice ka kn kc]
theorem nBelow (w : World) (cs : Array Value) (t : TypeId) : Below w.heap.size w (w.alloc (.cells cs t)) := (Below.refl _ _).alloc (Nat.le_refl _) _
theorem box8 {w : World} {b : Nat} {x0 x1 x2 x3 x4 x5 x6 x7 : Value} (h : Box w b [x0, x1, x2, x3, x4, x5, x6, x7]) : w.cell? ⟨b, 0, none⟩ = some x0 ∧ w.cell? ⟨b, 1, none⟩ = some x1 ∧ w.cell? ⟨b, 2, none⟩ = some x2 ∧ w.cell? ⟨b, 3, none⟩ = some x3 ∧ w.cell? ⟨b, 4, none⟩ = some x4 ∧ w.cell? ⟨b, 5, none⟩ = some x5 ∧ w.cell? ⟨b, 6, none⟩ = some x6 ∧ w.cell? ⟨b, 7, none⟩ = some x7 :=
  ⟨h.cell 0 _ rfl, h.cell 1 _ rfl, h.cell 2 _ rfl, h.cell 3 _ rfl, h.cell 4 _ rfl, h.cell 5 _ rfl, h.cell 6 _ rfl, h.cell 7 _ rfl⟩
theorem rightKind_any (k : Int) (w : World) : Calls Tryz.prog 49 #[.int .u8 k] w fun e w' => e = .returned (.bool (kindB k)) ∧ w' = w := by
  go_enter Tryz.func49, Tryz.ntmps49
  go_wp2
  all_goals go_ret
  all_goals exact ⟨ret_bool (by simp_all [kindB] <;> omega), rfl⟩
theorem rightOp_any (k p : Int) (nm : ByteArray) (t o b z : Int) (ka : Option Addr) (kn kc : Nat) (w : World) : Calls Tryz.prog 52 #[nV k p nm t o b z ka kn kc] w fun e w' => e = .returned (.bool (opB k o)) ∧ Below w.heap.size w w' := by
  by_cases h6 : k = 6
  · subst h6
    go_enter Tryz.func52, Tryz.ntmps52
    go_wp2
    all_goals go_ret
    all_goals exact ⟨ret_bool (by simp_all [opB] <;> omega), nBelow _ _ _⟩
  by_cases h7 : k = 7
  · subst h7
    go_enter Tryz.func52, Tryz.ntmps52
    go_wp2
    all_goals go_ret
    all_goals exact ⟨ret_bool (by simp_all [opB] <;> omega), nBelow _ _ _⟩
  · go_enter Tryz.func52, Tryz.ntmps52
    go_wp2
    all_goals go_ret
    all_goals exact ⟨ret_bool (by simp_all [opB] <;> omega), nBelow _ _ _⟩
set_option maxRecDepth 100000 in
theorem rightBits_any (k p : Int) (nm : ByteArray) (t o b z : Int) (ka : Option Addr) (kn kc : Nat) (w : World) (hb : Hid (word b)) : Calls Tryz.prog 53 #[nV k p nm t o b z ka kn kc] w fun e w' => e = .returned (.bool (bitsB k t b)) ∧ Below w.heap.size w w' := by
  have HL : Hid (∀ W, Calls Tryz.prog 102 #[.int .u8 t, .int .u64 b] W fun e w' => e = .returned (.bool (litB t b)) ∧ w' = W) := fun W => litWord_any t b W (.inr hb.out)
  by_cases h1 : k = 1
  · subst h1
    go_enter Tryz.func53, Tryz.ntmps53
    go_wp2_with (go_at_call 102; refine Calls.mono (by exact HL.out _) ?_; rintro e w' ⟨rfl, rfl⟩)
    go_ret
    exact ⟨ret_bool (by simp [bitsB]), nBelow _ _ _⟩
  · clear HL hb
    go_enter Tryz.func53, Tryz.ntmps53
    go_wp2
    go_ret
    exact ⟨ret_bool (by simp [bitsB, h1]), nBelow _ _ _⟩
theorem rightSize_any (k p : Int) (nm : ByteArray) (t o b z : Int) (ka : Option Addr) (kn kc : Nat) (w : World) : Calls Tryz.prog 54 #[nV k p nm t o b z ka kn kc] w fun e w' => e = .returned (.bool (sizeB k z)) ∧ Below w.heap.size w w' := by
  by_cases h1 : k = 11
  · subst h1
    go_enter Tryz.func54, Tryz.ntmps54
    go_wp2
    all_goals go_ret
    all_goals exact ⟨ret_bool (by simp_all [sizeB] <;> omega), nBelow _ _ _⟩
  · go_enter Tryz.func54, Tryz.ntmps54
    go_wp2
    all_goals go_ret
    all_goals exact ⟨ret_bool (by simp_all [sizeB] <;> omega), nBelow _ _ _⟩
theorem stands_any (k s : Int) (w : World) : Calls Tryz.prog 55 #[.int .u8 k, .int .u8 s] w fun e w' => e = .returned (.bool (standsB k s)) ∧ w' = w := by
  by_cases h1 : s = 1
  · subst h1
    go_enter Tryz.func55, Tryz.ntmps55
    go_wp2
    all_goals go_ret
    all_goals exact ⟨ret_bool (by simp_all [standsB] <;> omega), rfl⟩
  by_cases h2 : s = 2
  · subst h2
    go_enter Tryz.func55, Tryz.ntmps55
    go_wp2
    all_goals go_ret
    all_goals exact ⟨ret_bool (by simp_all [standsB] <;> omega), rfl⟩
  by_cases h3 : s = 3
  · subst h3
    go_enter Tryz.func55, Tryz.ntmps55
    go_wp2
    all_goals go_ret
    all_goals exact ⟨ret_bool (by simp_all [standsB] <;> omega), rfl⟩
  · go_enter Tryz.func55, Tryz.ntmps55
    go_wp2
    all_goals go_ret
    all_goals exact ⟨ret_bool (by simp_all [standsB] <;> omega), rfl⟩
theorem own_len {w : World} {base : Nat} {e : TypeId} {sz : Nat} {v : Value} {n : Nat} {xs : List Value} (h : w.ownsRow base e sz v n xs) : ∃ a k c, v = .slice a k c ∧ k = n := by
  rcases h.2 with ⟨rfl, h0⟩ | ⟨g, cap, cur, rfl, _⟩
  · exact ⟨_, _, _, rfl, h0.symm⟩
  · exact ⟨_, _, _, rfl, rfl⟩
theorem eql_tok (x0 x1 x2 y0 y1 y2 : Int) (w : World) : (binOp .eql 38 (.agg #[.int .u8 x0, .int .i64 x1, .int .i64 x2]) (.agg #[.int .u8 y0, .int .i64 y1, .int .i64 y2])).run Tryz.prog w = .ok (.bool (x0 == y0 && x1 == y1 && x2 == y2)) w := by
  have hS : Tryz.prog.underlying 38 = some (.struct (Tryz.prog.fieldsOf 38)) := by kernel_rfl
  have hp : Tryz.prog.stoodInHeld 38 = false := by kernel_rfl
  rw [run_eql_struct, show (10000 : Nat) = 9999 + 1 from rfl, run_equalIn_agg w 9999 38 _ _ hS hp]
  simp only [Program.fieldsOf, Tryz.underlying38]
  go_simp
  by_cases h1 : x0 = y0 <;> by_cases h2 : x1 = y1 <;> by_cases h3 : x2 = y2 <;> simp [h1, h2, h3]
set_option maxRecDepth 100000 in
set_option maxHeartbeats 1000000 in
theorem rightName_any (s : ByteArray) (w : World) (hs : s.size ≤ maxLen) : Calls Tryz.prog 50 #[.string s] w fun e w' => e = .returned (.bool (nameB s)) ∧ Below w.heap.size w w' := by
  have hS := Sc.scan_any s w hs
  unfold Sc.Told at hS
  by_cases h32 : 32 < s.size
  · have hn : nameB s = false := by unfold nameB; rw [decide_eq_false (by omega)]; rfl
    rw [hn]
    have h32' : (32 : Int) < s.size := by omega
    clear hS h32
    go_enter Tryz.func50, Tryz.ntmps50
    go_wp2
    go_ret
    exact ⟨rfl, Below.refl _ _⟩
  · have h32' : ¬ (32 : Int) < s.size := by omega
    have h32d : decide (s.size ≤ 32) = true := decide_eq_true (by omega)
    unfold nameB
    rw [h32d, Bool.true_and]
    have heq := eql_tok
    generalize errOf s.data.toList = er at hS
    generalize atOf s.data.toList = at1 at hS
    generalize toksOf s.data.toList = ts at hS ⊢
    by_cases h2 : ts.length = 2
    · match ts, h2 with
      | [t, u], _ =>
        clear h32 h32d hs
        obtain ⟨t0, t1, t2⟩ := t
        show Calls _ _ _ _ (fun e w' => e = .returned (.bool (decide ((t0, t1, t2) = (2, 0, s.size)))) ∧ _)
        have hres : ((t0 : Int) == 2 && (t1 : Int) == 0 && (t2 : Int) == (s.size : Int)) = decide ((t0, t1, t2) = (2, 0, s.size)) := by
          by_cases hh : (t0, t1, t2) = (2, 0, s.size)
          · rw [decide_eq_true hh]
            simp only [Prod.mk.injEq] at hh
            obtain ⟨rfl, rfl, rfl⟩ := hh
            simp
          · rw [decide_eq_false hh]
            simp only [Prod.mk.injEq] at hh
            simp only [Bool.and_eq_false_iff, beq_eq_false_iff_ne]
            omega
        generalize decide ((t0, t1, t2) = (2, 0, s.size)) = R at hres ⊢
        go_enter Tryz.func50, Tryz.ntmps50
        go_wp2_with (go_at_call 8; refine hS.mono ?_; rintro e w1 ⟨v1, rfl, ho1, hb1⟩; obtain ⟨g, cap, rfl, hg1, hg2, hg3, hg4⟩ := own_form ho1; have c0 := ho1.cells (g := g) rfl 0 _ rfl; have c1 := ho1.cells (g := g) rfl 1 _ rfl; have c2 := ho1.cells (g := g) rfl 2 _ rfl; simp only [Addr.add_lit, Nat.add_zero, Nat.zero_add] at c0 c1 c2; have HB1 : Hid _ := hb1; clear hb1 ho1 hg1 hg3 hg4)
        go_ret
        exact ⟨rfl, HB1.out.alloc HB1.out.size _⟩
    · have hn : tokOne s.size ts = false := by
        clear hS
        match ts, h2 with
        | [], _ => rfl
        | [_], _ => rfl
        | [_, _], h2 => exact absurd rfl h2
        | _ :: _ :: _ :: _, _ => rfl
      rw [hn]
      have h2' : ¬ (ts.length : Int) = 2 := by omega
      clear h32 h32d hs hn h2
      go_enter Tryz.func50, Tryz.ntmps50
      go_wp2_with (go_at_call 8; refine hS.mono ?_; rintro e w1 ⟨v1, rfl, ho1, hb1⟩; obtain ⟨a1, k1, cc1, rfl, hk1⟩ := own_len ho1; subst hk1; have HB1 : Hid _ := hb1; clear hb1 ho1)
      go_ret
      exact ⟨rfl, HB1.out.alloc HB1.out.size _⟩
end Go.Proofs.YtbejgachdhfakaaGreatDoor
