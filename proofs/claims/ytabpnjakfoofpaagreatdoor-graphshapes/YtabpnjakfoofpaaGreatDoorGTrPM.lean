/- The words of the document on right graphs, plain. No program of its own. -/
import Derived.Test.YtabpnjakfoofpaaGreatDoorGCheck
import Derived.Test.YtabpnjakfoofpaaGreatDoorGLaidM
import Derived.Test.YtabpnjakfoofpaaGreatDoorGDfs
import Derived.Test.YtabpnjakfoofpaaGreatDoorGAhd1M
namespace Go.Proofs.YtabpnjakfoofpaaGreatDoor
open Go.RowKit Go.Sort
def innerB (a b : Int) : Bool := decide (0 < a ∧ a < b)
def scB (t : Int) : Bool := decide (1 ≤ t ∧ t ≤ 5)
def plcF (x : Int) : List Int → Nat → Int
  | [], _ => -1
  | y :: l, i => if y = x then (i : Int) else plcF x l (i + 1)
theorem plcF_drop {x : Int} {l : List Int} {i : Nat} (h : i < l.length) : plcF x (l.drop i) i = if l.getD i 0 = x then (i : Int) else plcF x (l.drop (i + 1)) (i + 1) := by
  have e : l.getD i 0 = l[i] := by simp [List.getD, List.getElem?_eq_getElem h]
  rw [e, List.drop_eq_getElem_cons h]
  rfl
theorem wrap_u64 (n : Int) : IntKind.u64.wrap n = n % 18446744073709551616 := by simp [IntKind.wrap, IntKind.bits, IntKind.signed]
theorem w32_hi (a : Int) (h : word a) (g : 2147483648 ≤ a.tmod 4294967296) : IntKind.u64.wrap (a.tmod 4294967296 + 18446744069414584320) = IntKind.u64.wrap (wrap32 a) := by
  obtain ⟨h0, h1⟩ := h
  have e : a.tmod 4294967296 = a % 4294967296 := Int.tmod_eq_emod_of_nonneg h0
  rw [wrap_u64, wrap_u64]; unfold wrap32; omega
theorem w32_lo (a : Int) (h : word a) (g : a.tmod 4294967296 < 2147483648) : a.tmod 4294967296 = IntKind.u64.wrap (wrap32 a) := by
  obtain ⟨h0, h1⟩ := h
  have e : a.tmod 4294967296 = a % 4294967296 := Int.tmod_eq_emod_of_nonneg h0
  rw [wrap_u64]; unfold wrap32; omega
theorem typedB_iff (t : Int) : typedB t = true ↔ 1 ≤ t ∧ t ≤ 5 := by
  simp [typedB, numberB, wholeB]; omega
theorem of_untyped (o t : Int) (h : typedB t = false) : ofT o t = 0 ∧ ofB o t = false := by
  have h1 : numberB t = false := by simp [typedB] at h; exact h.2
  have h2 : wholeB t = false := by simp [numberB] at h1; exact h1.2
  have h3 : ¬ t = 1 := by simp [typedB] at h; exact h.1
  constructor
  · simp [ofT, h, h1, h2, h3]
  · simp [ofB, h, h1, h2, h3]
theorem numberB_iff (t : Int) : numberB t = true ↔ 2 ≤ t ∧ t ≤ 5 := by
  simp [numberB, wholeB]; omega
def plainB (x : In) : Bool := (decide (x.kind = 1 ∨ x.kind = 2 ∨ x.kind = 3 ∨ x.kind = 4 ∨ x.kind = 5 ∨ x.kind = 6 ∨ x.kind = 9) || x.dst == 0) && ((x.kind == 4 || x.op == 0) && ((x.kind == 2 || x.bits == 0) && ((decide (6 ≤ x.kind ∧ x.kind ≤ 9) || x.ref == 0) && ((x.kind != 2 && x.kind != 8) || x.args.length == 0))))
def opR (vars : List Int) (x : In) : Bool := ((x.args.length : Int) == nOp x.op) && (decide (1 ≤ x.op) && (decide (x.op ≤ 18) && (ofB x.op (varT vars (x.args.getD 0 0)) && (varT vars (x.args.getD (x.args.length - 1) 0) == varT vars (x.args.getD 0 0) && varT vars x.dst == ofT x.op (varT vars (x.args.getD 0 0))))))
def calledR (p : List Gr) (vars : List Int) (x : In) : Bool := inB x.ref p.length && (((p.getD x.ref.toNat default).params.length == x.args.length) && ((p.getD x.ref.toNat default).params.all (inB · (p.getD x.ref.toNat default).vars.length) && ((varT vars x.dst == (p.getD x.ref.toNat default).result) && (List.range x.args.length).all (fun i => varT vars (x.args.getD i 0) == varT (p.getD x.ref.toNat default).vars ((p.getD x.ref.toNat default).params.getD i 0)))))
def kindR (G : Gr) (x : In) : Bool :=
  if x.kind = 1 then x.args.all (fun v => varT G.vars v == varT G.vars x.dst)
  else if x.kind = 2 then rightB (varT G.vars x.dst) x.bits
  else if x.kind = 3 then (x.args.length : Int) == 1 && varT G.vars (x.args.getD 0 0) == varT G.vars x.dst
  else if x.kind = 4 then opR G.vars x
  else if x.kind = 5 then (x.args.length : Int) == 1 && turnsB (varT G.vars x.dst) (varT G.vars (x.args.getD 0 0))
  else if x.kind = 6 then (x.args.length : Int) == 1 && (varT G.vars (x.args.getD 0 0) == 4 && varT G.vars x.dst == (G.arrs.getD x.ref.toNat default).1)
  else if x.kind = 7 then (x.args.length : Int) == 2 && (varT G.vars (x.args.getD 0 0) == 4 && varT G.vars (x.args.getD 1 0) == (G.arrs.getD x.ref.toNat default).1)
  else if x.kind = 9 then decide (0 ≤ x.ref)
  else if x.kind = 10 then (x.args.length : Int) == 1
  else true
def aloneR (G : Gr) (x : In) : Bool := decide (1 ≤ x.kind) && (decide (x.kind ≤ 10) && (plainB x && (x.args.all (inB · G.vars.length) && ((decide (6 < x.kind ∧ x.kind ≠ 9) || inB x.dst G.vars.length) && ((decide (x.kind < 6 ∨ 8 < x.kind) || inB x.ref G.arrs.length) && kindR G x)))))
theorem aloneK_1 (G : Gr) (op dst : Int) (args : List Int) (bits ref : Int) : aloneR G ⟨1, op, dst, args, bits, ref⟩ = (plainB ⟨1, op, dst, args, bits, ref⟩ && (args.all (inB · G.vars.length) && (inB dst G.vars.length && args.all (fun v => varT G.vars v == varT G.vars dst)))) := by
  unfold aloneR kindR
  simp
theorem aloneK_2 (G : Gr) (op dst : Int) (args : List Int) (bits ref : Int) : aloneR G ⟨2, op, dst, args, bits, ref⟩ = (plainB ⟨2, op, dst, args, bits, ref⟩ && (args.all (inB · G.vars.length) && (inB dst G.vars.length && rightB (varT G.vars dst) bits))) := by
  unfold aloneR kindR
  simp
theorem aloneK_3 (G : Gr) (op dst : Int) (args : List Int) (bits ref : Int) : aloneR G ⟨3, op, dst, args, bits, ref⟩ = (plainB ⟨3, op, dst, args, bits, ref⟩ && (args.all (inB · G.vars.length) && (inB dst G.vars.length && ((args.length : Int) == 1 && varT G.vars (args.getD 0 0) == varT G.vars dst)))) := by
  unfold aloneR kindR
  simp
theorem aloneK_4 (G : Gr) (op dst : Int) (args : List Int) (bits ref : Int) : aloneR G ⟨4, op, dst, args, bits, ref⟩ = (plainB ⟨4, op, dst, args, bits, ref⟩ && (args.all (inB · G.vars.length) && (inB dst G.vars.length && opR G.vars ⟨4, op, dst, args, bits, ref⟩))) := by
  unfold aloneR kindR
  simp
theorem aloneK_5 (G : Gr) (op dst : Int) (args : List Int) (bits ref : Int) : aloneR G ⟨5, op, dst, args, bits, ref⟩ = (plainB ⟨5, op, dst, args, bits, ref⟩ && (args.all (inB · G.vars.length) && (inB dst G.vars.length && ((args.length : Int) == 1 && turnsB (varT G.vars dst) (varT G.vars (args.getD 0 0)))))) := by
  unfold aloneR kindR
  simp
theorem aloneK_6 (G : Gr) (op dst : Int) (args : List Int) (bits ref : Int) : aloneR G ⟨6, op, dst, args, bits, ref⟩ = (plainB ⟨6, op, dst, args, bits, ref⟩ && (args.all (inB · G.vars.length) && (inB dst G.vars.length && (inB ref G.arrs.length && ((args.length : Int) == 1 && (varT G.vars (args.getD 0 0) == 4 && varT G.vars dst == (G.arrs.getD ref.toNat default).1)))))) := by
  unfold aloneR kindR
  simp
theorem aloneK_7 (G : Gr) (op dst : Int) (args : List Int) (bits ref : Int) : aloneR G ⟨7, op, dst, args, bits, ref⟩ = (plainB ⟨7, op, dst, args, bits, ref⟩ && (args.all (inB · G.vars.length) && (inB ref G.arrs.length && ((args.length : Int) == 2 && (varT G.vars (args.getD 0 0) == 4 && varT G.vars (args.getD 1 0) == (G.arrs.getD ref.toNat default).1))))) := by
  unfold aloneR kindR
  simp
theorem aloneK_8 (G : Gr) (op dst : Int) (args : List Int) (bits ref : Int) : aloneR G ⟨8, op, dst, args, bits, ref⟩ = (plainB ⟨8, op, dst, args, bits, ref⟩ && (args.all (inB · G.vars.length) && (inB ref G.arrs.length && true))) := by
  unfold aloneR kindR
  simp
theorem aloneK_9 (G : Gr) (op dst : Int) (args : List Int) (bits ref : Int) : aloneR G ⟨9, op, dst, args, bits, ref⟩ = (plainB ⟨9, op, dst, args, bits, ref⟩ && (args.all (inB · G.vars.length) && (inB dst G.vars.length && decide (0 ≤ ref)))) := by
  unfold aloneR kindR
  simp
theorem aloneK_10 (G : Gr) (op dst : Int) (args : List Int) (bits ref : Int) : aloneR G ⟨10, op, dst, args, bits, ref⟩ = (plainB ⟨10, op, dst, args, bits, ref⟩ && (args.all (inB · G.vars.length) && ((args.length : Int) == 1))) := by
  unfold aloneR kindR
  simp
def arrR (a : Int × Int) : Bool := scB a.1 && (decide (1 ≤ a.2) && decide (a.2 ≤ 256))
def parR (ps : List Int) (j : Nat) : Bool := decide (plcF (ps.getD j 0) (ps.take j) 0 < 0)
def headR (G : Gr) : Bool := decide (1 ≤ G.blocks.length) && (decide (G.blocks.length ≤ 1048576) && (decide (G.vars.length ≤ 1048576) && (decide (G.arrs.length ≤ 1048576) && (decide (G.params.length ≤ 8) && (scB G.result && (G.params.all (inB · G.vars.length) && (G.vars.all scB && (G.arrs.all arrR && (List.range G.params.length).all (parR G.params)))))))))
def rendB (G : Gr) (t : Tm) : Bool :=
  if t.kind = 1 then innerB t.t0 G.blocks.length && (t.arg == 0 && t.t1 == 0 && t.trap == 0)
  else if t.kind = 2 then innerB t.t0 G.blocks.length && (innerB t.t1 G.blocks.length && (inB t.arg G.vars.length && (varT G.vars t.arg == 1 && t.trap == 0)))
  else if t.kind = 3 then inB t.arg G.vars.length && (varT G.vars t.arg == G.result && (t.t0 == 0 && t.t1 == 0 && t.trap == 0))
  else if t.kind = 4 then decide (1 ≤ t.trap) && (decide (t.trap ≤ 3) && (t.arg == 0 && t.t0 == 0 && t.t1 == 0))
  else false
def phiR (i : Nat) (na : Nat) : List In → Nat → List Int → Bool
  | [], _, _ => true
  | x :: xs, k, st =>
    if x.kind = 1 then (decide (i ≠ 0) && (decide (st.length = k) && (decide (x.args.length = na) && decide (plcF x.dst st 0 < 0)))) && phiR i na xs (k + 1) (st ++ [x.dst])
    else phiR i na xs (k + 1) st
def phisRF (rows : List (List Int)) : List Bl → Nat → Bool
  | [], _ => true
  | b :: bs, i => phiR i (rows.getD i []).length b.ins 0 [] && phisRF rows bs (i + 1)
def phisR (G : Gr) : Bool := phisRF (aheadT (tms G.blocks)) G.blocks 0
theorem phisRF_drop {rows : List (List Int)} {bs : List Bl} {i : Nat} (h : i < bs.length) : phisRF rows (bs.drop i) i = (phiR i (rows.getD i []).length (bs.getD i default).ins 0 [] && phisRF rows (bs.drop (i + 1)) (i + 1)) := by
  have e : bs.getD i default = bs[i] := by simp [List.getD, List.getElem?_eq_getElem h]
  rw [e, List.drop_eq_getElem_cons h]
  rfl
theorem phiR_drop {i na : Nat} {L : List In} {k : Nat} {st : List Int} (h : k < L.length) : phiR i na (L.drop k) k st =
    if (L.getD k default).kind = 1 then (decide (i ≠ 0) && (decide (st.length = k) && (decide ((L.getD k default).args.length = na) && decide (plcF (L.getD k default).dst st 0 < 0)))) && phiR i na (L.drop (k + 1)) (k + 1) (st ++ [(L.getD k default).dst])
    else phiR i na (L.drop (k + 1)) (k + 1) st := by
  have e : L.getD k default = L[k] := by simp [List.getD, List.getElem?_eq_getElem h]
  rw [e, List.drop_eq_getElem_cons h]
  rfl
theorem nodup_bound : ∀ (m : Nat) (l : List Int), l.Nodup → (∀ x ∈ l, 0 ≤ x ∧ x < (m : Int)) → l.length ≤ m
  | 0, l, _, h => by
    match l, h with
    | [], _ => simp
    | x :: l, h => have := h x (by simp); omega
  | m + 1, l, hn, h => by
    have h1 := nodup_bound m (l.erase (m : Int)) (hn.erase _) (fun x hx => by
      have h2 := (hn.mem_erase_iff).1 hx
      have h3 := h x h2.2
      have h4 := h2.1
      omega)
    have h5 := List.length_erase (a := (m : Int)) (l := l)
    rw [h5] at h1
    split at h1 <;> omega
theorem plcF_ge {x : Int} : ∀ (l : List Int) (i : Nat), x ∈ l → 0 ≤ plcF x l i
  | y :: l, i, h => by
    unfold plcF
    split
    · omega
    · rename_i hne
      rcases List.mem_cons.1 h with e | h
      · exact absurd e.symm hne
      · exact plcF_ge l (i + 1) h
  | [], _, h => by cases h
theorem plcF_not {x : Int} : ∀ (l : List Int) (i : Nat), x ∉ l → plcF x l i = -1
  | y :: l, i, h => by
    unfold plcF
    rw [if_neg (fun e => h (by simp [e]))]
    exact plcF_not l (i + 1) (fun hm => h (by simp [hm]))
  | [], _, _ => rfl
theorem plcF_iff {x : Int} {l : List Int} : plcF x l 0 < 0 ↔ x ∉ l := by
  constructor
  · intro h hm
    have := plcF_ge l 0 hm
    omega
  · intro h
    rw [plcF_not l 0 h]
    omega
theorem nodup_snoc {l : List Int} {x : Int} (h : l.Nodup) (hx : x ∉ l) : (l ++ [x]).Nodup := by
  rw [List.nodup_append]
  refine ⟨h, by simp, ?_⟩
  intro a ha b hb
  simp at hb
  subst hb
  intro e
  exact hx (e ▸ ha)
def blockR (G : Gr) (b : Bl) : Bool := rendB G b.tm && b.ins.all (aloneR G)
def aloneG (G : Gr) : Bool := headR G && (G.blocks.all (blockR G) && phisR G)
theorem headR_vars {G : Gr} (h : headR G = true) : G.vars.length ≤ 1048576 := by
  unfold headR at h
  simp only [Bool.and_eq_true, decide_eq_true_eq] at h
  exact h.2.2.1
theorem aloneR_dst {G : Gr} {x : In} (h : aloneR G x = true) (hk : x.kind ≤ 6 ∨ x.kind = 9) : inB x.dst G.vars.length = true := by
  unfold aloneR at h
  simp only [Bool.and_eq_true, Bool.or_eq_true, decide_eq_true_eq] at h
  rcases h.2.2.2.2.1 with h1 | h1
  · omega
  · exact h1
theorem aloneR_args {G : Gr} {x : In} (h : aloneR G x = true) : x.args.all (inB · G.vars.length) = true := by
  unfold aloneR at h
  simp only [Bool.and_eq_true] at h
  exact h.2.2.2.1
theorem blocks_dst {G : Gr} (h : G.blocks.all (blockR G) = true) : ∀ b ∈ G.blocks, ∀ x ∈ b.ins, x.kind = 1 → inB x.dst G.vars.length = true := by
  intro b hb x hx hk
  have h1 := List.all_eq_true.1 h b hb
  unfold blockR at h1
  rw [Bool.and_eq_true] at h1
  exact aloneR_dst (List.all_eq_true.1 h1.2 x hx) (by omega)
def insR (p : List Gr) (G : Gr) (x : In) : Bool := (x.kind != 9) || calledR p G.vars x
def bodyR (p : List Gr) (G : Gr) (b : Bl) : Bool := b.ins.all (insR p G)
def rightR (p : List Gr) (G : Gr) : Bool := aloneG G && G.blocks.all (bodyR p G)
theorem aloneG_ins {G : Gr} (h : aloneG G = true) : ∀ b ∈ G.blocks, ∀ x ∈ b.ins, aloneR G x = true := by
  intro b hb x hx
  unfold aloneG at h
  simp only [Bool.and_eq_true] at h
  have h1 := List.all_eq_true.1 h.2.1 b hb
  unfold blockR at h1
  rw [Bool.and_eq_true] at h1
  exact List.all_eq_true.1 h1.2 x hx
end Go.Proofs.YtabpnjakfoofpaaGreatDoor
/- The document's side: a place of so many; where a number stands. -/
namespace Go.Proofs.YtabpnjakfoofpaaGreatDoor
open Go.RowKit Go.Sort

theorem rin_any (a b : Int) (w : World) : Calls Tryz.prog 29 #[.int .i64 a, .int .i64 b] w fun e w' => e = .returned (.bool (placeB a b)) ∧ w' = w := by
  unfold placeB
  go_enter Tryz.func29, Tryz.ntmps29
  by_cases h : 0 ≤ a
  · go_wp2
    go_ret
    exact ⟨ret_bool (by simp [h]), rfl⟩
  · go_wp2
    go_ret
    exact ⟨ret_bool (by simp; omega), rfl⟩
set_option maxRecDepth 100000 in
set_option maxHeartbeats 1000000 in
theorem rplace_any (l : List Int) (x : Int) (v : Value) (w : World) (h : IntsAt w v l) : Calls Tryz.prog 44 #[v, .int .i64 x] w fun e w' => e = .returned (.int .i64 (plcF x l 0)) ∧ w' = w := by
  obtain ⟨a, c, rfl, hll⟩ := h.form
  have HI : Hid (∀ i, i < l.length → _) := fun i hi => h.get (i := i) hi
  have HD : Hid (∀ i, i < l.length → _) := fun i hi => plcF_drop (x := x) (l := l) hi
  have HZ : Hid (plcF x (l.drop l.length) l.length = -1) := by show plcF x (l.drop l.length) l.length = -1; rw [List.drop_length]; rfl
  obtain ⟨R, hR⟩ : ∃ R, R = plcF x l 0 := ⟨_, rfl⟩
  rw [← hR]
  have HR : Hid (plcF x (l.drop 0) 0 = R) := hR.symm
  obtain ⟨n, hn⟩ : ∃ n, n = l.length := ⟨_, rfl⟩
  rw [← hn] at HI HD HZ hll ⊢
  clear h hR hn
  go_enter Tryz.func44, Tryz.ntmps44
  go_wp2
  go_loopw [5] (fun vi wr => ∃ i : Nat, vi = .int .i64 i ∧ i ≤ n ∧ Hid (plcF x (l.drop i) i = R ∧ wr = w)) (fun vi _ => n - (intOf vi).toNat)
  case atStart => exact ⟨0, rfl, by omega, HR.out, rfl⟩
  case round =>
    obtain ⟨i, rfl, hi, hr⟩ := hrel
    have hw := hr.out.2
    subst hw
    clear HR
    by_cases hin : i < n
    · obtain ⟨g, o, rfl, hg, c0⟩ := HI.out i hin
      have hin' : (i : Int) < n := by omega
      have HDD : Hid _ := HD.out i hin
      rw [hr.out.1] at HDD
      clear HI HD HZ
      generalize l.getD i 0 = y at *
      by_cases hy : y = x
      · subst hy
        have HX : Hid (R = (i : Int)) := by show R = (i : Int); have h9 := HDD.out; simpa using h9
        clear HDD
        go_wp2
        go_ret
        exact ⟨ret_int HX.out.symm, rfl⟩
      · have hyf : (y == x) = false := beq_false_of_ne hy
        have HX : Hid (R = plcF x (l.drop (i + 1)) (i + 1)) := by show R = plcF x (l.drop (i + 1)) (i + 1); have h9 := HDD.out; simpa [hy] using h9
        clear HDD
        go_wp2
        go_roundw
        case rel => exact ⟨i + 1, by first | rfl | (congr 1; omega), by omega, HX.out.symm, by first | rfl | trivial⟩
        case measure => simp [intOf]; omega
    · obtain rfl : i = n := by omega
      have HX : Hid (-1 = R) := by have h9 := hr.out.1; rw [HZ.out] at h9; exact h9
      clear HI HD HZ
      go_wp2
      go_ret
      exact ⟨ret_int HX.out, rfl⟩
end Go.Proofs.YtabpnjakfoofpaaGreatDoor
/- A graph with the blocks that are reached alone: plain. -/
namespace Go.Proofs.YtabpnjakfoofpaaGreatDoor

/-- where a number stands in a row; -1: nowhere -/
def placeOf (l : List Int) (x : Int) : Int := if x ∈ l then (l.idxOf x : Int) else -1
theorem place_in {l : List Int} {x : Int} (h : x ∈ l) : placeOf l x = (l.idxOf x : Int) ∧ l.idxOf x < l.length ∧ l[l.idxOf x]? = some x := by
  have h1 : l.idxOf x < l.length := List.idxOf_lt_length_of_mem h
  refine ⟨by unfold placeOf; rw [if_pos h], h1, ?_⟩
  rw [List.getElem?_eq_getElem h1, List.getElem_idxOf h1]
theorem place_out {l : List Int} {x : Int} (h : x ∉ l) : placeOf l x = -1 := by unfold placeOf; rw [if_neg h]
theorem place_ge {l : List Int} {x : Int} : 0 ≤ placeOf l x ↔ x ∈ l := by
  by_cases h : x ∈ l
  · rw [(place_in h).1]; exact ⟨fun _ => h, fun _ => by omega⟩
  · rw [place_out h]; exact ⟨fun h => by omega, fun h9 => absurd h9 h⟩
theorem place_ne {l : List Int} {x : Int} : placeOf l x ≠ -1 ↔ x ∈ l := by
  rw [← place_ge]
  by_cases h : x ∈ l
  · rw [(place_in h).1]; omega
  · rw [place_out h]; omega
theorem place_at {l : List Int} (hn : l.Nodup) {i : Nat} {x : Int} (h : l[i]? = some x) : placeOf l x = (i : Int) := by
  obtain ⟨hi, he⟩ := List.getElem?_eq_some_iff.1 h
  have hm : x ∈ l := by rw [← he]; exact List.getElem_mem hi
  obtain ⟨h1, h2, h3⟩ := place_in hm
  rw [h1]
  have : l.idxOf x = i := by
    rcases Nat.lt_trichotomy (l.idxOf x) i with hlt | heq | hgt
    · obtain ⟨q1, q2⟩ := List.getElem?_eq_some_iff.1 h3
      exact absurd (q2.trans he.symm) (List.pairwise_iff_getElem.1 hn _ _ q1 hi hlt)
    · exact heq
    · obtain ⟨q1, q2⟩ := List.getElem?_eq_some_iff.1 h3
      exact absurd (he.trans q2.symm) (List.pairwise_iff_getElem.1 hn _ _ hi q1 hgt)
  omega
theorem place_inj {l : List Int} {x y : Int} (hx : x ∈ l) (hy : y ∈ l) (h : placeOf l x = placeOf l y) : x = y := by
  obtain ⟨h1, _, h3⟩ := place_in hx
  obtain ⟨h4, _, h6⟩ := place_in hy
  have e : l.idxOf x = l.idxOf y := by omega
  rw [e, h6] at h3
  exact (Option.some.inj h3).symm

/-- which of the blocks ahead stay, by their places among them, in the new order -/
def stayP (O ah : List Int) : List Int := (O.filter (· ∈ ah)).map (placeOf ah)
def keptP (args st : List Int) : List Int := st.filterMap fun i => args[i.toNat]?
def ledT (O : List Int) (n : Nat) (t : Tm) : Tm :=
  { t with t0 := if (t.kind = 1 ∨ t.kind = 2) ∧ inB t.t0 n = true then placeOf O t.t0 else t.t0, t1 := if t.kind = 2 ∧ inB t.t1 n = true then placeOf O t.t1 else t.t1 }
def trimI (st : List Int) (x : In) : In := if x.kind = 1 then { x with args := keptP x.args st } else x
def trimB (O : List Int) (n : Nat) (ah : List Int) (b : Bl) : Bl := ⟨b.ins.map (trimI (stayP O ah)), ledT O n b.tm⟩
def trimBs (bs : List Bl) : List Bl := (orderT (tms bs)).map fun a => trimB (orderT (tms bs)) bs.length ((aheadT (tms bs)).getD a.toNat []) (bs.getD a.toNat default)
def trimG (G : Gr) : Gr := { G with blocks := trimBs G.blocks }

/- The document's way. -/
def ledD (O : List Int) (t : Tm) : Tm :=
  { t with t0 := if 0 ≤ placeOf O t.t0 ∧ (t.kind = 2 ∨ t.kind = 1) then placeOf O t.t0 else t.t0, t1 := if 0 ≤ placeOf O t.t1 ∧ t.kind = 2 then placeOf O t.t1 else t.t1 }
def argsD (O was now had : List Int) : List Int := now.filterMap fun j => if 0 ≤ placeOf was (O.getD j.toNat 0) then had[(placeOf was (O.getD j.toNat 0)).toNat]? else none
def ledB (O : List Int) (b : Bl) : Bl := ⟨b.ins, ledD O b.tm⟩
def trimD (bs : List Bl) : List Bl :=
  let O := orderT (tms bs)
  let b1 := O.map fun a => ledB O (bs.getD a.toNat default)
  let now := aheadT (tms b1)
  (List.range O.length).map fun i => (⟨(b1.getD i default).ins.map fun x => if x.kind = 1 then { x with args := argsD O ((aheadT (tms bs)).getD (O.getD i 0).toNat []) (now.getD i []) x.args } else x, (b1.getD i default).tm⟩ : Bl)

theorem tms_get {bs : List Bl} {k : Nat} (h : k < bs.length) : (tms bs).getD k default = (bs.getD k default).tm := by
  unfold tms; rw [List.getD_eq_getElem?_getD, List.getElem?_map, List.getElem?_eq_getElem h, List.getD_eq_getElem?_getD, List.getElem?_eq_getElem h]; rfl
theorem named_closed {ts : List Tm} {O : List Int} (h : Ordered ts O) {a : Nat} (ha : (a : Int) ∈ O) {y : Int} (hy : y ∈ namedT (ts.getD a default)) : inB y ts.length = true ↔ y ∈ O := by
  constructor
  · exact h.closed a ha y hy
  · intro h1
    obtain ⟨k, rfl, hk⟩ := h.nat y h1
    exact inB_iff.2 ⟨by omega, by omega⟩
theorem led_same {ts : List Tm} {O : List Int} (h : Ordered ts O) {a : Nat} (ha : (a : Int) ∈ O) : ledD O (ts.getD a default) = ledT O ts.length (ts.getD a default) := by
  have h1 := fun y hy => named_closed h ha (y := y) hy
  unfold ledD ledT namedT at *
  generalize ts.getD a default = t at *
  obtain ⟨k, ar, t0, t1, tr⟩ := t
  dsimp only at *
  by_cases k1 : k = 1
  · subst k1
    have := h1 t0 (by simp)
    simp [place_ge, this]
  · by_cases k2 : k = 2
    · subst k2
      have e0 := h1 t0 (by simp)
      have e1 := h1 t1 (by simp)
      simp [place_ge, e0, e1]
    · simp [k1, k2]
/-- what a new end names -/
theorem named_led {O : List Int} {n : Nat} {t : Tm} : namedT (ledT O n t) = (namedT t).map fun y => if inB y n = true then placeOf O y else y := by
  unfold namedT ledT
  dsimp only
  by_cases k1 : t.kind = 1
  · simp [k1]
  · by_cases k2 : t.kind = 2
    · simp [k2]
    · simp [k1, k2]
theorem order_len {ts : List Tm} {O : List Int} (h : Ordered ts O) : O.length ≤ ts.length := by
  have h1 : O.Nodup := h.nodup
  have h2 : O ⊆ (List.range ts.length).map fun i => ((i : Nat) : Int) := fun x hx => by
    obtain ⟨k, rfl, hk⟩ := h.nat x hx
    exact List.mem_map.2 ⟨k, List.mem_range.2 hk, rfl⟩
  have := (List.Nodup.length_le_of_subset h1 h2)
  simpa using this
theorem named_new {ts : List Tm} {O : List Int} (h : Ordered ts O) {i j : Nat} {a c : Int} (hi : O[i]? = some a) (hj : O[j]? = some c) : (i : Int) ∈ namedT (ledT O ts.length (ts.getD c.toNat default)) ↔ a ∈ namedT (ts.getD c.toNat default) := by
  have hc : c ∈ O := List.mem_of_getElem? hj
  have ha : a ∈ O := List.mem_of_getElem? hi
  obtain ⟨k, rfl, hk⟩ := h.nat c hc
  rw [Int.toNat_natCast, named_led, List.mem_map]
  have hil : i < O.length := (List.getElem?_eq_some_iff.1 hi).1
  have hol := order_len h
  constructor
  · rintro ⟨y, hy, he⟩
    have h1 := named_closed h hc hy
    by_cases hin : inB y ts.length = true
    · rw [if_pos hin] at he
      have hyO := h1.1 hin
      obtain ⟨p1, p2, p3⟩ := place_in hyO
      have e : O.idxOf y = i := by omega
      rw [e, hi] at p3
      rw [Option.some.inj p3]
      exact hy
    · rw [if_neg hin] at he
      exact absurd (inB_iff.2 ⟨by omega, by omega⟩) hin
  · intro hy
    refine ⟨a, hy, ?_⟩
    rw [if_pos ((named_closed h hc hy).2 ha), place_at h.nodup hi]
theorem getD_map_tm {O : List Int} {f : Int → Bl} {j : Nat} {c : Int} (hj : O[j]? = some c) : (tms (O.map f)).getD j default = (f c).tm := by
  unfold tms
  rw [List.getD_eq_getElem?_getD, List.getElem?_map, List.getElem?_map, hj]; rfl
/-- the blocks ahead of a new block -/
theorem now_row {ts : List Tm} {O : List Int} (h : Ordered ts O) {us : List Tm} (hl : us.length = O.length) (hu : ∀ (j : Nat) c, O[j]? = some c → us.getD j default = ledT O ts.length (ts.getD c.toNat default)) {i : Nat} {a : Int} (hi : O[i]? = some a) :
    (aheadT us).getD i [] = ((List.range O.length).filter fun j => decide (O.getD j 0 ∈ (aheadT ts).getD a.toNat [])).map fun j => ((j : Nat) : Int) := by
  have hil : i < O.length := (List.getElem?_eq_some_iff.1 hi).1
  have ha : a ∈ O := List.mem_of_getElem? hi
  obtain ⟨ka, rfl, hka⟩ := h.nat a ha
  have hm : ∀ x, x ∈ (aheadT us).getD i [] ↔ x ∈ ((List.range O.length).filter fun j => decide (O.getD j 0 ∈ (aheadT ts).getD ((ka : Nat) : Int).toNat [])).map fun j => ((j : Nat) : Int) := fun x => by
    rw [mem_ahead (by omega), List.mem_map]
    constructor
    · rintro ⟨j, rfl, hj, hn⟩
      have hjl : j < O.length := by omega
      have hjs : O[j]? = some O[j] := List.getElem?_eq_getElem hjl
      refine ⟨j, List.mem_filter.2 ⟨List.mem_range.2 hjl, ?_⟩, rfl⟩
      rw [hu j _ hjs, next_named, named_new h hi hjs] at hn
      obtain ⟨kc, hkc, hkl⟩ := h.nat O[j] (List.getElem_mem hjl)
      rw [decide_eq_true_iff, Int.toNat_natCast, mem_ahead hka, List.getD_eq_getElem?_getD, hjs]
      refine ⟨kc, hkc, hkl, ?_⟩
      rw [next_named]
      rw [hkc, Int.toNat_natCast] at hn
      exact hn
    · rintro ⟨j, hj, rfl⟩
      obtain ⟨hj1, hj2⟩ := List.mem_filter.1 hj
      have hjl : j < O.length := List.mem_range.1 hj1
      have hjs : O[j]? = some O[j] := List.getElem?_eq_getElem hjl
      refine ⟨j, rfl, by omega, ?_⟩
      rw [decide_eq_true_iff, Int.toNat_natCast, mem_ahead hka, List.getD_eq_getElem?_getD, hjs] at hj2
      obtain ⟨kc, hkc, hkl, hn⟩ := hj2
      rw [Option.getD_some] at hkc
      rw [hu j _ hjs, next_named, named_new h hi hjs, hkc, Int.toNat_natCast]
      rw [next_named] at hn
      exact hn
  have s1 : ((aheadT us).getD i []).Pairwise (· < ·) := ahead_lt (by omega)
  have s2 : (((List.range O.length).filter fun j => decide (O.getD j 0 ∈ (aheadT ts).getD ((ka : Nat) : Int).toNat [])).map fun j => ((j : Nat) : Int)).Pairwise (· < ·) := by
    rw [List.pairwise_map]
    refine (List.pairwise_lt_range.filter _).imp fun h => by omega
  have n1 : ((aheadT us).getD i []).Nodup := s1.imp fun h => by omega
  have n2 := s2.imp (S := fun a b : Int => a ≠ b) fun h => by omega
  refine List.Perm.eq_of_pairwise (le := (· < ·)) (fun a b _ _ h1 h2 => by omega) s1 s2 ((List.perm_ext_iff_of_nodup n1 n2).2 hm)
theorem map_range_get {O : List Int} (p : Int → Bool) (f : Int → Int) : ((List.range O.length).filter fun j => p (O.getD j 0)).map (fun j => f (O.getD j 0)) = (O.filter p).map f := by
  have e : O = (List.range O.length).map fun j => O.getD j 0 := by
    apply List.ext_getElem
    · simp
    · intro i h1 h2
      rw [List.getElem_map, List.getElem_range, List.getD_eq_getElem?_getD, List.getElem?_eq_getElem h1]; rfl
  conv => rhs; rw [e]
  rw [List.filter_map, List.map_map]
  rfl
theorem fm_congr {α β : Type} {f g : α → Option β} : ∀ {l : List α}, (∀ x ∈ l, f x = g x) → l.filterMap f = l.filterMap g
  | [], _ => rfl
  | a :: l, h => by rw [List.filterMap_cons, List.filterMap_cons, h a (by simp), fm_congr (l := l) fun x hx => h x (by simp [hx])]
/-- a phi's arguments, the document's way and the program's -/
theorem args_same {O was had : List Int} : argsD O was (((List.range O.length).filter fun j => decide (O.getD j 0 ∈ was)).map fun j => ((j : Nat) : Int)) had = keptP had (stayP O was) := by
  unfold argsD keptP stayP
  rw [← map_range_get (fun x => decide (x ∈ was)) (placeOf was), List.filterMap_map, List.filterMap_map]
  refine fm_congr fun j hj => ?_
  have hm : O.getD j 0 ∈ was := by have := (List.mem_filter.1 hj).2; simpa using this
  simp only [Function.comp, Int.toNat_natCast]
  rw [if_pos (place_ge.2 hm)]
theorem trim_same (bs : List Bl) : trimD bs = trimBs bs := by
  unfold trimD trimBs
  dsimp only
  have ho := order_ok (tms bs)
  have htl : (tms bs).length = bs.length := by simp [tms]
  generalize hO : orderT (tms bs) = O at *
  apply List.ext_getElem
  · simp
  · intro i h1 h2
    have hil : i < O.length := by simpa using h1
    have his : O[i]? = some O[i] := List.getElem?_eq_getElem hil
    have hu : ∀ (j : Nat) c, O[j]? = some c → (tms (O.map fun a => ledB O (bs.getD a.toNat default))).getD j default = ledT O (tms bs).length ((tms bs).getD c.toNat default) := fun j c hj => by
      rw [getD_map_tm hj]
      obtain ⟨kc, rfl, hkc⟩ := ho.nat c (List.mem_of_getElem? hj)
      rw [Int.toNat_natCast, ← led_same ho (List.mem_of_getElem? hj), tms_get (by omega)]
      rfl
    have hnow := now_row ho (us := tms (O.map fun a => ledB O (bs.getD a.toNat default))) (by simp [tms]) hu his
    have hgd : O.getD i 0 = O[i] := by rw [List.getD_eq_getElem?_getD, his]; rfl
    rw [List.getElem_map, List.getElem_range, List.getElem_map, hnow, hgd]
    have hb : (List.map (fun a => ledB O (bs.getD a.toNat default)) O).getD i default = ledB O (bs.getD O[i].toNat default) := by
      rw [List.getD_eq_getElem?_getD, List.getElem?_map, his]; rfl
    rw [hb]
    unfold ledB
    dsimp only
    obtain ⟨kc, hkc, hkl⟩ := ho.nat O[i] (List.getElem_mem hil)
    have hled := led_same ho (a := kc) (by rw [← hkc]; exact List.getElem_mem hil)
    rw [tms_get (by omega), htl] at hled
    unfold trimB
    rw [hkc] at *
    simp only [Int.toNat_natCast] at *
    rw [hled]
    congr 1
    apply List.map_congr_left
    intro x _
    unfold trimI
    rw [args_same]
end Go.Proofs.YtabpnjakfoofpaaGreatDoor
