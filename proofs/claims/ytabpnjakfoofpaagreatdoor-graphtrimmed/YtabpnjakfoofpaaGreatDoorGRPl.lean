/- The words of the document on right graphs, plain. No program of its own. -/
import Derived.Test.YtabpnjakfoofpaaGreatDoorGCheck
namespace Go.Proofs.YtabpnjakfoofpaaGreatDoor
open Go.RowKit Go.Sort
def innerB (a b : Int) : Bool := decide (0 < a ∧ a < b)
def scB (t : Int) : Bool := decide (1 ≤ t ∧ t ≤ 5)
def plcF (x : Int) : List Int → Nat → Int
  | [], _ => -1
  | y :: l, i => if y = x then (i : Int) else plcF x l (i + 1)
theorem plcF_drop {x : Int} {l : List Int} {i : Nat} (h : i < l.length) : plcF x (l.drop i) i = if l.getD i 0 = x then (i : Int) else plcF x (l.drop (i + 1)) (i + 1) := by
  have e : l.getD i 0 = l[i] := by simp [List.getD, List.getElem?_eq_getElem h]
  rw [e, List.drop_eq_getElem_cons h]
  rfl
theorem wrap_u64 (n : Int) : IntKind.u64.wrap n = n % 18446744073709551616 := by simp [IntKind.wrap, IntKind.bits, IntKind.signed]
theorem w32_hi (a : Int) (h : word a) (g : 2147483648 ≤ a.tmod 4294967296) : IntKind.u64.wrap (a.tmod 4294967296 + 18446744069414584320) = IntKind.u64.wrap (wrap32 a) := by
  obtain ⟨h0, h1⟩ := h
  have e : a.tmod 4294967296 = a % 4294967296 := Int.tmod_eq_emod_of_nonneg h0
  rw [wrap_u64, wrap_u64]; unfold wrap32; omega
theorem w32_lo (a : Int) (h : word a) (g : a.tmod 4294967296 < 2147483648) : a.tmod 4294967296 = IntKind.u64.wrap (wrap32 a) := by
  obtain ⟨h0, h1⟩ := h
  have e : a.tmod 4294967296 = a % 4294967296 := Int.tmod_eq_emod_of_nonneg h0
  rw [wrap_u64]; unfold wrap32; omega
theorem typedB_iff (t : Int) : typedB t = true ↔ 1 ≤ t ∧ t ≤ 5 := by
  simp [typedB, numberB, wholeB]; omega
theorem of_untyped (o t : Int) (h : typedB t = false) : ofT o t = 0 ∧ ofB o t = false := by
  have h1 : numberB t = false := by simp [typedB] at h; exact h.2
  have h2 : wholeB t = false := by simp [numberB] at h1; exact h1.2
  have h3 : ¬ t = 1 := by simp [typedB] at h; exact h.1
  constructor
  · simp [ofT, h, h1, h2, h3]
  · simp [ofB, h, h1, h2, h3]
theorem numberB_iff (t : Int) : numberB t = true ↔ 2 ≤ t ∧ t ≤ 5 := by
  simp [numberB, wholeB]; omega
def plainB (x : In) : Bool := (decide (x.kind = 1 ∨ x.kind = 2 ∨ x.kind = 3 ∨ x.kind = 4 ∨ x.kind = 5 ∨ x.kind = 6 ∨ x.kind = 9) || x.dst == 0) && ((x.kind == 4 || x.op == 0) && ((x.kind == 2 || x.bits == 0) && ((decide (6 ≤ x.kind ∧ x.kind ≤ 9) || x.ref == 0) && ((x.kind != 2 && x.kind != 8) || x.args.length == 0))))
def opR (vars : List Int) (x : In) : Bool := ((x.args.length : Int) == nOp x.op) && (decide (1 ≤ x.op) && (decide (x.op ≤ 18) && (ofB x.op (varT vars (x.args.getD 0 0)) && (varT vars (x.args.getD (x.args.length - 1) 0) == varT vars (x.args.getD 0 0) && varT vars x.dst == ofT x.op (varT vars (x.args.getD 0 0))))))
def calledR (p : List Gr) (vars : List Int) (x : In) : Bool := inB x.ref p.length && (((p.getD x.ref.toNat default).params.length == x.args.length) && ((p.getD x.ref.toNat default).params.all (inB · (p.getD x.ref.toNat default).vars.length) && ((varT vars x.dst == (p.getD x.ref.toNat default).result) && (List.range x.args.length).all (fun i => varT vars (x.args.getD i 0) == varT (p.getD x.ref.toNat default).vars ((p.getD x.ref.toNat default).params.getD i 0)))))
def kindR (G : Gr) (x : In) : Bool :=
  if x.kind = 1 then x.args.all (fun v => varT G.vars v == varT G.vars x.dst)
  else if x.kind = 2 then rightB (varT G.vars x.dst) x.bits
  else if x.kind = 3 then (x.args.length : Int) == 1 && varT G.vars (x.args.getD 0 0) == varT G.vars x.dst
  else if x.kind = 4 then opR G.vars x
  else if x.kind = 5 then (x.args.length : Int) == 1 && turnsB (varT G.vars x.dst) (varT G.vars (x.args.getD 0 0))
  else if x.kind = 6 then (x.args.length : Int) == 1 && (varT G.vars (x.args.getD 0 0) == 4 && varT G.vars x.dst == (G.arrs.getD x.ref.toNat default).1)
  else if x.kind = 7 then (x.args.length : Int) == 2 && (varT G.vars (x.args.getD 0 0) == 4 && varT G.vars (x.args.getD 1 0) == (G.arrs.getD x.ref.toNat default).1)
  else if x.kind = 9 then decide (0 ≤ x.ref)
  else if x.kind = 10 then (x.args.length : Int) == 1
  else true
def aloneR (G : Gr) (x : In) : Bool := decide (1 ≤ x.kind) && (decide (x.kind ≤ 10) && (plainB x && (x.args.all (inB · G.vars.length) && ((decide (6 < x.kind ∧ x.kind ≠ 9) || inB x.dst G.vars.length) && ((decide (x.kind < 6 ∨ 8 < x.kind) || inB x.ref G.arrs.length) && kindR G x)))))
theorem aloneK_1 (G : Gr) (op dst : Int) (args : List Int) (bits ref : Int) : aloneR G ⟨1, op, dst, args, bits, ref⟩ = (plainB ⟨1, op, dst, args, bits, ref⟩ && (args.all (inB · G.vars.length) && (inB dst G.vars.length && args.all (fun v => varT G.vars v == varT G.vars dst)))) := by
  unfold aloneR kindR
  simp
theorem aloneK_2 (G : Gr) (op dst : Int) (args : List Int) (bits ref : Int) : aloneR G ⟨2, op, dst, args, bits, ref⟩ = (plainB ⟨2, op, dst, args, bits, ref⟩ && (args.all (inB · G.vars.length) && (inB dst G.vars.length && rightB (varT G.vars dst) bits))) := by
  unfold aloneR kindR
  simp
theorem aloneK_3 (G : Gr) (op dst : Int) (args : List Int) (bits ref : Int) : aloneR G ⟨3, op, dst, args, bits, ref⟩ = (plainB ⟨3, op, dst, args, bits, ref⟩ && (args.all (inB · G.vars.length) && (inB dst G.vars.length && ((args.length : Int) == 1 && varT G.vars (args.getD 0 0) == varT G.vars dst)))) := by
  unfold aloneR kindR
  simp
theorem aloneK_4 (G : Gr) (op dst : Int) (args : List Int) (bits ref : Int) : aloneR G ⟨4, op, dst, args, bits, ref⟩ = (plainB ⟨4, op, dst, args, bits, ref⟩ && (args.all (inB · G.vars.length) && (inB dst G.vars.length && opR G.vars ⟨4, op, dst, args, bits, ref⟩))) := by
  unfold aloneR kindR
  simp
theorem aloneK_5 (G : Gr) (op dst : Int) (args : List Int) (bits ref : Int) : aloneR G ⟨5, op, dst, args, bits, ref⟩ = (plainB ⟨5, op, dst, args, bits, ref⟩ && (args.all (inB · G.vars.length) && (inB dst G.vars.length && ((args.length : Int) == 1 && turnsB (varT G.vars dst) (varT G.vars (args.getD 0 0)))))) := by
  unfold aloneR kindR
  simp
theorem aloneK_6 (G : Gr) (op dst : Int) (args : List Int) (bits ref : Int) : aloneR G ⟨6, op, dst, args, bits, ref⟩ = (plainB ⟨6, op, dst, args, bits, ref⟩ && (args.all (inB · G.vars.length) && (inB dst G.vars.length && (inB ref G.arrs.length && ((args.length : Int) == 1 && (varT G.vars (args.getD 0 0) == 4 && varT G.vars dst == (G.arrs.getD ref.toNat default).1)))))) := by
  unfold aloneR kindR
  simp
theorem aloneK_7 (G : Gr) (op dst : Int) (args : List Int) (bits ref : Int) : aloneR G ⟨7, op, dst, args, bits, ref⟩ = (plainB ⟨7, op, dst, args, bits, ref⟩ && (args.all (inB · G.vars.length) && (inB ref G.arrs.length && ((args.length : Int) == 2 && (varT G.vars (args.getD 0 0) == 4 && varT G.vars (args.getD 1 0) == (G.arrs.getD ref.toNat default).1))))) := by
  unfold aloneR kindR
  simp
theorem aloneK_8 (G : Gr) (op dst : Int) (args : List Int) (bits ref : Int) : aloneR G ⟨8, op, dst, args, bits, ref⟩ = (plainB ⟨8, op, dst, args, bits, ref⟩ && (args.all (inB · G.vars.length) && (inB ref G.arrs.length && true))) := by
  unfold aloneR kindR
  simp
theorem aloneK_9 (G : Gr) (op dst : Int) (args : List Int) (bits ref : Int) : aloneR G ⟨9, op, dst, args, bits, ref⟩ = (plainB ⟨9, op, dst, args, bits, ref⟩ && (args.all (inB · G.vars.length) && (inB dst G.vars.length && decide (0 ≤ ref)))) := by
  unfold aloneR kindR
  simp
theorem aloneK_10 (G : Gr) (op dst : Int) (args : List Int) (bits ref : Int) : aloneR G ⟨10, op, dst, args, bits, ref⟩ = (plainB ⟨10, op, dst, args, bits, ref⟩ && (args.all (inB · G.vars.length) && ((args.length : Int) == 1))) := by
  unfold aloneR kindR
  simp
def arrR (a : Int × Int) : Bool := scB a.1 && (decide (1 ≤ a.2) && decide (a.2 ≤ 256))
def parR (ps : List Int) (j : Nat) : Bool := decide (plcF (ps.getD j 0) (ps.take j) 0 < 0)
def headR (G : Gr) : Bool := decide (1 ≤ G.blocks.length) && (decide (G.blocks.length ≤ 1048576) && (decide (G.vars.length ≤ 1048576) && (decide (G.arrs.length ≤ 1048576) && (decide (G.params.length ≤ 8) && (scB G.result && (G.params.all (inB · G.vars.length) && (G.vars.all scB && (G.arrs.all arrR && (List.range G.params.length).all (parR G.params)))))))))
def rendB (G : Gr) (t : Tm) : Bool :=
  if t.kind = 1 then innerB t.t0 G.blocks.length && (t.arg == 0 && t.t1 == 0 && t.trap == 0)
  else if t.kind = 2 then innerB t.t0 G.blocks.length && (innerB t.t1 G.blocks.length && (inB t.arg G.vars.length && (varT G.vars t.arg == 1 && t.trap == 0)))
  else if t.kind = 3 then inB t.arg G.vars.length && (varT G.vars t.arg == G.result && (t.t0 == 0 && t.t1 == 0 && t.trap == 0))
  else if t.kind = 4 then decide (1 ≤ t.trap) && (decide (t.trap ≤ 3) && (t.arg == 0 && t.t0 == 0 && t.t1 == 0))
  else false
def phiR (i : Nat) (na : Nat) : List In → Nat → List Int → Bool
  | [], _, _ => true
  | x :: xs, k, st =>
    if x.kind = 1 then (decide (i ≠ 0) && (decide (st.length = k) && (decide (x.args.length = na) && decide (plcF x.dst st 0 < 0)))) && phiR i na xs (k + 1) (st ++ [x.dst])
    else phiR i na xs (k + 1) st
def phisRF (rows : List (List Int)) : List Bl → Nat → Bool
  | [], _ => true
  | b :: bs, i => phiR i (rows.getD i []).length b.ins 0 [] && phisRF rows bs (i + 1)
def phisR (G : Gr) : Bool := phisRF (aheadT (tms G.blocks)) G.blocks 0
theorem phisRF_drop {rows : List (List Int)} {bs : List Bl} {i : Nat} (h : i < bs.length) : phisRF rows (bs.drop i) i = (phiR i (rows.getD i []).length (bs.getD i default).ins 0 [] && phisRF rows (bs.drop (i + 1)) (i + 1)) := by
  have e : bs.getD i default = bs[i] := by simp [List.getD, List.getElem?_eq_getElem h]
  rw [e, List.drop_eq_getElem_cons h]
  rfl
theorem phiR_drop {i na : Nat} {L : List In} {k : Nat} {st : List Int} (h : k < L.length) : phiR i na (L.drop k) k st =
    if (L.getD k default).kind = 1 then (decide (i ≠ 0) && (decide (st.length = k) && (decide ((L.getD k default).args.length = na) && decide (plcF (L.getD k default).dst st 0 < 0)))) && phiR i na (L.drop (k + 1)) (k + 1) (st ++ [(L.getD k default).dst])
    else phiR i na (L.drop (k + 1)) (k + 1) st := by
  have e : L.getD k default = L[k] := by simp [List.getD, List.getElem?_eq_getElem h]
  rw [e, List.drop_eq_getElem_cons h]
  rfl
theorem nodup_bound : ∀ (m : Nat) (l : List Int), l.Nodup → (∀ x ∈ l, 0 ≤ x ∧ x < (m : Int)) → l.length ≤ m
  | 0, l, _, h => by
    match l, h with
    | [], _ => simp
    | x :: l, h => have := h x (by simp); omega
  | m + 1, l, hn, h => by
    have h1 := nodup_bound m (l.erase (m : Int)) (hn.erase _) (fun x hx => by
      have h2 := (hn.mem_erase_iff).1 hx
      have h3 := h x h2.2
      have h4 := h2.1
      omega)
    have h5 := List.length_erase (a := (m : Int)) (l := l)
    rw [h5] at h1
    split at h1 <;> omega
theorem plcF_ge {x : Int} : ∀ (l : List Int) (i : Nat), x ∈ l → 0 ≤ plcF x l i
  | y :: l, i, h => by
    unfold plcF
    split
    · omega
    · rename_i hne
      rcases List.mem_cons.1 h with e | h
      · exact absurd e.symm hne
      · exact plcF_ge l (i + 1) h
  | [], _, h => by cases h
theorem plcF_not {x : Int} : ∀ (l : List Int) (i : Nat), x ∉ l → plcF x l i = -1
  | y :: l, i, h => by
    unfold plcF
    rw [if_neg (fun e => h (by simp [e]))]
    exact plcF_not l (i + 1) (fun hm => h (by simp [hm]))
  | [], _, _ => rfl
theorem plcF_iff {x : Int} {l : List Int} : plcF x l 0 < 0 ↔ x ∉ l := by
  constructor
  · intro h hm
    have := plcF_ge l 0 hm
    omega
  · intro h
    rw [plcF_not l 0 h]
    omega
theorem nodup_snoc {l : List Int} {x : Int} (h : l.Nodup) (hx : x ∉ l) : (l ++ [x]).Nodup := by
  rw [List.nodup_append]
  refine ⟨h, by simp, ?_⟩
  intro a ha b hb
  simp at hb
  subst hb
  intro e
  exact hx (e ▸ ha)
def blockR (G : Gr) (b : Bl) : Bool := rendB G b.tm && b.ins.all (aloneR G)
def aloneG (G : Gr) : Bool := headR G && (G.blocks.all (blockR G) && phisR G)
theorem headR_vars {G : Gr} (h : headR G = true) : G.vars.length ≤ 1048576 := by
  unfold headR at h
  simp only [Bool.and_eq_true, decide_eq_true_eq] at h
  exact h.2.2.1
theorem aloneR_dst {G : Gr} {x : In} (h : aloneR G x = true) (hk : x.kind ≤ 6 ∨ x.kind = 9) : inB x.dst G.vars.length = true := by
  unfold aloneR at h
  simp only [Bool.and_eq_true, Bool.or_eq_true, decide_eq_true_eq] at h
  rcases h.2.2.2.2.1 with h1 | h1
  · omega
  · exact h1
theorem aloneR_args {G : Gr} {x : In} (h : aloneR G x = true) : x.args.all (inB · G.vars.length) = true := by
  unfold aloneR at h
  simp only [Bool.and_eq_true] at h
  exact h.2.2.2.1
theorem blocks_dst {G : Gr} (h : G.blocks.all (blockR G) = true) : ∀ b ∈ G.blocks, ∀ x ∈ b.ins, x.kind = 1 → inB x.dst G.vars.length = true := by
  intro b hb x hx hk
  have h1 := List.all_eq_true.1 h b hb
  unfold blockR at h1
  rw [Bool.and_eq_true] at h1
  exact aloneR_dst (List.all_eq_true.1 h1.2 x hx) (by omega)
def insR (p : List Gr) (G : Gr) (x : In) : Bool := (x.kind != 9) || calledR p G.vars x
def bodyR (p : List Gr) (G : Gr) (b : Bl) : Bool := b.ins.all (insR p G)
def rightR (p : List Gr) (G : Gr) : Bool := aloneG G && G.blocks.all (bodyR p G)
theorem aloneG_ins {G : Gr} (h : aloneG G = true) : ∀ b ∈ G.blocks, ∀ x ∈ b.ins, aloneR G x = true := by
  intro b hb x hx
  unfold aloneG at h
  simp only [Bool.and_eq_true] at h
  have h1 := List.all_eq_true.1 h.2.1 b hb
  unfold blockR at h1
  rw [Bool.and_eq_true] at h1
  exact List.all_eq_true.1 h1.2 x hx
end Go.Proofs.YtabpnjakfoofpaaGreatDoor
