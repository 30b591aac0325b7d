/- An operation is reckoned; a cast: the walks. -/
import Derived.Test.YtknbgpgefeahlaaGreatDoorXFloatM
import Derived.Test.YtknbgpgefeahlaaGreatDoorXTwo
import Derived.Test.YtknbgpgefeahlaaGreatDoorXTurn2M
import Derived.Lib.SliceRun
namespace Go.Proofs.YtknbgpgefeahlaaGreatDoor
open Go.RowKit

set_option maxRecDepth 100000 in
set_option maxHeartbeats 1000000 in
theorem rk_one_walk {B g o ag ao c v : Nat} {q t a b : Int} {ok : Bool} {w : World} (c1 : w.cell? ⟨g, o + 1, none⟩ = some (.int .u8 q)) (c3 : w.cell? ⟨g, o + 3, none⟩ = some (.slice (some ⟨ag, ao, none⟩) 1 c)) (ca : w.cell? ⟨ag, ao, none⟩ = some (.int .i64 (v : Int)))
    (HG : Hid (∀ W k, W = w.drewN k → Calls Tryz.prog 44 #[ptr B, .int .i64 (v : Int)] W fun e w' => e = .returned (.int .u64 a) ∧ ∃ k, w' = W.drewN k))
    (HY : Hid (∀ W k, W = w.drewN k → Calls Tryz.prog 47 #[ptr B, .int .i64 (v : Int)] W fun e w' => e = .returned (.int .u8 t) ∧ ∃ k, w' = W.drewN k))
    (HO : Hid (∀ W, Calls Tryz.prog 69 #[.int .u8 q, .int .u8 t, .int .u64 a] W fun e w' => e = .returned (.tuple #[.int .u64 b, .bool ok]) ∧ w' = W)) :
    Calls Tryz.prog 45 #[ptr B, .pointer (some ⟨g, o, none⟩)] w fun e w' => e = .returned (.int .u64 b) ∧ ∃ k, w' = w.drewN k := by
  go_enter Tryz.func45, Tryz.ntmps45
  go_wp2
  go_quiet (first | (go_at_call 44; exact Calls.quiet_of (HG.out _ _ rfl)) | (go_at_call 47; exact Calls.quiet_of (HY.out _ _ rfl)))
  go_wp2_with (go_at_call 69; refine Calls.mono (HO.out _) ?_; rintro e w1 ⟨rfl, rfl⟩)
  go_ret
  exact ⟨rfl, _, rfl⟩
set_option maxRecDepth 100000 in
set_option maxHeartbeats 1000000 in
theorem rk_two_walk {B g o ag ao n c v u : Nat} {q t a a2 b : Int} {ok : Bool} {w : World} (c1 : w.cell? ⟨g, o + 1, none⟩ = some (.int .u8 q)) (c3 : w.cell? ⟨g, o + 3, none⟩ = some (.slice (some ⟨ag, ao, none⟩) n c)) (hn : (1 : Int) < (n : Int)) (ca : w.cell? ⟨ag, ao, none⟩ = some (.int .i64 (v : Int))) (cb : w.cell? ⟨ag, ao + 1, none⟩ = some (.int .i64 (u : Int)))
    (HG : Hid (∀ W k, W = w.drewN k → Calls Tryz.prog 44 #[ptr B, .int .i64 (v : Int)] W fun e w' => e = .returned (.int .u64 a) ∧ ∃ k, w' = W.drewN k))
    (HU : Hid (∀ W k, W = w.drewN k → Calls Tryz.prog 44 #[ptr B, .int .i64 (u : Int)] W fun e w' => e = .returned (.int .u64 a2) ∧ ∃ k, w' = W.drewN k))
    (HY : Hid (∀ W k, W = w.drewN k → Calls Tryz.prog 47 #[ptr B, .int .i64 (v : Int)] W fun e w' => e = .returned (.int .u8 t) ∧ ∃ k, w' = W.drewN k))
    (HO : Hid (∀ W, Calls Tryz.prog 70 #[.int .u8 q, .int .u8 t, .int .u64 a, .int .u64 a2] W fun e w' => e = .returned (.tuple #[.int .u64 b, .bool ok]) ∧ ∃ k, w' = W.drewN k)) :
    Calls Tryz.prog 45 #[ptr B, .pointer (some ⟨g, o, none⟩)] w fun e w' => e = .returned (.int .u64 b) ∧ ∃ k, w' = w.drewN k := by
  go_enter Tryz.func45, Tryz.ntmps45
  go_wp2
  go_quiet (first | (go_at_call 44; exact Calls.quiet_of (HG.out _ _ rfl)) | (go_at_call 47; exact Calls.quiet_of (HY.out _ _ rfl)))
  go_wp2
  go_quiet (first | (go_at_call 44; exact quiet_add2 (HU.out _ _ rfl)) | (go_at_call 70; exact quiet_add2 (HO.out _)))
  go_wp2
  go_ret
  exact ⟨rfl, _, by rw [World.drewN_drewN]⟩
set_option maxRecDepth 100000 in
set_option maxHeartbeats 1000000 in
theorem do_cast_walk {B g o d ag ao n c v : Nat} {t s a b : Int} {ok : Bool} {w : World} {Q : World → Prop} (c0 : w.cell? ⟨g, o, none⟩ = some (.int .u8 5)) (c2 : w.cell? ⟨g, o + 2, none⟩ = some (.int .i64 (d : Int))) (c3 : w.cell? ⟨g, o + 3, none⟩ = some (.slice (some ⟨ag, ao, none⟩) n c)) (hn : (0 : Int) < (n : Int)) (ca : w.cell? ⟨ag, ao, none⟩ = some (.int .i64 (v : Int)))
    (HG : Hid (∀ W k, W = w.drewN k → Calls Tryz.prog 44 #[ptr B, .int .i64 (v : Int)] W fun e w' => e = .returned (.int .u64 a) ∧ ∃ k, w' = W.drewN k))
    (HD : Hid (∀ W k, W = w.drewN k → Calls Tryz.prog 47 #[ptr B, .int .i64 (d : Int)] W fun e w' => e = .returned (.int .u8 t) ∧ ∃ k, w' = W.drewN k))
    (HY : Hid (∀ W k, W = w.drewN k → Calls Tryz.prog 47 #[ptr B, .int .i64 (v : Int)] W fun e w' => e = .returned (.int .u8 s) ∧ ∃ k, w' = W.drewN k))
    (HO : Hid (∀ W, Calls Tryz.prog 46 #[.int .u8 t, .int .u8 s, .int .u64 a] W fun e w' => e = .returned (.tuple #[.int .u64 b, .bool ok]) ∧ w' = W))
    (HT : Hid (∀ W k, W = w.drewN k → Calls Tryz.prog 42 #[ptr B, .int .i64 (d : Int), .int .u64 b] W fun e w' => e = .returned (.tuple #[]) ∧ Q w')) :
    Calls Tryz.prog 26 #[ptr B, .pointer (some ⟨g, o, none⟩)] w fun e w' => e = .returned (.tuple #[]) ∧ Q w' := by
  go_enter Tryz.func26, Tryz.ntmps26
  go_wp2
  go_quiet (first | (go_at_call 44; exact Calls.quiet_of (HG.out _ _ rfl)) | (go_at_call_of 47 (Value.int .i64 (d : Int)); exact Calls.quiet_of (HD.out _ _ rfl)) | (go_at_call_of 47 (Value.int .i64 (v : Int)); exact Calls.quiet_of (HY.out _ _ rfl)) | (go_at_call 46; exact Calls.quiet_of_same (HO.out _)))
  go_wp2_with (go_at_call 42; refine Calls.mono (HT.out _ _ rfl) ?_; rintro e w1 ⟨rfl, hq⟩)
  go_end0
  exact ⟨rfl, hq⟩
end Go.Proofs.YtknbgpgefeahlaaGreatDoor
/- An array is cleared. -/
namespace Go.Proofs.YtknbgpgefeahlaaGreatDoor
open Go.RowKit

def zeroes : List Int → Nat → Nat → List Int
  | l, _, 0 => l
  | l, f, n + 1 => zeroes (l.set f 0) (f + 1) n
theorem zeroes_len : ∀ (n : Nat) (l : List Int) (f : Nat), (zeroes l f n).length = l.length
  | 0, _, _ => rfl
  | n + 1, l, f => by rw [zeroes, zeroes_len n]; simp
def St.wipe (G : Gr) (S : St) (r : Nat) : St :=
  if S.find (G.vars.length + r) = 0 then S else S.wide (zeroes S.rows (S.kept.getD (S.find (G.vars.length + r) - 1) default).word.toNat (G.arrs.getD r default).2.toNat)
theorem Rn.wipe {E : Env} {V : Vals} {rb rc : Nat} : ∀ (n f : Nat) {w : World} {ss : List Slot} {S : St}, Rn E w V ss S → V.rv = .slice (some ⟨rb, 0, Option.none⟩) S.rows.length rc → ∃ ss', Rn E (w.setCells rb f (List.replicate n (wordV 0))) V ss' (S.wide (zeroes S.rows f n))
  | 0, _, _, ss, _, h, _ => ⟨ss, h⟩
  | n + 1, f, w, ss, S, h, hrv => by
    obtain ⟨ss1, h1⟩ := h.poke hrv f 0
    have h1' : Rn E (w.setCell ⟨rb, f, Option.none⟩ (wordV 0)) V ss1 (S.wide (S.rows.set f 0)) := h1
    obtain ⟨ss2, h2⟩ := Rn.wipe n (f + 1) h1' (by rw [hrv, S.wide_rows, List.length_set])
    exact ⟨ss2, h2⟩
theorem zeroW (w : World) : (zeroValue 28).run Tryz.prog w = .ok (.int .u64 0) w := by kernel_rfl
set_option maxRecDepth 100000 in
set_option maxHeartbeats 1000000 in
theorem do_clear0_walk {B g o r : Nat} {w : World} (c0 : w.cell? ⟨g, o, none⟩ = some (.int .u8 8)) (c5 : w.cell? ⟨g, o + 5, none⟩ = some (.int .i64 (r : Int)))
    (HR : Hid (∀ W k, W = w.drewN k → Calls Tryz.prog 50 #[ptr B, .int .i64 (r : Int)] W fun e w' => e = .returned (.slice none 0 0) ∧ ∃ k, w' = W.drewN k)) :
    Calls Tryz.prog 26 #[ptr B, .pointer (some ⟨g, o, none⟩)] w fun e w' => e = .returned (.tuple #[]) ∧ ∃ k, w' = w.drewN k := by
  have hcl : ∀ ty W, (Builtin.clear_ #[23] ty #[.slice none 0 0]).run Tryz.prog W = .ok (.tuple #[]) W := fun ty W => by
    simp [Builtin.clear_, run_underlying Tryz.underlying23]
  go_enter Tryz.func26, Tryz.ntmps26
  go_wp2_with (go_at_call 50; refine Calls.mono (HR.out _ 0 rfl) ?_; rintro e w1 ⟨rfl, kq, rfl⟩)
  go_end0
  exact ⟨rfl, _, rfl⟩
set_option maxRecDepth 100000 in
set_option maxHeartbeats 1000000 in
theorem do_clear_walk {B g o r rb f sz c : Nat} {w : World} {Q : World → Prop} (c0 : w.cell? ⟨g, o, none⟩ = some (.int .u8 8)) (c5 : w.cell? ⟨g, o + 5, none⟩ = some (.int .i64 (r : Int)))
    (HR : Hid (∀ W k, W = w.drewN k → Calls Tryz.prog 50 #[ptr B, .int .i64 (r : Int)] W fun e w' => e = .returned (.slice (some ⟨rb, f, none⟩) sz c) ∧ ∃ k, w' = W.drewN k))
    (HC : Hid (∀ k, ∀ ty, (Builtin.clear_ #[23] ty #[.slice (some ⟨rb, f, none⟩) sz c]).run Tryz.prog (w.drewN k) = .ok (.tuple #[]) ((w.drewN k).setCells rb f (List.replicate sz (.int .u64 0)))))
    (HQ : Hid (∀ k, Q ((w.drewN k).setCells rb f (List.replicate sz (.int .u64 0))))) :
    Calls Tryz.prog 26 #[ptr B, .pointer (some ⟨g, o, none⟩)] w fun e w' => e = .returned (.tuple #[]) ∧ Q w' := by
  go_enter Tryz.func26, Tryz.ntmps26
  go_wp2_with (go_at_call 50; refine Calls.mono (HR.out _ 0 rfl) ?_; rintro e w1 ⟨rfl, kq, rfl⟩; have hcl := HC.out kq)
  go_end0
  exact ⟨rfl, HQ.out _⟩
end Go.Proofs.YtknbgpgefeahlaaGreatDoor
/- Instructions are done: each kind. -/
namespace Go.Proofs.YtknbgpgefeahlaaGreatDoor
open Go.RowKit

/-- The first argument, the second one. -/
theorem InAt.arg0 {w : World} {g o : Nat} {av : Value} {x : In} (h : InAt w g o av x) (hl : 0 < x.args.length) : ∃ ag ao c, av = .slice (some ⟨ag, ao, none⟩) x.args.length c ∧ w.cell? ⟨ag, ao, none⟩ = some (.int .i64 (x.args.getD 0 0)) := by
  have ha := h.args
  obtain ⟨a, c, hv, _⟩ := ha.form
  rw [hv] at ha
  obtain ⟨ag, ao, rfl, _, hc⟩ := ha.get hl
  exact ⟨ag, ao, c, hv, hc⟩
theorem InAt.arg1 {w : World} {g o : Nat} {av : Value} {x : In} (h : InAt w g o av x) (hl : 1 < x.args.length) : ∃ ag ao c, av = .slice (some ⟨ag, ao, none⟩) x.args.length c ∧ w.cell? ⟨ag, ao, none⟩ = some (.int .i64 (x.args.getD 0 0)) ∧ w.cell? ⟨ag, ao + 1, none⟩ = some (.int .i64 (x.args.getD 1 0)) := by
  have ha := h.args
  obtain ⟨a, c, hv, _⟩ := ha.form
  rw [hv] at ha
  obtain ⟨ag, ao, h1, _, hc⟩ := ha.get (i := 0) (by omega)
  obtain ⟨ag', ao', h2, _, hd⟩ := ha.get (i := 1) hl
  rw [h1] at h2
  cases h2
  exact ⟨ag, ao, c, by rw [hv, h1], hc, hd⟩
theorem do_const {E : Env} {w : World} {V : Vals} {ss : List Slot} {S : St} (h : Rn E w V ss S) {m : Nat} {l : List Int} (ha : Asks E S m l) {g o : Nat} {av : Value} {x : In} (hx : InAt E.w0 g o av x) (hk : x.kind = 2) {d : Nat} (hd : x.dst = (d : Int)) (hdl : d < l.length) (hkl : S.kept.length ≤ 1000000000) :
    Calls Tryz.prog 26 #[ptr E.B, .pointer (some ⟨g, o, none⟩)] w fun e w' => e = .returned (.tuple #[]) ∧ ∃ kv' ss', Rn E w' { V with kv := kv' } ss' (S.set d x.bits) := by
  have hx' := hx.below h.low
  exact do_const_walk (by rw [hx'.c0, hk]) (by rw [hx'.c2, hd]) hx'.c4 (fun W k hW => by subst hW; exact set_any (h.drewN k) ha d hdl _ hkl)
theorem do_copy {E : Env} {w : World} {V : Vals} {ss : List Slot} {S : St} (h : Rn E w V ss S) {m : Nat} {l : List Int} (ha : Asks E S m l) {g o : Nat} {av : Value} {x : In} (hx : InAt E.w0 g o av x) (hk : x.kind = 3) {d v : Nat} (hd : x.dst = (d : Int)) (hdl : d < l.length) (hn : 0 < x.args.length) (hv : x.args.getD 0 0 = (v : Int)) (hvl : v < l.length) (hkl : S.kept.length ≤ 1000000000) :
    Calls Tryz.prog 26 #[ptr E.B, .pointer (some ⟨g, o, none⟩)] w fun e w' => e = .returned (.tuple #[]) ∧ ∃ kv' ss', Rn E w' { V with kv := kv' } ss' (S.set d (S.get v)) := by
  have hx' := hx.below h.low
  obtain ⟨ag, ao, c, rfl, ca⟩ := hx'.arg0 hn
  exact do_copy_walk (by rw [hx'.c0, hk]) (by rw [hx'.c2, hd]) hx'.c3 (by omega) (by rw [ca, hv]) (fun W k hW => by subst hW; exact get_any (h.drewN k) ha v hvl) (fun W k hW => by subst hW; exact set_any (h.drewN k) ha d hdl _ hkl)
/-- What an operation's word is. -/
def St.reck (G : Gr) (S : St) (x : In) : Int :=
  if x.args.length = 1 then Sc.oneI x.op (G.vars.getD (x.args.getD 0 0).toNat 0) (S.get (x.args.getD 0 0).toNat)
  else Sc.twoI x.op (G.vars.getD (x.args.getD 0 0).toNat 0) (S.get (x.args.getD 0 0).toNat) (S.get (x.args.getD 1 0).toNat)
theorem reck_one {E : Env} {w : World} {V : Vals} {ss : List Slot} {S : St} (h : Rn E w V ss S) {m : Nat} {l : List Int} (ha : Asks E S m l) (hg : S.top.g < E.P.length) {g o : Nat} {av : Value} {x : In} (hx : InAt E.w0 g o av x) {v : Nat} (hn : x.args.length = 1) (hv : x.args.getD 0 0 = (v : Int)) (hvl : v < l.length) (hvv : v < (E.P.getD S.top.g default).vars.length) (hw : Hid (Sc.word (S.get v))) :
    Calls Tryz.prog 45 #[ptr E.B, .pointer (some ⟨g, o, none⟩)] w fun e w' => e = .returned (.int .u64 (S.reck (E.P.getD S.top.g default) x)) ∧ ∃ k, w' = w.drewN k := by
  have hx' := hx.below h.low
  obtain ⟨ag, ao, c, rfl, ca⟩ := hx'.arg0 (by omega)
  have e : S.reck (E.P.getD S.top.g default) x = Sc.oneI x.op ((E.P.getD S.top.g default).vars.getD v 0) (S.get v) := by unfold St.reck; rw [if_pos hn, hv, Int.toNat_natCast]
  rw [e]
  have c3 := hx'.c3
  rw [hn] at c3
  exact rk_one_walk hx'.c1 c3 (by rw [ca, hv]) (fun W k hW => by subst hW; exact get_any (h.drewN k) ha v hvl) (fun W k hW => by subst hW; exact typeOf_any (h.drewN k) ha.hm ha.hmb hg v hvv) (fun W => Sc.one_any _ _ _ W hw)
theorem reck_two {E : Env} {w : World} {V : Vals} {ss : List Slot} {S : St} (h : Rn E w V ss S) {m : Nat} {l : List Int} (ha : Asks E S m l) (hg : S.top.g < E.P.length) {g o : Nat} {av : Value} {x : In} (hx : InAt E.w0 g o av x) {v u : Nat} (hn : 1 < x.args.length) (hv : x.args.getD 0 0 = (v : Int)) (hu : x.args.getD 1 0 = (u : Int)) (hvl : v < l.length) (hul : u < l.length) (hvv : v < (E.P.getD S.top.g default).vars.length) (hw : Hid (Sc.word (S.get v))) (hw2 : Hid (Sc.word (S.get u))) :
    Calls Tryz.prog 45 #[ptr E.B, .pointer (some ⟨g, o, none⟩)] w fun e w' => e = .returned (.int .u64 (S.reck (E.P.getD S.top.g default) x)) ∧ ∃ k, w' = w.drewN k := by
  have hx' := hx.below h.low
  obtain ⟨ag, ao, c, rfl, ca, cb⟩ := hx'.arg1 hn
  have e : S.reck (E.P.getD S.top.g default) x = Sc.twoI x.op ((E.P.getD S.top.g default).vars.getD v 0) (S.get v) (S.get u) := by unfold St.reck; rw [if_neg (by omega), hv, hu, Int.toNat_natCast, Int.toNat_natCast]
  rw [e]
  exact rk_two_walk hx'.c1 hx'.c3 (by omega) (by rw [ca, hv]) (by rw [cb, hu]) (fun W k hW => by subst hW; exact get_any (h.drewN k) ha v hvl) (fun W k hW => by subst hW; exact get_any (h.drewN k) ha u hul) (fun W k hW => by subst hW; exact typeOf_any (h.drewN k) ha.hm ha.hmb hg v hvv) (fun W => Sc.two_any _ _ _ _ W hw hw2)
theorem do_op {E : Env} {w : World} {V : Vals} {ss : List Slot} {S : St} (h : Rn E w V ss S) {m : Nat} {l : List Int} (ha : Asks E S m l) {g o : Nat} {av : Value} {x : In} (hx : InAt E.w0 g o av x) (hk : x.kind = 4) {d : Nat} (hd : x.dst = (d : Int)) (hdl : d < l.length) (hkl : S.kept.length ≤ 1000000000)
    (hr : ∀ k, Calls Tryz.prog 45 #[ptr E.B, .pointer (some ⟨g, o, none⟩)] (w.drewN k) fun e w' => e = .returned (.int .u64 (S.reck (E.P.getD S.top.g default) x)) ∧ ∃ j, w' = (w.drewN k).drewN j) :
    Calls Tryz.prog 26 #[ptr E.B, .pointer (some ⟨g, o, none⟩)] w fun e w' => e = .returned (.tuple #[]) ∧ ∃ kv' ss', Rn E w' { V with kv := kv' } ss' (S.set d (S.reck (E.P.getD S.top.g default) x)) := by
  have hx' := hx.below h.low
  exact do_op_walk (by rw [hx'.c0, hk]) (by rw [hx'.c2, hd]) (fun W k hW => by subst hW; exact hr k) (fun W k hW => by subst hW; exact set_any (h.drewN k) ha d hdl _ hkl)
theorem do_cast {E : Env} {w : World} {V : Vals} {ss : List Slot} {S : St} (h : Rn E w V ss S) {m : Nat} {l : List Int} (ha : Asks E S m l) (hg : S.top.g < E.P.length) {g o : Nat} {av : Value} {x : In} (hx : InAt E.w0 g o av x) (hk : x.kind = 5) {d v : Nat} (hd : x.dst = (d : Int)) (hdl : d < l.length) (hdv : d < (E.P.getD S.top.g default).vars.length) (hn : 0 < x.args.length) (hv : x.args.getD 0 0 = (v : Int)) (hvl : v < l.length) (hvv : v < (E.P.getD S.top.g default).vars.length) (hkl : S.kept.length ≤ 1000000000) (hw : Hid (Sc.word (S.get v))) :
    Calls Tryz.prog 26 #[ptr E.B, .pointer (some ⟨g, o, none⟩)] w fun e w' => e = .returned (.tuple #[]) ∧ ∃ kv' ss', Rn E w' { V with kv := kv' } ss' (S.set d (Sc.turnI ((E.P.getD S.top.g default).vars.getD d 0) ((E.P.getD S.top.g default).vars.getD v 0) (S.get v))) := by
  have hx' := hx.below h.low
  obtain ⟨ag, ao, c, rfl, ca⟩ := hx'.arg0 hn
  exact do_cast_walk (by rw [hx'.c0, hk]) (by rw [hx'.c2, hd]) hx'.c3 (by omega) (by rw [ca, hv]) (fun W k hW => by subst hW; exact get_any (h.drewN k) ha v hvl) (fun W k hW => by subst hW; exact typeOf_any (h.drewN k) ha.hm ha.hmb hg d hdv) (fun W k hW => by subst hW; exact typeOf_any (h.drewN k) ha.hm ha.hmb hg v hvv) (fun W => Sc.turn_any _ _ _ W hw) (fun W k hW => by subst hW; exact set_any (h.drewN k) ha d hdl _ hkl)
theorem do_load {E : Env} {w : World} {V : Vals} {ss : List Slot} {S : St} (h : Rn E w V ss S) {m : Nat} {l : List Int} {r : Nat} (ha : AsksA E S m l r) {g o : Nat} {av : Value} {x : In} (hx : InAt E.w0 g o av x) (hk : x.kind = 6) {d v : Nat} (hd : x.dst = (d : Int)) (hdl : d < l.length) (hr : x.ref = (r : Int)) (hn : 0 < x.args.length) (hv : x.args.getD 0 0 = (v : Int)) (hvl : v < l.length) (hkl : S.kept.length ≤ 1000000000) (hw : Sc.word (S.get v))
    {sz : Nat} (hsz : ((E.P.getD S.top.g default).arrs.getD r default).2 = (sz : Int)) (hs0 : 0 < sz) (hs1 : sz ≤ 256) (hat : LiesAt S ((E.P.getD S.top.g default).vars.length + r) sz) :
    Calls Tryz.prog 26 #[ptr E.B, .pointer (some ⟨g, o, none⟩)] w fun e w' => e = .returned (.tuple #[]) ∧ ∃ kv' ss', Rn E w' { V with kv := kv' } ss' (S.set d (S.elem (E.P.getD S.top.g default) r (S.get v))) := by
  have hx' := hx.below h.low
  obtain ⟨ag, ao, c, rfl, ca⟩ := hx'.arg0 hn
  obtain ⟨i, hi⟩ : ∃ i : Nat, S.get v = (i : Int) := Int.eq_ofNat_of_zero_le hw.1
  have hi2 : i < 18446744073709551616 := by have := hw.2; rw [hi] at this; omega
  refine do_load_walk (i := S.get v) (by rw [hx'.c0, hk]) (by rw [hx'.c2, hd]) (by rw [hx'.c5, hr]) hx'.c3 (by omega) (by rw [ca, hv]) (fun W k hW => by subst hW; exact get_any (h.drewN k) ha.toAsks v hvl) (fun W k hW => ?_) (fun W k hW => by subst hW; exact set_any (h.drewN k) ha.toAsks d hdl _ hkl)
  subst hW
  rw [hi]
  exact elem_any (h.drewN k) ha hsz hs0 hs1 hat i hi2
theorem do_store {E : Env} {w : World} {V : Vals} {ss : List Slot} {S : St} (h : Rn E w V ss S) {m : Nat} {l : List Int} {r : Nat} (ha : AsksA E S m l r) {g o : Nat} {av : Value} {x : In} (hx : InAt E.w0 g o av x) (hk : x.kind = 7) {v u : Nat} (hr : x.ref = (r : Int)) (hn : 1 < x.args.length) (hv : x.args.getD 0 0 = (v : Int)) (hvl : v < l.length) (hu : x.args.getD 1 0 = (u : Int)) (hul : u < l.length) (hkl : S.kept.length ≤ 1000000000) (hrl : S.rows.length ≤ 1000000000) (hks : S.top.k ≤ S.kept.length) (hw : Sc.word (S.get v))
    {sz : Nat} (hsz : ((E.P.getD S.top.g default).arrs.getD r default).2 = (sz : Int)) (hs0 : 0 < sz) (hs1 : sz ≤ 256) (hat : LiesAt S ((E.P.getD S.top.g default).vars.length + r) sz) :
    Calls Tryz.prog 26 #[ptr E.B, .pointer (some ⟨g, o, none⟩)] w fun e w' => e = .returned (.tuple #[]) ∧ ∃ kv' rv' ss', Rn E w' { V with kv := kv', rv := rv' } ss' (S.put (E.P.getD S.top.g default) r (S.get v) (S.get u)) := by
  have hx' := hx.below h.low
  obtain ⟨ag, ao, c, rfl, ca, cb⟩ := hx'.arg1 hn
  obtain ⟨i, hi⟩ : ∃ i : Nat, S.get v = (i : Int) := Int.eq_ofNat_of_zero_le hw.1
  refine do_store_walk (i := S.get v) (by rw [hx'.c0, hk]) (by rw [hx'.c5, hr]) hx'.c3 (by omega) (by rw [ca, hv]) (by rw [cb, hu]) (fun W k hW => by subst hW; exact get_any (h.drewN k) ha.toAsks v hvl) (fun W k hW => by subst hW; exact get_any (h.drewN k) ha.toAsks u hul) (fun W k hW => ?_)
  subst hW
  rw [hi]
  exact put_any (h.drewN k) ha hsz hs0 hs1 hat hks hkl hrl i _
theorem do_clear {E : Env} {w : World} {V : Vals} {ss : List Slot} {S : St} (h : Rn E w V ss S) {m : Nat} {l : List Int} {r : Nat} (ha : AsksA E S m l r) {g o : Nat} {av : Value} {x : In} (hx : InAt E.w0 g o av x) (hk : x.kind = 8) (hr : x.ref = (r : Int))
    {sz : Nat} (hsz : ((E.P.getD S.top.g default).arrs.getD r default).2 = (sz : Int)) (hs0 : 0 < sz) (hat : LiesAt S ((E.P.getD S.top.g default).vars.length + r) sz) :
    Calls Tryz.prog 26 #[ptr E.B, .pointer (some ⟨g, o, none⟩)] w fun e w' => e = .returned (.tuple #[]) ∧ ∃ ss', Rn E w' V ss' (S.wipe (E.P.getD S.top.g default) r) := by
  have hx' := hx.below h.low
  by_cases h0 : S.find ((E.P.getD S.top.g default).vars.length + r) = 0
  · have e : S.wipe (E.P.getD S.top.g default) r = S := by unfold St.wipe; rw [if_pos h0]
    rw [e]
    refine (do_clear0_walk (by rw [hx'.c0, hk]) (by rw [hx'.c5, hr]) (fun W k hW => by subst hW; exact row_none (h.drewN k) ha h0)).mono ?_
    rintro e w' ⟨he, k, rfl⟩
    exact ⟨he, ss, h.drewN k⟩
  · obtain ⟨i, hi⟩ : ∃ i, S.find ((E.P.getD S.top.g default).vars.length + r) = i + 1 := ⟨_ - 1, (Nat.succ_pred_eq_of_ne_zero h0).symm⟩
    obtain ⟨f, hf, hfl⟩ := hat i hi
    obtain ⟨rb, rc, hrv, hrc, hrm, hrb, rcell, rfz⟩ := h.words (by omega)
    have e : S.wipe (E.P.getD S.top.g default) r = S.wide (zeroes S.rows f sz) := by unfold St.wipe; rw [if_neg h0, hi, Nat.add_sub_cancel, hf, hsz, Int.toNat_natCast, Int.toNat_natCast]
    rw [e]
    refine do_clear_walk (rb := rb) (f := f) (sz := sz) (c := rc - f) (by rw [hx'.c0, hk]) (by rw [hx'.c5, hr]) (fun W k hW => by subst hW; exact row_some (h.drewN k) ha hi hf hsz hs0 hfl hrv hrc) (fun k ty => ?_) (fun k => (h.drewN k).wipe sz f hrv)
    exact Lib.run_clear_slice (w.drewN k) 23 28 ty (.int .u64 0) Tryz.underlying23 zeroW rfl rfl rb f sz (rc - f) hs0 (fun j hj => by
      have := rcell (f + j) (by omega)
      show (w.cell? ⟨rb, f + j, none⟩).isSome = true
      rw [this]
      rfl) (fun j hj => rfz (f + j))
end Go.Proofs.YtknbgpgefeahlaaGreatDoor
