/- An operation is reckoned; a cast: the walks. -/
import Derived.Test.YtdgpdmohfnealaaGreatDoorXFloatM
import Derived.Test.YtdgpdmohfnealaaGreatDoorXRingPlainM
import Derived.Test.YtdgpdmohfnealaaGreatDoorXTurn2M
import Derived.Lib.SliceRun
import Derived.Test.YtdgpdmohfnealaaGreatDoorURowM
namespace Go.Proofs.YtdgpdmohfnealaaGreatDoor
open Go.RowKit

set_option maxRecDepth 100000 in
set_option maxHeartbeats 1000000 in
theorem rk_one_walk {B g o ag ao c v : Nat} {q t a b : Int} {ok : Bool} {w : World} (c1 : w.cell? ⟨g, o + 1, none⟩ = some (.int .u8 q)) (c3 : w.cell? ⟨g, o + 3, none⟩ = some (.slice (some ⟨ag, ao, none⟩) 1 c)) (ca : w.cell? ⟨ag, ao, none⟩ = some (.int .i64 (v : Int)))
    (HG : Hid (∀ W k, W = w.drewN k → Calls Tryz.prog 33 #[ptr B, .int .i64 (v : Int)] W fun e w' => e = .returned (.int .u64 a) ∧ ∃ k, w' = W.drewN k))
    (HY : Hid (∀ W k, W = w.drewN k → Calls Tryz.prog 36 #[ptr B, .int .i64 (v : Int)] W fun e w' => e = .returned (.int .u8 t) ∧ ∃ k, w' = W.drewN k))
    (HO : Hid (∀ W, Calls Tryz.prog 52 #[.int .u8 q, .int .u8 t, .int .u64 a] W fun e w' => e = .returned (.tuple #[.int .u64 b, .bool ok]) ∧ w' = W)) :
    Calls Tryz.prog 34 #[ptr B, .pointer (some ⟨g, o, none⟩)] w fun e w' => e = .returned (.int .u64 b) ∧ ∃ k, w' = w.drewN k := by
  go_enter Tryz.func34, Tryz.ntmps34
  go_wp2
  go_quiet (first | (go_at_call 33; exact Calls.quiet_of (HG.out _ _ rfl)) | (go_at_call 36; exact Calls.quiet_of (HY.out _ _ rfl)))
  go_wp2_with (go_at_call 52; refine Calls.mono (HO.out _) ?_; rintro e w1 ⟨rfl, rfl⟩)
  go_ret
  exact ⟨rfl, _, rfl⟩
set_option maxRecDepth 100000 in
set_option maxHeartbeats 1000000 in
theorem rk_two_walk {B g o ag ao n c v u : Nat} {q t a a2 b : Int} {ok : Bool} {w : World} (c1 : w.cell? ⟨g, o + 1, none⟩ = some (.int .u8 q)) (c3 : w.cell? ⟨g, o + 3, none⟩ = some (.slice (some ⟨ag, ao, none⟩) n c)) (hn : (1 : Int) < (n : Int)) (ca : w.cell? ⟨ag, ao, none⟩ = some (.int .i64 (v : Int))) (cb : w.cell? ⟨ag, ao + 1, none⟩ = some (.int .i64 (u : Int)))
    (HG : Hid (∀ W k, W = w.drewN k → Calls Tryz.prog 33 #[ptr B, .int .i64 (v : Int)] W fun e w' => e = .returned (.int .u64 a) ∧ ∃ k, w' = W.drewN k))
    (HU : Hid (∀ W k, W = w.drewN k → Calls Tryz.prog 33 #[ptr B, .int .i64 (u : Int)] W fun e w' => e = .returned (.int .u64 a2) ∧ ∃ k, w' = W.drewN k))
    (HY : Hid (∀ W k, W = w.drewN k → Calls Tryz.prog 36 #[ptr B, .int .i64 (v : Int)] W fun e w' => e = .returned (.int .u8 t) ∧ ∃ k, w' = W.drewN k))
    (HO : Hid (∀ W, Calls Tryz.prog 53 #[.int .u8 q, .int .u8 t, .int .u64 a, .int .u64 a2] W fun e w' => e = .returned (.tuple #[.int .u64 b, .bool ok]) ∧ ∃ k, w' = W.drewN k)) :
    Calls Tryz.prog 34 #[ptr B, .pointer (some ⟨g, o, none⟩)] w fun e w' => e = .returned (.int .u64 b) ∧ ∃ k, w' = w.drewN k := by
  go_enter Tryz.func34, Tryz.ntmps34
  go_wp2
  go_quiet (first | (go_at_call 33; exact Calls.quiet_of (HG.out _ _ rfl)) | (go_at_call 36; exact Calls.quiet_of (HY.out _ _ rfl)))
  go_wp2
  go_quiet (first | (go_at_call 33; exact quiet_add2 (HU.out _ _ rfl)) | (go_at_call 53; exact quiet_add2 (HO.out _)))
  go_wp2
  go_ret
  exact ⟨rfl, _, by rw [World.drewN_drewN]⟩
set_option maxRecDepth 100000 in
set_option maxHeartbeats 1000000 in
theorem do_cast_walk {B g o d ag ao n c v : Nat} {t s a b : Int} {ok : Bool} {w : World} {Q : World → Prop} (c0 : w.cell? ⟨g, o, none⟩ = some (.int .u8 5)) (c2 : w.cell? ⟨g, o + 2, none⟩ = some (.int .i64 (d : Int))) (c3 : w.cell? ⟨g, o + 3, none⟩ = some (.slice (some ⟨ag, ao, none⟩) n c)) (hn : (0 : Int) < (n : Int)) (ca : w.cell? ⟨ag, ao, none⟩ = some (.int .i64 (v : Int)))
    (HG : Hid (∀ W k, W = w.drewN k → Calls Tryz.prog 33 #[ptr B, .int .i64 (v : Int)] W fun e w' => e = .returned (.int .u64 a) ∧ ∃ k, w' = W.drewN k))
    (HD : Hid (∀ W k, W = w.drewN k → Calls Tryz.prog 36 #[ptr B, .int .i64 (d : Int)] W fun e w' => e = .returned (.int .u8 t) ∧ ∃ k, w' = W.drewN k))
    (HY : Hid (∀ W k, W = w.drewN k → Calls Tryz.prog 36 #[ptr B, .int .i64 (v : Int)] W fun e w' => e = .returned (.int .u8 s) ∧ ∃ k, w' = W.drewN k))
    (HO : Hid (∀ W, Calls Tryz.prog 35 #[.int .u8 t, .int .u8 s, .int .u64 a] W fun e w' => e = .returned (.tuple #[.int .u64 b, .bool ok]) ∧ w' = W))
    (HT : Hid (∀ W k, W = w.drewN k → Calls Tryz.prog 31 #[ptr B, .int .i64 (d : Int), .int .u64 b] W fun e w' => e = .returned (.tuple #[]) ∧ Q w')) :
    Calls Tryz.prog 18 #[ptr B, .pointer (some ⟨g, o, none⟩)] w fun e w' => e = .returned (.tuple #[]) ∧ Q w' := by
  go_enter Tryz.func18, Tryz.ntmps18
  go_wp2
  go_quiet (first | (go_at_call 33; exact Calls.quiet_of (HG.out _ _ rfl)) | (go_at_call_of 36 (Value.int .i64 (d : Int)); exact Calls.quiet_of (HD.out _ _ rfl)) | (go_at_call_of 36 (Value.int .i64 (v : Int)); exact Calls.quiet_of (HY.out _ _ rfl)) | (go_at_call 35; exact Calls.quiet_of_same (HO.out _)))
  go_wp2_with (go_at_call 31; refine Calls.mono (HT.out _ _ rfl) ?_; rintro e w1 ⟨rfl, hq⟩)
  go_end0
  exact ⟨rfl, hq⟩
end Go.Proofs.YtdgpdmohfnealaaGreatDoor
/- An array is cleared. -/
namespace Go.Proofs.YtdgpdmohfnealaaGreatDoor
open Go.RowKit

def zeroes : List Int → Nat → Nat → List Int
  | l, _, 0 => l
  | l, f, n + 1 => zeroes (l.set f 0) (f + 1) n
theorem zeroes_len : ∀ (n : Nat) (l : List Int) (f : Nat), (zeroes l f n).length = l.length
  | 0, _, _ => rfl
  | n + 1, l, f => by rw [zeroes, zeroes_len n]; simp
def St.wipe (G : Gr) (S : St) (r : Nat) : St :=
  if S.find (G.vars.length + r) = 0 then S else S.wide (zeroes S.rows (S.kept.getD (S.find (G.vars.length + r) - 1) default).word.toNat (G.arrs.getD r default).2.toNat)
theorem Rn.wipe {E : Env} {V : Vals} {rb rc : Nat} : ∀ (n f : Nat) {w : World} {ss : List Slot} {S : St}, Rn E w V ss S → V.rv = .slice (some ⟨rb, 0, Option.none⟩) S.rows.length rc → ∃ ss', Rn E (w.setCells rb f (List.replicate n (wordV 0))) V ss' (S.wide (zeroes S.rows f n))
  | 0, _, _, ss, _, h, _ => ⟨ss, h⟩
  | n + 1, f, w, ss, S, h, hrv => by
    obtain ⟨ss1, h1⟩ := h.poke hrv f 0
    have h1' : Rn E (w.setCell ⟨rb, f, Option.none⟩ (wordV 0)) V ss1 (S.wide (S.rows.set f 0)) := h1
    obtain ⟨ss2, h2⟩ := Rn.wipe n (f + 1) h1' (by rw [hrv, S.wide_rows, List.length_set])
    exact ⟨ss2, h2⟩
theorem zeroW (w : World) : (zeroValue 24).run Tryz.prog w = .ok (.int .u64 0) w := by kernel_rfl
set_option maxRecDepth 100000 in
set_option maxHeartbeats 1000000 in
theorem do_clear0_walk {B g o r : Nat} {w : World} (c0 : w.cell? ⟨g, o, none⟩ = some (.int .u8 8)) (c5 : w.cell? ⟨g, o + 5, none⟩ = some (.int .i64 (r : Int)))
    (HR : Hid (∀ W k, W = w.drewN k → Calls Tryz.prog 39 #[ptr B, .int .i64 (r : Int)] W fun e w' => e = .returned (.slice none 0 0) ∧ ∃ k, w' = W.drewN k)) :
    Calls Tryz.prog 18 #[ptr B, .pointer (some ⟨g, o, none⟩)] w fun e w' => e = .returned (.tuple #[]) ∧ ∃ k, w' = w.drewN k := by
  have hcl : ∀ ty W, (Builtin.clear_ #[33] ty #[.slice none 0 0]).run Tryz.prog W = .ok (.tuple #[]) W := fun ty W => by
    simp [Builtin.clear_, run_underlying Tryz.underlying33]
  go_enter Tryz.func18, Tryz.ntmps18
  go_wp2_with (go_at_call 39; refine Calls.mono (HR.out _ 0 rfl) ?_; rintro e w1 ⟨rfl, kq, rfl⟩)
  go_end0
  exact ⟨rfl, _, rfl⟩
set_option maxRecDepth 100000 in
set_option maxHeartbeats 1000000 in
theorem do_clear_walk {B g o r rb f sz c : Nat} {w : World} {Q : World → Prop} (c0 : w.cell? ⟨g, o, none⟩ = some (.int .u8 8)) (c5 : w.cell? ⟨g, o + 5, none⟩ = some (.int .i64 (r : Int)))
    (HR : Hid (∀ W k, W = w.drewN k → Calls Tryz.prog 39 #[ptr B, .int .i64 (r : Int)] W fun e w' => e = .returned (.slice (some ⟨rb, f, none⟩) sz c) ∧ ∃ k, w' = W.drewN k))
    (HC : Hid (∀ k, ∀ ty, (Builtin.clear_ #[33] ty #[.slice (some ⟨rb, f, none⟩) sz c]).run Tryz.prog (w.drewN k) = .ok (.tuple #[]) ((w.drewN k).setCells rb f (List.replicate sz (.int .u64 0)))))
    (HQ : Hid (∀ k, Q ((w.drewN k).setCells rb f (List.replicate sz (.int .u64 0))))) :
    Calls Tryz.prog 18 #[ptr B, .pointer (some ⟨g, o, none⟩)] w fun e w' => e = .returned (.tuple #[]) ∧ Q w' := by
  go_enter Tryz.func18, Tryz.ntmps18
  go_wp2_with (go_at_call 39; refine Calls.mono (HR.out _ 0 rfl) ?_; rintro e w1 ⟨rfl, kq, rfl⟩; have hcl := HC.out kq)
  go_end0
  exact ⟨rfl, HQ.out _⟩
end Go.Proofs.YtdgpdmohfnealaaGreatDoor
/- Instructions are done: each kind. -/
namespace Go.Proofs.YtdgpdmohfnealaaGreatDoor
open Go.RowKit

/-- The first argument, the second one. -/
theorem InAt.arg0 {w : World} {g o : Nat} {av : Value} {x : In} (h : InAt w g o av x) (hl : 0 < x.args.length) : ∃ ag ao c, av = .slice (some ⟨ag, ao, none⟩) x.args.length c ∧ w.cell? ⟨ag, ao, none⟩ = some (.int .i64 (x.args.getD 0 0)) := by
  have ha := h.args
  obtain ⟨a, c, hv, _⟩ := ha.form
  rw [hv] at ha
  obtain ⟨ag, ao, rfl, _, hc⟩ := ha.get hl
  exact ⟨ag, ao, c, hv, hc⟩
theorem InAt.arg1 {w : World} {g o : Nat} {av : Value} {x : In} (h : InAt w g o av x) (hl : 1 < x.args.length) : ∃ ag ao c, av = .slice (some ⟨ag, ao, none⟩) x.args.length c ∧ w.cell? ⟨ag, ao, none⟩ = some (.int .i64 (x.args.getD 0 0)) ∧ w.cell? ⟨ag, ao + 1, none⟩ = some (.int .i64 (x.args.getD 1 0)) := by
  have ha := h.args
  obtain ⟨a, c, hv, _⟩ := ha.form
  rw [hv] at ha
  obtain ⟨ag, ao, h1, _, hc⟩ := ha.get (i := 0) (by omega)
  obtain ⟨ag', ao', h2, _, hd⟩ := ha.get (i := 1) hl
  rw [h1] at h2
  cases h2
  exact ⟨ag, ao, c, by rw [hv, h1], hc, hd⟩
theorem do_const {E : Env} {w : World} {V : Vals} {ss : List Slot} {S : St} (h : Rn E w V ss S) {m : Nat} {l : List Int} (ha : Asks E S m l) {g o : Nat} {av : Value} {x : In} (hx : InAt E.w0 g o av x) (hk : x.kind = 2) {d : Nat} (hd : x.dst = (d : Int)) (hdl : d < l.length) (hkl : S.kept.length ≤ 1000000000) :
    Calls Tryz.prog 18 #[ptr E.B, .pointer (some ⟨g, o, none⟩)] w fun e w' => e = .returned (.tuple #[]) ∧ ∃ kv' ss', Rn E w' { V with kv := kv' } ss' (S.set d x.bits) := by
  have hx' := hx.below h.low
  exact do_const_walk (by rw [hx'.c0, hk]) (by rw [hx'.c2, hd]) hx'.c4 (fun W k hW => by subst hW; exact set_any (h.drewN k) ha d hdl _ hkl)
theorem do_copy {E : Env} {w : World} {V : Vals} {ss : List Slot} {S : St} (h : Rn E w V ss S) {m : Nat} {l : List Int} (ha : Asks E S m l) {g o : Nat} {av : Value} {x : In} (hx : InAt E.w0 g o av x) (hk : x.kind = 3) {d v : Nat} (hd : x.dst = (d : Int)) (hdl : d < l.length) (hn : 0 < x.args.length) (hv : x.args.getD 0 0 = (v : Int)) (hvl : v < l.length) (hkl : S.kept.length ≤ 1000000000) :
    Calls Tryz.prog 18 #[ptr E.B, .pointer (some ⟨g, o, none⟩)] w fun e w' => e = .returned (.tuple #[]) ∧ ∃ kv' ss', Rn E w' { V with kv := kv' } ss' (S.set d (S.get v)) := by
  have hx' := hx.below h.low
  obtain ⟨ag, ao, c, rfl, ca⟩ := hx'.arg0 hn
  exact do_copy_walk (by rw [hx'.c0, hk]) (by rw [hx'.c2, hd]) hx'.c3 (by omega) (by rw [ca, hv]) (fun W k hW => by subst hW; exact get_any (h.drewN k) ha v hvl) (fun W k hW => by subst hW; exact set_any (h.drewN k) ha d hdl _ hkl)
/-- What an operation's word is. -/
def St.reck (G : Gr) (S : St) (x : In) : Int :=
  if x.args.length = 1 then Sc.oneI x.op (G.vars.getD (x.args.getD 0 0).toNat 0) (S.get (x.args.getD 0 0).toNat)
  else Sc.twoI x.op (G.vars.getD (x.args.getD 0 0).toNat 0) (S.get (x.args.getD 0 0).toNat) (S.get (x.args.getD 1 0).toNat)
theorem reck_one {E : Env} {w : World} {V : Vals} {ss : List Slot} {S : St} (h : Rn E w V ss S) {m : Nat} {l : List Int} (ha : Asks E S m l) (hg : S.top.g < E.P.length) {g o : Nat} {av : Value} {x : In} (hx : InAt E.w0 g o av x) {v : Nat} (hn : x.args.length = 1) (hv : x.args.getD 0 0 = (v : Int)) (hvl : v < l.length) (hvv : v < (E.P.getD S.top.g default).vars.length) (hw : Hid (Sc.word (S.get v))) :
    Calls Tryz.prog 34 #[ptr E.B, .pointer (some ⟨g, o, none⟩)] w fun e w' => e = .returned (.int .u64 (S.reck (E.P.getD S.top.g default) x)) ∧ ∃ k, w' = w.drewN k := by
  have hx' := hx.below h.low
  obtain ⟨ag, ao, c, rfl, ca⟩ := hx'.arg0 (by omega)
  have e : S.reck (E.P.getD S.top.g default) x = Sc.oneI x.op ((E.P.getD S.top.g default).vars.getD v 0) (S.get v) := by unfold St.reck; rw [if_pos hn, hv, Int.toNat_natCast]
  rw [e]
  have c3 := hx'.c3
  rw [hn] at c3
  exact rk_one_walk hx'.c1 c3 (by rw [ca, hv]) (fun W k hW => by subst hW; exact get_any (h.drewN k) ha v hvl) (fun W k hW => by subst hW; exact typeOf_any (h.drewN k) ha.hm ha.hmb hg v hvv) (fun W => Sc.one_any _ _ _ W hw)
theorem reck_two {E : Env} {w : World} {V : Vals} {ss : List Slot} {S : St} (h : Rn E w V ss S) {m : Nat} {l : List Int} (ha : Asks E S m l) (hg : S.top.g < E.P.length) {g o : Nat} {av : Value} {x : In} (hx : InAt E.w0 g o av x) {v u : Nat} (hn : 1 < x.args.length) (hv : x.args.getD 0 0 = (v : Int)) (hu : x.args.getD 1 0 = (u : Int)) (hvl : v < l.length) (hul : u < l.length) (hvv : v < (E.P.getD S.top.g default).vars.length) (hw : Hid (Sc.word (S.get v))) (hw2 : Hid (Sc.word (S.get u))) :
    Calls Tryz.prog 34 #[ptr E.B, .pointer (some ⟨g, o, none⟩)] w fun e w' => e = .returned (.int .u64 (S.reck (E.P.getD S.top.g default) x)) ∧ ∃ k, w' = w.drewN k := by
  have hx' := hx.below h.low
  obtain ⟨ag, ao, c, rfl, ca, cb⟩ := hx'.arg1 hn
  have e : S.reck (E.P.getD S.top.g default) x = Sc.twoI x.op ((E.P.getD S.top.g default).vars.getD v 0) (S.get v) (S.get u) := by unfold St.reck; rw [if_neg (by omega), hv, hu, Int.toNat_natCast, Int.toNat_natCast]
  rw [e]
  exact rk_two_walk hx'.c1 hx'.c3 (by omega) (by rw [ca, hv]) (by rw [cb, hu]) (fun W k hW => by subst hW; exact get_any (h.drewN k) ha v hvl) (fun W k hW => by subst hW; exact get_any (h.drewN k) ha u hul) (fun W k hW => by subst hW; exact typeOf_any (h.drewN k) ha.hm ha.hmb hg v hvv) (fun W => Sc.two_any _ _ _ _ W hw hw2)
theorem do_op {E : Env} {w : World} {V : Vals} {ss : List Slot} {S : St} (h : Rn E w V ss S) {m : Nat} {l : List Int} (ha : Asks E S m l) {g o : Nat} {av : Value} {x : In} (hx : InAt E.w0 g o av x) (hk : x.kind = 4) {d : Nat} (hd : x.dst = (d : Int)) (hdl : d < l.length) (hkl : S.kept.length ≤ 1000000000)
    (hr : ∀ k, Calls Tryz.prog 34 #[ptr E.B, .pointer (some ⟨g, o, none⟩)] (w.drewN k) fun e w' => e = .returned (.int .u64 (S.reck (E.P.getD S.top.g default) x)) ∧ ∃ j, w' = (w.drewN k).drewN j) :
    Calls Tryz.prog 18 #[ptr E.B, .pointer (some ⟨g, o, none⟩)] w fun e w' => e = .returned (.tuple #[]) ∧ ∃ kv' ss', Rn E w' { V with kv := kv' } ss' (S.set d (S.reck (E.P.getD S.top.g default) x)) := by
  have hx' := hx.below h.low
  exact do_op_walk (by rw [hx'.c0, hk]) (by rw [hx'.c2, hd]) (fun W k hW => by subst hW; exact hr k) (fun W k hW => by subst hW; exact set_any (h.drewN k) ha d hdl _ hkl)
theorem do_cast {E : Env} {w : World} {V : Vals} {ss : List Slot} {S : St} (h : Rn E w V ss S) {m : Nat} {l : List Int} (ha : Asks E S m l) (hg : S.top.g < E.P.length) {g o : Nat} {av : Value} {x : In} (hx : InAt E.w0 g o av x) (hk : x.kind = 5) {d v : Nat} (hd : x.dst = (d : Int)) (hdl : d < l.length) (hdv : d < (E.P.getD S.top.g default).vars.length) (hn : 0 < x.args.length) (hv : x.args.getD 0 0 = (v : Int)) (hvl : v < l.length) (hvv : v < (E.P.getD S.top.g default).vars.length) (hkl : S.kept.length ≤ 1000000000) (hw : Hid (Sc.word (S.get v))) :
    Calls Tryz.prog 18 #[ptr E.B, .pointer (some ⟨g, o, none⟩)] w fun e w' => e = .returned (.tuple #[]) ∧ ∃ kv' ss', Rn E w' { V with kv := kv' } ss' (S.set d (Sc.turnI ((E.P.getD S.top.g default).vars.getD d 0) ((E.P.getD S.top.g default).vars.getD v 0) (S.get v))) := by
  have hx' := hx.below h.low
  obtain ⟨ag, ao, c, rfl, ca⟩ := hx'.arg0 hn
  exact do_cast_walk (by rw [hx'.c0, hk]) (by rw [hx'.c2, hd]) hx'.c3 (by omega) (by rw [ca, hv]) (fun W k hW => by subst hW; exact get_any (h.drewN k) ha v hvl) (fun W k hW => by subst hW; exact typeOf_any (h.drewN k) ha.hm ha.hmb hg d hdv) (fun W k hW => by subst hW; exact typeOf_any (h.drewN k) ha.hm ha.hmb hg v hvv) (fun W => Sc.turn_any _ _ _ W hw) (fun W k hW => by subst hW; exact set_any (h.drewN k) ha d hdl _ hkl)
theorem do_load {E : Env} {w : World} {V : Vals} {ss : List Slot} {S : St} (h : Rn E w V ss S) {m : Nat} {l : List Int} {r : Nat} (ha : AsksA E S m l r) {g o : Nat} {av : Value} {x : In} (hx : InAt E.w0 g o av x) (hk : x.kind = 6) {d v : Nat} (hd : x.dst = (d : Int)) (hdl : d < l.length) (hr : x.ref = (r : Int)) (hn : 0 < x.args.length) (hv : x.args.getD 0 0 = (v : Int)) (hvl : v < l.length) (hkl : S.kept.length ≤ 1000000000) (hw : Sc.word (S.get v))
    {sz : Nat} (hsz : ((E.P.getD S.top.g default).arrs.getD r default).2 = (sz : Int)) (hs0 : 0 < sz) (hs1 : sz ≤ 256) (hat : LiesAt S ((E.P.getD S.top.g default).vars.length + r) sz) :
    Calls Tryz.prog 18 #[ptr E.B, .pointer (some ⟨g, o, none⟩)] w fun e w' => e = .returned (.tuple #[]) ∧ ∃ kv' ss', Rn E w' { V with kv := kv' } ss' (S.set d (S.elem (E.P.getD S.top.g default) r (S.get v))) := by
  have hx' := hx.below h.low
  obtain ⟨ag, ao, c, rfl, ca⟩ := hx'.arg0 hn
  obtain ⟨i, hi⟩ : ∃ i : Nat, S.get v = (i : Int) := Int.eq_ofNat_of_zero_le hw.1
  have hi2 : i < 18446744073709551616 := by have := hw.2; rw [hi] at this; omega
  refine do_load_walk (i := S.get v) (by rw [hx'.c0, hk]) (by rw [hx'.c2, hd]) (by rw [hx'.c5, hr]) hx'.c3 (by omega) (by rw [ca, hv]) (fun W k hW => by subst hW; exact get_any (h.drewN k) ha.toAsks v hvl) (fun W k hW => ?_) (fun W k hW => by subst hW; exact set_any (h.drewN k) ha.toAsks d hdl _ hkl)
  subst hW
  rw [hi]
  exact elem_any (h.drewN k) ha hsz hs0 hs1 hat i hi2
theorem do_store {E : Env} {w : World} {V : Vals} {ss : List Slot} {S : St} (h : Rn E w V ss S) {m : Nat} {l : List Int} {r : Nat} (ha : AsksA E S m l r) {g o : Nat} {av : Value} {x : In} (hx : InAt E.w0 g o av x) (hk : x.kind = 7) {v u : Nat} (hr : x.ref = (r : Int)) (hn : 1 < x.args.length) (hv : x.args.getD 0 0 = (v : Int)) (hvl : v < l.length) (hu : x.args.getD 1 0 = (u : Int)) (hul : u < l.length) (hkl : S.kept.length ≤ 1000000000) (hrl : S.rows.length ≤ 1000000000) (hks : S.top.k ≤ S.kept.length) (hw : Sc.word (S.get v))
    {sz : Nat} (hsz : ((E.P.getD S.top.g default).arrs.getD r default).2 = (sz : Int)) (hs0 : 0 < sz) (hs1 : sz ≤ 256) (hat : LiesAt S ((E.P.getD S.top.g default).vars.length + r) sz) :
    Calls Tryz.prog 18 #[ptr E.B, .pointer (some ⟨g, o, none⟩)] w fun e w' => e = .returned (.tuple #[]) ∧ ∃ kv' rv' ss', Rn E w' { V with kv := kv', rv := rv' } ss' (S.put (E.P.getD S.top.g default) r (S.get v) (S.get u)) := by
  have hx' := hx.below h.low
  obtain ⟨ag, ao, c, rfl, ca, cb⟩ := hx'.arg1 hn
  obtain ⟨i, hi⟩ : ∃ i : Nat, S.get v = (i : Int) := Int.eq_ofNat_of_zero_le hw.1
  refine do_store_walk (i := S.get v) (by rw [hx'.c0, hk]) (by rw [hx'.c5, hr]) hx'.c3 (by omega) (by rw [ca, hv]) (by rw [cb, hu]) (fun W k hW => by subst hW; exact get_any (h.drewN k) ha.toAsks v hvl) (fun W k hW => by subst hW; exact get_any (h.drewN k) ha.toAsks u hul) (fun W k hW => ?_)
  subst hW
  rw [hi]
  exact put_any (h.drewN k) ha hsz hs0 hs1 hat hks hkl hrl i _
theorem do_clear {E : Env} {w : World} {V : Vals} {ss : List Slot} {S : St} (h : Rn E w V ss S) {m : Nat} {l : List Int} {r : Nat} (ha : AsksA E S m l r) {g o : Nat} {av : Value} {x : In} (hx : InAt E.w0 g o av x) (hk : x.kind = 8) (hr : x.ref = (r : Int))
    {sz : Nat} (hsz : ((E.P.getD S.top.g default).arrs.getD r default).2 = (sz : Int)) (hs0 : 0 < sz) (hat : LiesAt S ((E.P.getD S.top.g default).vars.length + r) sz) :
    Calls Tryz.prog 18 #[ptr E.B, .pointer (some ⟨g, o, none⟩)] w fun e w' => e = .returned (.tuple #[]) ∧ ∃ ss', Rn E w' V ss' (S.wipe (E.P.getD S.top.g default) r) := by
  have hx' := hx.below h.low
  by_cases h0 : S.find ((E.P.getD S.top.g default).vars.length + r) = 0
  · have e : S.wipe (E.P.getD S.top.g default) r = S := by unfold St.wipe; rw [if_pos h0]
    rw [e]
    refine (do_clear0_walk (by rw [hx'.c0, hk]) (by rw [hx'.c5, hr]) (fun W k hW => by subst hW; exact row_none (h.drewN k) ha h0)).mono ?_
    rintro e w' ⟨he, k, rfl⟩
    exact ⟨he, ss, h.drewN k⟩
  · obtain ⟨i, hi⟩ : ∃ i, S.find ((E.P.getD S.top.g default).vars.length + r) = i + 1 := ⟨_ - 1, (Nat.succ_pred_eq_of_ne_zero h0).symm⟩
    obtain ⟨f, hf, hfl⟩ := hat i hi
    obtain ⟨rb, rc, hrv, hrc, hrm, hrb, rcell, rfz⟩ := h.words (by omega)
    have e : S.wipe (E.P.getD S.top.g default) r = S.wide (zeroes S.rows f sz) := by unfold St.wipe; rw [if_neg h0, hi, Nat.add_sub_cancel, hf, hsz, Int.toNat_natCast, Int.toNat_natCast]
    rw [e]
    refine do_clear_walk (rb := rb) (f := f) (sz := sz) (c := rc - f) (by rw [hx'.c0, hk]) (by rw [hx'.c5, hr]) (fun W k hW => by subst hW; exact row_some (h.drewN k) ha hi hf hsz hs0 hfl hrv hrc) (fun k ty => ?_) (fun k => (h.drewN k).wipe sz f hrv)
    exact Lib.run_clear_slice (w.drewN k) 33 24 ty (.int .u64 0) Tryz.underlying33 zeroW rfl rfl rb f sz (rc - f) hs0 (fun j hj => by
      have := rcell (f + j) (by omega)
      show (w.cell? ⟨rb, f + j, none⟩).isSome = true
      rw [this]
      rfl) (fun j hj => rfz (f + j))
end Go.Proofs.YtdgpdmohfnealaaGreatDoor
/- What a call has set is given up: what is kept. -/
namespace Go.Proofs.YtdgpdmohfnealaaGreatDoor
open Go.RowKit

def unset (l : List Int) (ks : List Sg) : List Int := ks.foldl (fun l s => l.set s.cell (s.old : Int)) l
def St.anew (S : St) (g : Nat) (l : List Int) : St := { S with nw := S.nw.set g (some l) }
def St.cutK (S : St) (k : Nat) : St := { S with kept := S.kept.take k }
def St.cutR (S : St) (k : Nat) : St := { S with rows := S.rows.take k }
def St.forget (S : St) : St := ((S.anew S.top.g (unset (S.row S.top.g) (S.kept.drop S.top.k))).cutK S.top.k).cutR S.top.r
theorem unset_len (ks : List Sg) : ∀ l, (unset l ks).length = l.length := by
  unfold unset
  induction ks with
  | nil => intro l; rfl
  | cons s ks ih => intro l; rw [List.foldl_cons, ih, List.length_set]
theorem unset_take (l : List Int) (ks : List Sg) (i : Nat) (hi : i < ks.length) : unset l (ks.take (i + 1)) = (unset l (ks.take i)).set (ks.getD i default).cell ((ks.getD i default).old : Int) := by
  unfold unset
  have : ks.take (i + 1) = ks.take i ++ [ks.getD i default] := by
    rw [List.take_succ_eq_append_getElem hi]
    simp [List.getD, List.getElem?_eq_getElem hi]
  rw [this, List.foldl_append]
  rfl
/-- The newest settings of a graph are others now. -/
theorem Rn.anew {E : Env} {w : World} {V : Vals} {ss : List Slot} {S : St} (h : Rn E w V ss S) {tg : Nat} {l : List Int} {c N : Nat} {a : Value} (hg : S.nw[tg]? = some (some l)) (hN : V.cl[tg]? = some (a, .slice (some ⟨N, 0, Option.none⟩) l.length l.length)) (x : Int) :
    ∃ ss', Rn E (w.setCell ⟨N, c, Option.none⟩ (intV x)) V ss' (S.anew tg (l.set c x)) := by
  have hgl : tg < S.nw.length := (List.getElem?_eq_some_iff.1 hg).1
  have hgp : tg < E.P.length := by rw [← h.nwl]; exact hgl
  obtain ⟨a', N', hN', hs7, hah⟩ := h.news _ l hg
  rw [hN] at hN'
  cases hN'
  have H3 := h.heap.store hs7 c (intV x)
  have L3 := below_set h.low (h.heap.lt hs7).1 c (intV x)
  refine ⟨_, L3, h.prog, H3, set_other h.s0 (by omega), set_other h.s1 (by omega), set_other h.s2 (by omega), set_other h.s3 (by omega), set_other h.s4 (by omega), ?_, set_other h.s6 (by omega), h.cll, by simpa [St.anew] using h.nwl, ?_, ?_⟩
  · obtain ⟨ws, hw⟩ := h.s5
    exact ⟨ws, set_other hw (by omega)⟩
  · intro i q hq
    have hq' : (S.nw.set tg (some (l.set c x)))[i]? = some (some q) := hq
    by_cases hi : tg = i
    · subst hi
      rw [List.getElem?_set, if_pos rfl, if_pos hgl] at hq'
      cases hq'
      refine ⟨a, N, ?_, ?_, hah.set (by omega) _⟩
      · rw [List.length_set]; exact hN
      · have e3 : (l.map intV).set c (intV x) = (l.set c x).map intV := by rw [List.map_set]
        rw [List.length_set, ← e3]
        exact set_self hs7
    · rw [List.getElem?_set, if_neg hi] at hq'
      obtain ⟨a2, N2, h1, h2, h3⟩ := h.news i q hq'
      exact ⟨a2, N2, h1, set_other h2 (by omega), h3.set (by omega) _⟩
  · intro i hi
    have hi' : (S.nw.set tg (some (l.set c x)))[i]? = some Option.none := hi
    by_cases hgi : tg = i
    · subst hgi
      rw [List.getElem?_set, if_pos rfl, if_pos hgl] at hi'
      cases hi'
    · rw [List.getElem?_set, if_neg hgi] at hi'
      obtain ⟨h1, h2⟩ := h.none i hi'
      exact ⟨h1, set_other h2 (by omega)⟩
/-- A row of one's own that is cut: both ends of it. -/
theorem own_ends {w : World} {base : Nat} {e : TypeId} {sz n k : Nat} {v : Value} {cs : List Value} (h : w.ownsRow base e sz v n cs) (hk : k ≤ n) : ∃ a c v2 a2 c2, v = .slice a n c ∧ k ≤ c ∧ v2 = .slice a2 k c2 ∧ v2 = sliced a 0 k c sz ∧ w.ownsRow base e sz v2 k (cs.take (k * sz)) ∧ v2.ownBlock = v.ownBlock := by
  rcases own_shape h with ⟨hv, hn⟩ | ⟨g, c, hv, hc, hm, _, _⟩
  · subst hn
    have hk0 : k = 0 := by omega
    subst hk0
    have hcs : cs = [] := List.eq_nil_of_length_eq_zero (by have := h.1; simpa using this)
    refine ⟨none, 0, .slice none 0 0, none, 0, hv, by omega, rfl, by simp [sliced], ?_, by rw [hv]⟩
    rw [hcs]
    simp
    exact World.ownsRow_nil _ _ _ _
  · refine ⟨some ⟨g, 0, none⟩, c, .slice (some ⟨g, 0, none⟩) k c, some ⟨g, 0, none⟩, c, hv, by omega, rfl, ?_, ?_, by rw [hv]; rfl⟩
    · simp [sliced, Addr.add]
    · rw [hv] at h
      exact own_take h hk
theorem Rn.cutK {E : Env} {w : World} {V : Vals} {ss : List Slot} {S : St} (h : Rn E w V ss S) {k : Nat} (hk : k ≤ S.kept.length) {v2 : Value} (ho : w.ownsRow E.w0.heap.size 113 3 v2 k ((flat sgCells S.kept).take (k * 3))) (hb : v2.ownBlock = V.kv.ownBlock) :
    ∃ ss', Rn E (w.setCell ⟨E.B, 5, Option.none⟩ v2) { V with kv := v2 } ss' (S.cutK k) := by
  have ho' : (⟨v2, 113, 3, k, (flat sgCells S.kept).take (k * 3)⟩ : Slot).At w E.w0.heap.size := ho
  have H1 := h.heap.turn h.s3 (fun _ _ _ => rfl) ho' (fun g hg => .inl (by rw [← hb]; exact hg))
  have z1 : (ss.set 3 ⟨v2, 113, 3, k, (flat sgCells S.kept).take (k * 3)⟩)[0]? = _ := set_other h.s0 (by omega)
  have H2 := H1.store z1 5 v2
  have L2 := below_set h.low (H1.lt z1).1 5 v2
  refine ⟨_, L2, h.prog, H2, set_self z1, set_other (set_other h.s1 (by omega)) (by omega), set_other (set_other h.s2 (by omega)) (by omega), ?_, set_other (set_other h.s4 (by omega)) (by omega), ?_, set_other (set_other h.s6 (by omega)) (by omega), h.cll, h.nwl, ?_, ?_⟩
  · have e1 : (flat sgCells S.kept).take (k * 3) = flat sgCells (S.cutK k).kept := flat_take sgCells_len S.kept k
    have e2 : k = (S.cutK k).kept.length := by show k = (S.kept.take k).length; rw [List.length_take]; omega
    have := set_other (b := (⟨.slice (some ⟨E.B, 0, Option.none⟩) 1 1, 64, 14, 1, (rnCells E V S).set 5 v2⟩ : Slot)) (set_self (b := (⟨v2, 113, 3, k, (flat sgCells S.kept).take (k * 3)⟩ : Slot)) h.s3) (i := 0) (by omega)
    rw [this, e1, ← e2]
  · obtain ⟨ws, hw⟩ := h.s5
    exact ⟨ws, set_other (set_other hw (by omega)) (by omega)⟩
  · intro i q hq
    obtain ⟨a2, N2, h1, h2, h3⟩ := h.news i q hq
    exact ⟨a2, N2, h1, set_other (set_other h2 (by omega)) (by omega), (h3.set (by omega) _).set (by omega) _⟩
  · intro i hi
    obtain ⟨h1, h2⟩ := h.none i hi
    exact ⟨h1, set_other (set_other h2 (by omega)) (by omega)⟩
theorem Rn.cutR {E : Env} {w : World} {V : Vals} {ss : List Slot} {S : St} (h : Rn E w V ss S) {k : Nat} (hk : k ≤ S.rows.length) {v2 : Value} (ho : w.ownsRow E.w0.heap.size 24 1 v2 k ((S.rows.map wordV).take (k * 1))) (hb : v2.ownBlock = V.rv.ownBlock) :
    ∃ ss', Rn E (w.setCell ⟨E.B, 6, Option.none⟩ v2) { V with rv := v2 } ss' (S.cutR k) := by
  have ho' : (⟨v2, 24, 1, k, (S.rows.map wordV).take (k * 1)⟩ : Slot).At w E.w0.heap.size := ho
  have H1 := h.heap.turn h.s4 (fun _ _ _ => rfl) ho' (fun g hg => .inl (by rw [← hb]; exact hg))
  have z1 : (ss.set 4 ⟨v2, 24, 1, k, (S.rows.map wordV).take (k * 1)⟩)[0]? = _ := set_other h.s0 (by omega)
  have H2 := H1.store z1 6 v2
  have L2 := below_set h.low (H1.lt z1).1 6 v2
  refine ⟨_, L2, h.prog, H2, set_self z1, set_other (set_other h.s1 (by omega)) (by omega), set_other (set_other h.s2 (by omega)) (by omega), set_other (set_other h.s3 (by omega)) (by omega), ?_, ?_, set_other (set_other h.s6 (by omega)) (by omega), h.cll, h.nwl, ?_, ?_⟩
  · have e1 : (S.rows.map wordV).take (k * 1) = (S.cutR k).rows.map wordV := by show _ = (S.rows.take k).map wordV; rw [Nat.mul_one, List.map_take]
    have e2 : k = (S.cutR k).rows.length := by show k = (S.rows.take k).length; rw [List.length_take]; omega
    have := set_other (b := (⟨.slice (some ⟨E.B, 0, Option.none⟩) 1 1, 64, 14, 1, (rnCells E V S).set 6 v2⟩ : Slot)) (set_self (b := (⟨v2, 24, 1, k, (S.rows.map wordV).take (k * 1)⟩ : Slot)) h.s4) (i := 0) (by omega)
    rw [this, e1, ← e2]
  · obtain ⟨ws, hw⟩ := h.s5
    exact ⟨ws, set_other (set_other hw (by omega)) (by omega)⟩
  · intro i q hq
    obtain ⟨a2, N2, h1, h2, h3⟩ := h.news i q hq
    exact ⟨a2, N2, h1, set_other (set_other h2 (by omega)) (by omega), (h3.set (by omega) _).set (by omega) _⟩
  · intro i hi
    obtain ⟨h1, h2⟩ := h.none i hi
    exact ⟨h1, set_other (set_other h2 (by omega)) (by omega)⟩
end Go.Proofs.YtdgpdmohfnealaaGreatDoor
/- What a call has set is given up: the walk. -/
namespace Go.Proofs.YtdgpdmohfnealaaGreatDoor
open Go.RowKit

set_option maxRecDepth 100000 in
set_option maxHeartbeats 2000000 in
theorem forget_walk {B C N cb m n k r tg pl ll ct : Nat} {af at' a2 a3 : Option Addr} {kc rc c2 c3 nr : Nat} {w : World} {R : Nat → World → Prop} {Q : World → Prop}
    (b3 : w.cell? ⟨B, 3, none⟩ = some (.slice (some ⟨C, 0, none⟩) pl pl)) (b5 : w.cell? ⟨B, 5, none⟩ = some (.slice af n kc)) (t0 : w.cell? ⟨cb, m * 5, none⟩ = some (.int .i64 (tg : Int))) (t3 : w.cell? ⟨cb, m * 5 + 3, none⟩ = some (.int .i64 (k : Int)))
    (hgl : (tg : Int) < pl) (k1 : w.cell? ⟨C, tg * 2 + 1, none⟩ = some (.slice (some ⟨N, 0, none⟩) ll ll))
    (HNW : Hid (∀ W j, W = w.drewN j → Calls Tryz.prog 17 #[ptr B] W fun e w' => e = .returned (.pointer (some ⟨cb, m * 5, none⟩)) ∧ ∃ j, w' = W.drewN j))
    (hs1 : ∀ W, (Instr.slice 62 (.slice af n kc) (some (.int .i64 (k : Int))) none none).run Tryz.prog W = .ok (.slice at' (n - k) ct) W)
    (HR0 : Hid (∀ j, R 0 (w.drewN j)))
    (HRS : Hid (∀ i wq, i < n - k → R i wq → ∃ (kb o d old : Nat) (x q : Int), at' = some ⟨kb, o, none⟩ ∧ kb < wq.heap.size ∧ N < wq.heap.size ∧ wq.cell? ⟨kb, o + i * 3, none⟩ = some (.int .i64 (d : Int)) ∧ wq.cell? ⟨kb, o + i * 3 + 1, none⟩ = some (.int .i64 (old : Int)) ∧ wq.cell? ⟨kb, o + i * 3 + 2, none⟩ = some (.int .u64 x) ∧ (d : Int) < ll ∧ wq.cell? ⟨N, d, none⟩ = some (.int .i64 q) ∧ wq.frozen? ⟨N, d, none⟩ = false ∧ R (i + 1) ((wq.setCell ⟨N, d, none⟩ (.int .i64 (old : Int))).alloc (.cells #[.int .i64 (d : Int), .int .i64 (old : Int), .int .u64 x] 113))))
    (hnb : Hid (n - k ≤ 1000000000))
    (HE : Hid (∀ wq, R (n - k) wq → wq.cell? ⟨B, 5, none⟩ = some (.slice af n kc) ∧ wq.cell? ⟨B, 6, none⟩ = some (.slice a3 nr rc) ∧ wq.frozen? ⟨B, 5, none⟩ = false ∧ wq.frozen? ⟨B, 6, none⟩ = false ∧ wq.cell? ⟨cb, m * 5 + 3, none⟩ = some (.int .i64 (k : Int)) ∧ wq.cell? ⟨cb, m * 5 + 4, none⟩ = some (.int .i64 (r : Int)) ∧ ∀ j, Q (((wq.drewN j).setCell ⟨B, 5, none⟩ (.slice a2 k c2)).setCell ⟨B, 6, none⟩ (.slice a3 r c3)) ∧ Q (((wq.drewN j).setCell ⟨B, 6, none⟩ (.slice a3 r c3)).setCell ⟨B, 5, none⟩ (.slice a2 k c2))))
    (hs2 : ∀ W, (Instr.slice 62 (.slice af n kc) none (some (.int .i64 (k : Int))) none).run Tryz.prog W = .ok (.slice a2 k c2) W)
    (hs3 : ∀ W, (Instr.slice 33 (.slice a3 nr rc) none (some (.int .i64 (r : Int))) none).run Tryz.prog W = .ok (.slice a3 r c3) W) :
    Calls Tryz.prog 60 #[ptr B] w fun e w' => e = .returned (.tuple #[]) ∧ Q w' := by
  obtain ⟨nk, hnk⟩ : ∃ nk, nk = n - k := ⟨_, rfl⟩
  rw [← hnk] at hs1 HRS hnb HE
  clear hnk
  go_enter Tryz.func60, Tryz.ntmps60
  go_wp2_with (go_at_call 17; refine Calls.mono (HNW.out _ 0 rfl) ?_; rintro e w1 ⟨rfl, kq, rfl⟩)
  go_quiet (fail)
  go_wp2
  go_quiet (fail)
  go_wp2
  have hnb1 : (nk : Int) ≤ 1000000000 := by have := hnb.out; omega
  go_loopw [29] (fun vi wq => ∃ i : Nat, vi = .int .i64 i ∧ i ≤ nk ∧ Hid (R i wq)) (fun vi _ => nk - (intOf vi).toNat)
  case atStart => exact ⟨0, rfl, by omega, by rw [World.drewN_drewN, World.drewN_drewN]; exact HR0.out _⟩
  case round =>
    obtain ⟨i, rfl, hi, hr⟩ := hrel
    clear HR0 b3 b5 t0 t3 k1 hgl
    by_cases hin : i < nk
    · obtain ⟨kb, o, d, old, x, q, rfl, hkb, hNb, d0, d1, d2, hd, dn, fn, hr1⟩ := HRS.out i wr hin hr.out
      have hin' : (i : Int) < nk := by omega
      have HR1 : Hid _ := hr1
      clear hr1 HRS HE
      go_wp2
      go_roundw
      case rel => exact ⟨i + 1, by first | rfl | (congr 1; omega), by omega, HR1.out⟩
      case measure => simp [intOf]; omega
    · obtain rfl : i = nk := by omega
      obtain ⟨e5, e6, f5, f6, g3, g4, hq⟩ := HE.out wr hr.out
      have HQ : Hid _ := hq
      clear hq HE HRS
      go_wp2
      go_region
      all_goals (try go_wp2)
      all_goals go_end0
      all_goals first | exact ⟨rfl, (HQ.out _).1⟩ | exact ⟨rfl, (HQ.out _).2⟩
end Go.Proofs.YtdgpdmohfnealaaGreatDoor
