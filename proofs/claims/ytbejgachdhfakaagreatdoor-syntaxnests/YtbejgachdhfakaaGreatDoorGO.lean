/- strconv.ParseUint, ten digits, 63 bits: what is told of a text. -/
import Derived.Test.YtbejgachdhfakaaGreatDoorGB
import Derived.Lib.Strings
import Derived.Lib.Walk
import Derived.Lib.ConvBytes
import Derived.Lib.AtoiAllMem
import Derived.Lib.Hide
import Derived.Laws.Strings3
import Derived.Laws.Closers25
import Derived.Laws.Closers25b
import Derived.BigCall
import Derived.BigGuard
import Derived.Lib.IfaceEq
import Derived.Deep.RegionWith
import Derived.RegionTactic
import Derived.Test.YtbejgachdhfakaaGreatDoorGH
namespace Go.Proofs.YtbejgachdhfakaaGreatDoor
open Go.RowKit

/-- Digits read on, from a number: none, where one is none, or the number comes to 63 bits. -/
def uintR : Nat → List UInt8 → Option Nat
  | acc, [] => some acc
  | acc, c :: l => if (48 ≤ c.toNat ∧ c.toNat ≤ 57) ∧ acc * 10 + (c.toNat - 48) < 9223372036854775808 then uintR (acc * 10 + (c.toNat - 48)) l else none
def uintV (acc : Nat) (l : List UInt8) : Nat := l.foldl (fun n c => n * 10 + (c.toNat - 48)) acc
theorem uintV_ge : ∀ (l : List UInt8) (acc : Nat), acc ≤ uintV acc l
  | [], acc => Nat.le_refl _
  | c :: l, acc => by
    have := uintV_ge l (acc * 10 + (c.toNat - 48))
    show acc ≤ uintV (acc * 10 + (c.toNat - 48)) l
    omega
theorem digitB_iff (c : UInt8) : digitB c = true ↔ 48 ≤ c.toNat ∧ c.toNat ≤ 57 := by
  simp [digitB, UInt8.le_iff_toNat_le]
theorem uintR_eq : ∀ (l : List UInt8) (acc : Nat), acc < 9223372036854775808 → uintR acc l = if l.all digitB = true ∧ uintV acc l < 9223372036854775808 then some (uintV acc l) else none
  | [], acc, h => by simp [uintR, uintV, h]
  | c :: l, acc, h => by
    have hg := uintV_ge l (acc * 10 + (c.toNat - 48))
    have he : uintV acc (c :: l) = uintV (acc * 10 + (c.toNat - 48)) l := rfl
    unfold uintR
    by_cases hd : 48 ≤ c.toNat ∧ c.toNat ≤ 57
    · by_cases hv : acc * 10 + (c.toNat - 48) < 9223372036854775808
      · rw [if_pos ⟨hd, hv⟩, uintR_eq l _ hv, he, List.all_cons, (digitB_iff c).2 hd, Bool.true_and]
      · rw [if_neg (fun hh => hv hh.2), if_neg (fun hh => hv (by rw [he] at hh; omega))]
    · rw [if_neg (fun hh => hd hh.1), if_neg]
      rintro ⟨ha, _⟩
      rw [List.all_cons, Bool.and_eq_true] at ha
      exact hd ((digitB_iff c).1 ha.1)

theorem lower_any (c : Int) (w : World) : Calls Tryz.prog 176 #[.int .u8 c] w fun e w' => e = .returned (.int .u8 (bits .or .u8 c 32)) ∧ w' = w := by
  go_enter Tryz.func176, Tryz.ntmps176
  go_wp2
  go_ret
  exact ⟨rfl, rfl⟩

/-- What the inner function hands back. -/
def uintTold (r : Option Nat) (e : Ending) : Prop :=
  match r with
  | some n => e = .returned (.tuple #[.int .u64 (n : Int), .nilIface])
  | none => ∃ n k : Int, (k = 1 ∨ k = 2) ∧ e = .returned (.tuple #[.int .u64 n, .iface 291 (.int .i64 k)])
theorem told_none {n k : Int} {e : Ending} (hk : k = 1 ∨ k = 2) (he : e = .returned (.tuple #[.int .u64 n, .iface 291 (.int .i64 k)])) : uintTold none e := ⟨n, k, hk, he⟩
set_option maxHeartbeats 32000000 in
set_option maxRecDepth 100000 in
theorem uint_in (t : ByteArray) (hne : t.size ≠ 0) (hmax : t.size ≤ 65536) (w : World) :
    Calls Tryz.prog 172 #[.string t, .int .i64 10, .int .i64 63] w fun e w' => uintTold (uintR 0 t.data.toList) e ∧ w' = Lib.bytesWorld w 5 t := by
  have hemp : t.toList.isEmpty = false := by
    rw [← decide_eq_emptyBytes]
    exact decide_eq_false (fun h => hne (by rw [h]; rfl))
  have hcv := Lib.run_convert_string_bytes (P := Tryz.prog) w 9 80 5 t (u := .string) Tryz.underlying9 Tryz.underlying80 Tryz.underlying5
  have hB : ∀ j, j < t.size → (Lib.bytesWorld w 5 t).cell? ⟨w.heap.size, j, none⟩ = some (.int .u8 (t.data.toList.getD j 0).toNat) := fun j hj => Lib.bytesWorld_cell w 5 t j hj
  obtain ⟨W1, hW1⟩ : ∃ W1, W1 = Lib.bytesWorld w 5 t := ⟨_, rfl⟩
  rw [← hW1] at hcv hB ⊢
  clear hW1
  obtain ⟨bs, hL⟩ : ∃ bs, bs = t.data.toList := ⟨_, rfl⟩
  have hLn : bs.length = t.size := by rw [hL, Lib.size_eq]
  rw [← hL] at hB ⊢
  clear hL
  have hmv : IntKind.u64.wrap (IntKind.u64.wrap 9223372036854775808 - 1) = 9223372036854775807 := by
    rw [IntKind.wrap_u64, IntKind.wrap_u64]
    decide
  go_enter Tryz.func172, Tryz.ntmps172
  go_wp2
  go_loop [12, 13, 101] (fun vu vn vi => ∃ (k acc : Nat) (a : Int), vu = .bool false ∧ vn = .int .u64 a ∧ vi = .int .i64 k ∧ k ≤ t.size ∧ Hid (a = (acc : Int) ∧ acc < 9223372036854775808 ∧ uintR 0 bs = uintR acc (bs.drop k)))
    (fun _ _ vi => t.size - (intOf vi).toNat)
  case atStart => exact ⟨0, 0, 0, rfl, rfl, rfl, by omega, rfl, by omega, rfl⟩
  case round =>
    obtain ⟨k, acc, a, rfl, rfl, rfl, hk, hh⟩ := hrel
    obtain ⟨ha, hacc, hdec⟩ := hh.out
    clear hh
    have a0 : 0 ≤ a := by omega
    have a1 : a ≤ 9223372036854775807 := by omega
    by_cases hkn : k < t.size
    · have hc := hB k hkn
      have hdrop : bs.drop k = bs[k]'(by omega) :: bs.drop (k + 1) := List.drop_eq_getElem_cons (by omega)
      have hget : bs.getD k 0 = bs[k]'(by omega) := by simp [List.getD, List.getElem?_eq_getElem (show k < bs.length by omega)]
      rw [hdrop] at hdec
      rw [hget] at hc
      generalize bs[k]'(by omega) = c at hc hdec
      have hc256 : c.toNat < 256 := c.toNat_lt
      clear hB hdrop hget
      by_cases hdig : 48 ≤ c.toNat ∧ c.toNat ≤ 57
      · obtain ⟨hd0, hd1⟩ := hdig
        by_cases hov : 9223372036854775807 < acc * 10 + (c.toNat - 48)
        · have hF : uintR acc (c :: bs.drop (k + 1)) = none := by
            unfold uintR
            rw [if_neg (fun hh => by omega)]
          rw [hF] at hdec
          by_cases hcut : 1844674407370955162 ≤ acc
          · have icut : 1844674407370955162 ≤ a := by omega
            clear hacc hF hov ha hcut
            go_wp2
            go_ret2
            exact ⟨by first | exact told_none (.inl rfl) rfl | (rw [hdec]; exact told_none (.inl rfl) rfl), rfl⟩
          · have icut : a < 1844674407370955162 := by omega
            have iov : 9223372036854775807 < a * 10 + ((c.toNat : Int) - 48) := by omega
            by_cases hwr : a * 10 + ((c.toNat : Int) - 48) < 18446744073709551616
            · clear hcut hacc hF hov ha
              go_wp2
              go_ret2
              exact ⟨by first | exact told_none (.inl rfl) rfl | (rw [hdec]; exact told_none (.inl rfl) rfl), rfl⟩
            · have e1 : IntKind.u64.wrap (a * 10 + ((c.toNat : Int) - 48)) = a * 10 + ((c.toNat : Int) - 48) - 18446744073709551616 := by
                rw [IntKind.wrap_u64]; omega
              clear hcut hacc hF hov ha
              go_wp2
              go_ret2
              exact ⟨by first | exact told_none (.inl rfl) rfl | (rw [hdec]; exact told_none (.inl rfl) rfl), rfl⟩
        · have hF : uintR acc (c :: bs.drop (k + 1)) = uintR (acc * 10 + (c.toNat - 48)) (bs.drop (k + 1)) := by
            conv => lhs; unfold uintR
            rw [if_pos ⟨⟨hd0, hd1⟩, by omega⟩]
          have HN : Hid (a * 10 + ((c.toNat : Int) - 48) = ((acc * 10 + (c.toNat - 48) : Nat) : Int) ∧ acc * 10 + (c.toNat - 48) < 9223372036854775808 ∧ uintR 0 bs = uintR (acc * 10 + (c.toNat - 48)) (bs.drop (k + 1))) := ⟨by omega, by omega, hdec.trans hF⟩
          have icut : a < 1844674407370955162 := by omega
          have iov : a * 10 + ((c.toNat : Int) - 48) ≤ 9223372036854775807 := by omega
          clear hacc hF hov hdec ha
          go_wp2
          refine ⟨⟨k + 1, acc * 10 + (c.toNat - 48), a * 10 + ((c.toNat : Int) - 48), rfl, (by first | rfl | (congr 1; omega)), (by first | rfl | (congr 1; omega)), by omega, HN⟩, by simp [intOf]; omega⟩
      · have hF : uintR acc (c :: bs.drop (k + 1)) = none := by
          unfold uintR
          rw [if_neg (fun hh => hdig hh.1)]
        rw [hF] at hdec
        clear hacc hF ha
        have hv0 := bits_lo_u8 .or (c.toNat : Int) 32
        have hv1 := bits_hi_u8 .or (c.toNat : Int) 32
        have hu0 := bits_lo_u8 .or 95 32
        have hu1 := bits_hi_u8 .or 95 32
        go_wp2_with (go_at_call 176; refine (lower_any _ _).mono ?_; rintro e w' ⟨rfl, rfl⟩)
        all_goals go_ret2
        all_goals exact ⟨by first | exact told_none (.inr rfl) rfl | (rw [hdec]; exact told_none (.inr rfl) rfl), rfl⟩
    · have hkk : k = t.size := by omega
      subst hkk
      have hF : uintR acc (bs.drop t.size) = some acc := by rw [List.drop_eq_nil_of_le (by omega)]; rfl
      rw [hF] at hdec
      subst ha
      clear hacc hF a0 a1
      go_wp2
      go_ret2
      exact ⟨by first | rfl | (rw [hdec]; rfl), rfl⟩
end Go.Proofs.YtbejgachdhfakaaGreatDoor
/- strconv.ParseUint's face: a text that is no number of 63 bits is told as some error. -/
namespace Go.Proofs.YtbejgachdhfakaaGreatDoor
open Go.RowKit

theorem GlobsAt.lt {w : World} (h : GlobsAt w) : 5 < w.heap.size := by
  obtain ⟨_, y, hy, _⟩ := h
  exact World.block_lt_of_cell? w _ hy
set_option maxRecDepth 100000 in
theorem err_syntax (fn s : ByteArray) (w : World) (hs : s.size ≤ 65536) (hw : GlobsAt w) :
    Calls Tryz.prog 178 #[.string fn, .string s] w fun e w' => (∃ v, e = .returned (.pointer v)) ∧ Below w.heap.size w w' := by
  obtain ⟨⟨ev, hv, hev⟩, _⟩ := hw
  rcases hev with rfl | ⟨te, pe, rfl⟩
  all_goals (
    have hG : 4 < w.heap.size := World.block_lt_of_cell? w _ hv
    have hvd : w.drew.cell? ⟨4, 0, none⟩ = some _ := hv
    go_enter Tryz.func178, Tryz.ntmps178
    go_wp2
    go_region_with (
        go_at_call 137
        refine (Tryz.stringslite_Clone s _ (by omega)).mono ?_
        rintro e w2 ⟨rfl, hbel⟩
        have hv2 : w2.cell? ⟨4, 0, none⟩ = some _ := (hbel.cell (show (⟨4, 0, none⟩ : Addr).block < w.drew.heap.size from hG)).trans hvd)
    all_goals (
      go_wp2
      go_ret
      have hs2 : w.heap.size ≤ w2.heap.size := hbel.size
      exact ⟨⟨_, rfl⟩, ((Below.drew (Below.refl _ w)).trans hbel).alloc hs2 _⟩))
set_option maxRecDepth 100000 in
theorem err_range (fn s : ByteArray) (w : World) (hs : s.size ≤ 65536) (hw : GlobsAt w) :
    Calls Tryz.prog 179 #[.string fn, .string s] w fun e w' => (∃ v, e = .returned (.pointer v)) ∧ Below w.heap.size w w' := by
  obtain ⟨_, ev, hv, hev⟩ := hw
  rcases hev with rfl | ⟨te, pe, rfl⟩
  all_goals (
    have hG : 5 < w.heap.size := World.block_lt_of_cell? w _ hv
    have hvd : w.drew.cell? ⟨5, 0, none⟩ = some _ := hv
    go_enter Tryz.func179, Tryz.ntmps179
    go_wp2
    go_region_with (
        go_at_call 137
        refine (Tryz.stringslite_Clone s _ (by omega)).mono ?_
        rintro e w2 ⟨rfl, hbel⟩
        have hv2 : w2.cell? ⟨5, 0, none⟩ = some _ := (hbel.cell (show (⟨5, 0, none⟩ : Addr).block < w.drew.heap.size from hG)).trans hvd)
    all_goals (
      go_wp2
      go_ret
      have hs2 : w.heap.size ≤ w2.heap.size := hbel.size
      exact ⟨⟨_, rfl⟩, ((Below.drew (Below.refl _ w)).trans hbel).alloc hs2 _⟩))
theorem err_eq (a b : Int) (W : World) : (binOp .eql 287 (.iface 291 (.int .i64 a)) (.iface 291 (.int .i64 b))).run Tryz.prog W = .ok (.bool (decide (a = b))) W :=
  Lib.run_eql_iface_int W a b Tryz.underlying287 (by kernel_rfl) Tryz.underlying291
set_option maxRecDepth 100000 in
theorem err_to (fn s : ByteArray) (b n k : Int) (hk : k = 1 ∨ k = 2) (w : World) (hs : s.size ≤ 65536) (hw : GlobsAt w) :
    Calls Tryz.prog 173 #[.string fn, .string s, .int .i64 b, .int .i64 n, .iface 291 (.int .i64 k)] w fun e w' => (∃ v, e = .returned (.iface 293 v)) ∧ Below w.heap.size w w' := by
  have h12 : ∀ W, (binOp .eql 287 (.iface 291 (.int .i64 1)) (.iface 291 (.int .i64 2))).run Tryz.prog W = .ok (.bool false) W := fun W => err_eq 1 2 W
  have h11 : ∀ W, (binOp .eql 287 (.iface 291 (.int .i64 1)) (.iface 291 (.int .i64 1))).run Tryz.prog W = .ok (.bool true) W := fun W => err_eq 1 1 W
  have h22 : ∀ W, (binOp .eql 287 (.iface 291 (.int .i64 2)) (.iface 291 (.int .i64 2))).run Tryz.prog W = .ok (.bool true) W := fun W => err_eq 2 2 W
  have HS := err_syntax fn s w hs hw
  have HR := err_range fn s w hs hw
  clear hw
  rcases hk with rfl | rfl
  · go_enter Tryz.func173, Tryz.ntmps173
    go_wp2_with (go_at_call 179; refine HR.mono ?_; rintro e w2 ⟨⟨v, rfl⟩, hb⟩)
    go_ret
    exact ⟨⟨_, rfl⟩, hb⟩
  · go_enter Tryz.func173, Tryz.ntmps173
    go_wp2_with (go_at_call 178; refine HS.mono ?_; rintro e w2 ⟨⟨v, rfl⟩, hb⟩)
    go_ret
    exact ⟨⟨_, rfl⟩, hb⟩
theorem bytes_below (w : World) (t : ByteArray) : Below w.heap.size w (Lib.bytesWorld w 5 t) where
  os := rfl
  tape := rfl
  output := rfl
  size := by rw [Lib.bytesWorld_size]; omega
  block := fun k hk => Lib.bytesWorld_at_old w 5 t k hk
def uintOk (t : ByteArray) : Prop := t.toList ≠ [] ∧ t.toList.all digitB = true ∧ digitsV t.toList < 9223372036854775808
/-- The contract of strconv.ParseUint, ten digits, 63 bits. -/
def DoesUint : Prop := ∀ (t : ByteArray) (w : World), t.size ≤ 65536 → GlobsAt w → Calls Tryz.prog 170 #[.string t, .int .i64 10, .int .i64 63] w fun e w' => Below w.heap.size w w' ∧
  ((uintOk t ∧ e = .returned (.tuple #[.int .u64 (digitsV t.toList : Int), .nilIface])) ∨ (¬ uintOk t ∧ ∃ (n : Int) (ty : TypeId) (x : Value), e = .returned (.tuple #[.int .u64 n, .iface ty x])))
set_option maxRecDepth 100000 in
theorem uint_empty (w : World) : Calls Tryz.prog 172 #[.string ⟨#[]⟩, .int .i64 10, .int .i64 63] w fun e w' => e = .returned (.tuple #[.int .u64 0, .iface 291 (.int .i64 2)]) ∧ w' = w := by
  go_enter Tryz.func172, Tryz.ntmps172
  go_wp2
  go_ret2
  exact ⟨rfl, rfl⟩
theorem uint_all (t : ByteArray) (w : World) (hs : t.size ≤ 65536) : Calls Tryz.prog 172 #[.string t, .int .i64 10, .int .i64 63] w fun e w' => Below w.heap.size w w' ∧
    ((uintOk t ∧ e = .returned (.tuple #[.int .u64 (digitsV t.toList : Int), .nilIface])) ∨ (¬ uintOk t ∧ ∃ n k : Int, (k = 1 ∨ k = 2) ∧ e = .returned (.tuple #[.int .u64 n, .iface 291 (.int .i64 k)]))) := by
  by_cases h0 : t.size = 0
  · have e0 : t = ⟨#[]⟩ := by
      cases t with
      | mk d => exact congrArg _ (Array.eq_empty_of_size_eq_zero h0)
    subst e0
    refine (uint_empty w).mono ?_
    rintro e w' ⟨rfl, rfl⟩
    exact ⟨Below.refl _ _, .inr ⟨fun hh => hh.1 (by simp [Lib.toList_data]), _, _, .inr rfl, rfl⟩⟩
  · refine (uint_in t h0 hs w).mono ?_
    rintro e w' ⟨he, rfl⟩
    refine ⟨bytes_below w t, ?_⟩
    have hl : t.data.toList = t.toList := (Lib.toList_data t).symm
    rw [hl, uintR_eq _ _ (by omega)] at he
    have hne : t.toList ≠ [] := by
      rw [← hl]
      intro hc
      apply h0
      have : t.data.toList.length = t.size := by simp
      rw [hc] at this
      simpa using this.symm
    by_cases hc : t.toList.all digitB = true ∧ uintV 0 t.toList < 9223372036854775808
    · rw [if_pos hc] at he
      exact .inl ⟨⟨hne, hc.1, hc.2⟩, he⟩
    · rw [if_neg hc] at he
      obtain ⟨n, k, hk, he⟩ := he
      exact .inr ⟨fun hh => hc ⟨hh.2.1, hh.2.2⟩, n, k, hk, he⟩
set_option maxRecDepth 100000 in
theorem does_uint : DoesUint := by
  intro t w hs hw
  have HU := uint_all t w hs
  have HT : Hid (∀ (k : Int) (W : World), (k = 1 ∨ k = 2) → Below w.heap.size w W → Calls Tryz.prog 173 #[.string ⟨#[80, 97, 114, 115, 101, 85, 105, 110, 116]⟩, .string t, .int .i64 10, .int .i64 63, .iface 291 (.int .i64 k)] W fun e w' => (∃ v, e = .returned (.iface 293 v)) ∧ Below W.heap.size W w') :=
    fun k W hk hb => err_to _ t 10 63 k hk W hs (hw.below hw.lt hb)
  have hnn : ∀ (v : Value) (W : World), (binOp .neq 287 (.iface 291 v) .nilIface).run Tryz.prog W = .ok (.bool true) W := fun v W => by kernel_rfl
  clear hw
  go_enter Tryz.func170, Tryz.ntmps170
  go_wp2_with (go_at_call 172; refine HU.mono ?_; rintro e w1 ⟨hb1, ⟨hok, rfl⟩ | ⟨hno, n, k, hk, rfl⟩⟩)
  · go_ret2
    exact ⟨hb1, .inl ⟨hok, rfl⟩⟩
  · go_wp2_with (go_at_call 173; refine Calls.mono (by exact HT.out _ _ hk hb1) ?_; rintro e w2 ⟨⟨v, rfl⟩, hb2⟩)
    go_ret2
    exact ⟨hb1.trans (hb2.mono hb1.size), .inr ⟨hno, _, _, _, rfl⟩⟩
end Go.Proofs.YtbejgachdhfakaaGreatDoor
/- An array's size. -/
namespace Go.Proofs.YtbejgachdhfakaaGreatDoor
open Go.RowKit

set_option maxRecDepth 100000 in
theorem size_any : DoesSize := by
  have hU := does_uint
  intro E w v kvs st h
  have hN := next_par h
  have hfl := fld0
  unfold sizeP
  by_cases hk : (hd st).1 = 4
  · rw [if_neg (by simpa using hk)]
    have hsz : (txB E.s (hd st)).size ≤ 65536 := by
      have := h.ssz
      unfold txB
      rw [ByteArray.size_extract]
      omega
    have HT : Hid (∀ W, Below w.heap.size w W → Calls Tryz.prog 95 #[ptr E.p] W fun e w' => e = .returned (.string (txB E.s (hd st))) ∧ Below W.heap.size W w') := fun W hw => text_par (h.below hw)
    have HU : Hid (∀ W, Below w.heap.size w W → Calls Tryz.prog 170 #[.string (txB E.s (hd st)), .int .i64 10, .int .i64 63] W fun e w' => Below W.heap.size W w' ∧
      ((uintOk (txB E.s (hd st)) ∧ e = .returned (.tuple #[.int .u64 (digitsV (txB E.s (hd st)).toList : Int), .nilIface])) ∨ (¬ uintOk (txB E.s (hd st)) ∧ ∃ (n : Int) (ty : TypeId) (x : Value), e = .returned (.tuple #[.int .u64 n, .iface ty x])))) := fun W hw => hU (txB E.s (hd st)) W hsz (h.gl.2.below (by have := h.gl.1; have := h.lt; omega) hw)
    have HS : Hid (∀ W, Below w.heap.size w W → Calls Tryz.prog 92 #[ptr E.p, .int .i64 131] W fun e w' => e = gaveUp 131 (hd st).2.1 ∧ Below W.heap.size W w') := fun W hw => stop_par (h.below hw) 131
    have hk1 : ((hd st).1 : Int) = 4 := by omega
    rw [hk1] at hN
    unfold txs
    by_cases hc : uintOk (txB E.s (hd st)) ∧ 1 ≤ digitsV (txB E.s (hd st)).toList ∧ digitsV (txB E.s (hd st)).toList ≤ 256
    · have HP : Hid (∀ W, Below w.heap.size w W → Calls Tryz.prog 93 #[ptr E.p] W fun e w' => e = .returned (.int .i64 ((hd st).2.1 : Int)) ∧ Kept E.p W w' ∧ Par E w' v kvs (tl st)) := fun W hw => pass_par (h.below hw) (good_txs h.good hc.1.1)
      rw [if_pos (by simp [hc.1.2.1, hc.2.1, hc.2.2])]
      unfold PostK
      dsimp only
      have hcc : Hid _ := hc.1
      obtain ⟨_, c1, c2⟩ := hc
      generalize txB E.s (hd st) = x at HT HU hcc c1 c2 ⊢
      generalize digitsV x.toList = d at HU c1 c2 ⊢
      clear hsz h
      go_enter Tryz.func164, Tryz.ntmps164
      go_wp2_with (first | (go_at_call 23; refine hN.mono ?_; rintro e w1 ⟨rfl, hb1⟩) | (go_at_call 95; refine Calls.mono (by exact HT.out _ hb1) ?_; rintro e w2 ⟨rfl, hb2⟩; have hb12 := hb1.trans (hb2.mono hb1.size)) | (go_at_call 170; refine Calls.mono (by exact HU.out _ hb12) ?_; rintro e w3 ⟨hb3, ⟨_, rfl⟩ | ⟨hno, _⟩⟩; rotate_left; (exact absurd hcc.out hno); have hb13 := hb12.trans (hb3.mono hb12.size)) | (go_at_call 93; refine Calls.mono (by exact HP.out _ hb13) ?_; rintro e w4 ⟨rfl, hk4, hp4⟩))
      go_ret
      exact ⟨rfl, (Kept.of_below hb13).trans hk4, hp4⟩
    · have hcn : ¬ ((txB E.s (hd st)).toList.all digitB && decide (1 ≤ digitsV (txB E.s (hd st)).toList) && decide (digitsV (txB E.s (hd st)).toList ≤ 256)) = true := by
        intro hx
        simp only [Bool.and_eq_true, decide_eq_true_eq] at hx
        refine hc ⟨⟨?_, hx.1.1, by omega⟩, hx.1.2, hx.2⟩
        intro h0
        rw [h0] at hx
        exact absurd hx.1.2 (by decide)
      rw [if_neg hcn]
      unfold stop PostK
      dsimp only
      clear hcn
      generalize txB E.s (hd st) = x at HT HU hc ⊢
      clear hsz h
      by_cases hu : uintOk x
      · have hr : ¬ (1 ≤ digitsV x.toList ∧ digitsV x.toList ≤ 256) := fun hr => hc ⟨hu, hr⟩
        have HUU : Hid (uintOk x) := hu
        generalize digitsV x.toList = d at HU hr
        clear hc hu
        have hr' : ((d : Int) < 1) ∨ (256 < (d : Int)) := by omega
        clear hr
        rcases hr' with hr | hr
        · go_enter Tryz.func164, Tryz.ntmps164
          go_wp2_with (first | (go_at_call 23; refine hN.mono ?_; rintro e w1 ⟨rfl, hb1⟩) | (go_at_call 95; refine Calls.mono (by exact HT.out _ hb1) ?_; rintro e w2 ⟨rfl, hb2⟩; have hb12 := hb1.trans (hb2.mono hb1.size)) | (go_at_call 170; refine Calls.mono (by exact HU.out _ hb12) ?_; rintro e w3 ⟨hb3, ⟨_, rfl⟩ | ⟨hno, _⟩⟩; rotate_left; (exact absurd HUU.out hno); have hb13 := hb12.trans (hb3.mono hb12.size)) | (go_at_call 92; refine Calls.mono (by exact HS.out _ hb13) ?_; rintro e w4 ⟨rfl, hb4⟩; unfold gaveUp))
          exact ⟨rfl, rfl, Kept.of_below (hb13.trans (hb4.mono hb13.size))⟩
        · have hr2 : ¬ ((d : Int) < 1) := by omega
          go_enter Tryz.func164, Tryz.ntmps164
          go_wp2_with (first | (go_at_call 23; refine hN.mono ?_; rintro e w1 ⟨rfl, hb1⟩) | (go_at_call 95; refine Calls.mono (by exact HT.out _ hb1) ?_; rintro e w2 ⟨rfl, hb2⟩; have hb12 := hb1.trans (hb2.mono hb1.size)) | (go_at_call 170; refine Calls.mono (by exact HU.out _ hb12) ?_; rintro e w3 ⟨hb3, ⟨_, rfl⟩ | ⟨hno, _⟩⟩; rotate_left; (exact absurd HUU.out hno); have hb13 := hb12.trans (hb3.mono hb12.size)) | (go_at_call 92; refine Calls.mono (by exact HS.out _ hb13) ?_; rintro e w4 ⟨rfl, hb4⟩; unfold gaveUp))
          exact ⟨rfl, rfl, Kept.of_below (hb13.trans (hb4.mono hb13.size))⟩
      · have HUU : Hid (¬ uintOk x) := hu
        clear hc hu
        go_enter Tryz.func164, Tryz.ntmps164
        go_wp2_with (first | (go_at_call 23; refine hN.mono ?_; rintro e w1 ⟨rfl, hb1⟩) | (go_at_call 95; refine Calls.mono (by exact HT.out _ hb1) ?_; rintro e w2 ⟨rfl, hb2⟩; have hb12 := hb1.trans (hb2.mono hb1.size)) | (go_at_call 170; refine Calls.mono (by exact HU.out _ hb12) ?_; rintro e w3 ⟨hb3, ⟨hyes, _⟩ | ⟨_, nn, ty, xx, rfl⟩⟩; (exact absurd hyes HUU.out); have hb13 := hb12.trans (hb3.mono hb12.size)) | (go_at_call 92; refine Calls.mono (by exact HS.out _ hb13) ?_; rintro e w4 ⟨rfl, hb4⟩; unfold gaveUp))
        exact ⟨rfl, rfl, Kept.of_below (hb13.trans (hb4.mono hb13.size))⟩
  · rw [if_pos (by simpa using hk)]
    have hS := fun w1 (hw : Below w.heap.size w w1) => stop_par (h.below hw) 130
    unfold stop PostK
    dsimp only
    have hk' : (((hd st).1 : Int)) ≠ 4 := by omega
    generalize (hd st).1 = kd at hN hk' ⊢
    go_enter Tryz.func164, Tryz.ntmps164
    go_wp2_with (first | (go_at_call 23; refine hN.mono ?_; rintro e w1 ⟨rfl, hb1⟩) | (go_at_call 92; refine (hS _ hb1).mono ?_; rintro e w3 ⟨rfl, hb2⟩; unfold gaveUp))
    exact ⟨rfl, rfl, Kept.of_below (hb1.trans (hb2.mono hb1.size))⟩
end Go.Proofs.YtbejgachdhfakaaGreatDoor
