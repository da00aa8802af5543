/- fixed.Parse returns 'parseV'. -/
import Derived.Test.YtleddfceigmlmaaDoorDigits
import Derived.WideLaws
namespace Go.Proofs.YtleddfceigmlmaaDoor
open Go.RowKit Go.Shelf Go.Sort

def valN (l : List UInt8) : Nat := l.foldl (fun a c => 10 * a + (c.toNat - 48)) 0

theorem below_after {w w' : World} {q : Nat} (h : Below (w.drewN q).heap.size (w.drewN q) w') : Below w.heap.size w w' := ⟨h.os, h.tape, h.output, h.size, h.block⟩
theorem areDigits_list (l : List UInt8) (most : Int) (w : World) (hs : l.length ≤ 9223372036854775807) :
    Calls Tryd.prog 45 #[.string ⟨l.toArray⟩, .int .i64 most] w fun e w' => e = .returned (.bool (areD l most)) ∧ w = w' := areDigits_any ⟨l.toArray⟩ most w hs
theorem validWhole_list (l : List UInt8) (w : World) (hs : l.length ≤ 9223372036854775807) :
    Calls Tryd.prog 44 #[.string ⟨l.toArray⟩] w fun e w' => e = .returned (.bool (wholeOk l)) ∧ w = w' := validWhole_any ⟨l.toArray⟩ w hs

set_option maxRecDepth 100000 in
set_option maxHeartbeats 1000000 in
theorem parse_bad1 (s : ByteArray) (U Wh Fr : List UInt8) (pt mi : Bool) (w : World)
    (c1 : Hid (Calls Tryd.prog 42 #[.string s, .string ⟨#[45]⟩] w fun e w' => e = .returned (.tuple #[.string ⟨U.toArray⟩, .bool mi]) ∧ w' = w))
    (c2 : Hid (Calls Tryd.prog 43 #[.string ⟨U.toArray⟩, .string ⟨#[46]⟩] w fun e w' => e = .returned (.tuple #[.string ⟨Wh.toArray⟩, .string ⟨Fr.toArray⟩, .bool pt]) ∧ ∃ n, w' = w.drewN n))
    (hw : wholeOk Wh = false) (L1 : Wh.length ≤ 9223372036854775807) :
    Calls Tryd.prog 25 #[.string s] w fun e w' => e = .returned (pairV 0 3) ∧ Below w.heap.size w w' := by
  have a1 := Lib.hid (fun w => validWhole_list Wh w L1)
  go_enter Tryd.func25, Tryd.ntmps25
  go_wp2_with (first
    | (go_at_call 42; refine c1.out.mono ?_; rintro e w1 ⟨rfl, rfl⟩)
    | (go_at_call 43; refine c2.out.mono ?_; rintro e w1 ⟨rfl, q, rfl⟩)
    | (go_at_call 44; refine (a1.out _).mono ?_; rintro e w' ⟨rfl, rfl⟩)
    | (go_at_call 45; refine (a2.out _).mono ?_; rintro e w' ⟨rfl, rfl⟩)
    | (go_at_call 46; refine (c3.out _).mono ?_; rintro e w' ⟨rfl, hb⟩; have hb := below_after hb))
  go_ret2
  exact ⟨rfl, below_drewN (Below.refl _ _) _⟩
set_option maxRecDepth 100000 in
set_option maxHeartbeats 1000000 in
theorem parse_bad2 (s : ByteArray) (U Wh Fr : List UInt8) (pt mi : Bool) (w : World)
    (c1 : Hid (Calls Tryd.prog 42 #[.string s, .string ⟨#[45]⟩] w fun e w' => e = .returned (.tuple #[.string ⟨U.toArray⟩, .bool mi]) ∧ w' = w))
    (c2 : Hid (Calls Tryd.prog 43 #[.string ⟨U.toArray⟩, .string ⟨#[46]⟩] w fun e w' => e = .returned (.tuple #[.string ⟨Wh.toArray⟩, .string ⟨Fr.toArray⟩, .bool pt]) ∧ ∃ n, w' = w.drewN n))
    (hw : wholeOk Wh = true) (hp : pt = true) (hf : areD Fr 3 = false) (L1 : Wh.length ≤ 9223372036854775807) (L2 : Fr.length ≤ 9223372036854775807) :
    Calls Tryd.prog 25 #[.string s] w fun e w' => e = .returned (pairV 0 3) ∧ Below w.heap.size w w' := by
  subst hp
  have a1 := Lib.hid (fun w => validWhole_list Wh w L1)
  have a2 := Lib.hid (fun w => areDigits_list Fr 3 w L2)
  go_enter Tryd.func25, Tryd.ntmps25
  go_wp2_with (first
    | (go_at_call 42; refine c1.out.mono ?_; rintro e w1 ⟨rfl, rfl⟩)
    | (go_at_call 43; refine c2.out.mono ?_; rintro e w1 ⟨rfl, q, rfl⟩)
    | (go_at_call 44; refine (a1.out _).mono ?_; rintro e w' ⟨rfl, rfl⟩)
    | (go_at_call 45; refine (a2.out _).mono ?_; rintro e w' ⟨rfl, rfl⟩)
    | (go_at_call 46; refine (c3.out _).mono ?_; rintro e w' ⟨rfl, hb⟩; have hb := below_after hb))
  go_ret2
  exact ⟨rfl, below_drewN (Below.refl _ _) _⟩
set_option maxRecDepth 100000 in
set_option maxHeartbeats 1000000 in
theorem parse_pos (s : ByteArray) (U Wh Fr : List UInt8) (pt mi : Bool) (w : World)
    (c1 : Hid (Calls Tryd.prog 42 #[.string s, .string ⟨#[45]⟩] w fun e w' => e = .returned (.tuple #[.string ⟨U.toArray⟩, .bool mi]) ∧ w' = w))
    (c2 : Hid (Calls Tryd.prog 43 #[.string ⟨U.toArray⟩, .string ⟨#[46]⟩] w fun e w' => e = .returned (.tuple #[.string ⟨Wh.toArray⟩, .string ⟨Fr.toArray⟩, .bool pt]) ∧ ∃ n, w' = w.drewN n))
    (D : List UInt8) (n : Int) (c3 : Hid (∀ w, Calls Tryd.prog 46 #[.string ⟨D.toArray⟩] w fun e w' => e = .returned (.tuple #[.int .i64 n, .nilIface]) ∧ Below w.heap.size w w'))
    (ES : ((⟨Wh.toArray⟩ : ByteArray) ++ ((⟨Fr.toArray⟩ : ByteArray) ++ ⟨#[48, 48, 48]⟩).extract 0 3) = ⟨D.toArray⟩)
    (hw : wholeOk Wh = true) (hf : pt = true → areD Fr 3 = true) (L1 : Wh.length ≤ 10) (L2 : Fr.length ≤ 3) (hm : mi = false) (_ : 0 ≤ n) (_ : n ≤ 9999999999999) :
    Calls Tryd.prog 25 #[.string s] w fun e w' => e = .returned (pairV n 0) ∧ Below w.heap.size w w' := by
  subst hm
  have a1 := Lib.hid (fun w => validWhole_list Wh w (by omega))
  have a2 := Lib.hid (fun w => areDigits_list Fr 3 w (by omega))
  have a0 := Lib.hid hf
  rcases pt with _ | _
  · clear a2
    clear hf
    go_enter Tryd.func25, Tryd.ntmps25
    go_wp2_with (first
      | (go_at_call 42; refine c1.out.mono ?_; rintro e w1 ⟨rfl, rfl⟩)
      | (go_at_call 43; refine c2.out.mono ?_; rintro e w1 ⟨rfl, q, rfl⟩)
      | (go_at_call 44; refine (a1.out _).mono ?_; rintro e w' ⟨rfl, rfl⟩)
      | (go_at_call 45; refine (a2.out _).mono ?_; rintro e w' ⟨rfl, rfl⟩)
      | (go_at_call 46; refine (c3.out _).mono ?_; rintro e w' ⟨rfl, hb⟩; have hb := below_after hb))
    go_ret2
    exact ⟨rfl, hb⟩
  · have hf1 := hf rfl
    clear hf
    go_enter Tryd.func25, Tryd.ntmps25
    go_wp2_with (first
      | (go_at_call 42; refine c1.out.mono ?_; rintro e w1 ⟨rfl, rfl⟩)
      | (go_at_call 43; refine c2.out.mono ?_; rintro e w1 ⟨rfl, q, rfl⟩)
      | (go_at_call 44; refine (a1.out _).mono ?_; rintro e w' ⟨rfl, rfl⟩)
      | (go_at_call 45; refine (a2.out _).mono ?_; rintro e w' ⟨rfl, rfl⟩)
      | (go_at_call 46; refine (c3.out _).mono ?_; rintro e w' ⟨rfl, hb⟩; have hb := below_after hb))
    go_ret2
    exact ⟨rfl, hb⟩
set_option maxRecDepth 100000 in
set_option maxHeartbeats 1000000 in
theorem parse_neg (s : ByteArray) (U Wh Fr : List UInt8) (pt mi : Bool) (w : World)
    (c1 : Hid (Calls Tryd.prog 42 #[.string s, .string ⟨#[45]⟩] w fun e w' => e = .returned (.tuple #[.string ⟨U.toArray⟩, .bool mi]) ∧ w' = w))
    (c2 : Hid (Calls Tryd.prog 43 #[.string ⟨U.toArray⟩, .string ⟨#[46]⟩] w fun e w' => e = .returned (.tuple #[.string ⟨Wh.toArray⟩, .string ⟨Fr.toArray⟩, .bool pt]) ∧ ∃ n, w' = w.drewN n))
    (D : List UInt8) (n : Int) (c3 : Hid (∀ w, Calls Tryd.prog 46 #[.string ⟨D.toArray⟩] w fun e w' => e = .returned (.tuple #[.int .i64 n, .nilIface]) ∧ Below w.heap.size w w'))
    (ES : ((⟨Wh.toArray⟩ : ByteArray) ++ ((⟨Fr.toArray⟩ : ByteArray) ++ ⟨#[48, 48, 48]⟩).extract 0 3) = ⟨D.toArray⟩)
    (hw : wholeOk Wh = true) (hf : pt = true → areD Fr 3 = true) (L1 : Wh.length ≤ 10) (L2 : Fr.length ≤ 3) (hm : mi = true) (n1 : 1 ≤ n) (n2 : n ≤ 9999999999999) :
    Calls Tryd.prog 25 #[.string s] w fun e w' => e = .returned (pairV (-n) 0) ∧ Below w.heap.size w w' := by
  subst hm
  have a1 := Lib.hid (fun w => validWhole_list Wh w (by omega))
  have a2 := Lib.hid (fun w => areDigits_list Fr 3 w (by omega))
  have a0 := Lib.hid hf
  rcases pt with _ | _
  · clear a2
    clear hf
    go_enter Tryd.func25, Tryd.ntmps25
    go_wp2_with (first
      | (go_at_call 42; refine c1.out.mono ?_; rintro e w1 ⟨rfl, rfl⟩)
      | (go_at_call 43; refine c2.out.mono ?_; rintro e w1 ⟨rfl, q, rfl⟩)
      | (go_at_call 44; refine (a1.out _).mono ?_; rintro e w' ⟨rfl, rfl⟩)
      | (go_at_call 45; refine (a2.out _).mono ?_; rintro e w' ⟨rfl, rfl⟩)
      | (go_at_call 46; refine (c3.out _).mono ?_; rintro e w' ⟨rfl, hb⟩; have hb := below_after hb))
    go_ret2
    exact ⟨rfl, hb⟩
  · have hf1 := hf rfl
    clear hf
    go_enter Tryd.func25, Tryd.ntmps25
    go_wp2_with (first
      | (go_at_call 42; refine c1.out.mono ?_; rintro e w1 ⟨rfl, rfl⟩)
      | (go_at_call 43; refine c2.out.mono ?_; rintro e w1 ⟨rfl, q, rfl⟩)
      | (go_at_call 44; refine (a1.out _).mono ?_; rintro e w' ⟨rfl, rfl⟩)
      | (go_at_call 45; refine (a2.out _).mono ?_; rintro e w' ⟨rfl, rfl⟩)
      | (go_at_call 46; refine (c3.out _).mono ?_; rintro e w' ⟨rfl, hb⟩; have hb := below_after hb))
    go_ret2
    exact ⟨rfl, hb⟩
set_option maxRecDepth 100000 in
set_option maxHeartbeats 1000000 in
theorem parse_zero (s : ByteArray) (U Wh Fr : List UInt8) (pt mi : Bool) (w : World)
    (c1 : Hid (Calls Tryd.prog 42 #[.string s, .string ⟨#[45]⟩] w fun e w' => e = .returned (.tuple #[.string ⟨U.toArray⟩, .bool mi]) ∧ w' = w))
    (c2 : Hid (Calls Tryd.prog 43 #[.string ⟨U.toArray⟩, .string ⟨#[46]⟩] w fun e w' => e = .returned (.tuple #[.string ⟨Wh.toArray⟩, .string ⟨Fr.toArray⟩, .bool pt]) ∧ ∃ n, w' = w.drewN n))
    (D : List UInt8) (n : Int) (c3 : Hid (∀ w, Calls Tryd.prog 46 #[.string ⟨D.toArray⟩] w fun e w' => e = .returned (.tuple #[.int .i64 n, .nilIface]) ∧ Below w.heap.size w w'))
    (ES : ((⟨Wh.toArray⟩ : ByteArray) ++ ((⟨Fr.toArray⟩ : ByteArray) ++ ⟨#[48, 48, 48]⟩).extract 0 3) = ⟨D.toArray⟩)
    (hw : wholeOk Wh = true) (hf : pt = true → areD Fr 3 = true) (L1 : Wh.length ≤ 10) (L2 : Fr.length ≤ 3) (hm : mi = true) (n1 : n = 0) :
    Calls Tryd.prog 25 #[.string s] w fun e w' => e = .returned (pairV 0 3) ∧ Below w.heap.size w w' := by
  subst hm
  have a1 := Lib.hid (fun w => validWhole_list Wh w (by omega))
  have a2 := Lib.hid (fun w => areDigits_list Fr 3 w (by omega))
  have a0 := Lib.hid hf
  subst n1
  rcases pt with _ | _
  · clear a2
    clear hf
    go_enter Tryd.func25, Tryd.ntmps25
    go_wp2_with (first
      | (go_at_call 42; refine c1.out.mono ?_; rintro e w1 ⟨rfl, rfl⟩)
      | (go_at_call 43; refine c2.out.mono ?_; rintro e w1 ⟨rfl, q, rfl⟩)
      | (go_at_call 44; refine (a1.out _).mono ?_; rintro e w' ⟨rfl, rfl⟩)
      | (go_at_call 45; refine (a2.out _).mono ?_; rintro e w' ⟨rfl, rfl⟩)
      | (go_at_call 46; refine (c3.out _).mono ?_; rintro e w' ⟨rfl, hb⟩; have hb := below_after hb))
    go_ret2
    exact ⟨rfl, hb⟩
  · have hf1 := hf rfl
    clear hf
    go_enter Tryd.func25, Tryd.ntmps25
    go_wp2_with (first
      | (go_at_call 42; refine c1.out.mono ?_; rintro e w1 ⟨rfl, rfl⟩)
      | (go_at_call 43; refine c2.out.mono ?_; rintro e w1 ⟨rfl, q, rfl⟩)
      | (go_at_call 44; refine (a1.out _).mono ?_; rintro e w' ⟨rfl, rfl⟩)
      | (go_at_call 45; refine (a2.out _).mono ?_; rintro e w' ⟨rfl, rfl⟩)
      | (go_at_call 46; refine (c3.out _).mono ?_; rintro e w' ⟨rfl, hb⟩; have hb := below_after hb))
    go_ret2
    exact ⟨rfl, hb⟩
end Go.Proofs.YtleddfceigmlmaaDoor
