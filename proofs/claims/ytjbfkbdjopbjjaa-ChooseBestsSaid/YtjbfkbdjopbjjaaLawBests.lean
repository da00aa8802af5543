/-
  The law ChooseBests of the program holds: for every input that its row admits the call returns true, and the arguments read as before. Conditions: those of the row alone.
-/
import Derived.Test.YtjbfkbdjopbjjaaAlive
import Derived.Test.YtjbfkbdjopbjjaaOpen
namespace Go.Proofs.Ytjbfkbdjopbjjaa.lawBests
open Go.ChangeShapes Go.WideShapes Go.ChangeAt Go.RowKit

theorem best_eq {l : List It} {a b : Int} {x y : List Int} (h1 : errN l ≠ 0 → x = []) (h2 : errN l = 0 → Bst l a b x) (k1 : errN l ≠ 0 → y = []) (k2 : errN l = 0 → Bst l a b y) : x = y ∧ x.length ≤ 12 := by
  by_cases h : errN l = 0
  · refine ⟨(h2 h).unique (k2 h), ?_⟩
    have := ch_len (h2 h).ch
    have := (errN_iff.1 h).1
    omega
  · rw [h1 h, k1 h]
    exact ⟨rfl, by simp⟩
theorem same_self {A B : Option Addr} {a : List Int} {c d : Nat} {w : World} (ha : Rd w w.heap.size A c (cellsI a)) (hb : Rd w w.heap.size B d (cellsI a)) (hm : a.length ≤ 12) :
    Calls Try.prog 20 #[.slice A a.length c, .slice B a.length d] w fun e w' => e = .returned (.bool true) ∧ Below w.heap.size w w' := by
  have h := same_any A B a a c d w ha hb (by omega) (by omega)
  rwa [eqL_true rfl] at h
set_option maxRecDepth 100000 in
set_option maxHeartbeats 8000000 in
theorem walk (A0 : Option Addr) (l0 : List It) (c0 : Nat) (a1 : Int) (a2 : Int) (w : World) (m0 : l0.length ≤ 9223372036854775807) (q0 : l0.length ≤ c0) (p0 : Its w w.heap.size A0 l0) (f1 : Hid (-9223372036854775808 ≤ a1 ∧ a1 ≤ 9223372036854775807)) (f2 : Hid (-9223372036854775808 ≤ a2 ∧ a2 ≤ 9223372036854775807)) :
    Calls Try.prog 6 #[.slice A0 l0.length c0, .int .i64 a1, .int .i64 a2] w fun e w' => e = .returned (.bool true) ∧ Below w.heap.size w w' := by
  by_cases h30 : 30 < l0.length
  · have h30' : (30 : Int) < (l0.length : Int) := by omega
    clear p0
    go_enter Try.func6, Try.ntmps6
    go_wp2_with (first
      | (go_at_call 11; refine (alive_any _).mono ?_; rintro e w1 ⟨rfl, b1⟩; (have B1 := Lib.hid b1); clear b1)
      | fail)
    go_ret
    exact ⟨by simp, B1.out⟩
  · have KG := Lib.hid (fun (W : World) (b : Below w.heap.size w W) => gBest_any A0 l0 c0 a1 a2 W (p0.up b) q0 m0 f1.out f2.out)
    have KR := Lib.hid (fun (W : World) (b : Below w.heap.size w W) => best_any A0 l0 c0 a1 a2 W (p0.up b) m0)
    clear p0
    go_enter Try.func6, Try.ntmps6
    go_wp2_with (first
      | (go_at_call 11; refine (alive_any _).mono ?_; rintro e w1 ⟨rfl, b1⟩; (have B1 := Lib.hid b1); clear b1)
      | (go_at_call 18; (with_reducible refine (KG.out w1 B1.out).mono ?_); rintro e w2 ⟨A2, c2, x, rfl, h2, n1, n2, b2⟩; (have H2 := Lib.hid h2); (have N := Lib.hid (And.intro n1 n2)); (have B2 := Lib.hid (bthen B1.out b2)); clear b2 h2 n1 n2)
      | (go_at_call 19; (with_reducible refine (KR.out w2 B2.out).mono ?_); rintro e w3 ⟨A3, c3, y, rfl, h3, m1, m2, b3⟩; (obtain ⟨hxy, hxl⟩ := best_eq m1 m2 N.out.1 N.out.2); subst hxy; (have KS := Lib.hid (same_self (H2.out.up b3).rd h3.rd hxl)); (have B3 := Lib.hid (bthen B2.out b3)); clear b3 h3 m1 m2)
      | (go_at_call 20; (with_reducible refine (KS.out).mono ?_); rintro e w4 ⟨rfl, b4⟩; (have B4 := Lib.hid (bthen B3.out b4)); clear b4)
      | fail)
    go_ret
    exact ⟨by simp, B4.out⟩

set_option maxRecDepth 100000 in
theorem lifted (os : Os) (started : os.Started) (H : Type) (enc : TypeId × Value → H) :
    ReturnsInHanded {} Try.checked os 6 .any (Rows.chooseBestsSpec.pre6 enc Try.prog Try.f6 Rows.chooseBestsRow.domain false) (Rows.chooseBestsSpec.post enc Try.prog Try.f6 false true false false) := by
  refine returnsInHanded_of_change (C := Try.checked) own started (by kernel_rfl) Try.func6
    (ChangeSpec.witness6 (enc := enc) (C := Try.checked) false ⟨#[], #[.slice none 0 0, .int .i64 0, .int .i64 0], []⟩ 8 (by kernel_rfl) (by kernel_rfl) (by kernel_rfl) (by kernel_rfl)) ?_
  intro W base args ds gs before hval0 hW _ _
  have hval : ∀ (j : Nat) t v, Try.f6.params[j]? = some t → args[j]? = some v → Value.okWide Try.prog W .any base t v := hval0
  have hW0 := hW
  obtain ⟨p, q, hA0, hV, rfl, hfz, hnd⟩ := hW
  have hA : DataW.TrodAll enc Try.prog W 0 (fun _ => true) true Try.f6.params.toList args.toList ds p := hA0
  rw [Try.params6] at hA hval
  obtain ⟨v0, vs0, d0, ds0, p0, q0, hargs, rfl, rfl, h0, r0⟩ := trodAll_cons hA
  obtain ⟨v1, vs1, d1, ds1, p1, q1, rfl, rfl, rfl, h1, r1⟩ := trodAll_cons r0
  obtain ⟨v2, vs2, d2, ds2, p2, q2, rfl, rfl, rfl, h2, r2⟩ := trodAll_cons r1
  obtain ⟨rfl, rfl, rfl⟩ := trodAll_nil r2
  obtain rfl : args = #[v0, v1, v2] := by cases args; simp_all
  obtain ⟨A0, c0, l0, rfl, y0, x0, z0⟩ := open_its h0 (okWide_slice Try.underlying22 (hval 0 22 v0 rfl rfl))
  obtain ⟨a1, rfl, _, _, u1⟩ := open_int Try.underlying3 (hval 1 3 v1 rfl rfl) h1
  obtain ⟨a2, rfl, _, _, u2⟩ := open_int Try.underlying3 (hval 2 3 v2 rfl rfl) h2
  refine (walk A0 l0 c0 a1 a2 W y0 x0 z0 (Lib.hid (i64_bounds u1)) (Lib.hid (i64_bounds u2))).mono fun e W' ⟨h1, h2⟩ => ?_
  subst h1
  exact ⟨_, rfl, law_post laidOut (by kernel_rfl) Try.underlying4 rfl (by kernel_rfl) hW0 rfl h2⟩

theorem said : Rows.ChooseBestsSaid :=
  OpenClaim.holds_of_wide 6 Try.f6 rfl rfl rfl rfl rfl rfl rfl ⟨rfl, rfl, rfl, rfl, rfl⟩ rfl rfl rfl rfl rfl (by kernel_rfl) Try.func6 (by kernel_rfl)
    (of_decide_eq_true (by kernel_rfl)) (by unfold Func.isWrapper; first | (rw [if_pos (by decide +kernel)]; kernel_rfl) | (rw [if_neg (by decide +kernel)]; exact ⟨rfl, rfl⟩))
    (fun os started H enc _ => lifted os started H enc)
end Go.Proofs.Ytjbfkbdjopbjjaa.lawBests
