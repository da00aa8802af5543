/-
  The law SealApart of the program holds: for every input that its row admits the call returns true, and the arguments read as before. Conditions: those of the row alone.
-/
import Derived.Test.YtelmkihndmkbkaaOpen
import Derived.Deep.QuietTactic
import Derived.BigQuiet
namespace Go.Proofs.Ytelmkihndmkbkaa.lawApart
open Go.ChangeShapes Go.WideShapes Go.ChangeAt Go.RowKit

theorem two_ints {zs : List Int} (h : zs.length = 2) (hw : ∀ z ∈ zs, (Lit.int .i64 z).wf = true) : ∃ i j : Int, zs = [i, j] ∧ (-9223372036854775808 ≤ i ∧ i ≤ 9223372036854775807) ∧ -9223372036854775808 ≤ j ∧ j ≤ 9223372036854775807 := by
  match zs, h with
  | [i, j], _ => exact ⟨i, j, rfl, i64_bounds (hw i (by simp)), i64_bounds (hw j (by simp))⟩
/-- The box's cells behind a call. -/
theorem box_two {w w1 : World} {T : TypeId} {v0 v1 : Value} (b : Below (w.alloc (.cells #[v0, v1] T)).heap.size (w.alloc (.cells #[v0, v1] T)) w1) :
    w1.cell? ⟨w.heap.size, 0, none⟩ = some v0 ∧ w1.cell? ⟨w.heap.size, 1, none⟩ = some v1 ∧ Below w.heap.size w w1 := by
  have h : ∀ i u, #[v0, v1].toList[i]? = some u → w1.cell? ((⟨w.heap.size, 0, none⟩ : Addr).add i) = some u := fun i u hu => by
    have := World.news_of_block (heap_alloc_new w (.cells #[v0, v1] T)) i u hu
    exact (b.cell (by rw [block_of_add]; simp)).trans this
  exact ⟨h 0 _ rfl, h 1 _ rfl, ((Below.refl w.heap.size w).alloc (Nat.le_refl _) _).trans (b.mono (by simp))⟩
/-- The keys and the tags, each with a letter; and when they are the same. -/
theorem apart_facts {m : Nat} {i j : Int} {l : List UInt8} {A : Option Addr} {c : Nat} {w : World} (i1 : -9223372036854775808 ≤ i) (i2 : i ≤ 9223372036854775807) (j1 : -9223372036854775808 ≤ j) (j2 : j ≤ 9223372036854775807)
    (hl : l.length ≤ 500) (hc : c ≤ 9223372036854775807) (p : Rd w w.heap.size A c (cells8 l)) : ∃ u v s t : Int,
    (∀ (W : World) (n : Nat), Calls Try.prog 14 #[.int .u64 (m : Int), .int .i64 i] (W.drewN n) fun e w'' => e = .returned (.int .u64 u) ∧ ∃ k, w'' = W.drewN k) ∧
    (∀ (W : World) (n : Nat), Calls Try.prog 14 #[.int .u64 (m : Int), .int .i64 j] (W.drewN n) fun e w'' => e = .returned (.int .u64 v) ∧ ∃ k, w'' = W.drewN k) ∧
    (∀ (W : World), Below w.heap.size w W → Calls Try.prog 16 #[.int .u64 u, .slice A l.length c] W fun e w' => e = .returned (.int .u64 s) ∧ W = w') ∧
    (∀ (W : World), Below w.heap.size w W → Calls Try.prog 16 #[.int .u64 v, .slice A l.length c] W fun e w' => e = .returned (.int .u64 t) ∧ W = w') ∧
    (u = v ↔ i = j) ∧ (s = t ↔ u = v) := by
  refine ⟨(keyV m i : Int), (keyV m j : Int), (tag (keyV m i) l : Int), (tag (keyV m j) l : Int), fun W n => (key_any m i (W.drewN n)).mono fun _ _ ⟨h, e⟩ => ⟨h, n, e.symm⟩, fun W n => (key_any m j (W.drewN n)).mono fun _ _ ⟨h, e⟩ => ⟨h, n, e.symm⟩,
    fun W b => tag_any (keyV m i) A l c W (key_lt _ _) ((p.below b).more b.size) (by omega) hc, fun W b => tag_any (keyV m j) A l c W (key_lt _ _) ((p.below b).more b.size) (by omega) hc, ⟨fun h => ?_, fun h => by rw [h]⟩, ⟨fun h => ?_, fun h => ?_⟩⟩
  · have h1 : keyV m i = keyV m j := by omega
    exact idN_inj i1 i2 j1 j2 (key_inj (idN_lt i) (idN_lt j) h1)
  · have h1 : tag (keyV m i) l = tag (keyV m j) l := by omega
    have h2 := tag_key (by omega) (key_lt m (idN i)) (key_lt m (idN j)) h1
    exact congrArg (fun n : Nat => (n : Int)) h2
  · rw [show keyV m i = keyV m j by omega]

set_option maxRecDepth 100000 in
set_option maxHeartbeats 4000000 in
theorem walk (a0 : Nat) (i j : Int) (A2 : Option Addr) (l2 : List UInt8) (c2 : Nat) (w : World) (_ : a0 < 18446744073709551616) (i1 : -9223372036854775808 ≤ i) (i2 : i ≤ 9223372036854775807) (j1 : -9223372036854775808 ≤ j) (j2 : j ≤ 9223372036854775807) (m2 : c2 ≤ maxLen) (p2 : Rd w w.heap.size A2 c2 (cells8 l2)) :
    Calls Try.prog 8 #[.int .u64 (a0 : Int), .agg #[.int .i64 i, .int .i64 j], .slice A2 l2.length c2] w fun e w' => e = .returned (.bool true) ∧ Below w.heap.size w w' := by
  unfold maxLen at m2
  by_cases h500 : l2.length ≤ 500
  · obtain ⟨u, v, s, t, ku, kv, hs, ht, e1, e2⟩ := apart_facts (m := a0) i1 i2 j1 j2 h500 m2 p2
    generalize (a0 : Int) = x at *
    have KU := Lib.hid ku
    have KV := Lib.hid kv
    have HS := Lib.hid hs
    have HT := Lib.hid ht
    clear ku kv hs ht p2
    by_cases h : i = j
    · obtain rfl := e1.2 h
      obtain rfl := e2.2 rfl
      subst h
      clear e1 e2
      go_enter Try.func8, Try.ntmps8
      go_wp2_with (go_at_call 11; refine (alive_any _).mono ?_; rintro e w1 ⟨rfl, b⟩; (obtain ⟨x0, x1, b⟩ := box_two b); (have B1 := Lib.hid b); clear b)
      go_quiet ((first | (go_at_call 14; with_reducible exact KU.out w1 _) | (go_at_call 14; with_reducible exact KV.out w1 _)))
      go_wp2_with (first
        | (go_at_call 16; (with_reducible refine (HS.out _ (below_drewN B1.out _)).mono ?_); rintro e w' ⟨rfl, rfl⟩)
        | (go_at_call 16; (with_reducible refine (HT.out _ (below_drewN B1.out _)).mono ?_); rintro e w' ⟨rfl, rfl⟩))
      go_ret
      exact ⟨by simp, below_drewN B1.out _⟩
    · have hu : ¬ u = v := fun e => h (e1.1 e)
      have hn1 := beq_eq_false_iff_ne.2 h
      have hn2 := beq_eq_false_iff_ne.2 hu
      have hn3 := beq_eq_false_iff_ne.2 (fun e => hu (e2.1 e))
      clear e1 e2
      go_enter Try.func8, Try.ntmps8
      go_wp2_with (go_at_call 11; refine (alive_any _).mono ?_; rintro e w1 ⟨rfl, b⟩; (obtain ⟨x0, x1, b⟩ := box_two b); (have B1 := Lib.hid b); clear b)
      go_quiet ((first | (go_at_call 14; with_reducible exact KU.out w1 _) | (go_at_call 14; with_reducible exact KV.out w1 _)))
      go_wp2_with (first
        | (go_at_call 16; (with_reducible refine (HS.out _ (below_drewN B1.out _)).mono ?_); rintro e w' ⟨rfl, rfl⟩)
        | (go_at_call 16; (with_reducible refine (HT.out _ (below_drewN B1.out _)).mono ?_); rintro e w' ⟨rfl, rfl⟩))
      go_ret
      exact ⟨by simp, below_drewN B1.out _⟩
  · clear p2
    generalize (a0 : Int) = x at *
    go_enter Try.func8, Try.ntmps8
    go_wp2_with (go_at_call 11; refine (alive_any _).mono ?_; rintro e w1 ⟨rfl, b⟩; (obtain ⟨x0, x1, b⟩ := box_two b); (have B1 := Lib.hid b); clear b)
    go_ret
    exact ⟨rfl, B1.out⟩

set_option maxRecDepth 100000 in
theorem lifted (os : Os) (started : os.Started) (H : Type) (enc : TypeId × Value → H) :
    ReturnsInHanded {} Try.checked os 8 .any (Rows.sealApartSpec.pre6 enc Try.prog Try.f8 Rows.sealApartRow.domain false) (Rows.sealApartSpec.post enc Try.prog Try.f8 false true false false) := by
  refine returnsInHanded_of_change (C := Try.checked) own started (by kernel_rfl) Try.func8
    (ChangeSpec.witness6 (enc := enc) (C := Try.checked) false ⟨#[], #[.int .u64 0, .agg #[.int .i64 0, .int .i64 0], .slice none 0 0], []⟩ 8 (by kernel_rfl) (by kernel_rfl) (by kernel_rfl) (by kernel_rfl)) ?_
  intro W base args ds gs before hval0 hW _ _
  have hval : ∀ (j : Nat) t v, Try.f8.params[j]? = some t → args[j]? = some v → Value.okWide Try.prog W .any base t v := hval0
  have hW0 := hW
  obtain ⟨p, q, hA0, hV, rfl, hfz, hnd⟩ := hW
  have hA : DataW.TrodAll enc Try.prog W 0 (fun _ => true) true Try.f8.params.toList args.toList ds p := hA0
  rw [Try.params8] at hA hval
  obtain ⟨v0, vs0, d0, ds0, p0, q0, hargs, rfl, rfl, h0, r0⟩ := trodAll_cons hA
  obtain ⟨v1, vs1, d1, ds1, p1, q1, rfl, rfl, rfl, h1, r1⟩ := trodAll_cons r0
  obtain ⟨v2, vs2, d2, ds2, p2, q2, rfl, rfl, rfl, h2, r2⟩ := trodAll_cons r1
  obtain ⟨rfl, rfl, rfl⟩ := trodAll_nil r2
  obtain rfl : args = #[v0, v1, v2] := by cases args; simp_all
  obtain ⟨x0, rfl, _, _, z0⟩ := open_int Try.underlying22 (hval 0 22 v0 rfl rfl) h0
  obtain ⟨a0, rfl, k0⟩ := u64_nat z0
  obtain ⟨zs1, zl1, rfl, zw1⟩ := open_arr Try.underlying33 Try.underlying3 (by kernel_rfl) (by kernel_rfl) (hval 1 33 v1 rfl rfl) h1
  obtain ⟨i, j, rfl, zi, zj⟩ := two_ints zl1 zw1
  obtain ⟨A2, c2, l2, rfl, y2, z2⟩ := open_bs_rd h2 (okWide_slice Try.underlying28 (hval 2 28 v2 rfl rfl))
  refine (walk a0 i j A2 l2 c2 W k0 zi.1 zi.2 zj.1 zj.2 y2 z2).mono fun e W' ⟨h1, h2⟩ => ?_
  subst h1
  exact ⟨_, rfl, law_post laidOut (by kernel_rfl) Try.underlying4 rfl (by kernel_rfl) hW0 rfl h2⟩

theorem said : Rows.SealApartSaid :=
  OpenClaim.holds_of_wide 8 Try.f8 rfl rfl rfl rfl rfl rfl rfl ⟨rfl, rfl, rfl, rfl, rfl⟩ rfl rfl rfl rfl rfl (by kernel_rfl) Try.func8 (by kernel_rfl)
    (of_decide_eq_true (by kernel_rfl)) (by unfold Func.isWrapper; first | (rw [if_pos (by decide +kernel)]; kernel_rfl) | (rw [if_neg (by decide +kernel)]; exact ⟨rfl, rfl⟩))
    (fun os started H enc _ => lifted os started H enc)
end Go.Proofs.Ytelmkihndmkbkaa.lawApart
