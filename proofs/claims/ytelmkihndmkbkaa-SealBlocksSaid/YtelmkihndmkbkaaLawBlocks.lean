/-
  The law SealBlocks of the program holds: for every input that its row admits the call returns true, and the arguments read as before. Conditions: those of the row alone.
-/
import Derived.Test.YtelmkihndmkbkaaChange
import Derived.Deep.QuietTactic
import Derived.BigQuiet
import Derived.BigRegion
namespace Go.Proofs.Ytelmkihndmkbkaa.lawBlocks
open Go.ChangeShapes Go.WideShapes Go.ChangeAt Go.RowKit

theorem nine_bytes {zs : List Int} (h : zs.length = 9) (hw : ∀ z ∈ zs, (Lit.int .u8 z).wf = true) : ∃ d0 d1 d2 d3 d4 d5 d6 d7 d8 : Nat, zs = [(d0 : Int), (d1 : Int), (d2 : Int), (d3 : Int), (d4 : Int), (d5 : Int), (d6 : Int), (d7 : Int), (d8 : Int)] ∧ ∀ x ∈ [d0, d1, d2, d3, d4, d5, d6, d7, d8], x < 256 := by
  have key : ∀ l : List Int, (∀ z ∈ l, (Lit.int .u8 z).wf = true) → ∃ m : List Nat, l = m.map (fun n : Nat => (n : Int)) ∧ ∀ x ∈ m, x < 256 := by
    intro l
    induction l with
    | nil => exact fun _ => ⟨[], rfl, fun _ h => by cases h⟩
    | cons z l ih =>
      intro hz
      obtain ⟨m, rfl, hm⟩ := ih fun x hx => hz x (List.mem_cons_of_mem _ hx)
      have hb := u8_bounds (hz z (List.mem_cons_self ..))
      refine ⟨z.toNat :: m, by rw [List.map_cons, Int.toNat_of_nonneg hb.1], fun x hx => ?_⟩
      rcases List.mem_cons.1 hx with rfl | hx
      · omega
      · exact hm x hx
  obtain ⟨m, rfl, hm⟩ := key zs hw
  rw [List.length_map] at h
  match m, h, hm with
  | [d0, d1, d2, d3, d4, d5, d6, d7, d8], _, hm => exact ⟨d0, d1, d2, d3, d4, d5, d6, d7, d8, rfl, hm⟩
/-- The box's cells behind a call. -/
theorem box_nine {w w1 : World} {T : TypeId} {l : List Nat} (b : Below (w.alloc (.cells (l.map fun n : Nat => Value.int .u8 (n : Int)).toArray T)).heap.size (w.alloc (.cells (l.map fun n : Nat => Value.int .u8 (n : Int)).toArray T)) w1) :
    (∀ k, k < l.length → w1.cell? ⟨w.heap.size, k, none⟩ = some (.int .u8 (l.getD k 0 : Nat))) ∧ Below w.heap.size w w1 ∧ w.heap.size < w1.heap.size := by
  refine ⟨fun k hk => ?_, ((Below.refl w.heap.size w).alloc (Nat.le_refl _) _).trans (b.mono (by simp)), ?_⟩
  · have := World.news_of_block (heap_alloc_new w (.cells (l.map fun n : Nat => Value.int .u8 (n : Int)).toArray T)) k (.int .u8 (l.getD k 0 : Nat)) (by simp [List.getD, hk])
    rw [add_pos] at this
    exact (b.cell (by simp)).trans this
  · have := b.size
    simp at this
    omega
theorem getD_lt {l : List Nat} (h : ∀ x ∈ l, x < 256) (k : Nat) : l.getD k 0 < 256 := by
  rw [List.getD]
  rcases hk : l[k]? with _ | x
  · exact Nat.zero_lt_succ _
  · exact h x (List.mem_of_getElem? hk)
/-- Where the changed block begins. -/
theorem at_facts {d n : Nat} (_ : d < 256) (hn : 0 < n) : ∃ m q a : Nat, (d : Int) * 8 % (n : Int) = (m : Int) ∧ (m : Int) / 8 = (q : Int) ∧ (q : Int) * 8 = (a : Int) ∧ m < n ∧ a ≤ m ∧ a % 8 = 0 ∧ q ≤ m := by
  refine ⟨d * 8 % n, d * 8 % n / 8, d * 8 % n / 8 * 8, rfl, rfl, rfl, Nat.mod_lt _ hn, by omega, by omega, by omega⟩

theorem bthen' {w w1 w2 : World} (h : Below w.heap.size w w1) (h2 : Below w1.heap.size w1 w2) : Below w.heap.size w w2 := h.trans (h2.mono h.size)
/-- Both tags, each with a letter; and when they are the same. -/
theorem tags_apart {w w1 wr : World} {key a k n c1 c2 : Nat} {A1 A2 : Option Addr} {l o : List UInt8} {b : Bool} (m0 : key < 18446744073709551616) (p1 : Rd w w.heap.size A1 c1 (cells8 l)) (hB : Below w1.heap.size w1 wr)
    (hO : wr.ownsRow w1.heap.size 5 1 (.slice A2 n c2) n (cells8 o)) (hC : Chg l a k o b) (hN : Below w.heap.size w w1 ∧ a < l.length ∧ n = l.length) (h8 : a % 8 = 0) (hk : k ≤ 8) (he : k = 8 ∨ l.length ≤ a + k) (hl : l.length ≤ 500) (m1 : c1 ≤ 9223372036854775807) :
    ∃ s t : Int, Calls Try.prog 16 #[.int .u64 (key : Int), .slice A1 l.length c1] wr (fun e w' => e = .returned (.int .u64 s) ∧ wr = w') ∧
      Calls Try.prog 16 #[.int .u64 (key : Int), .slice A2 l.length c2] wr (fun e w' => e = .returned (.int .u64 t) ∧ wr = w') ∧ (s = t ↔ b = false) := by
  obtain ⟨hb, ha, rfl⟩ := hN
  have hb2 := bthen' hb hB
  have hol := hC.1
  have hr := Rd.of_own hO
  refine ⟨((tag key l : Nat) : Int), ((tag key o : Nat) : Int), tag_any key A1 l c1 wr m0 ((p1.below hb2).more hb2.size) (by omega) m1, ?_, ?_⟩
  · rw [← hol]
    exact tag_any key A2 o c2 wr m0 hr (by omega) (own_cap hO)
  · rw [← chg_tag (key := key) hC ha h8 hk he hl]
    omega

set_option maxRecDepth 100000 in
set_option maxHeartbeats 4000000 in
theorem walk (a0 : Nat) (A1 : Option Addr) (l1 : List UInt8) (c1 : Nat) (d0 d1 d2 d3 d4 d5 d6 d7 d8 : Nat) (w : World) (m0 : a0 < 18446744073709551616) (m1 : c1 ≤ maxLen) (p1 : Rd w w.heap.size A1 c1 (cells8 l1)) (hd : ∀ x ∈ [d0, d1, d2, d3, d4, d5, d6, d7, d8], x < 256) :
    Calls Try.prog 9 #[.int .u64 (a0 : Int), .slice A1 l1.length c1, .agg #[.int .u8 (d0 : Int), .int .u8 (d1 : Int), .int .u8 (d2 : Int), .int .u8 (d3 : Int), .int .u8 (d4 : Int), .int .u8 (d5 : Int), .int .u8 (d6 : Int), .int .u8 (d7 : Int), .int .u8 (d8 : Int)]] w fun e w' => e = .returned (.bool true) ∧ Below w.heap.size w w' := by
  unfold maxLen at m1
  obtain ⟨i0, hi, hz0, hz1, hz2⟩ := info_parts info_u8
  have hI := Lib.hid (And.intro hi (And.intro hz0 (And.intro hz1 hz2)))
  clear hi hz0 hz1 hz2
  by_cases h500 : l1.length ≤ 500
  · by_cases h0 : l1.length = 0
    · clear p1
      go_enter Try.func9, Try.ntmps9
      go_wp2_with (go_at_call 11; refine (alive_any _).mono ?_; rintro e w1 ⟨rfl, b0⟩; (obtain ⟨x, b, hw⟩ := box_nine (l := [d0, d1, d2, d3, d4, d5, d6, d7, d8]) b0); (have X := Lib.hid x); (have B1 := Lib.hid b); clear b0 b x)
      go_ret
      exact ⟨rfl, B1.out⟩
    · have hd8 := hd d8 (by simp)
      obtain ⟨m, q, a, e1, e2, e3, hm, ha, hA8, hq⟩ := at_facts hd8 (show 0 < l1.length by omega)
      have hn0 : ¬ (l1.length : Int) = 0 := by omega
      have hn0b : ((l1.length : Int) == 0) = false := beq_eq_false_iff_ne.2 hn0
      go_enter Try.func9, Try.ntmps9
      go_wp2_with (first
        | (go_at_call 11; refine (alive_any _).mono ?_; rintro e w1 ⟨rfl, b0⟩; (obtain ⟨x, b, hw⟩ := box_nine (l := [d0, d1, d2, d3, d4, d5, d6, d7, d8]) b0); (have X := Lib.hid x); (have B1 := Lib.hid b); clear b0 b x)
        | (at_builtin; refine wpList_append_feed _ rfl (.tmp 21) (.tmp 22) 28 rfl w1.heap.size 5 i0 (.int .u8 0) 1 Try.underlying28 hI.out.1 hI.out.2.1 hI.out.2.2.1 hI.out.2.2.2 rfl _ _ _ rfl (own_none w1 _ (Nat.le_refl _)) _ l1.length _ rfl ((((p1.below B1.out).more B1.out.size).below ((Below.refl _ _).alloc (Nat.le_refl _) _)).feed8) (cells8_one _) (by unfold maxLen; omega) (by omega) (by simp) ?_; intro A2 c2 w2 hown2 hgrow2; (have H2 := Lib.hid (own_zero hown2)); (have D2 := Lib.hid (below_grown ((Below.refl w1.heap.size w1).alloc (Nat.le_refl _) _) (own_none w1 _ (Nat.le_refl _)) hgrow2 (Nat.le_refl _) (by simp))); clear hown2 hgrow2; (have x8 : w2.cell? ⟨w.heap.size, 8, none⟩ = some (.int .u8 (d8 : Int)) := (D2.out.cell (show (⟨w.heap.size, 8, none⟩ : Addr).block < w1.heap.size from hw)).trans (X.out 8 (show 8 < 9 by omega))))
        | fail)
      obtain ⟨g, rfl, hg1, hg2⟩ := own_addr H2.out (by omega)
      go_loopw [9, 10] (fun v i wr => ∃ (k : Nat) (b : Bool) (o : List UInt8), k ≤ 8 ∧ a + k ≤ l1.length ∧ i = .int .i64 k ∧ v = .bool b ∧ Hid (wr.ownsRow w1.heap.size 5 1 (.slice (some ⟨g, 0, none⟩) l1.length c2) l1.length (cells8 o)) ∧ Hid (Below w1.heap.size w1 wr) ∧ Hid (Chg l1 a k o b)) (fun _ i _ => 8 - (intOf i).toNat)
      case atStart => exact ⟨0, false, l1, by omega, by omega, rfl, rfl, H2, D2, Lib.hid (chg_zero l1 a)⟩
      case round =>
        clear x8 H2 D2 e1 e2 e3
        obtain ⟨k, b, o, hk, hkn, rfl, rfl, hO, hB, hC⟩ := hrel
        by_cases hk8 : k < 8
        · by_cases hlt : a + k < l1.length
          · obtain ⟨j, hj⟩ : ∃ j, a + k = j := ⟨_, rfl⟩
            have hjI : (a : Int) + (k : Int) = (j : Int) := by omega
            have hjn : j < l1.length := by omega
            have hol := hC.out.1
            obtain ⟨cc, hcc⟩ : ∃ cc : Nat, [d0, d1, d2, d3, d4, d5, d6, d7, d8].getD k 0 = cc := ⟨_, rfl⟩
            have hc256 : cc < 256 := by rw [← hcc]; exact getD_lt hd k
            have hcell2 := (hB.out.cell (show (⟨w.heap.size, k, none⟩ : Addr).block < w1.heap.size from hw)).trans (X.out k (show k < 9 by omega))
            rw [hcc] at hcell2
            have hcc0 := hcc
            have hx0 := bx_lt o j
            obtain ⟨y, hy⟩ : ∃ y, bx o j ^^^ cc = y := ⟨_, rfl⟩
            have hy2 : y < 256 := by rw [← hy]; exact Nat.xor_lt_two_pow (n := 8) (by omega) (by omega)
            have hNx := Lib.hid (chg_next (y := y) hC.out hlt hc256 (by rw [hj]; exact hy))
            rw [hj] at hNx
            have hxr : bits .xor .u8 (bx o j : Int) (cc : Int) = (y : Int) := by rw [u8_xor_nat _ _ hx0 hc256, hy]
            have hcell := hO.out.cellAt j (by omega)
            rw [cells8_bx (by omega)] at hcell
            have hfro := hO.out.frozenAt j
            generalize bx o j = x at hy hxr hcell hx0
            have H19 := Lib.hid (((hO.out.drew).stored j (.int .u8 (y : Int))).1)
            have hs8 := set8 (l := o) (i := j) hy2
            rw [hs8] at H19
            have Z19 := Lib.hid (((hB.out.drew).setCell (p := ⟨g, j, none⟩) hg1 (.int .u8 (y : Int))))
            have hp0 : (0 : Int) ≤ (j : Int) := by omega
            have hp1 : (j : Int) < (l1.length : Int) := by omega
            have hp2 : (0 : Int) ≤ (k : Int) := by omega
            have hp3 : (k : Int) < 9 := by omega
            have hp4 : IntKind.i64.wrap (j : Int) = (j : Int) := IntWalk.i64_in _ (by omega)
            have hJ := Lib.hid hj
            clear hy hcc hs8 hC hO hol hj hlt p1
            have hcell3 := (Z19.out.cell (show (⟨w.heap.size, k, none⟩ : Addr).block < w1.heap.size from hw)).trans (X.out k (show k < 9 by omega))
            rw [hcc0] at hcell3
            have hkn2 := hJ.out
            have hle : a + (k + 1) ≤ l1.length := by omega
            have hLe := Lib.hid hle
            clear hkn2 hle hcc0
            cases b with
            | false =>
              by_cases hc0 : cc = 0
              · have hN2 : Hid (Chg l1 a (k + 1) (o.set j (UInt8.ofNat y)) false) := Lib.hid (by have h := hNx.out; simpa [hc0] using h)
                have hc1 : ((cc : Int) != 0) = false := by rw [hc0]; rfl
                clear hNx hc0
                go_wp2
                go_region
                all_goals
                  go_wp2
                  exact ⟨⟨k + 1, false, _, by omega, hLe.out, by go_num, rfl, H19, Z19, hN2⟩, by simp [intOf]; omega⟩
              · have hN2 : Hid (Chg l1 a (k + 1) (o.set j (UInt8.ofNat y)) true) := Lib.hid (by have h := hNx.out; simpa [hc0] using h)
                have hc1 : ((cc : Int) != 0) = true := bne_iff_ne.2 (by omega)
                clear hNx
                go_wp2
                go_region
                all_goals
                  go_wp2
                  exact ⟨⟨k + 1, true, _, by omega, hLe.out, by go_num, rfl, H19, Z19, hN2⟩, by simp [intOf]; omega⟩
            | true =>
              have hN2 : Hid (Chg l1 a (k + 1) (o.set j (UInt8.ofNat y)) true) := Lib.hid (by have h := hNx.out; simpa using h)
              clear hNx
              go_wp2
              go_region
              all_goals
                go_wp2
                exact ⟨⟨k + 1, true, _, by omega, hLe.out, by go_num, rfl, H19, Z19, hN2⟩, by simp [intOf]; omega⟩
          · obtain ⟨s, t, ks, kt, hst⟩ := tags_apart (w := w) (w1 := w1) m0 p1 hB.out hO.out hC.out ⟨B1.out, by omega, rfl⟩ hA8 (by omega) (by omega) h500 m1
            have KS := Lib.hid ks
            have KT := Lib.hid kt
            clear ks kt hA8
            cases b with
            | false =>
              have hs := hst.2 rfl
              subst hs
              clear hst p1
              go_wp2_with (first
                | (go_at_call 16; (with_reducible refine (KS.out).mono ?_); rintro e w' ⟨rfl, rfl⟩)
                | (go_at_call 16; (with_reducible refine (KT.out).mono ?_); rintro e w' ⟨rfl, rfl⟩))
              go_ret
              exact ⟨by simp, bthen' B1.out hB.out⟩
            | true =>
              have hs : ¬ s = t := fun e => by cases hst.1 e
              have hs2 : (s != t) = true := bne_iff_ne.2 hs
              clear hst p1
              go_wp2_with (first
                | (go_at_call 16; (with_reducible refine (KS.out).mono ?_); rintro e w' ⟨rfl, rfl⟩)
                | (go_at_call 16; (with_reducible refine (KT.out).mono ?_); rintro e w' ⟨rfl, rfl⟩))
              go_ret
              exact ⟨by simp, bthen' B1.out hB.out⟩
        · obtain ⟨s, t, ks, kt, hst⟩ := tags_apart (w := w) (w1 := w1) m0 p1 hB.out hO.out hC.out ⟨B1.out, by omega, rfl⟩ hA8 (by omega) (by omega) h500 m1
          have KS := Lib.hid ks
          have KT := Lib.hid kt
          clear ks kt hA8
          cases b with
          | false =>
            have hs := hst.2 rfl
            subst hs
            clear hst p1
            go_wp2_with (first
              | (go_at_call 16; (with_reducible refine (KS.out).mono ?_); rintro e w' ⟨rfl, rfl⟩)
              | (go_at_call 16; (with_reducible refine (KT.out).mono ?_); rintro e w' ⟨rfl, rfl⟩))
            go_ret
            exact ⟨by simp, bthen' B1.out hB.out⟩
          | true =>
            have hs : ¬ s = t := fun e => by cases hst.1 e
            have hs2 : (s != t) = true := bne_iff_ne.2 hs
            clear hst p1
            go_wp2_with (first
              | (go_at_call 16; (with_reducible refine (KS.out).mono ?_); rintro e w' ⟨rfl, rfl⟩)
              | (go_at_call 16; (with_reducible refine (KT.out).mono ?_); rintro e w' ⟨rfl, rfl⟩))
            go_ret
            exact ⟨by simp, bthen' B1.out hB.out⟩
  · clear p1
    go_enter Try.func9, Try.ntmps9
    go_wp2_with (go_at_call 11; refine (alive_any _).mono ?_; rintro e w1 ⟨rfl, b0⟩; (obtain ⟨x, b, hw⟩ := box_nine (l := [d0, d1, d2, d3, d4, d5, d6, d7, d8]) b0); (have X := Lib.hid x); (have B1 := Lib.hid b); clear b0 b x)
    go_ret
    exact ⟨rfl, B1.out⟩

set_option maxRecDepth 100000 in
theorem lifted (os : Os) (started : os.Started) (H : Type) (enc : TypeId × Value → H) :
    ReturnsInHanded {} Try.checked os 9 .any (Rows.sealBlocksSpec.pre6 enc Try.prog Try.f9 Rows.sealBlocksRow.domain false) (Rows.sealBlocksSpec.post enc Try.prog Try.f9 false true false false) := by
  refine returnsInHanded_of_change (C := Try.checked) own started (by kernel_rfl) Try.func9
    (ChangeSpec.witness6 (enc := enc) (C := Try.checked) false ⟨#[], #[.int .u64 0, .slice none 0 0, .agg #[.int .u8 0, .int .u8 0, .int .u8 0, .int .u8 0, .int .u8 0, .int .u8 0, .int .u8 0, .int .u8 0, .int .u8 0]], []⟩ 8 (by kernel_rfl) (by kernel_rfl) (by kernel_rfl) (by kernel_rfl)) ?_
  intro W base args ds gs before hval0 hW _ _
  have hval : ∀ (j : Nat) t v, Try.f9.params[j]? = some t → args[j]? = some v → Value.okWide Try.prog W .any base t v := hval0
  have hW0 := hW
  obtain ⟨p, q, hA0, hV, rfl, hfz, hnd⟩ := hW
  have hA : DataW.TrodAll enc Try.prog W 0 (fun _ => true) true Try.f9.params.toList args.toList ds p := hA0
  rw [Try.params9] at hA hval
  obtain ⟨v0, vs0, d0, ds0, p0, q0, hargs, rfl, rfl, h0, r0⟩ := trodAll_cons hA
  obtain ⟨v1, vs1, d1, ds1, p1, q1, rfl, rfl, rfl, h1, r1⟩ := trodAll_cons r0
  obtain ⟨v2, vs2, d2, ds2, p2, q2, rfl, rfl, rfl, h2, r2⟩ := trodAll_cons r1
  obtain ⟨rfl, rfl, rfl⟩ := trodAll_nil r2
  obtain rfl : args = #[v0, v1, v2] := by cases args; simp_all
  obtain ⟨x0, rfl, _, _, z0⟩ := open_int Try.underlying22 (hval 0 22 v0 rfl rfl) h0
  obtain ⟨a0, rfl, k0⟩ := u64_nat z0
  obtain ⟨A1, c1, l1, rfl, y1, z1⟩ := open_bs_rd h1 (okWide_slice Try.underlying28 (hval 1 28 v1 rfl rfl))
  obtain ⟨zs2, zl2, rfl, zw2⟩ := open_arr Try.underlying35 Try.underlying5 (by kernel_rfl) (by kernel_rfl) (hval 2 35 v2 rfl rfl) h2
  obtain ⟨d0, d1, d2, d3, d4, d5, d6, d7, d8, rfl, zd⟩ := nine_bytes zl2 zw2
  refine (walk a0 A1 l1 c1 d0 d1 d2 d3 d4 d5 d6 d7 d8 W k0 y1 z1 zd).mono fun e W' ⟨h1, h2⟩ => ?_
  subst h1
  exact ⟨_, rfl, law_post laidOut (by kernel_rfl) Try.underlying4 rfl (by kernel_rfl) hW0 rfl h2⟩

theorem said : Rows.SealBlocksSaid :=
  OpenClaim.holds_of_wide 9 Try.f9 rfl rfl rfl rfl rfl rfl rfl ⟨rfl, rfl, rfl, rfl, rfl⟩ rfl rfl rfl rfl rfl (by kernel_rfl) Try.func9 (by kernel_rfl)
    (of_decide_eq_true (by kernel_rfl)) (by unfold Func.isWrapper; first | (rw [if_pos (by decide +kernel)]; kernel_rfl) | (rw [if_neg (by decide +kernel)]; exact ⟨rfl, rfl⟩))
    (fun os started H enc _ => lifted os started H enc)
end Go.Proofs.Ytelmkihndmkbkaa.lawBlocks
