/- The reference's Best. -/
import Derived.Test.YtjbfkbdjopbjjaaNeedR
import Derived.Test.YtjbfkbdjopbjjaaSubR
import Derived.Test.YtjbfkbdjopbjjaaRightR
namespace Go.Proofs.Ytjbfkbdjopbjjaa
open Go.RowKit

def BestPost (l : List It) (a b : Int) (W : World) (en : Ending) (w' : World) : Prop :=
  ∃ (A : Option Addr) (c : Nat) (x : List Int), en = .returned (.tuple #[.slice A x.length c, .int .i64 (errN l)]) ∧ OwnI w' W.heap.size A c x ∧ (errN l ≠ 0 → x = []) ∧ (errN l = 0 → Bst l a b x) ∧ Below W.heap.size W w'
theorem scan_len {l : List It} {a b most : Int} {N : Nat} {found : Bool} {best : List Int} (h : Scan l a b N found best most) (hl : l.length ≤ 12) : best.length ≤ 12 := by
  cases found with
  | false => rw [(h.no rfl).1]; exact Nat.zero_le _
  | true => have := ch_len (h.yes rfl).1.1; omega
set_option maxRecDepth 100000 in
set_option maxHeartbeats 8000000 in
theorem best_any (A : Option Addr) (l : List It) (d : Nat) (a b : Int) (w : World) (hp : Its w w.heap.size A l) (hmax : l.length ≤ 9223372036854775807) :
    Calls Try.prog 19 #[.slice A l.length d, .int .i64 a, .int .i64 b] w (BestPost l a b w) := by
  have kR := right_any A l d w hp hmax
  by_cases h0 : errN l = 0
  · have hrt := errN_iff.1 h0
    have hl12 := hrt.1
    have hYes : Hid (∀ (B : Option Addr) (c : Nat) (x : List Int) (w' : World), Bst l a b x → OwnI w' w.heap.size B c x → Below w.heap.size w w' → BestPost l a b w (.returned (.tuple #[.slice B x.length c, .int .i64 0])) w') := Lib.hid (fun B c x w' h1 h2 h3 => ⟨B, c, x, by rw [h0], h2, fun h => absurd h0 h, fun _ => h1, h3⟩)
    rw [h0] at kR
    have KR := Lib.hid kR
    have kS := Lib.hid (fun (n : Nat) (hn : n ≤ 1000000) (W : World) => subset_any n W hn)
    have kF := Lib.hid (fun (W : World) (h : Below w.heap.size w W) (B : Option Addr) (e : Nat) (c : List Int) (hr : Rd W W.heap.size B e (cellsI c)) (hm : c.length ≤ 1000000) => fits_any A B l c d e a b W (hp.up h) hr hrt hm)
    have kN := Lib.hid (fun (W : World) (h : Below w.heap.size w W) (B : Option Addr) (e : Nat) (c : List Int) (hr : Rd W W.heap.size B e (cellsI c)) (hm : c.length ≤ 1000000) => need_any A B l c d e W (hp.up h) hr hrt hm)
    have hBc : Hid (∀ n, n < 2 ^ l.length → Ch l.length (bitsL 0 n)) := Lib.hid (fun n h => bits_ch h)
    have hPow : Hid (∀ k, k ≤ l.length → 2 ^ k ≤ 4096) := Lib.hid (fun k hk => Nat.pow_le_pow_right (n := 2) (by omega) (show k ≤ 12 by omega))
    have hZ := Lib.hid (scan_zero l a b 0)
    clear kR hp h0 hrt
    generalize BestPost l a b w = goal at *
    go_enter Try.func19, Try.ntmps19
    go_wp2_with (go_at_call 13; (with_reducible refine (KR.out).mono ?_); rintro en wq ⟨rfl, rfl⟩)
    clear KR
    go_loop [9, 10] (fun v9 i => ∃ (k y : Nat), k ≤ l.length ∧ i = .int .i64 k ∧ v9 = .int .i64 y ∧ Hid (y = 2 ^ k)) (fun _ i => l.length - (intOf i).toNat)
    case atStart => exact ⟨0, 1, by omega, rfl, rfl, Lib.hid rfl⟩
    case round =>
      obtain ⟨k, y, hk, rfl, rfl, hy⟩ := hrel
      have hy12 : y ≤ 4096 := by rw [hy.out]; exact hPow.out k hk
      by_cases hlt : k < l.length
      · have hN : Hid (2 * y = 2 ^ (k + 1)) := Lib.hid (by rw [hy.out, Nat.pow_succ]; omega)
        clear hZ hPow hBc hYes kS kF kN hy
        go_wp2
        exact ⟨⟨k + 1, 2 * y, by omega, by go_num, by go_num, hN⟩, by simp [intOf]; omega⟩
      · obtain rfl : k = l.length := by omega
        have hy2 := hy
        clear hy hPow
        go_wp2
        go_loopw [11, 12, 13, 14] (fun v11 v12 v13 v14 wr => ∃ (n q c11 : Nat) (A11 : Option Addr) (best : List Int) (most : Int) (found : Bool), n ≤ y ∧ v14 = .int .i64 n ∧ v12 = .int .i64 most ∧ v13 = .bool found ∧ v11 = .slice A11 q c11 ∧ Hid (q = best.length) ∧ Hid (Scan l a b n found best most) ∧ Hid (OwnI wr w.heap.size A11 c11 best) ∧ Hid (Below w.heap.size w wr)) (fun _ _ _ v14 _ => y - (intOf v14).toNat)
        case atStart => exact ⟨0, 0, 0, none, [], 0, false, by omega, rfl, rfl, rfl, rfl, Lib.hid rfl, hZ, Lib.hid (ownI_nil _ _), Lib.hid (Below.refl _ _)⟩
        case round =>
          clear hZ
          obtain ⟨n, q, c11, A11, best, most, found, hn, rfl, rfl, rfl, rfl, hq, hSc, hO, hB⟩ := hrel
          obtain rfl := hq.out
          by_cases hlt : n < y
          · have hch := hBc.out n (by rw [← hy2.out]; exact hlt)
            have hbl : (bitsL 0 n).length ≤ 12 := by have := ch_len hch; omega
            have hbe := scan_len hSc.out hl12
            have kS1 := Lib.hid (kS.out n (by omega) wr)
            clear kS hBc hYes hy2
            by_cases hf : Fit l (bitsL 0 n) a b
            · have kF1 := Lib.hid (fun (W : World) (h : Below w.heap.size w W) (B : Option Addr) (e : Nat) (ho : OwnI W wr.heap.size B e (bitsL 0 n)) => (show Calls Try.prog 17 #[.slice A l.length d, .slice B (bitsL 0 n).length e, .int .i64 a, .int .i64 b] W (fun en w' => en = .returned (.bool true) ∧ Below W.heap.size W w') by
                have h1 := kF.out W h B e _ ho.rd (by omega)
                rwa [fitB_iff.2 hf] at h1))
              have kN1 := Lib.hid (fun (W : World) (h : Below w.heap.size w W) (B : Option Addr) (e : Nat) (ho : OwnI W wr.heap.size B e (bitsL 0 n)) => (show Calls Try.prog 15 #[.slice A l.length d, .slice B (bitsL 0 n).length e] W (fun en w' => en = .returned (.tuple #[.int .i64 (sK (iA l) (bitsL 0 n)), .int .i64 (sK (iB l) (bitsL 0 n)), .int .i64 (sK (iV l) (bitsL 0 n)), .bool true]) ∧ Below W.heap.size W w') by
                have h1 := kN.out W h B e _ ho.rd (by omega)
                unfold NeedPost at h1
                rwa [← needE_yes hch] at h1))
              have kL1 := Lib.hid (fun (W : World) (B : Option Addr) (e : Nat) (ho : OwnI W wr.heap.size B e (bitsL 0 n)) (ho2 : OwnI W w.heap.size A11 c11 best) => less_any B A11 (bitsL 0 n) best e c11 W ho.rd ho2.rd (by omega) (by omega))
              have hTk := Lib.hid (fun h => scan_take hSc.out hf h)
              have hKp := Lib.hid (fun (e : found = true) h => scan_keep (N := n) (e ▸ hSc.out) h)
              clear kF kN hf hSc hch
              generalize bitsL 0 n = bl at *
              generalize sK (iV l) bl = v at *
              generalize sK (iA l) bl = v1 at *
              generalize sK (iB l) bl = v2 at *
              generalize lessL bl best = ls at *
              have hcase : found = false ∨ (found = true ∧ most < v) ∨ (found = true ∧ v < most) ∨ (found = true ∧ v = most ∧ ls = true) ∨ (found = true ∧ v = most ∧ ls = false) := by
                cases found
                · exact .inl rfl
                · rcases Int.lt_trichotomy v most with h | h | h
                  · exact .inr (.inr (.inl ⟨rfl, h⟩))
                  · cases ls
                    · exact .inr (.inr (.inr (.inr ⟨rfl, h, rfl⟩)))
                    · exact .inr (.inr (.inr (.inl ⟨rfl, h, rfl⟩)))
                  · exact .inr (.inl ⟨rfl, h⟩)
              rcases hcase with rfl | ⟨rfl, h⟩ | ⟨rfl, h⟩ | ⟨rfl, rfl, rfl⟩ | ⟨rfl, rfl, rfl⟩
              · have hR := Lib.hid (hTk.out (.inl rfl))
                clear hTk hKp
                go_wp2_with (first
                  | (go_at_call 26; (with_reducible refine (kS1.out).mono ?_); rintro en w3 ⟨A5, c5, rfl, h5, b3⟩; (have B3 := Lib.hid (hB.out.trans (b3.mono hB.out.size))); (have O3 := Lib.hid (hO.out.up b3)); (have P3 := Lib.hid h5); (have kF2 := Lib.hid (kF1.out w3 B3.out A5 c5 h5)); clear h5 b3)
                  | (go_at_call 17; (with_reducible refine (kF2.out).mono ?_); rintro en w4 ⟨rfl, b4⟩; (have B4 := Lib.hid (B3.out.trans (b4.mono B3.out.size))); (have O4 := Lib.hid (O3.out.up b4)); (have P4 := Lib.hid (P3.out.up b4)); (have kN2 := Lib.hid (kN1.out w4 B4.out A5 c5 P4.out)); clear b4)
                  | (go_at_call 15; (with_reducible refine (kN2.out).mono ?_); rintro en w5 ⟨rfl, b5⟩; (have B5 := Lib.hid (B4.out.trans (b5.mono B4.out.size))); (have O5 := Lib.hid (O4.out.up b5)); (have P5 := Lib.hid (P4.out.up b5)); (have kL2 := Lib.hid (kL1.out w5 A5 c5 P5.out O5.out)); clear b5)
                  | fail)
                exact ⟨⟨n + 1, _, c5, A5, bl, _, true, by omega, by go_num, rfl, rfl, rfl, Lib.hid rfl, hR, Lib.hid (P5.out.less hB.out.size), B5⟩, by simp [intOf]; omega⟩
              · have hR := Lib.hid (hTk.out (.inr (.inl h)))
                clear hTk hKp
                go_wp2_with (first
                  | (go_at_call 26; (with_reducible refine (kS1.out).mono ?_); rintro en w3 ⟨A5, c5, rfl, h5, b3⟩; (have B3 := Lib.hid (hB.out.trans (b3.mono hB.out.size))); (have O3 := Lib.hid (hO.out.up b3)); (have P3 := Lib.hid h5); (have kF2 := Lib.hid (kF1.out w3 B3.out A5 c5 h5)); clear h5 b3)
                  | (go_at_call 17; (with_reducible refine (kF2.out).mono ?_); rintro en w4 ⟨rfl, b4⟩; (have B4 := Lib.hid (B3.out.trans (b4.mono B3.out.size))); (have O4 := Lib.hid (O3.out.up b4)); (have P4 := Lib.hid (P3.out.up b4)); (have kN2 := Lib.hid (kN1.out w4 B4.out A5 c5 P4.out)); clear b4)
                  | (go_at_call 15; (with_reducible refine (kN2.out).mono ?_); rintro en w5 ⟨rfl, b5⟩; (have B5 := Lib.hid (B4.out.trans (b5.mono B4.out.size))); (have O5 := Lib.hid (O4.out.up b5)); (have P5 := Lib.hid (P4.out.up b5)); (have kL2 := Lib.hid (kL1.out w5 A5 c5 P5.out O5.out)); clear b5)
                  | fail)
                exact ⟨⟨n + 1, _, c5, A5, bl, _, true, by omega, by go_num, rfl, rfl, rfl, Lib.hid rfl, hR, Lib.hid (P5.out.less hB.out.size), B5⟩, by simp [intOf]; omega⟩
              · have hR := Lib.hid (hKp.out rfl (.inl h))
                have hne : (v == most) = false := beq_eq_false_iff_ne.2 (by omega)
                clear hTk hKp
                go_wp2_with (first
                  | (go_at_call 26; (with_reducible refine (kS1.out).mono ?_); rintro en w3 ⟨A5, c5, rfl, h5, b3⟩; (have B3 := Lib.hid (hB.out.trans (b3.mono hB.out.size))); (have O3 := Lib.hid (hO.out.up b3)); (have P3 := Lib.hid h5); (have kF2 := Lib.hid (kF1.out w3 B3.out A5 c5 h5)); clear h5 b3)
                  | (go_at_call 17; (with_reducible refine (kF2.out).mono ?_); rintro en w4 ⟨rfl, b4⟩; (have B4 := Lib.hid (B3.out.trans (b4.mono B3.out.size))); (have O4 := Lib.hid (O3.out.up b4)); (have P4 := Lib.hid (P3.out.up b4)); (have kN2 := Lib.hid (kN1.out w4 B4.out A5 c5 P4.out)); clear b4)
                  | (go_at_call 15; (with_reducible refine (kN2.out).mono ?_); rintro en w5 ⟨rfl, b5⟩; (have B5 := Lib.hid (B4.out.trans (b5.mono B4.out.size))); (have O5 := Lib.hid (O4.out.up b5)); (have P5 := Lib.hid (P4.out.up b5)); (have kL2 := Lib.hid (kL1.out w5 A5 c5 P5.out O5.out)); clear b5)
                  | fail)
                exact ⟨⟨n + 1, _, c11, A11, best, _, true, by omega, by go_num, rfl, rfl, rfl, Lib.hid rfl, hR, O5, B5⟩, by simp [intOf]; omega⟩
              · have hR := Lib.hid (hTk.out (.inr (.inr ⟨rfl, rfl⟩)))
                clear hTk hKp
                go_wp2_with (first
                  | (go_at_call 26; (with_reducible refine (kS1.out).mono ?_); rintro en w3 ⟨A5, c5, rfl, h5, b3⟩; (have B3 := Lib.hid (hB.out.trans (b3.mono hB.out.size))); (have O3 := Lib.hid (hO.out.up b3)); (have P3 := Lib.hid h5); (have kF2 := Lib.hid (kF1.out w3 B3.out A5 c5 h5)); clear h5 b3)
                  | (go_at_call 17; (with_reducible refine (kF2.out).mono ?_); rintro en w4 ⟨rfl, b4⟩; (have B4 := Lib.hid (B3.out.trans (b4.mono B3.out.size))); (have O4 := Lib.hid (O3.out.up b4)); (have P4 := Lib.hid (P3.out.up b4)); (have kN2 := Lib.hid (kN1.out w4 B4.out A5 c5 P4.out)); clear b4)
                  | (go_at_call 15; (with_reducible refine (kN2.out).mono ?_); rintro en w5 ⟨rfl, b5⟩; (have B5 := Lib.hid (B4.out.trans (b5.mono B4.out.size))); (have O5 := Lib.hid (O4.out.up b5)); (have P5 := Lib.hid (P4.out.up b5)); (have kL2 := Lib.hid (kL1.out w5 A5 c5 P5.out O5.out)); clear b5)
                  | (go_at_call 21; (with_reducible refine (kL2.out).mono ?_); rintro en w6 ⟨rfl, b6⟩; (have B6 := Lib.hid (B5.out.trans (b6.mono B5.out.size))); (have O6 := Lib.hid (O5.out.up b6)); (have P6 := Lib.hid (P5.out.up b6)); clear b6)
                  | fail)
                exact ⟨⟨n + 1, _, c5, A5, bl, _, true, by omega, by go_num, rfl, rfl, rfl, Lib.hid rfl, hR, Lib.hid (P6.out.less hB.out.size), B6⟩, by simp [intOf]; omega⟩
              · have hR := Lib.hid (hKp.out rfl (.inr ⟨rfl, rfl⟩))
                clear hTk hKp
                go_wp2_with (first
                  | (go_at_call 26; (with_reducible refine (kS1.out).mono ?_); rintro en w3 ⟨A5, c5, rfl, h5, b3⟩; (have B3 := Lib.hid (hB.out.trans (b3.mono hB.out.size))); (have O3 := Lib.hid (hO.out.up b3)); (have P3 := Lib.hid h5); (have kF2 := Lib.hid (kF1.out w3 B3.out A5 c5 h5)); clear h5 b3)
                  | (go_at_call 17; (with_reducible refine (kF2.out).mono ?_); rintro en w4 ⟨rfl, b4⟩; (have B4 := Lib.hid (B3.out.trans (b4.mono B3.out.size))); (have O4 := Lib.hid (O3.out.up b4)); (have P4 := Lib.hid (P3.out.up b4)); (have kN2 := Lib.hid (kN1.out w4 B4.out A5 c5 P4.out)); clear b4)
                  | (go_at_call 15; (with_reducible refine (kN2.out).mono ?_); rintro en w5 ⟨rfl, b5⟩; (have B5 := Lib.hid (B4.out.trans (b5.mono B4.out.size))); (have O5 := Lib.hid (O4.out.up b5)); (have P5 := Lib.hid (P4.out.up b5)); (have kL2 := Lib.hid (kL1.out w5 A5 c5 P5.out O5.out)); clear b5)
                  | (go_at_call 21; (with_reducible refine (kL2.out).mono ?_); rintro en w6 ⟨rfl, b6⟩; (have B6 := Lib.hid (B5.out.trans (b6.mono B5.out.size))); (have O6 := Lib.hid (O5.out.up b6)); (have P6 := Lib.hid (P5.out.up b6)); clear b6)
                  | fail)
                exact ⟨⟨n + 1, _, c11, A11, best, _, true, by omega, by go_num, rfl, rfl, rfl, Lib.hid rfl, hR, O6, B6⟩, by simp [intOf]; omega⟩
            · have kF1 := Lib.hid (fun (W : World) (h : Below w.heap.size w W) (B : Option Addr) (e : Nat) (ho : OwnI W wr.heap.size B e (bitsL 0 n)) => (show Calls Try.prog 17 #[.slice A l.length d, .slice B (bitsL 0 n).length e, .int .i64 a, .int .i64 b] W (fun en w' => en = .returned (.bool false) ∧ Below W.heap.size W w') by
                have h1 := kF.out W h B e _ ho.rd (by omega)
                rwa [fitB_not.2 hf] at h1))
              have hSk := Lib.hid (scan_skip hSc.out hf)
              clear kF kN hf hSc hch
              generalize bitsL 0 n = bl at *
              go_wp2_with (first
                | (go_at_call 26; (with_reducible refine (kS1.out).mono ?_); rintro en w3 ⟨A5, c5, rfl, h5, b3⟩; (have B3 := Lib.hid (hB.out.trans (b3.mono hB.out.size))); (have O3 := Lib.hid (hO.out.up b3)); (have kF2 := Lib.hid (kF1.out w3 B3.out A5 c5 h5)); clear h5 b3)
                | (go_at_call 17; (with_reducible refine (kF2.out).mono ?_); rintro en w4 ⟨rfl, b4⟩; (have B4 := Lib.hid (B3.out.trans (b4.mono B3.out.size))); (have O4 := Lib.hid (O3.out.up b4)); clear b4))
              exact ⟨⟨n + 1, _, c11, A11, best, most, found, by omega, by go_num, rfl, rfl, rfl, Lib.hid rfl, hSk, O4, B4⟩, by simp [intOf]; omega⟩
          · obtain rfl : n = y := by omega
            have hbst := scan_end (by have := hSc.out; rw [hy2.out] at this; exact this)
            have hR := Lib.hid (hYes.out A11 c11 best wr hbst hO.out hB.out)
            clear hbst hYes hSc hO hB hBc kS kF kN hy2
            go_wp2
            exact hR.out
  · have hne : (errN l != 0) = true := bne_iff_ne.2 h0
    have hR : Hid (BestPost l a b w (.returned (.tuple #[.slice none 0 0, .int .i64 (errN l)])) w) := Lib.hid ⟨none, 0, [], rfl, ownI_nil _ _, fun _ => rfl, fun h => absurd h h0, Below.refl _ _⟩
    generalize BestPost l a b w = goal at *
    generalize errN l = E at *
    have KR := Lib.hid kR
    clear kR hp h0
    go_enter Try.func19, Try.ntmps19
    go_wp2_with (go_at_call 13; (with_reducible refine (KR.out).mono ?_); rintro en wq ⟨rfl, rfl⟩)
    exact hR.out
end Go.Proofs.Ytjbfkbdjopbjjaa
