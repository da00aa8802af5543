/- The package's push. -/
import Derived.Test.YtdemnbbofigcdaaSearchG
namespace Go.Proofs.Ytdemnbbofigcdaa
open Go.RowKit

theorem box_put1 {l : List Ed} {f : List Int} {x d : Int} (hl : f.length = l.length) (hbx : ∀ k, k < l.length → 0 ≤ ix f k ∧ ix f k ≤ eC l k ∧ eC l k ≤ 1000000) (hx : idx x < l.length) (hd : 0 ≤ d) (hr : d ≤ room l f x) : ∀ k, k < l.length → 0 ≤ ix (put1 f x d) k ∧ ix (put1 f x d) k ≤ eC l k ∧ eC l k ≤ 1000000 := by
  intro j hj
  have hbj := hbx j hj
  unfold put1
  rw [ix_set (by omega)]
  by_cases hji : j = idx x
  · rw [if_pos hji]
    subst hji
    unfold room at hr
    by_cases hp : 0 < x
    · rw [if_pos hp] at hr ⊢; omega
    · rw [if_neg hp] at hr ⊢; omega
  · rw [if_neg hji]; exact hbj
def PushPost (G : List Int) (l : List Ed) (base B : Nat) (A : Option Addr) (c af : Nat) (bi be : Nat → Nat) (b : Nat) (w : World) (e : Ending) (w' : World) : Prop :=
  e = .returned (.tuple #[]) ∧ Flm w' base B l G A c af bi be b ∧ Below base w w'
/-- One link of the way: what is read at its end. -/
theorem chain_look {l : List Ed} {lf : Int → Option Int} {s a x : Int} {W : List Int} {af bl n : Nat} {bi be : Nat → Nat} {w : World} (hc : Chain l lf s (x :: W) a) (hm : MapV w bl n (lkM l af bi be lf)) :
    ∀ W : World, W.heap[bl]? = w.heap[bl]? → (Instr.lookup 45 (.map (some bl)) (.int .i64 a) false).run Try.prog W = .ok (.agg #[.int .i64 (tlE l x), .int .i64 (hdE l x), fvL af bi be x]) W := by
  intro W hW
  have := (hm.kept hW).look (P := Try.prog) Try.underlying45 Try.underlying3 (zeroLk W) a
  unfold lkM at this
  rw [hc.2.1] at this
  have e : lkV l af bi be x = .agg #[.int .i64 (tlE l x), .int .i64 (hdE l x), fvL af bi be x] := by unfold lkV; rw [if_neg hc.2.2.1]
  rw [Option.map_some, e] at this
  exact this
theorem field_lk0 (v0 v1 v2 : Value) (w : World) : (Instr.field 69 (.agg #[v0, v1, v2]) 0).run Try.prog w = .ok v0 w := by kernel_rfl
theorem field_lk2 (v0 v1 v2 : Value) (w : World) : (Instr.field 69 (.agg #[v0, v1, v2]) 2).run Try.prog w = .ok v2 w := by kernel_rfl
set_option maxRecDepth 100000 in
set_option maxHeartbeats 8000000 in
theorem gPush_any (l : List Ed) (f : List Int) (s t : Int) (W : List Int) (lf : Int → Option Int) (bl n base B : Nat) (A : Option Addr) (c af : Nat) (bi be : Nat → Nat) (b : Nat) (w : World) (hM : Flm w base B l f A c af bi be b) (hl : f.length = l.length) (hBw : B ≤ bl)
    (hbx : ∀ k, k < l.length → 0 ≤ ix f k ∧ ix f k ≤ eC l k ∧ eC l k ≤ 1000000) (hmv : MapV w bl n (lkM l af bi be lf)) (hW : Chain l lf s W t) (hr : ∀ x ∈ W, 0 < room l f x) (hn : (W.map idx).Nodup) (hne : s ≠ t) :
    Calls Try.prog 33 #[.map (some bl), .int .i64 s, .int .i64 t] w (PushPost (aug (minR l f 9223372036854775807 W) f W) l base B A c af bi be b w) := by
  obtain ⟨D, hD⟩ : ∃ D, minR l f 9223372036854775807 W = D := ⟨_, rfl⟩
  obtain ⟨G, hG⟩ : ∃ G, aug D f W = G := ⟨_, rfl⟩
  rw [hD, hG]
  have hDl := minR_le l f W 9223372036854775807
  have hDp := minR_pos l f W 9223372036854775807 (by omega) hr
  rw [hD] at hDl hDp
  have hD6 : D ≤ 1000000 := by
    cases W with
    | nil => exact absurd hW.symm hne
    | cons x W1 =>
      have h1 := hDl.2 x (List.mem_cons_self ..)
      have h2 := hbx _ hW.2.2.2.1
      unfold room at h1
      split at h1 <;> omega
  have hAB := Lib.hid hM.F.2
  have hM0 := Lib.hid hM
  have hV0 := Lib.hid hmv
  have hC0 := Lib.hid hW
  have hm0 : Hid (minR l f 9223372036854775807 W = D) := Lib.hid hD
  have hB0 := Lib.hid (Below.refl base w)
  have hDw := Lib.hid hDl.2
  have hNd := Lib.hid hn
  have hbx0 := Lib.hid hbx
  have hG0 := Lib.hid hG
  have hLk := Lib.hid (fun (a x : Int) (W : List Int) (w : World) (hc : Chain l lf s (x :: W) a) (hm : MapV w bl n (lkM l af bi be lf)) => chain_look hc hm)
  have hbB := Lib.hid hBw
  have hCh0 : Hid (∀ a, Chain l lf s [] a → a = s) := Lib.hid (fun a h => h)
  have hChs : Hid (∀ x W a, Chain l lf s (x :: W) a → a ≠ s ∧ idx x < l.length ∧ x ≠ 0 ∧ Chain l lf s W (tlE l x)) := Lib.hid (fun x W a h => ⟨h.1, h.2.2.2.1, h.2.2.1, h.2.2.2.2.2⟩)
  have hRoom : Hid (∀ x, idx x < l.length → 0 ≤ room l f x ∧ room l f x ≤ 1000000) := Lib.hid (fun x hx => by
    have := hbx _ hx
    unfold room
    split <;> omega)
  have hP0 := Lib.hid (fun (x : Int) (hx : idx x < l.length) => put1_zero (f := f) (x := x) (by omega))
  have hCall := Lib.hid (fun (w' : World) (h : Flm w' base B l f A c af bi be b) (x : Int) (hx : idx x < l.length) (hx0 : x ≠ 0) (hr : 0 ≤ room l f x) => step_call h hl hbx (d := 0) hx hx0 ⟨Int.le_refl _, hr⟩)
  have hf0 := field_lk0
  have hf2 := field_lk2
  have hLf := Lib.hid hl
  generalize hgo : PushPost G l base B A c af bi be b w = goal
  have hEnd : Hid (∀ w', Flm w' base B l G A c af bi be b → Below base w w' → goal (.returned (.tuple #[])) w') := Lib.hid (fun w' h1 h2 => by rw [← hgo]; exact ⟨rfl, h1, h2⟩)
  clear hM hmv hW hD hDl hn hbx hG hBw hr hl hgo hne
  go_enter Try.func33, Try.ntmps33
  go_wp2
  go_loopg [6, 7] W.length (fun kx v6 v7 wr => ∃ (r a : Int) (W2 : List Int), v6 = .int .i64 r ∧ v7 = .int .i64 a ∧ Hid (W2.length ≤ kx) ∧ Hid (0 ≤ r ∧ r ≤ 9223372036854775807) ∧ Hid (minR l f r W2 = D) ∧ Hid (Chain l lf s W2 a) ∧ Hid (Flm wr base B l f A c af bi be b) ∧ Hid (MapV wr bl n (lkM l af bi be lf)) ∧ Hid (Below base w wr))
  case atStart => exact ⟨_, t, W, rfl, rfl, Lib.hid (Nat.le_refl _), Lib.hid (by omega), hm0, hC0, hM0, hV0, hB0⟩
  case round =>
    clear hm0 hM0 hV0 hB0
    obtain ⟨r, a, W2, rfl, rfl, hk, hrr, hm, hC, hF, hV, hB⟩ := hrel
    cases W2 with
    | nil =>
      obtain rfl := hCh0.out a hC.out
      obtain rfl : r = D := hm.out
      have hne : (a != a) = false := by simp
      have hCal2 := Lib.hid (fun (w' : World) (f' : List Int) (h : Flm w' base B l f' A c af bi be b) (hl : f'.length = l.length) (hbx : ∀ k, k < l.length → 0 ≤ ix f' k ∧ ix f' k ≤ eC l k ∧ eC l k ≤ 1000000) (x : Int) (hx : idx x < l.length) (hx0 : x ≠ 0) (hr : 0 ≤ r ∧ r ≤ room l f' x) => step_call h hl hbx (d := r) hx hx0 hr)
      have hr0 := Lib.hid (And.intro (Int.le_of_lt hDp) hD6)
      have hFr : Hid (∀ x, room l f x = room l f x) := Lib.hid (fun _ => rfl)
      clear hm hk hrr hP0 hCall hRoom hC hDp hFr
      go_wp2
      obtain ⟨wo, rfl⟩ : ∃ wo, wo = wr := ⟨wr, rfl⟩
      go_loopg [8] W.length (fun kx v8 w2 => ∃ (q : Int) (f' W2 : List Int), v8 = .int .i64 q ∧ Hid (W2.length ≤ kx) ∧ Hid (f'.length = l.length) ∧ Hid (∀ k, k < l.length → 0 ≤ ix f' k ∧ ix f' k ≤ eC l k ∧ eC l k ≤ 1000000) ∧ Hid (∀ x ∈ W2, r ≤ room l f' x) ∧ Hid ((W2.map idx).Nodup) ∧ Hid (aug r f' W2 = G) ∧ Hid (Chain l lf a W2 q) ∧ Hid (Flm w2 base B l f' A c af bi be b) ∧ Hid (MapV w2 bl n (lkM l af bi be lf)) ∧ Hid (Below base w w2))
      case atStart => exact ⟨t, f, W, rfl, Lib.hid (Nat.le_refl _), hLf, hbx0, hDw, hNd, hG0, hC0, hF, hV, hB⟩
      case round =>
        clear hF hV hB hLf hbx0 hDw hNd hG0 hC0
        obtain ⟨q, f', W2, rfl, hk, hl, hbx, hrm, hnd, hG, hC, hF, hV, hB⟩ := hrel
        cases W2 with
        | nil =>
          obtain rfl := hCh0.out q hC.out
          obtain rfl : f' = G := hG.out
          have hR := Lib.hid (hEnd.out wr hF.out hB.out)
          clear hk hl hbx hrm hnd hG hC hF hV hB hCh0 hChs hLk hCal2 hEnd
          go_wp2
          go_end0
          exact hR.out
        | cons x W3 =>
          obtain ⟨ha, hx, hx0, hC3⟩ := hChs.out x W3 q hC.out
          have hne2 : (q != a) = true := bne_iff_ne.2 ha
          have hrx := hrm.out x (List.mem_cons_self ..)
          have hcl := hCal2.out wr f' hF.out hl.out hbx.out x hx hx0 ⟨hr0.out.1, hrx⟩
          have hlo := hLk.out q x W3 wr hC.out hV.out
          have hlk := hlo wr rfl
          have hkk : Hid (W3.length ≤ gk - 1 ∧ gk - 1 < gk) := Lib.hid (by have := hk.out; rw [List.length_cons] at this; omega)
          have hl2 : Hid ((put1 f' x r).length = l.length) := Lib.hid (by rw [put1_len]; exact hl.out)
          have hbx2 := Lib.hid (box_put1 hl.out hbx.out hx hr0.out.1 hrx)
          have hnd2 := hnd.out
          rw [List.map_cons, List.nodup_cons] at hnd2
          have hrm2 : Hid (∀ y ∈ W3, r ≤ room l (put1 f' x r) y) := Lib.hid (fun y hy => by
            rw [room_put1 hl.out hx (fun e => hnd2.1 (e ▸ List.mem_map_of_mem hy))]
            exact hrm.out y (List.mem_cons_of_mem _ hy))
          have hnd3 := Lib.hid hnd2.2
          have hG2 : Hid (aug r (put1 f' x r) W3 = G) := Lib.hid (by have := hG.out; rw [aug] at this; exact this)
          have hC4 := Lib.hid hC3
          have hW5 : Hid (∀ w5 : World, OwnF w5 base B A c (put1 f' x r) → wr.grownBy w5 (blk A) → MapV w5 bl n (lkM l af bi be lf) ∧ Flm w5 base B l (put1 f' x r) A c af bi be b ∧ (Instr.lookup 45 (.map (some bl)) (.int .i64 q) false).run Try.prog w5 = .ok (.agg #[.int .i64 (tlE l x), .int .i64 (hdE l x), fvL af bi be x]) w5) := Lib.hid (fun w5 h1 h2 => by
            have hnb : ¬ some bl = blk A := fun e => by have h1 := hAB.out _ e.symm; have h2 := hbB.out; omega
            exact ⟨hV.out.grown h2 hnb, hF.out.step h1 h2 (put1_len ..), hlo w5 (h2.block _ hV.out.lt hnb)⟩)
          clear hC3 hlo hC hF hV ha hx hx0 hk hChs hLk hCh0 hEnd hCal2 hl hbx hrm hnd hnd2 hrx hG
          rcases hcl with ⟨kk, hxk, hfv, hcl⟩ | ⟨kk, hxk, hfv, hcl⟩
          all_goals
            rw [hfv] at hlk hW5
            have hK := Lib.hid hcl
            clear hcl hxk hfv
            go_wp2_with (first
              | (go_at_call 46; (with_reducible refine (hK.out).mono ?_); rintro e w5 ⟨rfl, p1, p2, p3⟩; (obtain ⟨m5, f5, l5⟩ := hW5.out w5 p1 p2); (have M5 := Lib.hid m5); (have F5 := Lib.hid f5); (have B5 := Lib.hid (hB.out.trans p3)); clear p1 p2 p3 m5 f5)
              | (go_at_call 47; (with_reducible refine (hK.out).mono ?_); rintro e w5 ⟨rfl, p1, p2, p3⟩; (obtain ⟨m5, f5, l5⟩ := hW5.out w5 p1 p2); (have M5 := Lib.hid m5); (have F5 := Lib.hid f5); (have B5 := Lib.hid (hB.out.trans p3)); clear p1 p2 p3 m5 f5))
            go_roundg (gk - 1)
            case measure => exact hkk.out.2
            case rel => exact ⟨_, _, W3, rfl, Lib.hid hkk.out.1, hl2, hbx2, hrm2, hnd3, hG2, hC4, F5, M5, B5⟩
    | cons x W3 =>
      obtain ⟨ha, hx, hx0, hC3⟩ := hChs.out x W3 a hC.out
      have hne : (a != s) = true := bne_iff_ne.2 ha
      have hrx := hRoom.out x hx
      have hcl := hCall.out wr hF.out x hx hx0 hrx.1
      have hlo := hLk.out a x W3 wr hC.out hV.out
      have hlk := hlo wr rfl
      have hm3 := hm.out
      rw [minR] at hm3
      have hP := Lib.hid (hP0.out x hx)
      obtain ⟨rx, hrxe⟩ : ∃ rx, room l f x = rx := ⟨_, rfl⟩
      rw [hrxe] at hrx hm3
      have hRx := Lib.hid hrxe
      obtain ⟨r2, hr2⟩ : ∃ r2, min r rx = r2 := ⟨_, rfl⟩
      have hmin : ∀ ts t w, (Builtin.min_ ts t #[.int .i64 r, .int .i64 rx]).run Try.prog w = .ok (.int .i64 r2) w := fun ts t w => by
        rw [run_min_int2, ← hr2]
        congr 2
        split <;> omega
      have hr2b : Hid (0 ≤ r2 ∧ r2 ≤ 9223372036854775807) := Lib.hid (by have := hrr.out; omega)
      rw [hr2] at hm3
      have hM3 := Lib.hid hm3
      have hC4 := Lib.hid hC3
      have hkk : Hid (W3.length ≤ gk - 1 ∧ gk - 1 < gk) := Lib.hid (by have := hk.out; rw [List.length_cons] at this; omega)
      have hW5 : Hid (∀ w5 : World, OwnF w5 base B A c f → wr.grownBy w5 (blk A) → MapV w5 bl n (lkM l af bi be lf) ∧ Flm w5 base B l f A c af bi be b ∧ (Instr.lookup 45 (.map (some bl)) (.int .i64 a) false).run Try.prog w5 = .ok (.agg #[.int .i64 (tlE l x), .int .i64 (hdE l x), fvL af bi be x]) w5) := Lib.hid (fun w5 h1 h2 => by
        have hnb : ¬ some bl = blk A := fun e => by have h1 := hAB.out _ e.symm; have h2 := hbB.out; omega
        exact ⟨hV.out.grown h2 hnb, hF.out.step h1 h2 rfl, hlo w5 (h2.block _ hV.out.lt hnb)⟩)
      clear hm3 hr2 hrxe hC3 hlo hm hC hF hV ha hx hx0 hrr hk hChs hCall hP0 hLk hRoom hNd hDw hbx0 hG0 hC0 hCh0 hEnd
      rcases hcl with ⟨kk, hxk, hfv, hcl⟩ | ⟨kk, hxk, hfv, hcl⟩
      all_goals
        rw [hfv] at hlk hW5
        have hK := Lib.hid (hcl.mono (R' := fun e w' => e = .returned (.int .i64 rx) ∧ OwnF w' base B A c f ∧ wr.grownBy w' (blk A) ∧ Below base wr w') (fun e w' ⟨h1, h2, h3, h4⟩ => ⟨by rw [h1, hRx.out, Int.sub_zero], by rw [hP.out] at h2; exact h2, h3, h4⟩))
        clear hcl hxk hfv
        go_wp2_with (first
          | (go_at_call 46; (with_reducible refine (hK.out).mono ?_); rintro e w5 ⟨rfl, p1, p2, p3⟩; (obtain ⟨m5, f5, l5⟩ := hW5.out w5 p1 p2); (have M5 := Lib.hid m5); (have F5 := Lib.hid f5); (have B5 := Lib.hid (hB.out.trans p3)); clear p1 p2 p3 m5 f5)
          | (go_at_call 47; (with_reducible refine (hK.out).mono ?_); rintro e w5 ⟨rfl, p1, p2, p3⟩; (obtain ⟨m5, f5, l5⟩ := hW5.out w5 p1 p2); (have M5 := Lib.hid m5); (have F5 := Lib.hid f5); (have B5 := Lib.hid (hB.out.trans p3)); clear p1 p2 p3 m5 f5))
        go_roundg (gk - 1)
        case measure => exact hkk.out.2
        case rel => exact ⟨r2, _, W3, rfl, rfl, Lib.hid hkk.out.1, hr2b, hM3, hC4, F5, M5, B5⟩
end Go.Proofs.Ytdemnbbofigcdaa
