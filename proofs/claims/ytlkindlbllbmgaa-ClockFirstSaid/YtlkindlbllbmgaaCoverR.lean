/- Cover: the reference's; has. -/
import Derived.Test.YtlkindlbllbmgaaCover
namespace Go.Proofs.Ytlkindlbllbmgaa
open Go.RowKit

/-- Interval k's cells, in whatever world below which nothing has turned. -/
theorem Ivs.get {w : World} {A : Option Addr} {l : List Iv} {k : Nat} (h : Ivs w w.heap.size A l) (hk : k < l.length) :
    ∃ ad, A = some ad ∧ ∀ wr, Below w.heap.size w wr → wr.cell? (ad.add (k * 2)) = some (.int .i64 (lx l k)) ∧ wr.cell? { block := (ad.add (k * 2)).block, off := (ad.add (k * 2)).off + 1 } = some (.int .i64 (ly l k)) := by
  obtain ⟨ad, e, hl, hc⟩ := h (by omega)
  exact ⟨ad, e, fun wr hb => ⟨(hb.cell (by rw [block_of_add]; exact hl)).trans (hc k hk).1, (hb.cell (by show (ad.add (k * 2)).block < _; rw [block_of_add]; exact hl)).trans (hc k hk).2⟩⟩

set_option maxRecDepth 100000 in
set_option maxHeartbeats 1000000 in
theorem refCover_any (A : Option Addr) (l : List Iv) (cap : Nat) (t : Int) (w : World) (hp : Ivs w w.heap.size A l) (hmax : l.length ≤ 9223372036854775807) :
    Calls Try.prog 29 #[.slice A l.length cap, .int .i64 t] w fun e w' => e = .returned (.bool (covB l t)) ∧ Below w.heap.size w w' := by
  have hP := Lib.hid hp
  clear hp
  go_enter Try.func29, Try.ntmps29
  go_wp2
  go_loopw [5] (fun i wr => ∃ k : Nat, k ≤ l.length ∧ i = .int .i64 k ∧ Hid (noneIn l k t) ∧ Below w.heap.size w wr) (fun i _ => l.length - (intOf i).toNat)
  case atStart => exact ⟨0, by omega, rfl, Lib.hid (fun j hj => absurd hj (by omega)), Below.refl _ _⟩
  case round =>
    obtain ⟨k, hk, rfl, hok, hb⟩ := hrel
    by_cases hlt : k < l.length
    · obtain ⟨ad, rfl, hc⟩ := hP.out.get hlt
      have hC := Lib.hid hc
      obtain ⟨hx0, hy0⟩ := hc wr hb
      have hb' := Lib.hid hb
      clear hb hc hP
      rcases hv : valB (lx l k) (ly l k) with _ | _
      · have hok' := Lib.hid (noneIn_step hok.out (inIv_val hv))
        clear hok
        go_wp2_with (go_at_call 42; refine (valid_any _ _ _).mono ?_; rintro e w2 ⟨rfl, b⟩; (have zb := Lib.hid (hb'.out.trans (b.mono hb'.out.size))); (obtain ⟨z0, z1⟩ := hC.out w2 zb.out); clear b)
        exact ⟨⟨k + 1, hlt, by go_num, hok', zb.out⟩, by simp [intOf]; omega⟩
      · have hvv := valB_of hv
        by_cases hxt : lx l k ≤ t
        · by_cases hty : t < ly l k
          · have hr := Lib.hid (covB_at hlt ⟨hvv.1, hvv.2.2, hxt, hty⟩)
            clear hok
            go_wp2_with (go_at_call 42; refine (valid_any _ _ _).mono ?_; rintro e w2 ⟨rfl, b⟩; (have zb := Lib.hid (hb'.out.trans (b.mono hb'.out.size))); (obtain ⟨z0, z1⟩ := hC.out w2 zb.out); clear b)
            go_ret
            exact ⟨congrArg (fun b => Ending.returned (.bool b)) hr.out.symm, zb.out⟩
          · have hok' := Lib.hid (noneIn_step hok.out (fun h => hty h.2.2.2))
            have hdec : decide (t < ly l k) = false := decide_eq_false hty
            clear hok
            go_wp2_with (go_at_call 42; refine (valid_any _ _ _).mono ?_; rintro e w2 ⟨rfl, b⟩; (have zb := Lib.hid (hb'.out.trans (b.mono hb'.out.size))); (obtain ⟨z0, z1⟩ := hC.out w2 zb.out); clear b)
            exact ⟨⟨k + 1, hlt, by go_num, hok', zb.out⟩, by simp [intOf]; omega⟩
        · have hok' := Lib.hid (noneIn_step hok.out (fun h => hxt h.2.2.1))
          have hdec : decide (lx l k ≤ t) = false := decide_eq_false hxt
          clear hok
          go_wp2_with (go_at_call 42; refine (valid_any _ _ _).mono ?_; rintro e w2 ⟨rfl, b⟩; (have zb := Lib.hid (hb'.out.trans (b.mono hb'.out.size))); (obtain ⟨z0, z1⟩ := hC.out w2 zb.out); clear b)
          exact ⟨⟨k + 1, hlt, by go_num, hok', zb.out⟩, by simp [intOf]; omega⟩
    · obtain rfl : k = l.length := by omega
      have hr := Lib.hid (noneIn_all hok.out)
      have hb' := Lib.hid hb
      clear hb hok hP
      go_wp2
      go_ret
      exact ⟨congrArg (fun b => Ending.returned (.bool b)) hr.out.symm, hb'.out⟩

noncomputable def hasB (a b : List Iv) (t : Int) : Bool := covB a t && !covB b t
theorem hasB_of {a b : List Iv} {t : Int} (h : hasB a b t = true) : hasP a b t := by
  unfold hasB at h
  rw [Bool.and_eq_true] at h
  exact ⟨covB_of h.1, covB_not (by simpa using h.2)⟩
theorem hasB_not {a b : List Iv} {t : Int} (h : hasB a b t = false) : ¬ hasP a b t := fun k => by
  unfold hasB at h
  rw [covB_true k.1, covB_false k.2] at h
  exact absurd h (by decide)
set_option maxHeartbeats 1000000 in
theorem has_any (A B : Option Addr) (a b : List Iv) (ca cb : Nat) (t : Int) (w : World) (ha : Ivs w w.heap.size A a) (hb : Ivs w w.heap.size B b) (hma : a.length ≤ 9223372036854775807) (hmb : b.length ≤ 9223372036854775807) :
    Calls Try.prog 45 #[.slice A a.length ca, .slice B b.length cb, .int .i64 t] w fun e w' => e = .returned (.bool (hasB a b t)) ∧ Below w.heap.size w w' := by
  have k1 := Lib.hid (refCover_any A a ca t w ha hma)
  have k2 := Lib.hid (fun (w1 : World) (h : Below w.heap.size w w1) => refCover_any B b cb t w1 ((hb.below h).more h.size) hmb)
  unfold hasB
  clear ha hb
  rcases h1 : covB a t with _ | _
  · rw [h1] at k1
    go_enter Try.func45, Try.ntmps45
    go_wp2_with (go_at_call 29; refine k1.out.mono ?_; rintro e w2 ⟨rfl, b⟩; have z := Lib.hid b; clear b)
    go_ret
    exact ⟨rfl, z.out⟩
  · rw [h1] at k1
    rcases h2 : covB b t with _ | _
    · rw [h2] at k2
      have tok : True := trivial
      go_enter Try.func45, Try.ntmps45
      go_wp2_with (first
        | (go_at_call 29; have _t := tok; refine k1.out.mono ?_; rintro e w2 ⟨rfl, b⟩; have z := Lib.hid b; clear b tok _t)
        | (go_at_call 29; refine (k2.out _ z.out).mono ?_; rintro e w3 ⟨rfl, b⟩; have z3 := Lib.hid (z.out.trans (b.mono z.out.size)); clear b))
      go_ret
      exact ⟨rfl, z3.out⟩
    · rw [h2] at k2
      have tok : True := trivial
      go_enter Try.func45, Try.ntmps45
      go_wp2_with (first
        | (go_at_call 29; have _t := tok; refine k1.out.mono ?_; rintro e w2 ⟨rfl, b⟩; have z := Lib.hid b; clear b tok _t)
        | (go_at_call 29; refine (k2.out _ z.out).mono ?_; rintro e w3 ⟨rfl, b⟩; have z3 := Lib.hid (z.out.trans (b.mono z.out.size)); clear b))
      go_ret
      exact ⟨rfl, z3.out⟩
end Go.Proofs.Ytlkindlbllbmgaa
