/- In: the program's and the reference's. -/
import Derived.Test.YtlkindlbllbmgaaRight
namespace Go.Proofs.Ytlkindlbllbmgaa
open Go.RowKit

def noneH (l : List Hr) (k : Nat) (w s : Int) : Prop := ∀ i, i < k → ¬ (onB (hd l i) w = true ∧ hf l i ≤ s ∧ s < ht l i)
theorem noneH_step {l : List Hr} {k : Nat} {w s : Int} (h : noneH l k w s) (hk : ¬ (onB (hd l k) w = true ∧ hf l k ≤ s ∧ s < ht l k)) : noneH l (k + 1) w s := fun i hi => by
  rcases Nat.lt_or_ge i k with c | c
  · exact h i c
  · obtain rfl : i = k := by omega
    exact hk
theorem openAt_at {l : List Hr} {k : Nat} {w s : Int} (hk : k < l.length) (h1 : onB (hd l k) w = true) (h2 : hf l k ≤ s) (h3 : s < ht l k) : openAt l w s := by
  have e := h_at hk
  refine ⟨_, List.getElem_mem hk, ?_⟩
  rw [← e]
  exact ⟨h1, h2, h3⟩
theorem noneH_all {l : List Hr} {w s : Int} (h : noneH l l.length w s) : ¬ openAt l w s := fun ⟨x, hx, hr⟩ => by
  obtain ⟨i, hi, rfl⟩ := List.getElem_of_mem hx
  refine h i hi ?_
  rw [← h_at hi] at hr
  exact hr
theorem inHB_yes {l : List Hr} {t : Int} (h0 : 0 ≤ t) (h1 : t ≤ 20000000) (h : openAt l (t / 86400 % 7) (t % 86400)) : inHB l t = true := inHB_true ⟨h0, h1, h⟩
theorem inHB_no {l : List Hr} {t : Int} (h : ¬ openAt l (t / 86400 % 7) (t % 86400)) : inHB l t = false := inHB_false fun k => h k.2.2
theorem inHB_time {l : List Hr} {t : Int} (h : timeB t = false) : inHB l t = false := inHB_false fun k => by
  have := timeB_mk ⟨k.1, k.2.1⟩
  rw [h] at this
  exact absurd this (by decide)

theorem new_three {w w' : World} {x y z : Value} {T : TypeId} (b : Below (w.alloc (.cells #[x, y, z] T)).heap.size (w.alloc (.cells #[x, y, z] T)) w') :
    w'.cell? ⟨w.heap.size, 0, none⟩ = some x ∧ w'.cell? ⟨w.heap.size, 1, none⟩ = some y ∧ w'.cell? ⟨w.heap.size, 2, none⟩ = some z ∧ Below w.heap.size w w' := by
  refine ⟨(b.cell (by simp)).trans (by simp [World.cell?_alloc_new]), (b.cell (by simp)).trans (by simp [World.cell?_alloc_new]), (b.cell (by simp)).trans (by simp [World.cell?_alloc_new]), ((Below.refl _ _).alloc (Nat.le_refl _) _).trans (b.mono (by simp))⟩

set_option maxRecDepth 100000 in
set_option maxHeartbeats 2000000 in
theorem in_any (A : Option Addr) (l : List Hr) (cap : Nat) (t : Int) (w : World) (hp : Hrs w w.heap.size A l) (hmax : l.length ≤ 9223372036854775807) :
    Calls Try.prog 20 #[.slice A l.length cap, .int .i64 t] w fun e w' => e = .returned (.bool (inHB l t)) ∧ Below w.heap.size w w' := by
  have hP := Lib.hid hp
  clear hp
  rcases ht : timeB t with _ | _
  · rw [inHB_time ht]
    have k1 := fun w => isTime_any t w
    rw [ht] at k1
    have k1 := Lib.hid k1
    clear hP ht
    go_enter Try.func20, Try.ntmps20
    go_wp2_with (go_at_call 35; refine (k1.out _).mono ?_; rintro e w' ⟨rfl, rfl⟩)
    go_ret
    exact ⟨rfl, Below.refl _ _⟩
  · obtain ⟨t0, t1⟩ := timeB_of ht
    have hwd : wdV t = t / 86400 % 7 := by simp [wdV, ht]
    have hsc : secV t = t % 86400 := by simp [secV, ht]
    have k1 := fun w => isTime_any t w
    rw [ht] at k1
    have k2 := fun w => weekday_any t w
    have k3 := fun w => second_any t w
    rw [hwd] at k2
    rw [hsc] at k3
    have hyes := Lib.hid (fun h => inHB_yes (l := l) t0 t1 h)
    have hno := Lib.hid (fun h => inHB_no (l := l) (t := t) h)
    have v1 : 0 ≤ t / 86400 % 7 ∧ t / 86400 % 7 ≤ 6 := by omega
    generalize t / 86400 % 7 = V at *
    generalize t % 86400 = U at *
    obtain ⟨v1, v2⟩ := v1
    have k1 := Lib.hid k1
    have k2 := Lib.hid k2
    have k3 := Lib.hid k3
    clear hwd hsc ht
    go_enter Try.func20, Try.ntmps20
    go_wp2_with (first
      | (go_at_call 35; refine (k1.out _).mono ?_; rintro e w' ⟨rfl, rfl⟩)
      | (go_at_call 16; refine (k2.out _).mono ?_; rintro e w' ⟨rfl, rfl⟩)
      | (go_at_call 14; refine (k3.out _).mono ?_; rintro e w' ⟨rfl, rfl⟩))
    go_loopw [18] (fun i wr => ∃ k : Nat, k ≤ l.length ∧ i = .int .i64 k ∧ Hid (noneH l k V U) ∧ Below w.heap.size w wr) (fun i _ => l.length - (intOf i).toNat)
    case atStart => exact ⟨0, by omega, rfl, Lib.hid (fun j hj => absurd hj (by omega)), Below.refl _ _⟩
    case round =>
      obtain ⟨k, hk, rfl, hok, hb⟩ := hrel
      by_cases hlt : k < l.length
      · obtain ⟨ad, rfl, hc⟩ := hP.out.get hlt
        obtain ⟨x0, x1, x2⟩ := hc wr hb
        have hb' := Lib.hid hb
        clear hb hc
        have kO := fun w => opensOn_any (hd l k) (hf l k) (Go.Proofs.Ytlkindlbllbmgaa.ht l k) V w v1 v2
        rcases ho : onB (hd l k) V with _ | _
        · rw [ho] at kO
          have kO := Lib.hid kO
          have hok' := Lib.hid (noneH_step hok.out (fun h => by rw [ho] at h; exact absurd h.1 (by decide)))
          clear hok ho
          go_wp2_with (go_at_call 37; refine (kO.out _).mono ?_; rintro e w2 ⟨rfl, b⟩; (obtain ⟨z0, z1, z3, z2⟩ := new_three b); (have zb := Lib.hid (hb'.out.trans (z2.mono hb'.out.size))); clear b z2)
          exact ⟨⟨k + 1, hlt, by go_num, hok', zb.out⟩, by simp [intOf]; omega⟩
        · rw [ho] at kO
          have kO := Lib.hid kO
          by_cases hx : hf l k ≤ U
          · by_cases hy : U < Go.Proofs.Ytlkindlbllbmgaa.ht l k
            · have hr := Lib.hid (hyes.out (openAt_at hlt ho hx hy))
              clear hok ho hyes hno
              go_wp2_with (go_at_call 37; refine (kO.out _).mono ?_; rintro e w2 ⟨rfl, b⟩; (obtain ⟨z0, z1, z3, z2⟩ := new_three b); (have zb := Lib.hid (hb'.out.trans (z2.mono hb'.out.size))); clear b z2)
              go_ret
              exact ⟨congrArg (fun b => Ending.returned (.bool b)) hr.out.symm, zb.out⟩
            · have hok' := Lib.hid (noneH_step hok.out (fun h => hy h.2.2))
              have hdec : decide (U < Go.Proofs.Ytlkindlbllbmgaa.ht l k) = false := decide_eq_false hy
              clear hok ho
              go_wp2_with (go_at_call 37; refine (kO.out _).mono ?_; rintro e w2 ⟨rfl, b⟩; (obtain ⟨z0, z1, z3, z2⟩ := new_three b); (have zb := Lib.hid (hb'.out.trans (z2.mono hb'.out.size))); clear b z2)
              exact ⟨⟨k + 1, hlt, by go_num, hok', zb.out⟩, by simp [intOf]; omega⟩
          · have hok' := Lib.hid (noneH_step hok.out (fun h => hx h.2.1))
            have hdec : decide (hf l k ≤ U) = false := decide_eq_false hx
            clear hok ho
            go_wp2_with (go_at_call 37; refine (kO.out _).mono ?_; rintro e w2 ⟨rfl, b⟩; (obtain ⟨z0, z1, z3, z2⟩ := new_three b); (have zb := Lib.hid (hb'.out.trans (z2.mono hb'.out.size))); clear b z2)
            exact ⟨⟨k + 1, hlt, by go_num, hok', zb.out⟩, by simp [intOf]; omega⟩
      · obtain rfl : k = l.length := by omega
        have hr := Lib.hid (hno.out (noneH_all hok.out))
        have hb' := Lib.hid hb
        clear hb hok hP
        go_wp2
        go_ret
        exact ⟨congrArg (fun b => Ending.returned (.bool b)) hr.out.symm, hb'.out⟩

theorem quiet_add_left {P : Program} {f : FuncId} {args : Array Value} {w : World} {a n : Nat} {v : Value}
    (h : Calls P f args (w.drewN (a + n)) fun e w' => e = .returned v ∧ w.drewN (a + n) = w') :
    Calls P f args (w.drewN (a + n)) fun e w'' => e = .returned v ∧ ∃ m, w'' = w.drewN (a + m) :=
  h.mono fun _ _ ⟨he, hm⟩ => ⟨he, n, hm.symm⟩
theorem quiet_left {P : Program} {f : FuncId} {args : Array Value} {w : World} {n : Nat} {v : Value}
    (h : Calls P f args (w.drewN n) fun e w' => e = .returned v ∧ w.drewN n = w') : Calls P f args (w.drewN n) fun e w'' => e = .returned v ∧ ∃ m, w'' = w.drewN m :=
  h.mono fun _ _ ⟨he, hm⟩ => ⟨he, n, hm.symm⟩

set_option maxRecDepth 100000 in
set_option maxHeartbeats 4000000 in
theorem refIn_any (A : Option Addr) (l : List Hr) (cap : Nat) (t : Int) (w : World) (hp : Hrs w w.heap.size A l) (hmax : l.length ≤ 9223372036854775807) :
    Calls Try.prog 21 #[.slice A l.length cap, .int .i64 t] w fun e w' => e = .returned (.bool (inHB l t)) ∧ Below w.heap.size w w' := by
  have hP := Lib.hid hp
  clear hp
  rcases ht : timeB t with _ | _
  · rw [inHB_time ht]
    have k1 := fun w => time_any t w
    rw [ht] at k1
    have k1 := Lib.hid k1
    clear hP ht
    go_enter Try.func21, Try.ntmps21
    go_wp2_with (go_at_call 36; refine (k1.out _).mono ?_; rintro e w' ⟨rfl, rfl⟩)
    go_ret
    exact ⟨rfl, Below.refl _ _⟩
  · obtain ⟨t0, t1⟩ := timeB_of ht
    have hwd : wdV t = t / 86400 % 7 := by simp [wdV, ht]
    have hsc : secV t = t % 86400 := by simp [secV, ht]
    have k1 := fun w => time_any t w
    rw [ht] at k1
    have k2 := fun w => refWeekday_any t w
    have k3 := fun w => refSecond_any t w
    rw [hwd] at k2
    rw [hsc] at k3
    have hyes := Lib.hid (fun h => inHB_yes (l := l) t0 t1 h)
    have hno := Lib.hid (fun h => inHB_no (l := l) (t := t) h)
    have v1 : 0 ≤ t / 86400 % 7 ∧ t / 86400 % 7 ≤ 6 := by omega
    generalize t / 86400 % 7 = V at *
    generalize t % 86400 = U at *
    obtain ⟨v1, v2⟩ := v1
    have k1 := Lib.hid k1
    have k2 := Lib.hid k2
    have k3 := Lib.hid k3
    clear hwd hsc ht
    go_enter Try.func21, Try.ntmps21
    go_wp2_with (go_at_call 36; refine (k1.out _).mono ?_; rintro e w' ⟨rfl, rfl⟩)
    go_loopw [5] (fun i wr => ∃ k : Nat, k ≤ l.length ∧ i = .int .i64 k ∧ Hid (noneH l k V U) ∧ Below w.heap.size w wr) (fun i _ => l.length - (intOf i).toNat)
    case atStart => exact ⟨0, by omega, rfl, Lib.hid (fun j hj => absurd hj (by omega)), Below.refl _ _⟩
    case round =>
      obtain ⟨k, hk, rfl, hok, hb⟩ := hrel
      by_cases hlt : k < l.length
      · obtain ⟨ad, rfl, hc⟩ := hP.out.get hlt
        obtain ⟨x0, x1, x2⟩ := hc wr hb
        have hb' := Lib.hid hb
        clear hb hc
        have kO := fun w => on_any (hd l k) V w v1 v2
        rcases ho : onB (hd l k) V with _ | _
        · rw [ho] at kO
          have kO := Lib.hid kO
          have hok' := Lib.hid (noneH_step hok.out (fun h => by rw [ho] at h; exact absurd h.1 (by decide)))
          clear hok ho
          go_wp2
          go_quiet ((first | (go_at_call 17; first | exact quiet_left (k2.out _) | exact quiet_add_left (k2.out _)) | (go_at_call 38; first | exact quiet_left (kO.out _) | exact quiet_add_left (kO.out _)) | (go_at_call 15; first | exact quiet_left (k3.out _) | exact quiet_add_left (k3.out _))))
          go_wp2
          exact ⟨⟨k + 1, hlt, by go_num, hok', below_drewN hb'.out _⟩, by simp [intOf]; omega⟩
        · rw [ho] at kO
          have kO := Lib.hid kO
          by_cases hx : hf l k ≤ U
          · by_cases hy : U < Go.Proofs.Ytlkindlbllbmgaa.ht l k
            · have hr := Lib.hid (hyes.out (openAt_at hlt ho hx hy))
              clear hok ho hyes hno
              go_wp2
              go_quiet ((first | (go_at_call 17; first | exact quiet_left (k2.out _) | exact quiet_add_left (k2.out _)) | (go_at_call 38; first | exact quiet_left (kO.out _) | exact quiet_add_left (kO.out _)) | (go_at_call 15; first | exact quiet_left (k3.out _) | exact quiet_add_left (k3.out _))))
              go_wp2
              go_ret
              exact ⟨congrArg (fun b => Ending.returned (.bool b)) hr.out.symm, below_drewN hb'.out _⟩
            · have hok' := Lib.hid (noneH_step hok.out (fun h => hy h.2.2))
              have hdec : decide (U < Go.Proofs.Ytlkindlbllbmgaa.ht l k) = false := decide_eq_false hy
              clear hok ho
              go_wp2
              go_quiet ((first | (go_at_call 17; first | exact quiet_left (k2.out _) | exact quiet_add_left (k2.out _)) | (go_at_call 38; first | exact quiet_left (kO.out _) | exact quiet_add_left (kO.out _)) | (go_at_call 15; first | exact quiet_left (k3.out _) | exact quiet_add_left (k3.out _))))
              go_wp2
              exact ⟨⟨k + 1, hlt, by go_num, hok', below_drewN hb'.out _⟩, by simp [intOf]; omega⟩
          · have hok' := Lib.hid (noneH_step hok.out (fun h => hx h.2.1))
            have hdec : decide (hf l k ≤ U) = false := decide_eq_false hx
            clear hok ho
            go_wp2
            go_quiet ((first | (go_at_call 17; first | exact quiet_left (k2.out _) | exact quiet_add_left (k2.out _)) | (go_at_call 38; first | exact quiet_left (kO.out _) | exact quiet_add_left (kO.out _)) | (go_at_call 15; first | exact quiet_left (k3.out _) | exact quiet_add_left (k3.out _))))
            go_wp2
            exact ⟨⟨k + 1, hlt, by go_num, hok', below_drewN hb'.out _⟩, by simp [intOf]; omega⟩
      · obtain rfl : k = l.length := by omega
        have hr := Lib.hid (hno.out (noneH_all hok.out))
        have hb' := Lib.hid hb
        clear hb hok hP
        go_wp2
        go_ret
        exact ⟨congrArg (fun b => Ending.returned (.bool b)) hr.out.symm, hb'.out⟩
end Go.Proofs.Ytlkindlbllbmgaa
