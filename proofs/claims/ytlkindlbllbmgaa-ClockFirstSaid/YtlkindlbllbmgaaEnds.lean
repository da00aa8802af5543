/- The reference: ends. -/
import Derived.Test.YtlkindlbllbmgaaAfter
import Derived.Test.YtlkindlbllbmgaaLength
import Derived.Deep.RegionHeld3
import Derived.Deep.AppendLies
import Derived.WalkSpells
namespace Go.Proofs.Ytlkindlbllbmgaa
open Go.RowKit

theorem info_int : (Try.prog.info? 3).map (fun i => (i.zero, i.size, i.bytes)) = some (some (.int .i64 0), 1, 8) := by kernel_rfl
/-- The ends of the valid intervals among the first k. -/
def endsL : List Iv → List Int
  | [] => []
  | p :: l => if valB p.1 p.2 = true then p.1 :: p.2 :: endsL l else endsL l
theorem endsL_append : ∀ l m : List Iv, endsL (l ++ m) = endsL l ++ endsL m
  | [], m => rfl
  | p :: l, m => by
    rw [List.cons_append, endsL, endsL, endsL_append l m]
    split <;> rfl
theorem endsL_len : ∀ l : List Iv, (endsL l).length ≤ 2 * l.length
  | [] => Nat.le_refl _
  | p :: l => by
    have := endsL_len l
    rw [endsL]
    split <;> simp <;> omega
theorem ends_yes {l : List Iv} {k : Nat} (hk : k < l.length) (h : valB (lx l k) (ly l k) = true) : endsL (l.take (k + 1)) = endsL (l.take k) ++ [lx l k, ly l k] := by
  rw [List.take_succ_eq_append_getElem hk, endsL_append, ← lxy_at hk, endsL, if_pos h]; rfl
theorem ends_no {l : List Iv} {k : Nat} (hk : k < l.length) (h : valB (lx l k) (ly l k) = false) : endsL (l.take (k + 1)) = endsL (l.take k) := by
  rw [List.take_succ_eq_append_getElem hk, endsL_append, ← lxy_at hk, endsL, if_neg (by rw [h]; decide)]; simp [endsL]
theorem ends_mem : ∀ {l : List Iv} {p : Iv}, p ∈ l → valP p → p.1 ∈ endsL l ∧ p.2 ∈ endsL l
  | q :: l, p, hp, hv => by
    rw [endsL]
    rcases List.mem_cons.1 hp with rfl | h
    · rw [if_pos (valB_mk hv)]
      exact ⟨List.mem_cons_self, List.mem_cons_of_mem _ List.mem_cons_self⟩
    · have k := ends_mem h hv
      split
      · exact ⟨List.mem_cons_of_mem _ (List.mem_cons_of_mem _ k.1), List.mem_cons_of_mem _ (List.mem_cons_of_mem _ k.2)⟩
      · exact k
theorem ends_bd : ∀ {l : List Iv} {e : Int}, e ∈ endsL l → 0 ≤ e ∧ e ≤ 20000000
  | q :: l, e, he => by
    rw [endsL] at he
    split at he
    · have := valB_of ‹_›
      rcases List.mem_cons.1 he with rfl | he
      · omega
      · rcases List.mem_cons.1 he with rfl | he
        · omega
        · exact ends_bd he
    · exact ends_bd he
theorem ends_both (a b : List Iv) : Ends a b (endsL a ++ endsL b) := by
  refine ⟨fun p hp hv => ?_, fun e he => ?_⟩
  · rcases hp with h | h
    · exact ⟨List.mem_append_left _ (ends_mem h hv).1, List.mem_append_left _ (ends_mem h hv).2⟩
    · exact ⟨List.mem_append_right _ (ends_mem h hv).1, List.mem_append_right _ (ends_mem h hv).2⟩
  · rcases List.mem_append.1 he with h | h
    · exact ends_bd h
    · exact ends_bd h

/-- A list of numbers in new memory. -/
def EndsPost (W : World) (E : List Int) (e : Ending) (w' : World) : Prop := ∃ v, e = .returned v ∧ w'.ownsRow W.heap.size 3 1 v E.length (E.map (Value.int .i64)) ∧ Below W.heap.size W w'

theorem int_newsr {w : World} {x y : Value} {T : TypeId} {j : Nat} {u : Value} (h : [x, y][j]? = some u) : ((w.alloc (.cells #[x, y] T)).drew).cell? ((⟨w.heap.size, 0, none⟩ : Addr).add j) = some u := new_cells2 h
theorem own_drew {w : World} {base e size n : Nat} {v : Value} {xs : List Value} (h : w.ownsRow base e size v n xs) : w.drew.ownsRow base e size v n xs := h
theorem below_appendr {W w w2 : World} {o1 : Obj} {base e size n : Nat} {v : Value} {xs : List Value} (h : Below W.heap.size W w) (hg : ((w.alloc o1).drew).grownBy w2 v.ownBlock) (ho : w.ownsRow base e size v n xs) (hb : W.heap.size ≤ base) : Below W.heap.size W w2 :=
  (Below.drew (h.alloc h.size o1)).grown hg (Nat.le_trans h.size (by show _ ≤ (w.alloc o1).heap.size; simp)) (fun k hk => Nat.le_trans hb (ho.lt k hk).1)
theorem int_news {w : World} {x y : Value} {T : TypeId} {nq j : Nat} {u : Value} (h : [x, y][j]? = some u) : ((w.drewN nq).alloc (.cells #[x, y] T)).cell? ((⟨w.heap.size, 0, none⟩ : Addr).add j) = some u := new_cells2 (w := w.drewN nq) h

set_option maxRecDepth 100000 in
set_option maxHeartbeats 4000000 in
theorem ends_any (A : Option Addr) (l : List Iv) (cap : Nat) (w : World) (hp : Ivs w w.heap.size A l) (hmax : l.length ≤ 100000000) :
    Calls Try.prog 43 #[.slice A l.length cap] w (EndsPost w (endsL l)) := by
  have hP := Lib.hid hp
  clear hp
  obtain ⟨i0, hi, hz0, hz1, hz2⟩ := info_parts info_int
  have hI := Lib.hid (And.intro hi (And.intro hz0 (And.intro hz1 hz2)))
  clear hi hz0 hz1 hz2
  go_enter Try.func43, Try.ntmps43
  go_wp2
  go_loopw [3, 4] (fun v i wr => ∃ (k n : Nat), k ≤ l.length ∧ i = .int .i64 k ∧ wr.ownsRow w.heap.size 3 1 v n ((endsL (l.take k)).map (Value.int .i64)) ∧ Below w.heap.size w wr) (fun _ i _ => l.length - (intOf i).toNat)
  case atStart => exact ⟨0, 0, by omega, rfl, World.ownsRow_nil _ _ _ _, Below.refl _ _⟩
  case round =>
    obtain ⟨k, n, hk, rfl, hown, hb⟩ := hrel
    have hn : n ≤ 2 * l.length := by
      have := hown.1
      rw [List.length_map] at this
      have := endsL_len (l.take k)
      rw [List.length_take] at this
      omega
    have hOwn := Lib.hid hown
    clear hown
    by_cases hlt : k < l.length
    · obtain ⟨ad, rfl, hc⟩ := hP.out.get hlt
      have hC := Lib.hid hc
      obtain ⟨hx0, hy0⟩ := hc wr hb
      have hb' := Lib.hid hb
      clear hb hc
      rcases hv : valB (lx l k) (ly l k) with _ | _
      · have hE := Lib.hid (ends_no hlt hv)
        go_wp2_with (go_at_call 42; refine (valid_any _ _ _).mono ?_; rintro e w2 ⟨rfl, b⟩; (have zo := Lib.hid (own_below hOwn.out b)); (have zb := Lib.hid (hb'.out.trans (b.mono hb'.out.size))); clear b)
        exact ⟨⟨k + 1, n, hlt, by go_num, by rw [hE.out]; exact zo.out, zb.out⟩, by simp [intOf]; omega⟩
      · have hE := Lib.hid (ends_yes hlt hv)
        go_wp2_with (go_at_call 42; refine (valid_any _ _ _).mono ?_; rintro e w2 ⟨rfl, b⟩; (have zo := Lib.hid (own_below hOwn.out b)); (have zb := Lib.hid (hb'.out.trans (b.mono hb'.out.size))); (obtain ⟨z0, z1⟩ := hC.out w2 zb.out); clear b)
        go_region_held3 (fun w' => w'.cell? (ad.add (k * 2)) = some (.int .i64 (lx l k)) ∧ w'.cell? { block := (ad.add (k * 2)).block, off := (ad.add (k * 2)).off + 1 } = some (.int .i64 (ly l k)))
          (first
            | exact ⟨z0, z1⟩
            | exact ⟨(hC.out _ R2.out).1, (hC.out _ R2.out).2⟩
            | exact ⟨(hC.out _ (Below.drew (zb.out.alloc zb.out.size _))).1, (hC.out _ (Below.drew (zb.out.alloc zb.out.size _))).2⟩
            | go_keep)
          ((refine step_append_lies _ (by rfl) _ _ 47 (by rfl) w.heap.size 3 i0 (.int .i64 0) 1 8 Try.underlying47 hI.out.1 hI.out.2.1 hI.out.2.2.1 hI.out.2.2.2 rfl (by decide) _ n _ (by rfl) (own_drew (zo.out.alloc _)) ⟨w2.heap.size, 0, none⟩ 2 2 [.int .i64 (lx l k), .int .i64 (ly l k)] (by rfl) (by rfl) (fun j u hj => int_newsr hj) (fun u hu => two_one hu) (by decide) (by unfold maxLen; omega) (by omega) (by have := zb.out.size; show _ ≤ (w2.alloc _).heap.size; simp; omega) (w2.heap.size + 1) (by show (w2.alloc _).heap.size = _; simp) ?_; intro gg cap3 w3 hown' hgrow hat hlt'; (have R1 := Lib.hid hown'); (have R2 := Lib.hid (below_appendr zb.out hgrow zo.out (Nat.le_refl _))); clear hown' hgrow hat hlt'))
        go_wp2
        exact ⟨⟨k + 1, n + 2, hlt, by go_num, by rw [hE.out, List.map_append]; exact R1.out, R2.out⟩, by simp [intOf]; omega⟩
    · obtain rfl : k = l.length := by omega
      rw [List.take_length] at hOwn
      obtain rfl : n = (endsL l).length := by
        have := hOwn.out.1
        rw [List.length_map] at this
        omega
      have hb' := Lib.hid hb
      clear hb hP
      go_wp2
      go_ret
      exact ⟨_, rfl, hOwn.out, hb'.out⟩
end Go.Proofs.Ytlkindlbllbmgaa
