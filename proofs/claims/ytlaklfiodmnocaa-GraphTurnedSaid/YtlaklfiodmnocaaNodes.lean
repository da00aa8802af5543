/- The reference's Nodes and Back's parts: the nodes in increasing order. -/
import Derived.Test.YtlaklfiodmnocaaTurned
namespace Go.Proofs.Ytlaklfiodmnocaa
open Go.RowKit

def nodesL (l : List Ed) : List Int := l.foldl (fun o e => ins e.to (ins e.frm o)) []
theorem nodes_step {l : List Ed} {k : Nat} (h : k < l.length) : nodesL (l.take (k + 1)) = ins (eT l k) (ins (eF l k) (nodesL (l.take k))) := by
  unfold nodesL
  rw [List.take_succ_eq_append_getElem h, List.foldl_append, e_eta h]
  rfl
theorem nodes_gen : ∀ (l : List Ed) (o : List Int), Inc o → Inc (l.foldl (fun o e => ins e.to (ins e.frm o)) o) ∧ ∀ x, x ∈ l.foldl (fun o e => ins e.to (ins e.frm o)) o ↔ x ∈ o ∨ ∃ e ∈ l, x = e.frm ∨ x = e.to
  | [], o, h => ⟨h, fun x => by simp⟩
  | e :: l, o, h => by
    obtain ⟨h1, h2⟩ := nodes_gen l (ins e.to (ins e.frm o)) (ins_inc (ins_inc h))
    refine ⟨h1, fun x => ?_⟩
    rw [List.foldl_cons, h2, mem_ins, mem_ins]
    constructor
    · rintro ((rfl | rfl | hx) | ⟨f, hf, hx⟩)
      · exact .inr ⟨e, List.mem_cons_self .., .inr rfl⟩
      · exact .inr ⟨e, List.mem_cons_self .., .inl rfl⟩
      · exact .inl hx
      · exact .inr ⟨f, List.mem_cons_of_mem _ hf, hx⟩
    · rintro (hx | ⟨f, hf, hx⟩)
      · exact .inl (.inr (.inr hx))
      · rcases List.mem_cons.1 hf with rfl | hf
        · rcases hx with rfl | rfl
          · exact .inl (.inr (.inl rfl))
          · exact .inl (.inl rfl)
        · exact .inr ⟨f, hf, hx⟩
theorem nodes_inc (l : List Ed) : Inc (nodesL l) := (nodes_gen l [] List.Pairwise.nil).1
theorem mem_nodes {l : List Ed} {x : Int} : x ∈ nodesL l ↔ ∃ e ∈ l, x = e.frm ∨ x = e.to := by
  have := (nodes_gen l [] List.Pairwise.nil).2 x
  unfold nodesL
  simpa using this
theorem nodes_len : ∀ l : List Ed, (nodesL l).length ≤ 2 * l.length := by
  have key : ∀ (l : List Ed) (o : List Int), (l.foldl (fun o e => ins e.to (ins e.frm o)) o).length ≤ o.length + 2 * l.length := by
    intro l
    induction l with
    | nil => intro o; simp
    | cons e l ih =>
      intro o
      have h1 := ih (ins e.to (ins e.frm o))
      have h2 := ins_len (n := e.to) (l := ins e.frm o)
      have h3 := ins_len (n := e.frm) (l := o)
      rw [List.foldl_cons, List.length_cons]
      omega
  intro l
  have := key l []
  simpa [nodesL] using this

set_option maxRecDepth 100000 in
set_option maxHeartbeats 4000000 in
theorem nodes_any (A : Option Addr) (l : List Ed) (c : Nat) (w : World) (hp : Es w w.heap.size A l) (hmax : l.length ≤ 1000000) :
    Calls Try.prog 43 #[.slice A l.length c] w (MadeI' w (nodesL l)) := by
  have hP := Lib.hid hp
  clear hp
  go_enter Try.func43, Try.ntmps43
  go_wp2
  go_loopw [3, 4] (fun v i wr => ∃ (k : Nat) (A' : Option Addr) (c' : Nat) (o : List Int), k ≤ l.length ∧ o.length ≤ 2 * k ∧ i = .int .i64 k ∧ v = .slice A' o.length c' ∧ Hid (OwnI wr w.heap.size A' c' o) ∧ Hid (Below w.heap.size w wr) ∧ Hid (nodesL (l.take k) = o)) (fun _ i _ => l.length - (intOf i).toNat)
  case atStart => exact ⟨0, none, 0, [], by omega, by simp, rfl, rfl, Lib.hid (ownI_nil _ _), Lib.hid (Below.refl _ _), Lib.hid rfl⟩
  case round =>
    obtain ⟨k, A', c', o, hk, hok, rfl, rfl, hO, hB, hT⟩ := hrel
    by_cases hlt : k < l.length
    · obtain ⟨ad, rfl, hab, c0⟩ := hP.out.get hlt
      have hC := Lib.hid (fun (wr2 : World) (h : Below w.heap.size w wr2) => c0.keep (by rw [block_of_add]; exact hab) (fun q hq => h.cell hq))
      obtain ⟨x0, x1, x2, x3⟩ := hC.out wr hB.out
      have hN := Lib.hid (nodes_step hlt)
      rw [hT.out] at hN
      generalize eI l k = y0 at *
      generalize eF l k = y1 at *
      generalize eT l k = y2 at *
      generalize eC l k = y3 at *
      have k1 := fun W => put_any A' o c' y1 W
      have k2 := fun W A2 c2 => put_any A2 (ins y1 o) c2 y2 W
      have l1 := ins_len (n := y1) (l := o)
      have l2 := ins_len (n := y2) (l := ins y1 o)
      have hL1 := Lib.hid (show o.length ≤ 10000000 by omega)
      have hL2 := Lib.hid (show (ins y1 o).length ≤ 10000000 by omega)
      have hL3 := Lib.hid (show (ins y2 (ins y1 o)).length ≤ 2 * (k + 1) by omega)
      generalize ins y2 (ins y1 o) = o2 at *
      generalize ins y1 o = o1 at *
      have K1 := Lib.hid k1
      have K2 := Lib.hid k2
      have hSz := Lib.hid hB.out.size
      clear c0 hT hP k1 k2 l1 l2 x0 x3 hok
      go_wp2
      go_region_held3 (fun w' => w'.cell? { block := (ad.add (k * 4)).block, off := (ad.add (k * 4)).off + 1 } = some (.int .i64 y1) ∧ w'.cell? { block := (ad.add (k * 4)).block, off := (ad.add (k * 4)).off + 2 } = some (.int .i64 y2))
        (first
          | exact ⟨x1, x2⟩
          | exact ⟨(hC.out _ D3.out).2.1, (hC.out _ D3.out).2.2.1⟩
          | exact ⟨(hC.out _ D2.out).2.1, (hC.out _ D2.out).2.2.1⟩
          | exact ⟨(hC.out _ (Below.drew hB.out)).2.1, (hC.out _ (Below.drew hB.out)).2.2.1⟩
          | go_keep)
        (first
          | (go_at_call 36; (with_reducible refine (K1.out _ ?_ hL1.out).mono ?_); (exact hO.out.rd); rintro e w2 ⟨A2, c2, rfl, h2, b2⟩; (have H2 := Lib.hid h2); (have D2 : Hid (Below w.heap.size w w2) := Lib.hid (hB.out.drew.trans (b2.mono hSz.out))); clear h2 b2)
          | (go_at_call 36; (with_reducible refine (K2.out _ A2 c2 ?_ hL2.out).mono ?_); (exact H2.out.rd); rintro e w3 ⟨A3, c3, rfl, h3, b3⟩; (have H3 : Hid (OwnI w3 w.heap.size A3 c3 o2) := Lib.hid (h3.less D2.out.size)); (have D3 : Hid (Below w.heap.size w w3) := Lib.hid (D2.out.trans (b3.mono D2.out.size))); clear h3 b3))
      go_wp2
      exact ⟨⟨k + 1, A3, c3, o2, by omega, hL3.out, by go_num, rfl, H3, D3, hN⟩, by simp [intOf]; omega⟩
    · obtain rfl : k = l.length := by omega
      have hE : Hid (o = nodesL l) := Lib.hid (by have := hT.out; rw [List.take_length] at this; exact this.symm)
      clear hT hP
      go_wp2
      go_ret
      rw [← hE.out]
      exact ⟨A', c', rfl, hO.out, hB.out⟩
end Go.Proofs.Ytlaklfiodmnocaa
