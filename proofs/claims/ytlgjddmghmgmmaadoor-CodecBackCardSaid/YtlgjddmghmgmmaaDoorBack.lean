/- For CodecBack: the calls of the law with what they hand back; an argument of type Sent, opened. -/
import Derived.Test.YtlgjddmghmgmmaaDoorOpen
import Derived.Test.YtlgjddmghmgmmaaDoorAlive
import Derived.Deep.Fields
import Derived.ChangeSame
namespace Go.Proofs.YtlgjddmghmgmmaaDoor
open Go.RowKit Go.ChangeShapes Go.WideShapes Go.Deep

theorem up {A : Option Addr} {c : Nat} {xs : List Value} {w w' : World} (h : Rd w w.heap.size A c xs) (b : Below w.heap.size w w') : Rd w' w'.heap.size A c xs := (h.below b).more b.size
theorem bthen {w w1 w2 : World} (h : Below w.heap.size w w1) (h2 : Below w1.heap.size w1 w2) : Below w.heap.size w w2 := h.trans (h2.mono h.size)
theorem balloc {w w1 : World} (h : Below w.heap.size w w1) (o : Obj) : Below w.heap.size w (w1.alloc o) := h.alloc h.size o
theorem cell_lt {w : World} {p : Addr} {v : Value} (h : w.cell? p = some v) : p.block < w.heap.size := World.block_lt_of_cell? _ _ h
/-- The row of a literal without elements. -/
theorem own_none (w : World) (base : Nat) (hb : base ≤ w.heap.size) : (w.alloc (.cells #[] 5)).ownsRow base 5 1 (.slice (some ⟨w.heap.size, 0, none⟩) 0 0) 0 [] :=
  World.ownsRow_lit w #[] 0 hb (by unfold maxLen; omega) rfl
theorem own_cap {w : World} {base e n c : Nat} {A : Option Addr} {xs : List Value} (h : w.ownsRow base e 1 (.slice A n c) n xs) : c ≤ 9223372036854775807 := by
  rcases h.2 with ⟨hv, _⟩ | ⟨g, cap, cur, hv, _, _, _, hm, _⟩
  · injection hv with _ _ h3
    omega
  · injection hv with _ _ h3
    unfold maxLen at hm
    omega
/-- A row that is read: the cells and the capacity. -/
theorem rd_own2 {w : World} {base c : Nat} {A : Option Addr} {a r : List UInt8} (h : w.ownsRow base 5 1 (.slice A (a.length + r.length) c) (a.length + r.length) (cells8 a ++ cells8 r)) : Rd w w.heap.size A c (cells8 (a ++ r)) ∧ c ≤ 9223372036854775807 := by
  have h2 := own_more rfl rfl h
  exact ⟨Rd.of_own h2, own_cap h⟩

theorem rd_own3 {w : World} {base c n : Nat} {A : Option Addr} {a r : List UInt8} (hn : n = a.length) (h : w.ownsRow base 5 1 (.slice A (n + r.length) c) (n + r.length) (cells8 a ++ cells8 r)) : Rd w w.heap.size A c (cells8 (a ++ r)) ∧ c ≤ 9223372036854775807 := by
  subst hn
  exact rd_own2 h
theorem back_get {r : List UInt8} {N : Int} (h0 : 0 ≤ N) (h1 : N ≤ 9223372036854775807) {A : Option Addr} {c : Nat} {W : World} (h : Rd W W.heap.size A c (cells8 (put N.toNat ++ r)) ∧ c ≤ 9223372036854775807) :
    Calls Tryd.prog 12 #[.slice A ((put N.toNat).length + r.length) c] W fun e w' => e = .returned (.tuple #[.int .i64 N, .int .i64 ((put N.toNat).length : Nat), .int .i64 0]) ∧ W = w' := by
  obtain ⟨e1, e2, e3⟩ := get_put r (n := N.toNat) (by omega)
  have k := get_at ((put N.toNat).length + r.length) (by rw [List.length_append]) h.1 h.2
  rw [e1, e2, e3, Int.toNat_of_nonneg h0] at k
  exact k
section
variable {r : List UInt8} (hr : r.length ≤ 3000)
include hr
theorem back_text {s : ByteArray} (hs : s.size ≤ 2000) {A : Option Addr} {c : Nat} {W : World} (h : Rd W W.heap.size A c (cells8 (putText s.data.toList ++ r)) ∧ c ≤ 9223372036854775807) :
    Calls Tryd.prog 17 #[.slice A ((putText s.data.toList).length + r.length) c] W fun e w' => e = .returned (.tuple #[.string s, .int .i64 ((putText s.data.toList).length : Nat), .int .i64 0]) ∧ W = w' := by
  have hsz : s.data.toList.length = s.size := by rw [Array.length_toList]; rfl
  obtain ⟨e1, e2, e3⟩ := text_back (lim := 2000) (s := s.data.toList) (by omega) (by omega) r
  have k := getText_any A _ c W h.1 (by rw [List.length_append, putText_len]; have := put_nine (n := s.data.toList.length) (by omega); omega) h.2
  unfold textV at k
  rw [e1, e2, e3, strOf_data, List.length_append] at k
  exact k
theorem back_list {L : List Int} (hL : natB L = true) (hi : ints L) {A : Option Addr} {c : Nat} {W : World} (h : Rd W W.heap.size A c (cells8 (putList L ++ r)) ∧ c ≤ 9223372036854775807) :
    Calls Tryd.prog 21 #[.slice A ((putList L).length + r.length) c] W fun e w' => ∃ A' c', e = .returned (.tuple #[.slice A' L.length c', .int .i64 ((putList L).length : Nat), .int .i64 0]) ∧ Rd w' w'.heap.size A' c' (cellsI L) ∧ Below W.heap.size W w' := by
  obtain ⟨n1, n2⟩ := natB_of hL
  obtain ⟨e1, e2, e3⟩ := list_back_all (l := L) (by omega) (fun n hn => ⟨n2 n hn, (hi n hn).2⟩) r
  have hl : (putList L).length ≤ 2800 := by
    rw [putList, List.length_append]
    have h1 := put_nine (n := L.length) (by omega)
    have h2 := putL_len L (fun n hn => (hi n hn).2)
    omega
  have k := getList_any A _ c W h.1 (by rw [List.length_append]; omega) h.2
  unfold ListPost at k
  rw [e1, e2, e3, List.length_append] at k
  exact k.mono fun e w' ⟨A', c', h1, h2, h3⟩ => ⟨A', c', h1, Rd.of_own h2, h3⟩
theorem back_frame {b : List UInt8} (hb : b.length ≤ 3000) {A : Option Addr} {c : Nat} {W : World} (he : Env W) (h : Rd W W.heap.size A c (cells8 (frame b ++ r)) ∧ c ≤ 9223372036854775807) :
    Calls Tryd.prog 30 #[.slice A ((frame b).length + r.length) c] W fun e w' => ∃ A' c', e = .returned (.tuple #[.slice A' b.length c', .int .i64 ((frame b).length : Nat), .int .i64 0]) ∧ Rd w' w'.heap.size A' c' (cells8 b) ∧ Below W.heap.size W w' := by
  obtain ⟨e1, e2, e3⟩ := frame_back (b := b) (by omega) r
  have k := unframe_any A _ c W he h.1 (by rw [List.length_append, frame_len]; have := put_nine (n := b.length) (by omega); omega) h.2
  unfold FramePost at k
  rw [e1, e2, e3, List.length_append] at k
  exact k.mono fun e w' ⟨A', c', h1, h2, h3⟩ => ⟨A', c', h1, Rd.of_own h2, h3⟩
theorem back_bust {b : List UInt8} (hb : b.length ≤ 3000) {i : Nat} (h1 : (put b.length).length ≤ i) (h2 : i < (frame b).length) {x : UInt8} (hx : x ≠ (frame b)[i]) {A : Option Addr} {c : Nat} {W : World} (he : Env W) (h : Rd W W.heap.size A c (cells8 ((frame b).set i x ++ r)) ∧ c ≤ 9223372036854775807) :
    Calls Tryd.prog 30 #[.slice A ((frame b).length + r.length) c] W fun e w' => ∃ A' c', e = .returned (.tuple #[.slice A' 0 c', .int .i64 0, .int .i64 6]) ∧ Below W.heap.size W w' := by
  have hE := frame_changed (b := b) (by omega) h1 h2 hx r
  have hl : ((frame b).set i x ++ r).length = (frame b).length + r.length := by rw [List.length_append, List.length_set]
  have k := unframe_any A _ c W he h.1 (by rw [hl, frame_len]; have := put_nine (n := b.length) (by omega); omega) h.2
  rw [hl] at k
  refine k.mono fun e w' ⟨A', c', h1, _, h3⟩ => ⟨A', c', ?_, h3⟩
  obtain ⟨q1, q2⟩ := uB_bad (l := (frame b).set i x ++ r) (by rw [hE]; omega)
  rw [h1, q1, q2, hE]
  rfl
end
theorem list_len {L : List Int} (hL : natB L = true) (hi : ints L) : (putList L).length ≤ 2800 := by
  obtain ⟨n1, n2⟩ := natB_of hL
  rw [putList, List.length_append]
  have h1 := put_nine (n := L.length) (by omega)
  have h2 := putL_len L (fun n hn => (hi n hn).2)
  omega
/-- The changed byte. -/
theorem xor_ne {x : UInt8} {ch : Nat} (h : ch < 256) (h0 : ch ≠ 0) : UInt8.ofNat (x.toNat ^^^ ch) ≠ x := by
  intro e
  have h1 := congrArg UInt8.toNat e
  rw [UInt8.toNat_ofNat', Nat.mod_eq_of_lt (Nat.xor_lt_two_pow (n := 8) (UInt8.toNat_lt x) (by omega))] at h1
  have h2 := congrArg (x.toNat ^^^ ·) h1
  simp only [Nat.xor_self, ← Nat.xor_assoc, Nat.zero_xor] at h2
  exact h0 h2
theorem set8 {l : List UInt8} {i x : Nat} (_ : i < l.length) (hx : x < 256) : (cells8 l).set i (.int .u8 (x : Int)) = cells8 (l.set i (UInt8.ofNat x)) := by
  simp [cells8, List.map_set, Nat.mod_eq_of_lt hx]

section
variable {H : Type} {enc : TypeId × Value → H} {w : World} {v : Value} {d : DataW H} {p : List MemPlace} {r : Reach} {b0 : Nat}
theorem slice_cell {t e : TypeId} {base fuel : Nat} {sp : Nat → Bool} {held : Bool} {u : Value} {x : DataW H × List MemPlace} (ht : Tryd.prog.underlying t = some (.slice e)) (h : DataW.trod enc Tryd.prog w base sp held fuel t [u] = some x) : ∃ a l c, u = .slice a l c := by
  rcases DataW.trod_slice ht h with ⟨hcs, _⟩ | ⟨a, len, cap, elems, rest, n, _, hcs, _⟩
  · simp at hcs
    exact ⟨_, _, _, hcs⟩
  · simp at hcs
    exact ⟨_, _, _, hcs⟩

/-- A struct of one-cell fields by value: each field's cell and reading. -/
theorem open_fields {P : Program} {base : Nat} {sp : Nat → Bool} {held : Bool} {t : TypeId} {fs : Array Field} (hs : P.underlying t = some (.struct fs)) (hone : oneCellFields P fs = true) (hC : P.cellsOf t = fs.size)
    (hv : Value.okWide P w r b0 t v) (h : DataW.Trod enc P w base sp held t v d p) :
    ∃ l : List Value, v = .agg l.toArray ∧ l.length = fs.size ∧ ∀ (i : Nat) (f : Field), fs[i]? = some f → ∃ (c : Value) (y : DataW H × List MemPlace) (n : Nat), l[i]? = some c ∧ DataW.trod enc P w base sp held n f.type [c] = some y := by
  obtain ⟨cs, rfl, hsz⟩ := okWide_struct hs hv
  obtain ⟨fuel, hf⟩ := h
  obtain ⟨xs, n, _, _, _, hlen, hg⟩ := DataW.trod_struct hs hf
  refine ⟨cs.toList, by simp, by simp; omega, fun i f hi => ?_⟩
  obtain ⟨ho, hk⟩ := hone_of hone i f hi
  have hil : i < fs.size := (Array.getElem?_eq_some_iff.1 hi).1
  have hic : i < cs.toList.length := by simp; omega
  have h1 := hg i f hi
  rw [ho, hk] at h1
  have hx : xs[i]? = some (xs[i]'(by omega)) := List.getElem?_eq_getElem (by omega)
  have hone' : ((Value.agg cs).cells.toList.drop i).take 1 = [cs.toList[i]] := by
    show (cs.toList.drop i).take 1 = _
    rw [List.drop_eq_getElem_cons hic]
    rfl
  rw [hone', hx] at h1
  exact ⟨_, _, n, List.getElem?_eq_getElem hic, h1⟩
theorem open_sent (hv : Value.okWide Tryd.prog w r b0 47 v) (h : DataW.Trod enc Tryd.prog w 0 (fun _ => true) true 47 v d p) :
    ∃ (N : Int) (S : ByteArray) (A : Option Addr) (cA : Nat) (L : List Int) (B : Option Addr) (cB : Nat) (b : List UInt8) (R : Option Addr) (cR : Nat) (s : List UInt8) (at_ : Int) (ch : Int),
      v = .agg #[.int .i64 N, .string S, .slice A L.length cA, .slice B b.length cB, .slice R s.length cR, .int .i64 at_, .int .u8 ch] ∧
      (-9223372036854775808 ≤ N ∧ N ≤ 9223372036854775807) ∧ ints L ∧ Rd w w.heap.size A cA (cellsI L) ∧ cA ≤ maxLen ∧ Rd w w.heap.size B cB (cells8 b) ∧ Rd w w.heap.size R cR (cells8 s) ∧ (-9223372036854775808 ≤ at_ ∧ at_ ≤ 9223372036854775807) ∧ 0 ≤ ch ∧ ch ≤ 255 := by
  obtain ⟨l, rfl, hlen, hf⟩ := open_fields Tryd.underlying47 (by kernel_rfl) (by kernel_rfl) hv h
  obtain ⟨c0, y0, n0, h0, t0⟩ := hf 0 _ rfl
  obtain ⟨c1, y1, n1, h1, t1⟩ := hf 1 _ rfl
  obtain ⟨c2, y2, n2, h2, t2⟩ := hf 2 _ rfl
  obtain ⟨c3, y3, n3, h3, t3⟩ := hf 3 _ rfl
  obtain ⟨c4, y4, n4, h4, t4⟩ := hf 4 _ rfl
  obtain ⟨c5, y5, n5, h5, t5⟩ := hf 5 _ rfl
  obtain ⟨c6, y6, n6, h6, t6⟩ := hf 6 _ rfl
  obtain ⟨N, e0, _, w0⟩ := DataW.trod_int Tryd.underlying3 t0
  obtain rfl : c0 = .int .i64 N := by simpa using e0
  obtain ⟨S, e1, _, _⟩ := DataW.trod_string Tryd.underlying9 t1
  obtain rfl : c1 = .string S := by simpa using e1
  have s2 := slice_cell Tryd.underlying34 t2
  have s3 := slice_cell Tryd.underlying22 t3
  have s4 := slice_cell Tryd.underlying22 t4
  obtain ⟨A, cA, L, rfl, mA, iL, rA⟩ := open_is_rd ⟨n2, by obtain ⟨a, x, c, rfl⟩ := s2; exact t2⟩ s2
  obtain ⟨B, cB, b, rfl, mB, rB⟩ := open_bs_rd ⟨n3, by obtain ⟨a, x, c, rfl⟩ := s3; exact t3⟩ s3
  obtain ⟨R, cR, s, rfl, mR, rR⟩ := open_bs_rd ⟨n4, by obtain ⟨a, x, c, rfl⟩ := s4; exact t4⟩ s4
  obtain ⟨at_, e5, _, w5⟩ := DataW.trod_int Tryd.underlying3 t5
  obtain rfl : c5 = .int .i64 at_ := by simpa using e5
  obtain ⟨ch, e6, _, w6⟩ := DataW.trod_int Tryd.underlying5 t6
  obtain rfl : c6 = .int .u8 ch := by simpa using e6
  refine ⟨N, S, A, cA, L, B, cB, b, R, cR, s, at_, ch, ?_, i64_bounds w0, iL, rA, mA, rB, rR, i64_bounds w5, (u8_bounds w6).1, (u8_bounds w6).2⟩
  have hl7 : l.length = 7 := hlen
  match l, hl7 with
  | [a0, a1, a2, a3, a4, a5, a6], _ =>
    simp at h0 h1 h2 h3 h4 h5 h6
    subst h0 h1 h2 h3 h4 h5 h6
    rfl
end
end Go.Proofs.YtlgjddmghmgmmaaDoor
