/- The four bytes of the checksum. -/
import Derived.Test.YtlgjddmghmgmmaaDoorSum
namespace Go.Proofs.YtlgjddmghmgmmaaDoor
open Go.RowKit

/-- The four bytes as an array. -/
def sumV (s : Nat) : Value := .agg #[.int .u8 ((s : Int) / 16777216), .int .u8 ((s : Int) / 65536 % 256), .int .u8 ((s : Int) / 256 % 256), .int .u8 ((s : Int) % 256)]
theorem sum_cells {s : Nat} (h : s < 4294967296) : cells8 (be4 s) = [.int .u8 ((s : Int) / 16777216), .int .u8 ((s : Int) / 65536 % 256), .int .u8 ((s : Int) / 256 % 256), .int .u8 ((s : Int) % 256)] := by
  simp only [cells8, be4, List.map_cons, List.map_nil, UInt8.toNat_ofNat', List.cons.injEq, Value.int.injEq, true_and, and_true]
  omega

set_option maxRecDepth 100000 in
set_option maxHeartbeats 1000000 in
theorem sumOf_any (A : Option Addr) (l : List UInt8) (c : Nat) (w : World) (he : Env w) (hp : Rd w w.heap.size A c (cells8 l)) (hmax : l.length ≤ 10000000) :
    Calls Tryd.prog 36 #[.slice A l.length c] w fun e w' => e = .returned (sumV (crc l)) ∧ Below w.heap.size w w' := by
  have k1 := fun (W : World) (h1 : Env W) (h2 : Rd W W.heap.size A c (cells8 l)) => sum_any A l c W h1 h2 hmax
  have hs := crc_lt l
  generalize crc l = s at k1 hs ⊢
  have k1 := Lib.hid k1
  have hE := Lib.hid he
  have hP := Lib.hid hp
  clear he hp
  go_enter Tryd.func36, Tryd.ntmps36
  go_wp2_with (go_at_call 26; refine (k1.out _ (hE.out.below ((Below.refl _ _).alloc (Nat.le_refl _) _)) ((hP.out.below ((Below.refl _ _).alloc (Nat.le_refl _) _)).more (by simp))).mono ?_; rintro e w' ⟨rfl, rfl⟩)
  exact bodyPost_ret (v := sumV s) (by simp [results, Tryd.results36, go_sem, sumV]) rfl ⟨rfl, (Below.refl _ _).alloc (Nat.le_refl _) _⟩
end Go.Proofs.YtlgjddmghmgmmaaDoor
