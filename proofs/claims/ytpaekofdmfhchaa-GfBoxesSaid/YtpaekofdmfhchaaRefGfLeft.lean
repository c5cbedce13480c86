import Derived.Test.YtpaekofdmfhchaaGfW
namespace Go.Proofs.Ytpaekofdmfhchaa
open Go.RowKit

theorem grot_all : ((List.range 256).all fun a => (List.range 8).all fun n => decide (1 ≤ n → bits .or .u8 ((a : Int) * 2 ^ n % 256) ((a : Int) / 2 ^ (8 - n)) = ((gleftU (UInt8.ofNat a) n).toNat : Int))) = true := by decide +kernel
theorem grot_bits (a : UInt8) (n : Nat) (h1 : 1 ≤ n) (h8 : n < 8) : bits .or .u8 ((a.toNat : Int) * 2 ^ n % 256) ((a.toNat : Int) / 2 ^ (8 - n)) = ((gleftU a n).toNat : Int) := by
  have h := of_decide_eq_true (List.all_eq_true.1 (List.all_eq_true.1 grot_all a.toNat (List.mem_range.2 a.toNat_lt)) n (List.mem_range.2 h8)) h1
  rwa [UInt8.ofNat_toNat] at h

set_option maxHeartbeats 800000 in
theorem rgleft_any (a : UInt8) (n : Nat) (w : World) (h1 : 1 ≤ n) (h8 : n < 8) :
    Calls Try.prog 19 #[.int .u8 (a.toNat : Int), .int .i64 (n : Int)] w fun e w' => e = .returned (.int .u8 ((gleftU a n).toNat : Int)) ∧ ∃ k, w' = w.drewN k := by
  have hr := grot_bits a n h1 h8
  go_enter Try.func19, Try.ntmps19
  go_wp2
  go_quiet (fail)
  go_wp2
  go_ret
  exact ⟨rfl, _, rfl⟩

end Go.Proofs.Ytpaekofdmfhchaa
