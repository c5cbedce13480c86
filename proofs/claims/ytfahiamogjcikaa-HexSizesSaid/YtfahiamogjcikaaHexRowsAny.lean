import Derived.Test.YtfahiamogjcikaaHexRows
namespace Go.Proofs.Ytfahiamogjcikaa
open Go.RowKit Go.Shelf

attribute [local go_sem] Oper.semAt_some

theorem hrowsV_out {xs : List UInt8} {z : Int} (h : z < 1 ∨ 64 < z) : hrowsV xs z = [] := if_pos h
theorem hrowsV_in {xs : List UInt8} {m : Nat} (h0 : 0 < m) (h : m ≤ 64) : hrowsV xs (m : Int) = (cutsU m xs (numU m xs)).map hexU := by
  unfold hrowsV; rw [if_neg (by omega), Int.toNat_natCast]

set_option maxHeartbeats 800000 in
theorem hrows_any (B n c : Nat) (A : Option Addr) (xs : List UInt8) (z : Int) (w : World) (hx : Rd w B A n (Byt xs)) (hB : B ≤ w.heap.size) (hn : n ≤ 1099511627776) (hnc : n ≤ c) :
    Calls Try.prog 13 #[.slice A n c, .int .i64 z] w (NewS 9 w (hrowsV xs z)) := by
  by_cases hz : z < 1
  · rw [hrowsV_out (.inl hz)]
    refine (callsIn_wide (n := 5)).1 ?_
    refine callsIn_of_wp_marks Try.func13 rfl trivial ?_ rfl
    simp only [Try.ntmps13, List.size_toArray, List.length_cons, List.length_nil, Nat.reduceAdd, Nat.reduceSub, Array.replicate_succ, Array.replicate_zero, List.push_toArray, List.append_toArray, List.nil_append, List.cons_append]
    gi_wp2
    exact ⟨.slice none 0 0, by simp [results, Try.f13, go_sem], none, 0, rfl, own_nil _ _ _, Below.refl _ _⟩
  · by_cases hz2 : 64 < z
    · rw [hrowsV_out (.inr hz2)]
      refine (callsIn_wide (n := 5)).1 ?_
      refine callsIn_of_wp_marks Try.func13 rfl trivial ?_ rfl
      simp only [Try.ntmps13, List.size_toArray, List.length_cons, List.length_nil, Nat.reduceAdd, Nat.reduceSub, Array.replicate_succ, Array.replicate_zero, List.push_toArray, List.append_toArray, List.nil_append, List.cons_append]
      gi_wp2
      exact ⟨.slice none 0 0, by simp [results, Try.f13, go_sem], none, 0, rfl, own_nil _ _ _, Below.refl _ _⟩
    · obtain ⟨m, rfl⟩ : ∃ m : Nat, z = (m : Int) := ⟨z.toNat, by omega⟩
      rw [hrowsV_in (by omega) (by omega)]
      exact callsIn_wide.1 (hrows_in B n c m A xs w hx hB hn hnc (by omega) (by omega))

end Go.Proofs.Ytfahiamogjcikaa
