import Derived.Test.YtodabjfddobkkaaWireRow
import Derived.Test.YtodabjfddobkkaaConvS
namespace Go.Proofs.Ytodabjfddobkkaa
open Go.RowKit

theorem rowU_take (b : List UInt8) : rowU (b.take 65535) = rowU b := by unfold rowU; rw [List.take_take, Nat.min_self]

/-- The row of a text's first bytes, laid anew. -/
theorem wtext_row (F : Nat → Prop) (bw : Nat) (l : List UInt8) (t : ByteArray) (w : World) (h : WtrS 5 w F bw l) (hm : t.size ≤ maxLen) (hn : l.length + 65543 ≤ 8796093022208) :
    ∃ c o, (convert 9 26 (.string t)).run Try.prog w = .ok (.slice (some ⟨w.heap.size, 0, none⟩) t.size c) (w.drew.alloc o) ∧
      Calls Try.prog 25 #[.pointer (some ⟨bw, 0, none⟩), .slice (some ⟨w.heap.size, 0, none⟩) t.size c] (w.drew.alloc o) fun e w' => e = .returned (.tuple #[]) ∧ Wrote 5 w F bw (l ++ rowU t.data.toList) w' := by
  obtain ⟨c, o, hr, hx, hok⟩ := conv_bytes Try.prog w 9 26 5 t Try.underlying9 Try.underlying26 Try.underlying5 hm
  have hF : ∀ k, F k → k < w.heap.size := by
    obtain ⟨_, _, _, _, _, _, _, _, hB⟩ := h
    exact fun k hk => (hB k hk).2
  refine ⟨c, o, hr, ?_⟩
  have h2 : WtrS 5 (w.drew.alloc o) F bw l := WtrS.alloc (w := w.drew) (h.below ((Below.refl _ _).drew)) o
  refine (wrow_any F bw (w.heap.size + 1) t.size c _ l _ _ h2 hx hok (by simp) (fun _ a ha hf => ?_) hn).mono ?_
  · injection ha with ha
    subst ha
    exact absurd (hF _ hf) (Nat.lt_irrefl _)
  · rintro e w' ⟨rfl, hw⟩
    exact ⟨rfl, Wrote.then ((Moves.refl F w).drew.alloc o) (fun _ hk => .inl hk) hw⟩

set_option maxHeartbeats 800000 in
theorem wtext_any (F : Nat → Prop) (bw : Nat) (l : List UInt8) (s : ByteArray) (w : World) (h : WtrS 5 w F bw l) (hs : s.size ≤ maxLen) (hn : l.length + 65543 ≤ 8796093022208) :
    Calls Try.prog 20 #[.pointer (some ⟨bw, 0, none⟩), .string s] w fun e w' => e = .returned (.tuple #[]) ∧ Wrote 5 w F bw (l ++ rowU s.data.toList) w' := by
  by_cases h5 : s.size ≤ 65535
  · obtain ⟨c, o, hcv, hp⟩ := wtext_row F bw l s w h hs hn
    have hi : (s.size : Int) ≤ 65535 := by omega
    have hex : s.extract 0 s.size = s := by simp
    go_enter Try.func20, Try.ntmps20
    go_wp2_with fail
    refine hp.mono ?_
    rintro e w1 ⟨rfl, hw⟩
    go_wp2
    go_end0
    exact ⟨rfl, hw⟩
  · have hsz : (s.extract 0 65535).size = 65535 := by simp [ByteArray.size_extract]; omega
    obtain ⟨c, o, hcv, hp⟩ := wtext_row F bw l (s.extract 0 65535) w h (by rw [hsz]; decide) hn
    have hi : ¬ (s.size : Int) ≤ 65535 := by omega
    have hi2 : 65535 ≤ s.size := by omega
    rw [hsz] at hcv hp
    rw [ext_tx, tx_list, List.drop_zero, rowU_take] at hp
    go_enter Try.func20, Try.ntmps20
    go_wp2_with fail
    refine hp.mono ?_
    rintro e w1 ⟨rfl, hw⟩
    go_wp2
    go_end0
    exact ⟨rfl, hw⟩

end Go.Proofs.Ytodabjfddobkkaa
