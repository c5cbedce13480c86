import Derived.Test.YtodabjfddobkkaaWireMem
import Derived.Test.YtodabjfddobkkaaFacts
namespace Go.Proofs.Ytodabjfddobkkaa
open Go.RowKit

set_option maxHeartbeats 800000 in
theorem wput_any (F : Nat → Prop) (bw B m c2 : Nat) (A2 : Option Addr) (l ys : List UInt8) (w : World) (h : WtrS 5 w F bw l) (hr : Rd w B A2 m (Byt ys)) (hok : SlOK A2 m c2) (hn : l.length + m ≤ 8796093022208) :
    Calls Try.prog 30 #[.pointer (some ⟨bw, 0, none⟩), .slice A2 m c2] w fun e w' => e = .returned (.tuple #[]) ∧ Wrote 5 w F bw (l ++ ys) w' := by
  obtain ⟨A, n, c, h0, f0, hown, hF, hA, hB⟩ := h
  have hl := own_len hown
  go_enter Try.func30, Try.ntmps30
  go_wp2_with (refine wp_append_foot rfl _ _ 26 rfl 5 Try.underlying26 (.int .u8 0) 1 (by omega) rfl Try.info_u8 (bw + 1) n c A _ rfl hown B m c2 A2 _ rfl hr hok (Byt_one _) (by omega) (by have := (hB bw hF).2; omega) ?_)
  intro A' c' w' hown' hg hat
  have hbw := hB bw hF
  have hne : (Value.slice A n c).ownBlock ≠ some bw := fun e => by have := (hown.lt bw e).1; omega
  have h0' : w'.cell? ⟨bw, 0, none⟩ = some (.slice A n c) := (hg.cell_far ⟨bw, 0, none⟩ hbw.2 (fun e => hne e.symm)).trans h0
  have f0' : w'.frozen? ⟨bw, 0, none⟩ = false := (hg.frozen_far ⟨bw, 0, none⟩ hbw.2 (fun e => hne e.symm)).trans f0
  have hsz := hg.size
  have hne' : (Value.slice A' (n + m) c').ownBlock ≠ some bw := fun e => by have := (hown'.lt bw e).1; omega
  have fin : Wrote 5 w F bw (l ++ ys) (w'.setCell ⟨bw, 0, none⟩ (.slice A' (n + m) c')) := by
    refine ⟨fun k => F k ∨ (Value.slice A' (n + m) c').ownBlock = some k, ⟨A', n + m, c', ?_, ?_, ?_, .inl hF, fun k hk => .inr hk, ?_⟩, ?_, ?_⟩
    · exact World.cell?_setCell_same _ _ _ h0'
    · rw [World.frozen?_setCell]; exact f0'
    · rw [Byt_append]; exact ownsRow_setCell_other hown' hne' _
    · rintro k (hk | hk)
      · have := hB k hk
        exact ⟨this.1, by simp [World.setCell]; omega⟩
      · have := hown'.lt k hk
        exact ⟨by omega, by simpa [World.setCell] using this.2⟩
    · exact ((Moves.refl F w).grown hg fun k hk => .inl (hA k hk)).setCell (.inl hF) _
    · rintro k (hk | hk)
      · exact .inl hk
      · rcases hat with h | h
        · exact .inl (hA k (by rw [← h]; exact hk))
        · rw [h] at hk; injection hk with hk; exact .inr (by omega)
  have Fin := Lib.hid fin
  clear fin
  go_wp2
  go_end0
  exact ⟨rfl, Fin.out⟩

/-- Of nil nothing is written. -/
theorem wput_nil (x : Value) (w : World) : Calls Try.prog 30 #[.pointer none, x] w fun e w' => e = .returned (.tuple #[]) ∧ w' = w := by
  go_enter Try.func30, Try.ntmps30
  go_wp2
  go_end0
  exact ⟨rfl, rfl⟩

end Go.Proofs.Ytodabjfddobkkaa
