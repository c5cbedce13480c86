import Derived.Test.YtodabjfddobkkaaWirePut
namespace Go.Proofs.Ytodabjfddobkkaa
open Go.RowKit

set_option maxHeartbeats 400000 in
theorem wbyte_any (F : Nat → Prop) (bw : Nat) (l : List UInt8) (z : Int) (b : UInt8) (hz : z = (b.toNat : Int)) (w : World) (h : WtrS 5 w F bw l) (hn : l.length + 1 ≤ 8796093022208) :
    Calls Try.prog 19 #[.pointer (some ⟨bw, 0, none⟩), .int .u8 z] w fun e w' => e = .returned (.tuple #[]) ∧ Wrote 5 w F bw (l ++ [b]) w' := by
  subst hz
  have hp := fun (o : Obj) => wput_any F bw (w.heap.size + 1) 1 1 (some ⟨w.heap.size, 0, none⟩) l [b] (w.alloc (.cells #[.int .u8 (b.toNat : Int)] 5)) (h.alloc _) (Rd.new w 5 #[.int .u8 (b.toNat : Int)] rfl) (.inr ⟨_, rfl, Nat.le_refl _, by decide⟩) hn
  go_enter Try.func19, Try.ntmps19
  go_wp2_with fail
  refine (hp default).mono ?_
  rintro e w1 ⟨rfl, hw⟩
  have hw' := Wrote.then ((Moves.refl F w).alloc _) (fun _ hk => .inl hk) hw
  clear hw
  go_wp2
  go_end0
  exact ⟨rfl, hw'⟩

set_option maxHeartbeats 400000 in
theorem wbyte_nil (z : Int) (w : World) :
    Calls Try.prog 19 #[.pointer none, .int .u8 z] w fun e w' => e = .returned (.tuple #[]) ∧ Below w.heap.size w w' := by
  go_enter Try.func19, Try.ntmps19
  go_wp2_with fail
  refine (wput_nil _ _).mono ?_
  rintro e w1 ⟨rfl, rfl⟩
  go_wp2
  go_end0
  exact ⟨rfl, (Below.refl _ _).alloc (Nat.le_refl _) _⟩

end Go.Proofs.Ytodabjfddobkkaa
