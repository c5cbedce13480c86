import Derived.Test.YthcogjdbdadbaaaLaw06
import Derived.Test.YthcogjdbdadbaaaRefMod
import Derived.Test.YthcogjdbdadbaaaFoot
import Derived.Test.YthcogjdbdadbaaaNumS2
import Derived.Lib.SliceRun
namespace Go.Proofs.Ythcogjdbdadbaaa
open Go.RowKit

theorem own_lit (w : World) (e : TypeId) : (w.alloc (.cells #[] e)).ownsRow w.heap.size e 1 (.slice (some ⟨w.heap.size, 0, none⟩) 0 0) 0 (Byt []) :=
  World.ownsRow_lit w #[] 0 (Nat.le_refl _) (Nat.zero_le _) rfl
theorem turned_ne {a b : UInt8} (h : (b.toNat : Int) ≠ 0) : a ^^^ b ≠ a := by
  intro e
  apply h
  have h2 : a.toNat ^^^ b.toNat = a.toNat := by rw [← UInt8.toNat_xor, e]
  have h3 : a.toNat ^^^ (a.toNat ^^^ b.toNat) = 0 := by rw [h2, Nat.xor_self]
  rw [← Nat.xor_assoc, Nat.xor_self, Nat.zero_xor] at h3
  omega

theorem crcTurned_out (n cap : Nat) (A : Option Addr) (z : Int) (b : Int) (w : World) (h : 300 < (n : Int) ∨ n = 0 ∨ ((n : Int) ≤ 300 ∧ 0 < n ∧ b = 0)) :
    Calls Try.prog 5 #[.slice A n cap, .int .i64 z, .int .u8 b] w (Ans w (.bool true)) := by
  rcases h with h | rfl | ⟨h, h0, rfl⟩
  · go_enter Try.func5, Try.ntmps5
    go_wp2_with fail
    refine (alive6_any _).mono ?_
    rintro e w1 ⟨rfl, hb⟩
    go_wp2
    go_ret
    exact ⟨rfl, hb⟩
  · go_enter Try.func5, Try.ntmps5
    go_wp2_with fail
    refine (alive6_any _).mono ?_
    rintro e w1 ⟨rfl, hb⟩
    go_wp2
    go_ret
    exact ⟨rfl, hb⟩
  · have n1 : ¬ (300 < (n : Int)) := by omega
    have n2 : ((n : Int) == 0) = false := by simp; omega
    go_enter Try.func5, Try.ntmps5
    go_wp2_with fail
    refine (alive6_any _).mono ?_
    rintro e w1 ⟨rfl, hb⟩
    go_wp2
    go_ret
    exact ⟨rfl, hb⟩

set_option maxHeartbeats 1600000 in
theorem crcTurned_walk (n cap : Nat) (A : Option Addr) (xs : List UInt8) (z : Int) (b : UInt8) (w : World) (hxo : SlOK A n cap) (hx : Rd w w.heap.size A n (Byt xs)) :
    Calls Try.prog 5 #[.slice A n cap, .int .i64 z, .int .u8 (b.toNat : Int)] w (Ans w (.bool true)) := by
  have hsp : (300 < (n : Int) ∨ n = 0 ∨ ((n : Int) ≤ 300 ∧ 0 < n ∧ (b.toNat : Int) = 0)) ∨ (n ≤ 300 ∧ 0 < n ∧ (b.toNat : Int) ≠ 0) := by omega
  rcases hsp with h | ⟨h, h0, hbz⟩
  · exact crcTurned_out n cap A z _ w h
  · have n1 : ¬ (300 < (n : Int)) := by omega
    have n2 : ((n : Int) == 0) = false := by simp; omega
    have n3 : ((b.toNat : Int) == 0) = false := by simp; omega
    have hxl := hx.bytes
    have h1 := fun W hx hB => cof_any w.heap.size n cap A xs W hx hB (by omega)
    have hmod := fun W => rmod_any z n W (by omega) (by omega)
    have Hxo := Lib.hid hxo; clear hxo
    have Hbz := Lib.hid hbz; clear hbz
    go_enter Try.func5, Try.ntmps5
    go_wp2_with (refine wp_append_foot rfl _ _ 22 rfl 5 Try.underlying22 (.int .u8 0) 1 (by omega) rfl Try.info_u8 w.heap.size 0 0 (some ⟨w.heap.size, 0, none⟩) _ rfl (own_lit w _) w.heap.size _ cap _ _ rfl (hx.alloc (Nat.le_refl _) _) Hxo.out (Byt_one _) (by omega) (by simp) ?_)
    intro A' c' w' hown hg hat
    have hb : Below w.heap.size w w' := ((Below.refl w.heap.size w).alloc (Nat.le_refl _) _).grown hg (by simp) (fun k hk => by simp [Value.ownBlock] at hk; omega)
    obtain ⟨g, rfl, hgb, -⟩ := own_some hown (by omega)
    have hown' : w'.ownsRow w.heap.size 5 1 (.slice (some ⟨g, 0, none⟩) n c') n (Byt xs) := by simpa [Byt] using hown
    clear hown hg hat
    go_wp2_with fail
    refine (hmod _).mono ?_
    rintro e w2 ⟨i, rfl, hi, rfl⟩
    have hin : i < n := by omega
    have hix : i < xs.length := by omega
    have hcell := own_cell hown' hix
    have hf := hown'.frozenAt i
    have hxor := xor_u8 xs[i] b
    have hset := own_put hown' i (bits .xor .u8 (xs[i].toNat : Int) (b.toNat : Int)) (xs[i] ^^^ b) hxor
    have hne : crcU (xs.set i (xs[i] ^^^ b)) ≠ crcU xs := crcU_turned hix (turned_ne Hbz.out)
    have hr2 := Rd.of_own hset
    have hb2 := hb.setCell (p := ⟨g, i, none⟩) hgb (.int .u8 (bits .xor .u8 (xs[i].toNat : Int) (b.toNat : Int)))
    clear hown' hset
    have h2 := cof_any _ n c' (some ⟨g, 0, none⟩) (xs.set i (xs[i] ^^^ b)) _ hr2 (Nat.le_refl _) (by omega)
    clear hxor hr2
    revert hne h2 h1
    generalize crcU (xs.set i (xs[i] ^^^ b)) = t
    generalize crcU xs = s
    intro h1 hne h2
    have Hb2 := Lib.hid hb2; clear hb2 hb
    have Hne : Hid (((t : Int) != (s : Int)) = true) := Lib.hid (by simp; omega)
    clear hne
    go_wp2_with fail
    refine h2.mono ?_
    rintro e w3 ⟨rfl, hb3⟩
    have hx3 := hx.below (bon Hb2.out hb3)
    have Hb3 := Lib.hid (bon Hb2.out hb3); clear hb3
    go_wp2_with fail
    refine (h1 _ hx3 Hb3.out.size).mono ?_
    rintro e w4 ⟨rfl, hb4⟩
    have Hb4 := Lib.hid (bon Hb3.out hb4); clear hb4
    have hne := Hne.out
    go_wp2_with fail
    refine (alive6_any _).mono ?_
    rintro e w5 ⟨rfl, hb5⟩
    go_wp2
    go_ret
    exact ⟨rfl, bon Hb4.out hb5⟩

end Go.Proofs.Ythcogjdbdadbaaa
