import Derived.Test.YtpnifmghbfajiaaDoorFoot
import Derived.Test.YtpnifmghbfajiaaDoorNumS
import Derived.Test.YtpnifmghbfajiaaDoorFacts
import Derived.Lib.SliceRun
namespace Go.Proofs.YtpnifmghbfajiaaDoor
open Go.RowKit

theorem own_lit0 (w : World) (e : TypeId) : (w.alloc (.cells #[] e)).ownsRow w.heap.size e 1 (.slice (some ⟨w.heap.size, 0, none⟩) 0 0) 0 (Byt []) :=
  World.ownsRow_lit w #[] 0 (Nat.le_refl _) (Nat.zero_le _) rfl

set_option maxHeartbeats 400000 in
theorem bclone_any (B n c : Nat) (A : Option Addr) (xs : List UInt8) (w : World) (hx : Rd w B A n (Byt xs)) (hok : SlOK A n c) (hB : B ≤ w.heap.size) (hn : n ≤ 8796093022208) :
    Calls Tryd.prog 38 #[.slice A n c] w (NewB 5 w xs) := by
  have hxl := hx.bytes
  have hnil := fun (w : World) (a : Option Addr) (n c : Nat) => Lib.run_eql_slice_nil (P := Tryd.prog) w 30 5 a n c 0 0 Tryd.underlying30
  rcases hok with ⟨rfl, rfl, rfl⟩ | ⟨a, rfl, hnc, hcm⟩
  · have h0 := List.eq_nil_of_length_eq_zero hxl
    subst h0
    go_enter Tryd.func38, Tryd.ntmps38
    go_wp2
    go_ret
    exact newB_nil _ _ _ (Below.refl _ _)
  · subst hxl
    go_enter Tryd.func38, Tryd.ntmps38
    go_wp2_with (refine wp_append_foot rfl _ _ 30 rfl 5 Tryd.underlying30 (.int .u8 0) 1 (by omega) rfl Tryd.info_u8 w.heap.size 0 0 (some ⟨w.heap.size, 0, none⟩) _ rfl (own_lit0 w _) B _ c _ _ rfl (hx.alloc hB _) (.inr ⟨a, rfl, hnc, hcm⟩) (Byt_one _) (by omega) (by simp) ?_)
    intro A' c' w' hown hg hat
    have hb : Below w.heap.size w w' := ((Below.refl w.heap.size w).alloc (Nat.le_refl _) _).grown hg (by simp) (fun k hk => by simp [Value.ownBlock] at hk; omega)
    go_wp2
    go_ret
    exact ⟨A', c', rfl, hown, hb⟩

end Go.Proofs.YtpnifmghbfajiaaDoor
