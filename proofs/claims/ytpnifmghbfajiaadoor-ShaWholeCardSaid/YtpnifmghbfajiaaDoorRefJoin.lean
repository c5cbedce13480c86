import Derived.Test.YtpnifmghbfajiaaDoorFoot
import Derived.Test.YtpnifmghbfajiaaDoorNumS
import Derived.Test.YtpnifmghbfajiaaDoorFacts
namespace Go.Proofs.YtpnifmghbfajiaaDoor
open Go.RowKit

set_option maxHeartbeats 800000 in
theorem rjoin_any (B n c m d : Nat) (A C : Option Addr) (xs ys : List UInt8) (w : World) (hx : Rd w B A n (Byt xs)) (hy : Rd w B C m (Byt ys)) (hxo : SlOK A n c) (hyo : SlOK C m d) (hB : B ≤ w.heap.size) (hn : n + m ≤ 8796093022208) :
    Calls Tryd.prog 23 #[.slice A n c, .slice C m d] w (NewB 5 w (xs ++ ys)) := by
  have hxl := hx.bytes
  have hyl := hy.bytes
  have hlen : (xs ++ ys).length = n + m := by rw [List.length_append]; omega
  unfold NewB
  rw [hlen]
  clear hxl hyl hlen
  go_enter Tryd.func23, Tryd.ntmps23
  go_wp2_with (refine wp_append_foot rfl _ _ 30 rfl 5 Tryd.underlying30 (.int .u8 0) 1 (by omega) rfl Tryd.info_u8 w.heap.size 0 0 none [] rfl (own_nil _ _ _) B n c A _ rfl hx hxo (Byt_one _) (by omega) (Nat.le_refl _) ?_)
  intro A1 c1 w1 hown1 hg1 hat1
  have hb1 : Below w.heap.size w w1 := (Below.refl w.heap.size w).grown hg1 (Nat.le_refl _) (fun k hk => by cases hk)
  have hsz := hb1.size
  go_wp2_with (refine wp_append_foot rfl _ _ 30 rfl 5 Tryd.underlying30 (.int .u8 0) 1 (by omega) rfl Tryd.info_u8 w.heap.size n c1 A1 _ rfl hown1 B m d C _ rfl (hy.keep fun _ hp => hb1.cell (by omega)) hyo (Byt_one _) (by omega) hsz ?_)
  intro A2 c2 w2 hown2 hg2 hat2
  have hb2 : Below w.heap.size w w2 := hb1.grown hg2 hsz (fun k hk => (hown1.lt k hk).1)
  rw [← Byt_append] at hown2
  have Hown := Lib.hid hown2; clear hown2 hown1 hx hy
  go_wp2
  go_ret
  exact ⟨A2, c2, rfl, Hown.out, hb2⟩

end Go.Proofs.YtpnifmghbfajiaaDoor
