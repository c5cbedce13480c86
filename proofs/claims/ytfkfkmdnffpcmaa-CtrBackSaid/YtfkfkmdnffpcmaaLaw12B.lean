import Derived.Test.YtfkfkmdnffpcmaaCtrOver
import Derived.Test.YtfkfkmdnffpcmaaCtrAlive
import Derived.Test.YtfkfkmdnffpcmaaRefSame
import Derived.Test.YtfkfkmdnffpcmaaRefMod
import Derived.Test.YtfkfkmdnffpcmaaRow
namespace Go.Proofs.Ytfkfkmdnffpcmaa
open Go.RowKit

/-- The first ones of a slice, wherever it lies. -/
theorem run_slice_front {P : Program} {t e : TypeId} (hu : P.underlying t = some (.slice e)) (hs : (P.info? e).map (·.size) = some 1) (A : Option Addr) (len cap i : Nat) (z : Int) (hz : z = (i : Int)) (h : i ≤ cap) (W : World) :
    (Instr.slice t (.slice A len cap) none (some (.int .i64 z)) none).run P W = .ok (.slice A i cap) W := by
  subst hz
  have ha : Option.map (fun x => Addr.add x 0) A = A := by
    cases A with
    | none => rfl
    | some a => simp [Addr.add]
  simp [Instr.slice, run_underlying hu, Instr.sliceBounds, run_sliceBound, sizeOf_info hs, h, Sem.run_bind, ha]

set_option maxHeartbeats 1600000 in
theorem ctrBack_in (d c p q : Nat) (A C D : Option Addr) (z : Int) (ks ss ts : List UInt8) (w : World) (hk : Rd w w.heap.size A 32 (Byt ks)) (hd : 32 ≤ d) (hs : Rd w w.heap.size C 16 (Byt ss)) (ht : Rd w w.heap.size D p (Byt ts)) (hq : SlOK D p q) (hp : p ≤ 200) :
    Calls Try.prog 5 #[.slice A 32 d, .slice C 16 c, .slice D p q, .int .i64 z] w (Ans w (.bool true)) := by
  have n3 : ¬ (200 < (p : Int)) := by omega
  have hkl : (akeysU ks).length = 240 := akeys_length hk.bytes
  have htl := ht.bytes
  have C1 := fun W (hb : Below w.heap.size w W) => cover_any ks ss ts d c q w.heap.size p A C D W (hk.below hb) hd (hs.below hb) (ht.below hb) hb.size (by omega)
  have C2 := fun k E W (hb : Below w.heap.size w W) (he : Rd W W.heap.size E p (Byt (coverU (akeysU ks) ss ts))) => cover_any ks ss (coverU (akeysU ks) ss ts) d c k W.heap.size p A C E W ((hk.below hb).wider hb.size) hd ((hs.below hb).wider hb.size) he (Nat.le_refl _) (by omega)
  have C3 := fun i W (hi : i ≤ p) (hb : Below w.heap.size w W) => cover_any ks ss (ts.take i) d c q w.heap.size i A C D W (hk.below hb) hd (hs.below hb) ((ht.below hb).front hi) hb.size (by omega)
  rw [cover_twice hkl] at C2
  have Hfirst : Hid (∀ i, i ≤ p → coverU (akeysU ks) ss (ts.take i) = (coverU (akeysU ks) ss ts).take i) := Lib.hid (fun i hi => cover_first hkl ts (by omega))
  have Hl : Hid ((coverU (akeysU ks) ss ts).length = p) := Lib.hid (by rw [cover_length hkl]; exact htl)
  have HT := Lib.hid (fun W (hb : Below w.heap.size w W) => (ht.below hb).wider hb.size)
  have Hcap : Hid (p ≤ q ∧ q ≤ maxLen) := Lib.hid hq.le
  clear hk hd hs ht hq hkl
  revert C1 C2 C3 Hfirst Hl
  generalize coverU (akeysU ks) ss ts = R
  generalize (fun i => coverU (akeysU ks) ss (List.take i ts)) = F
  intro C1 C2 C3 Hfirst Hl
  unfold NewRF at C1 C2 C3
  rw [Hl.out] at C1
  rw [htl] at C2
  have H1 := Lib.hid C1
  have H2 := Lib.hid C2
  have H3 : Hid (∀ i W, i ≤ p → Below w.heap.size w W → Calls Try.prog 14 #[.slice A 32 d, .slice C 16 c, .slice D i q] W (fun e w' => ∃ A' c', e = .returned (.tuple #[.slice A' i c', .int .i64 0]) ∧ Rd w' w'.heap.size A' i (Byt (R.take i)) ∧ SlOK A' i c' ∧ Below W.heap.size W w')) := Lib.hid (fun i W hi hb => by
    have h := C3 i W hi hb
    rw [Hfirst.out i hi, show (R.take i).length = i by rw [List.length_take, Hl.out]; omega] at h
    exact h)
  have hpm : p ≤ maxLen := by unfold maxLen; omega
  clear C1 C2 C3 Hfirst htl
  have hw1 : IntKind.i64.wrap ((p : Int) + 1) = (p : Int) + 1 := IntWalk.i64_in _ ⟨by omega, by omega⟩
  go_enter Try.func5, Try.ntmps5
  go_wp2_with fail
  refine (H1.out w (Below.refl _ _)).mono ?_
  rintro e w1 ⟨A1, c1, rfl, hr1, ho1, hb1⟩
  have Hr1 := Lib.hid hr1
  have Ho1 := Lib.hid ho1
  have Hb1 := Lib.hid hb1
  clear hr1 ho1 hb1
  go_wp2_with fail
  refine (H2.out c1 A1 w1 Hb1.out Hr1.out).mono ?_
  rintro e w2 ⟨A2, c2, rfl, hr2, ho2, hb2⟩
  have Hr2 := Lib.hid hr2
  have HR2 := Lib.hid ((Hr1.out.below hb2).wider hb2.size)
  have Hb2 := Lib.hid (bon Hb1.out hb2)
  clear hr2 ho2 hb2 Hr1
  go_wp2_with fail
  refine (rmod_any z ((p : Int) + 1) w2 (by omega) (by omega)).mono ?_
  rintro e w3 ⟨i, rfl, hi, rfl⟩
  have hip : i ≤ p := by omega
  have hpq : i ≤ q := by have := Hcap.out; omega
  have hsl := fun W => run_slice_front (P := Try.prog) Try.underlying22 info_u8n D p q i (i : Int) rfl hpq W
  have h3 := H3.out i w3 hip Hb2.out
  have him : i ≤ maxLen := by omega
  clear hi hpq
  go_wp2_with fail
  refine h3.mono ?_
  rintro e w4 ⟨A4, c4, rfl, hr4, ho4, hb4⟩
  have Hr4 := Lib.hid hr4
  have HR4 := Lib.hid ((HR2.out.below hb4).wider hb4.size)
  have hs4 := rsame_any w4.heap.size p p c2 q A2 D ts ts w4 ((Hr2.out.below hb4).wider hb4.size) (HT.out w4 (bon Hb2.out hb4)) hpm hpm
  rw [sameL_self] at hs4
  have Hb4 := Lib.hid (bon Hb2.out hb4)
  clear hr4 ho4 hb4 Hr2 HR2 h3 hsl
  go_wp2_with fail
  refine hs4.mono ?_
  rintro e w5 ⟨rfl, hb5⟩
  have hic : i ≤ c1 := by have := Ho1.out.le; omega
  have hsl := fun W => run_slice_front (P := Try.prog) Try.underlying22 info_u8n A1 p c1 i (i : Int) rfl hic W
  have hs5 := rsame_any w5.heap.size i i c4 c1 A4 A1 (R.take i) (R.take i) w5 ((Hr4.out.below hb5).wider hb5.size) (((HR4.out.below hb5).wider hb5.size).front hip) him him
  rw [sameL_self] at hs5
  have Hb5 := Lib.hid (bon Hb4.out hb5)
  clear hb5 hs4 Hr4 HR4 Ho1
  go_wp2_with fail
  refine hs5.mono ?_
  rintro e w6 ⟨rfl, hb6⟩
  have Hb6 := Lib.hid (bon Hb5.out hb6)
  clear hb6 hs5
  go_wp2_with fail
  refine (alive12_any _).mono ?_
  rintro e w7 ⟨rfl, hb7⟩
  go_wp2
  go_ret
  exact ⟨rfl, bon Hb6.out hb7⟩

set_option maxHeartbeats 1600000 in
theorem ctrBack_walk (m d n c p q : Nat) (A C D : Option Addr) (z : Int) (ks ss ts : List UInt8) (w : World) (hk : Rd w w.heap.size A m (Byt ks)) (hd : SlOK A m d) (hs : Rd w w.heap.size C n (Byt ss)) (ht : Rd w w.heap.size D p (Byt ts)) (hq : SlOK D p q) :
    Calls Try.prog 5 #[.slice A m d, .slice C n c, .slice D p q, .int .i64 z] w (Ans w (.bool true)) := by
  by_cases h1 : m = 32
  · subst h1
    by_cases h2 : n = 16
    · subst h2
      by_cases h3 : p ≤ 200
      · exact ctrBack_in d c p q A C D z ks ss ts w hk hd.le.1 hs ht hq h3
      · have n3 : 200 < (p : Int) := by omega
        clear hk hd hs ht hq
        go_enter Try.func5, Try.ntmps5
        go_wp2_with fail
        refine (alive12_any _).mono ?_
        rintro e w1 ⟨rfl, hb⟩
        go_wp2
        go_ret
        exact ⟨rfl, hb⟩
    · have n2 : ((n : Int) != 16) = true := by simp; omega
      clear hk hd hs ht hq
      go_enter Try.func5, Try.ntmps5
      go_wp2_with fail
      refine (alive12_any _).mono ?_
      rintro e w1 ⟨rfl, hb⟩
      go_wp2
      go_ret
      exact ⟨rfl, hb⟩
  · have n1 : ((m : Int) != 32) = true := by simp; omega
    clear hk hd hs ht hq
    go_enter Try.func5, Try.ntmps5
    go_wp2_with fail
    refine (alive12_any _).mono ?_
    rintro e w1 ⟨rfl, hb⟩
    go_wp2
    go_ret
    exact ⟨rfl, hb⟩

end Go.Proofs.Ytfkfkmdnffpcmaa
