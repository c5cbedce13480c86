import Derived.Test.YtodabjfddobkkaaFlds
import Derived.Test.YtodabjfddobkkaaNumS
import Derived.Test.YtodabjfddobkkaaFacts
namespace Go.Proofs.Ytodabjfddobkkaa
open Go.RowKit

def lightF (f : Fld) : Bool := decide (0 ≤ f.kind) && decide (f.kind ≤ 2) && decide (f.m ≤ 300)
def lightU (fs : List Fld) : Bool := decide (fs.length ≤ 40) && fs.all lightF

theorem light_not {fs : List Fld} {k : Nat} (hk : k < fs.length) (h : lightF fs[k] = false) : lightU fs = false := by
  unfold lightU
  rw [List.all_eq_false.2 ⟨_, List.getElem_mem hk, by simp [h]⟩, Bool.and_false]
theorem light_step {fs : List Fld} {k : Nat} (hk : k < fs.length) (h : lightF fs[k] = true) (ht : (fs.take k).all lightF = true) : (fs.take (k + 1)).all lightF = true := by
  rw [take_succ_get _ _ hk, List.all_append, ht]
  simp [h]
theorem light_all {fs : List Fld} {k : Nat} (hk : fs.length ≤ k) (h40 : fs.length ≤ 40) (ht : (fs.take k).all lightF = true) : lightU fs = true := by
  rw [List.take_of_length_le hk] at ht
  unfold lightU
  rw [ht, decide_eq_true h40]; rfl

set_option maxHeartbeats 1600000 in
theorem light_any (B n c : Nat) (A : Option Addr) (fs : List Fld) (w : World) (h : Flds w B A n fs) (hn : n ≤ maxLen) :
    Calls Try.prog 6 #[.slice A n c] w (Ans w (.bool (lightU fs))) := by
  have hl := h.1
  unfold maxLen at hn
  by_cases h40 : 40 < n
  · have hu : lightU fs = false := by unfold lightU; rw [decide_eq_false (by omega)]; rfl
    rw [hu]
    have hi : (n : Int) > 40 := by omega
    go_enter Try.func6, Try.ntmps6
    go_wp2
    go_ret
    exact ⟨rfl, Below.refl _ _⟩
  · have hi : ¬ (n : Int) > 40 := by omega
    have Hl := Lib.hid hl; clear hl
    go_enter Try.func6, Try.ntmps6
    go_wp2
    go_loop [3] (fun i => ∃ k : Nat, k ≤ n ∧ i = .int .i64 k ∧ (fs.take k).all lightF = true) (fun i => n - (intOf i).toNat)
    case atStart => exact ⟨0, Nat.zero_le _, rfl, by simp⟩
    case round =>
      obtain ⟨k, hk, rfl, ht⟩ := hrel
      have Ht := Lib.hid ht; clear ht
      by_cases hlt : k < n
      · have hkf : k < fs.length := by rw [Hl.out]; exact hlt
        obtain ⟨b, o, rfl, hb, c0, c1, c2, c3⟩ := h.at_ hkf
        have hok := (h.get hkf).ok.le
        obtain ⟨f, hf⟩ : ∃ f, f = fs[k] := ⟨_, rfl⟩
        rw [← hf] at c0 c1 c2 c3 hok
        have hno : lightF f = false → lightU fs = false := fun e => light_not hkf (by rw [← hf]; exact e)
        have hyes : lightF f = true → (fs.take (k + 1)).all lightF = true := fun e => light_step hkf (by rw [← hf]; exact e) Ht.out
        have Hno := Lib.hid hno; clear hno
        have Hyes := Lib.hid hyes; clear hyes hf
        by_cases t0 : f.kind < 0
        · have hr := Hno.out (by unfold lightF; rw [decide_eq_false (show ¬ 0 ≤ f.kind by omega)]; rfl)
          have Hr := Lib.hid hr; clear hr
          go_wp2
          go_ret
          exact ⟨by rw [Hr.out]; rfl, Below.refl _ _⟩
        · by_cases t1 : f.kind > 2
          · have hr := Hno.out (by unfold lightF; rw [decide_eq_false (show ¬ f.kind ≤ 2 by omega), Bool.and_false]; rfl)
            have Hr := Lib.hid hr; clear hr
            go_wp2
            go_ret
            exact ⟨by rw [Hr.out]; rfl, Below.refl _ _⟩
          · by_cases t2 : (f.m : Int) > 300
            · have hr := Hno.out (by unfold lightF; rw [decide_eq_false (show ¬ f.m ≤ 300 by omega), Bool.and_false])
              have Hr := Lib.hid hr; clear hr
              go_wp2
              go_ret
              exact ⟨by rw [Hr.out]; rfl, Below.refl _ _⟩
            · have hr := Hyes.out (by unfold lightF; rw [decide_eq_true (show 0 ≤ f.kind by omega), decide_eq_true (show f.kind ≤ 2 by omega), decide_eq_true (show f.m ≤ 300 by omega)]; rfl)
              have Hr := Lib.hid hr; clear hr
              go_wp2
              go_round
              case rel => exact ⟨k + 1, by omega, by go_num, Hr.out⟩
              case measure => simp [intOf]; omega
      · have hr := light_all (k := k) (by rw [Hl.out]; omega) (by rw [Hl.out]; omega) Ht.out
        have Hr := Lib.hid hr; clear hr
        go_wp2
        go_ret
        exact ⟨by rw [Hr.out]; rfl, Below.refl _ _⟩

end Go.Proofs.Ytodabjfddobkkaa
