import Derived.Test.YtfkfkmdnffpcmaaAesKey
import Derived.Test.YtfkfkmdnffpcmaaGfCol
namespace Go.Proofs.Ytfkfkmdnffpcmaa
open Go.RowKit

section
variable {P : Program} {t e : TypeId} {k : IntKind} {b m n : Nat}
theorem sizeOf_info {s : Nat} (hs : (P.info? e).map (·.size) = some s) (W : World) : (sizeOf e).run P W = .ok s W := by
  cases hq : P.info? e with
  | none => simp [hq] at hs
  | some i =>
    have : i.size = s := by simpa [hq] using hs
    simp [sizeOf, typeInfo, hq, this]
/-- One of the arrays out of an array of arrays. -/
theorem run_index_w {e2 : TypeId} {n2 s : Nat} (T : ArrW P t e m n) (he : P.underlying e = some (.array n2 e2)) (hs : (P.info? e).map (·.size) = some s) (l ns : List Nat) (i : Nat) (hi : i < m) (hn : ns.length = s) (hl : i * s + s ≤ l.length) (hns : ∀ j x : Nat, ns[j]? = some x → l[i * s + j]? = some x) (W : World) :
    (Instr.index t (.agg (Nums k l)) (.int .i64 (i : Int))).run P W = .ok (.agg (Nums k ns)) W := by
  have hag : (isAgg e).run P W = .ok true W := by unfold isAgg; rw [Sem.run_bind, run_underlying he]; rfl
  have hext : (Nums k l).extract (i * s) (i * s + s) = Nums k ns := by
    apply Array.ext_getElem?
    intro j
    rw [Array.getElem?_extract]
    by_cases hj : j < s
    · rw [if_pos (by rw [Nums_size]; omega), Nums_get (show i * s + j < l.length by omega), Nums_get (show j < ns.length by omega)]
      have h2 := hns j _ (List.getElem?_eq_getElem (show j < ns.length by omega))
      obtain ⟨h3, h4⟩ := List.getElem?_eq_some_iff.1 h2
      rw [h4]
    · rw [if_neg (by rw [Nums_size]; omega), Array.getElem?_eq_none (by rw [Nums_size]; omega)]
  simp [Instr.index, asIntOf, Sem.run_bind, run_underlying T.under W, sizeOf_info hs, part, hag, hi, hext]
/-- A slice from a place on. -/
theorem run_slice_from (hu : P.underlying t = some (.slice e)) (hs : (P.info? e).map (·.size) = some 1) (o len cap lo : Nat) (z : Int) (hz : z = (lo : Int)) (h1 : lo < len) (h2 : len ≤ cap) (W : World) :
    (Instr.slice t (.slice (some ⟨b, o, none⟩) len cap) (some (.int .i64 z)) none none).run P W = .ok (.slice (some ⟨b, o + lo, none⟩) (len - lo) (cap - lo)) W := by
  subst hz
  have hne : cap ≠ lo := by omega
  have hle : lo ≤ len := by omega
  simp [Instr.slice, run_underlying hu, Instr.sliceBounds, run_sliceBound, sizeOf_info hs, hle, hne, add_flat, Sem.run_bind]
/-- .. of an array within an array. -/
theorem run_slice_arr_from (T : ArrT P t e k n) (hs : (P.info? e).map (·.size) = some 1) (o lo : Nat) (z : Int) (hz : z = (lo : Int)) (h1 : lo < n) (W : World) :
    (Instr.sliceAt t (.pointer (some ⟨b, o, none⟩)) (some (.int .i64 z)) none none).run P W = .ok (.slice (some ⟨b, o + lo, none⟩) (n - lo) (n - lo)) W := by
  subst hz
  have hne : n ≠ lo := by omega
  have hle : lo ≤ n := by omega
  simp [Instr.sliceAt, Instr.sureAddr, run_underlying T.under, Instr.sliceBounds, run_sliceBound, sizeOf_info hs, hle, hne, add_flat, Sem.run_bind]
/-- .. whole. -/
theorem run_slice_arr_all (T : ArrT P t e k n) (hs : (P.info? e).map (·.size) = some 1) (o : Nat) (W : World) :
    (Instr.sliceAt t (.pointer (some ⟨b, o, none⟩)) none none none).run P W = .ok (.slice (some ⟨b, o, none⟩) n n) W := by
  simp [Instr.sliceAt, Instr.sureAddr, run_underlying T.under, Instr.sliceBounds, sizeOf_info hs, add_flat, Sem.run_bind]
/-- The address of one, of an array within an array. -/
theorem run_indexAt_off (T : ArrT P t e k n) (hs : (P.info? e).map (·.size) = some 1) (o j q : Nat) (hj : j < n) (hq : o + j = q) (W : World) :
    (Instr.indexAt t (.pointer (some ⟨b, o, none⟩)) (.int .i64 (j : Int))).run P W = .ok (.pointer (some ⟨b, q, none⟩)) W := by
  subst hq
  simp [Instr.indexAt, Instr.sureAddr, asIntOf, run_underlying T.under, sizeOf_info hs, hj, add_flat, Sem.run_bind]
/-- The way out of a function that answers an array of arrays, and a number. -/
theorem ret_two {fn : Func} {a : Act} {w : World} {R : Ending → World → Prop} {l : List Nat} (T : ArrW P t e m n) {p q : Tmp} (hres : fn.results = #[.cell p t, .tmp q])
    (hp : a.tmps.getD p undef = .pointer (some ⟨b, 0, none⟩)) {tb : TypeId} (h : Arr w b tb k l) (hl : l.length = n) {v : Value} (hq : a.tmps.getD q undef = v) (hd : a.defers = []) (hR : R (.returned (.tuple #[.agg (Nums k l), v])) w) : bodyPost P fn R .ret a w := by
  have hp' : a.tmps[p]?.getD undef = .pointer (some ⟨b, 0, none⟩) := by simpa using hp
  have hq' : a.tmps[q]?.getD undef = v := by simpa using hq
  refine bodyPost_ret (v := .tuple #[.agg (Nums k l), v]) ?_ hd hR
  simp [results, hres, hp', hq', asAddr, run_loadVar_row w b tb t (Nums k l) (0, 0) (.array m e) h T.under rfl (by rw [Nums_size, hl]; exact T.size)]
theorem ret_w {fn : Func} {a : Act} {w : World} {R : Ending → World → Prop} {l : List Nat} (T : ArrW P t e m n) {p : Tmp} (hres : fn.results = #[.cell p t])
    (hp : a.tmps.getD p undef = .pointer (some ⟨b, 0, none⟩)) {tb : TypeId} (h : Arr w b tb k l) (hl : l.length = n) (hd : a.defers = []) (hR : R (.returned (.agg (Nums k l))) w) : bodyPost P fn R .ret a w :=
  bodyPost_ret (results_cell_row hres _ w b tb _ (0, 0) (.array m e) hp h T.under rfl (by rw [Nums_size, hl]; exact T.size)) hd hR
end

theorem arrWords : ArrW Try.prog 52 51 60 240 := ⟨by kernel_rfl, by kernel_rfl⟩
theorem info_4 : (Try.prog.info? 51).map (·.size) = some 4 := by kernel_rfl
theorem zeroWords : (Try.prog.info? 52).map (fun i => (i.zero, i.size)) = some (some (.agg (Nums .u8 (Zs 240))), 240) := by kernel_rfl
theorem zeroKeys : (Try.prog.info? 47).map (fun i => (i.zero, i.size)) = some (some (.agg (Nums .u8 (Zs 240))), 240) := by kernel_rfl
theorem zeroKeysR : (Try.prog.info? 40).map (fun i => (i.zero, i.size)) = some (some (.agg (Nums .u8 (Zs 240))), 240) := by kernel_rfl

/-- The words of all keys, as numbers: what stands at a place. -/
def awn (L : List Nat) (i : Nat) : List Nat := (L.drop (4 * i)).take 4
theorem awn_get {L : List Nat} {i : Nat} : ∀ j x : Nat, (awn L i)[j]? = some x → L[4 * i + j]? = some x := by
  intro j x h
  unfold awn at h
  rw [List.getElem?_take] at h
  split at h
  · rw [List.getElem?_drop] at h
    exact h
  · cases h
theorem awn_length {L : List Nat} (h : L.length = 240) {i : Nat} (hi : i < 60) : (awn L i).length = 4 := by simp [awn, h]; omega
theorem awn_abn (L : List UInt8) (i : Nat) : awn (abn L) i = abn (awordAt L i) := by simp [awn, abn, awordAt, List.map_take, List.map_drop]

theorem afill_low {L M : List Nat} {k j : Nat} (h : j < k) (hk : k ≤ L.length) : (L.take k ++ M.drop k)[j]? = L[j]? := by
  rw [List.getElem?_append_left (by simp; omega), List.getElem?_take_of_lt h]
/-- What the two say of all keys. -/
structure KeyFacts (key : List UInt8) (L : List Nat) : Prop where
  len : L.length = 240
  low : ∀ j, j < 32 → ∃ x : UInt8, key[j]? = some x ∧ L[j]? = some x.toNat
  high : ∀ i, 8 ≤ i → i < 60 → ∃ a b c d : UInt8, awn L (i - 1) = four a b c d ∧ ∀ j, j < 4 → ∃ x y : UInt8, (awn L (i - 8))[j]? = some x.toNat ∧ (abn (achgB gboxU i [a, b, c, d]))[j]? = some y.toNat ∧ L[4 * i + j]? = some (x ^^^ y).toNat
theorem keyFacts {key : List UInt8} (h : key.length = 32) : KeyFacts key (abn (akeysU key)) := by
  refine ⟨by rw [abn_length]; exact akeys_length h, fun j hj => ?_, fun i h8 hi => ?_⟩
  · have h1 := akeys_low (f := gboxU) h hj
    have h2 := List.getElem?_eq_getElem (show j < key.length by omega)
    exact ⟨key[j], h2, abn_get (by rw [← h2]; exact h1)⟩
  · obtain ⟨a, b, c, d, e⟩ := afour (awordAt_length (L := akeysU key) (akeys_length h) (i := i - 1) (by omega))
    refine ⟨a, b, c, d, by rw [awn_abn, e]; rfl, fun j hj => ?_⟩
    have h1 := akeys_high (f := gboxU) h h8 hi
    have e' : awordAt (akeysB gboxU key) (i - 1) = [a, b, c, d] := e
    rw [e'] at h1
    have l1 := awordAt_length (L := akeysU key) (akeys_length h) (i := i - 8) (by omega)
    have l2 := achg_length gboxU i (w := [a, b, c, d]) rfl
    obtain ⟨x, y, hx, hy, hxy⟩ := aadd_at (s := awordAt (akeysU key) (i - 8)) (t := achgB gboxU i [a, b, c, d]) (k := j) (by omega) (by omega)
    refine ⟨x, y, by rw [awn_abn]; exact abn_get hx, abn_get hy, abn_get ?_⟩
    have h3 : (awordAt (akeysU key) i)[j]? = some (x ^^^ y) := by rw [← hxy]; exact congrArg (·[j]?) h1
    rw [← awordAt_get hj]
    exact h3

end Go.Proofs.Ytfkfkmdnffpcmaa
