/-
  A map from keys to numbers that the call itself made; the walk of the function that numbers lines.
-/
import Derived.Test.YtjjhidojialjoaaDoorN5
import Derived.Maps.OwnSet
import Derived.Maps.AppendAt
namespace Go.Proofs.YtjjhidojialjoaaDoor
open Go.RowKit
open Go.Maps (Keyed Tidy)

theorem strLaw : Keyed Tryd.prog 9 := Maps.string_keyed Tryd.underlying9
theorem zeroInt (w : World) : (zeroValue 3).run Tryd.prog w = .ok (.int .i64 0) w := by kernel_rfl

/-- a map's datum that has these keys' places -/
def Knows (D : DataW Unit) (ks : List (List UInt8)) : Prop :=
  Tidy D ∧ Maps.size D = ks.length ∧ ∀ k, Maps.has D (.string k) = decide (k ∈ ks) ∧ (k ∈ ks → D.atKey (.string k) (.lit (.int .i64 0)) = .lit (.int .i64 (ks.idxOf k)))
theorem knows_nil : Knows (.map []) [] := ⟨Maps.tidy_empty, rfl, fun k => ⟨rfl, fun h => by cases h⟩⟩
theorem isKey_string (k : List UInt8) : WideAt.IsKeyLit (.string k) := by first | exact ⟨_, rfl⟩ | trivial | simp [WideAt.IsKeyLit]
theorem Knows.put {D : DataW Unit} {ks : List (List UInt8)} (h : Knows D ks) {k : List UInt8} (hk : k ∉ ks) : Knows (D.put (.string k) (.lit (.int .i64 ks.length))) (ks ++ [k]) := by
  obtain ⟨ht, hs, hk'⟩ := h
  have hno : Maps.has D (.string k) = false := by rw [(hk' k).1]; exact decide_eq_false hk
  refine ⟨ht.put (isKey_string k) _, ?_, fun j => ?_⟩
  · rw [Maps.size_put ht, hno, hs]; simp
  · by_cases hj : j = k
    · subst hj
      refine ⟨?_, fun _ => ?_⟩
      · rw [Maps.has_put_same ht.isMap (isKey_string j)]; simp
      · rw [Maps.atKey_put_same ht.isMap (isKey_string j), List.idxOf_append, if_neg hk]; simp
    · have hne : (Lit.string j) ≠ .string k := fun e => hj (by cases e; rfl)
      refine ⟨?_, fun hm => ?_⟩
      · rw [Maps.has_put_other hne, (hk' j).1]; simp [hj]
      · have hm' : j ∈ ks := by simpa [hj] using hm
        rw [Maps.atKey_put_other hne, (hk' j).2 hm', List.idxOf_append, if_pos hm']

/-- block M is such a map -/
def MapAt (w : World) (M : Nat) (ks : List (List UInt8)) : Prop := ∃ D : DataW Unit, w.ownsMap Tryd.prog 9 (plainElem Tryd.prog 3) M ks.length D ∧ Knows D ks
theorem grown_of_below {w w' : World} (h : Below w.heap.size w w') (row : Option Nat) : w.grownBy w' row := ⟨h.os, h.tape, h.output, h.size, fun i hi _ => h.block i hi⟩
theorem MapAt.kept {w w' : World} {M : Nat} {ks : List (List UInt8)} {row : Option Nat} (h : MapAt w M ks) (hg : w.grownBy w' row) (hne : some M ≠ row) : MapAt w' M ks := by
  obtain ⟨D, h1, h2⟩ := h
  exact ⟨D, h1.kept hg hne, h2⟩
theorem MapAt.stays {w w' : World} {M : Nat} {ks : List (List UInt8)} (h : MapAt w M ks) (hb : Below w.heap.size w w') : MapAt w' M ks := h.kept (grown_of_below hb none) (by simp)
theorem MapAt.lt {w : World} {M : Nat} {ks : List (List UInt8)} (h : MapAt w M ks) : M < w.heap.size := by
  obtain ⟨D, h1, _⟩ := h
  exact h1.lt
theorem MapAt.new (w : World) : MapAt (w.alloc (.map #[] 0)) w.heap.size [] := ⟨.map [], World.ownsMap_made _ _ _ _, knows_nil⟩
theorem lt_of_cell {w : World} {b o : Nat} {v : Value} (h : w.cell? ⟨b, o, none⟩ = some v) : b < w.heap.size := World.block_lt_of_cell? w ⟨b, o, none⟩ h

theorem ret_int {a b : Int} (h : a = b) : Ending.returned (.int .i64 a) = .returned (.int .i64 b) := by rw [h]

set_option maxHeartbeats 2000000 in
theorem number_any (s : ByteArray) (e : Int) (be bg M : Nat) (ks : List (List UInt8)) (w : World) (hbe : w.cell? ⟨be, 0, none⟩ = some (.int .i64 e)) (hbg : w.cell? ⟨bg, 0, none⟩ = some (.map (some M))) (hM : MapAt w M ks) (hks : ks.length < 1000000000000) (hs : s.size ≤ 140737488355327) :
    Calls Tryd.prog 16 #[.string s, .pointer (some ⟨be, 0, none⟩), .pointer (some ⟨bg, 0, none⟩)] w fun r w' =>
      r = .returned (.int .i64 (ks.idxOf (In.keyI e s.data.toList))) ∧ MapAt w' M (In.stp ks (In.keyI e s.data.toList)) ∧ w.grownBy w' (some M) := by
  have hlen : (ByteArray.mk (In.keyI e s.data.toList).toArray).size ≤ maxLen := by
    rw [size_mk]
    unfold In.keyI maxLen
    split
    · have := In.key_len e.toNat s.data.toList
      rw [size_data] at this; omega
    · rw [size_data]; omega
  have HKEY : Hid (keyOf Tryd.prog 9 (.string ⟨(In.keyI e s.data.toList).toArray⟩) = some (.string (In.keyI e s.data.toList))) := hid (by
    have := Go.WideMaps.keyOf_string_mk (P := Tryd.prog) Tryd.underlying9 hlen
    rw [data_mk] at this
    exact this)
  clear hlen
  have HC := hid (key_any s e w hs)
  generalize In.keyI e s.data.toList = k at HKEY HC ⊢
  go_enter Tryd.func16, Tryd.ntmps16
  go_wp2_with fail
  refine HC.out.mono ?_
  rintro r w1 ⟨rfl, hb1⟩
  have hbg1 : w1.cell? ⟨bg, 0, none⟩ = some (.map (some M)) := (hb1.cell (p := ⟨bg, 0, none⟩) (lt_of_cell hbg)).trans hbg
  obtain ⟨D, hown, hkn⟩ := hM.stays hb1
  have HG1 := hid (grown_of_below hb1 (some M))
  clear hbe hbg hM hb1 HC
  have hhas := (hkn.2.2 k).1
  have HKN := hid hkn
  clear hkn
  by_cases hm : k ∈ ks
  · rw [decide_eq_true hm] at hhas
    have HM := hid hm
    clear hm
    go_wp2_with (at_lookup; refine wpList_lookup_own_ok_int _ rfl _ _ 44 rfl 9 3 .i64 strLaw Tryd.underlying44 Tryd.underlying3 (zeroInt _) M ks.length D rfl hown _ _ rfl HKEY.out ?_; intro c hat hwc)
    go_ret
    refine ⟨ret_int ?_, ?_, HG1.out⟩
    · have := (HKN.out.2.2 k).2 HM.out
      rw [hat] at this
      simpa using this
    · unfold In.stp
      rw [if_pos HM.out]
      exact ⟨D, hown, HKN.out⟩
  · rw [decide_eq_false hm] at hhas
    have HM := hid hm
    have hsz := HKN.out.2.1
    clear hm
    go_wp2_with (first | (at_lookup; refine wpList_lookup_own_ok_int _ rfl _ _ 44 rfl 9 3 .i64 strLaw Tryd.underlying44 Tryd.underlying3 (zeroInt _) M ks.length D rfl hown _ _ rfl HKEY.out ?_; intro c hat hwc) | (at_len; refine wpList_len_own _ rfl _ 44 rfl 9 3 Tryd.underlying44 _ M ks.length D rfl hown ?_; rw [hsz]) | (at_mapUpdate; refine wpList_mapUpdate_own _ rfl _ _ _ 44 rfl 9 3 strLaw Tryd.underlying44 _ M ks.length D rfl hown (by unfold maxLen; omega) _ _ _ rfl rfl HKEY.out (.lit (.int .i64 ks.length)) [] (plainElem_int Tryd.underlying3 (WalkArith.wf_i64 (by omega))) ?_; intro w2 hown2 hg2))
    go_ret
    refine ⟨ret_int ?_, ?_, HG1.out.trans hg2⟩
    · rw [List.idxOf_eq_length HM.out]
    · unfold In.stp
      rw [if_neg HM.out]
      exact ⟨_, by rw [List.length_append]; exact hown2, HKN.out.put HM.out⟩
end Go.Proofs.YtjjhidojialjoaaDoor
