/-
  The walk of the program's Split: for every text whose lines' headers fit into memory.
-/
import Derived.Test.YtjgjfnmljmmplaaDoorXSmall
namespace Go.Proofs.YtjgjfnmljmmplaaDoor.Cx
open Go.RowKit

/-- texts as values -/
def SV (xs : List (List UInt8)) : List Value := xs.map fun x => .string ⟨x.toArray⟩
theorem SV_length (xs : List (List UInt8)) : (SV xs).length = xs.length := List.length_map _
theorem SV_append (xs ys : List (List UInt8)) : SV (xs ++ ys) = SV xs ++ SV ys := List.map_append
theorem bytes_mk (a : ByteArray) (l : List UInt8) (h : a.data.toList = l) : a = ⟨l.toArray⟩ := by cases a; simp at h; subst h; simp
theorem bytes_eta (a : ByteArray) : (⟨a.data.toList.toArray⟩ : ByteArray) = a := by cases a; simp
theorem SV_one (a : ByteArray) : SV [a.data.toList] = [.string a] := by
  show [Value.string ⟨a.data.toList.toArray⟩] = _
  rw [bytes_eta]
def strLen : Value → Nat | .string s => s.size | _ => 0

theorem Tryd.info9 : (Tryd.prog.info? 9).map (fun i => (i.zero, i.size, i.bytes)) = some (some (.string ⟨#[]⟩), 1, 16) := by kernel_rfl

theorem data_ne (r : ByteArray) (h : r.size ≠ 0) : r.data.toList ≠ [] := fun e => h (by rw [← size_data, e]; rfl)

theorem cut_parts (r : ByteArray) (h : r.size ≠ 0) : Pl.cut r.data.toList = [(r.extract 0 (Pl.fl r.data.toList)).data.toList] ++ Pl.cut (r.extract (Pl.fl r.data.toList) r.size).data.toList := by
  rw [Pl.cut_fl _ (data_ne r h), Lib.extract_data, Lib.extract_data, List.drop_zero, Nat.sub_zero]
  have : (List.drop (Pl.fl r.data.toList) r.data.toList).take (r.size - Pl.fl r.data.toList) = List.drop (Pl.fl r.data.toList) r.data.toList := by
    rw [List.take_of_length_le]
    rw [List.length_drop, size_data]
    exact Nat.le_refl _
  rw [this]
  rfl

set_option maxHeartbeats 1000000 in
theorem split_any (s : ByteArray) (w : World) (hs : s.size < 4611686018427387904) (hn : Pl.num s.data.toList * 16 ≤ 281474976710656) :
    Calls Tryd.prog 14 #[.string s] w fun e w' =>
      e = .returned (.slice (some ⟨w.heap.size, 0, none⟩) (Pl.cut s.data.toList).length (Pl.cut s.data.toList).length) ∧
      w'.ownsRow w.heap.size 9 1 (.slice (some ⟨w.heap.size, 0, none⟩) (Pl.cut s.data.toList).length (Pl.cut s.data.toList).length) (Pl.cut s.data.toList).length (SV (Pl.cut s.data.toList)) ∧ Below w.heap.size w w' := by
  obtain ⟨i0, hi, hz0, hz1, hz2⟩ := info_parts Tryd.info9
  rw [← Pl.num_eq]
  generalize hN : Pl.num s.data.toList = N at hn ⊢
  have HN := hid hN
  clear hN
  go_enter Tryd.func14, Tryd.ntmps14
  go_wp2_with fail
  refine (count_any s _ (by unfold maxLen; omega)).mono ?_
  rintro e w' ⟨rfl, rfl⟩
  rw [HN.out]
  go_wp2_with (at_make; refine wpList_make_own _ rfl _ _ 23 rfl w'.heap.size 9 i0 (.string ⟨#[]⟩) 1 Tryd.underlying23 hi hz0 hz1 .i64 .i64 _ N rfl rfl rfl (by rw [hz2]; omega) (by unfold maxLen; omega) (Nat.le_refl _) ?_; intro w1 hown hgrow)
  have hb1 : Below w'.heap.size w' w1 := (Below.refl _ _).grown hgrow (Nat.le_refl _) (fun k hk => by cases hk)
  go_loopw [0, 3] (fun t v wr => ∃ (r : ByteArray) (done : List (List UInt8)), t = .string r ∧ r.size ≤ s.size ∧ v = .slice (some ⟨w'.heap.size, 0, none⟩) done.length N ∧
      wr.ownsRow w'.heap.size 9 1 (.slice (some ⟨w'.heap.size, 0, none⟩) done.length N) done.length (SV done) ∧ Pl.cut s.data.toList = done ++ Pl.cut r.data.toList ∧ Below w'.heap.size w' wr) (fun t _ _ => strLen t)
  case atStart => exact ⟨s, [], rfl, Nat.le_refl _, rfl, hown, rfl, hb1⟩
  case round =>
    obtain ⟨r, done, rfl, hr, rfl, hown2, hcut, hb⟩ := hrel
    have hN2 : N = done.length + (Pl.cut r.data.toList).length := by rw [← HN.out, Pl.num_eq, hcut, List.length_append]
    have HC := hid hcut
    clear hcut
    by_cases h0 : r.size = 0
    · have he := empty_yes r h0
      have hnil : Pl.cut r.data.toList = [] := by
        have : r.data.toList = [] := by rw [← List.length_eq_zero_iff, size_data]; exact h0
        rw [this]; rfl
      rw [hnil] at hN2
      have hd : done = Pl.cut s.data.toList := by rw [HC.out, hnil, List.append_nil]
      simp only [List.length_nil, Nat.add_zero] at hN2
      have HD := hid hd
      have HN2 := hid hN2
      clear hd hnil hN2 h0
      go_wp2
      go_ret
      rw [← HD.out]
      have hx := HN2.out
      subst hx
      exact ⟨rfl, hown2, hb⟩
    · have he := empty_no r h0
      have hp := cut_parts r h0
      have hfl := Pl.fl_le r.data.toList
      rw [size_data] at hfl
      have hfp := Pl.fl_pos r.data.toList (data_ne r h0)
      have hfit : done.length + 1 ≤ N := by rw [hN2, hp]; simp
      have HP := hid hp
      clear hp hN2
      go_wp2_with fail
      refine (first_any r _ (by unfold maxLen; omega)).mono ?_
      rintro e w2 ⟨rfl, rfl⟩
      generalize hf : Pl.fl r.data.toList = f at hfl hfp HP ⊢
      clear hf
      go_wp2_with (at_builtin; refine wpList_append_fits _ rfl _ _ 23 rfl w'.heap.size 9 i0 1 Tryd.underlying23 hi hz1 w'.heap.size done.length N (SV done) rfl (hown2.alloc _) ⟨w2.heap.size, 0, none⟩ 1 1 [.string (r.extract 0 f)] rfl rfl ?c1 ?c2 hfit ?_)
      case c1 =>
        intro j u hj
        match j, hj with
        | 0, hj => simp at hj; subst hj; simp [Addr.add]
      case c2 => intro u hu; simp at hu; subst hu; rfl
      intro w3 hown3 hgrow3
      have hb3 : Below w'.heap.size w' w3 := (hb.alloc (hb.size) _).grown hgrow3 (by have := hb.size; simp; omega) (fun k hk => by cases hk; exact Nat.le_refl _)
      have hown4 : w3.ownsRow w'.heap.size 9 1 (.slice (some ⟨w'.heap.size, 0, none⟩) (done ++ [(r.extract 0 f).data.toList]).length N) (done ++ [(r.extract 0 f).data.toList]).length (SV (done ++ [(r.extract 0 f).data.toList])) := by
        have e1 : (done ++ [(r.extract 0 f).data.toList]).length = done.length + 1 := by simp
        have e2 : SV (done ++ [(r.extract 0 f).data.toList]) = SV done ++ [.string (r.extract 0 f)] := by rw [SV_append, SV_one]
        rw [e1, e2]; exact hown3
      clear hown3 hgrow3 hown2 hb
      go_wp2
      go_roundw
      case rel => exact ⟨r.extract f r.size, done ++ [(r.extract 0 f).data.toList], rfl, by simp; omega, by simp, hown4, by rw [HC.out, HP.out, List.append_assoc], hb3⟩
      case measure => simp [strLen]; omega
end Go.Proofs.YtjgjfnmljmmplaaDoor.Cx
