/-
  The walks of Below and Safe of the program.
-/
import Derived.Test.YtmlgggnjghkojabGreatDoorP5
namespace Go.Proofs.YtmlgggnjghkojabGreatDoor
open Go.RowKit Go.Sort

/-! ### Below -/
theorem below_nil {d p : List UInt8} (h : d = []) : Pp.below d p = true := by subst h; rfl
theorem below_no {d p : List UInt8} (h : d ≠ []) (h2 : Lib.hasPrefix p d = false) : Pp.below d p = false := by
  unfold Pp.below
  unfold Lib.hasPrefix at h2
  cases d with
  | nil => exact absurd rfl h
  | cons _ _ => rw [h2]; rfl
theorem below_yes {d p : List UInt8} (h : d ≠ []) (h2 : Lib.hasPrefix p d = true) : Pp.below d p = ((Lib.trimPrefix p d).isEmpty || Lib.hasPrefix (Lib.trimPrefix p d) [47]) := by
  unfold Pp.below Lib.trimPrefix
  rw [h2, if_pos rfl]
  unfold Lib.hasPrefix at h2 ⊢
  cases d with
  | nil => exact absurd rfl h
  | cons _ _ => rw [h2]; rfl

set_option maxHeartbeats 1000000 in
theorem below_any (d p : ByteArray) (w : World) :
    Calls Tryz.prog 18 #[.string d, .string p] w fun e w' => e = .returned (.bool (Pp.below d.data.toList p.data.toList)) ∧ w' = w := by
  obtain ⟨R, hR⟩ : ∃ R : ByteArray, R = ⟨(Lib.trimPrefix p.data.toList d.data.toList).toArray⟩ := ⟨_, rfl⟩
  have hRd : R.data.toList = Lib.trimPrefix p.data.toList d.data.toList := by rw [hR]
  have HR := hid hR
  have HRd := hid hRd
  clear hR hRd
  by_cases hd : d.size = 0
  · have HB := hid (below_nil (p := p.data.toList) (nil_data d hd))
    have t := empty_yes d hd
    clear hd
    go_enter Tryz.func18, Tryz.ntmps18
    go_wp2_with fail
    refine (Tryz.strings_CutPrefix p d _).mono ?_
    rintro e w1 ⟨rfl, rfl⟩
    go_wp2
    go_ret
    exact ⟨by rw [HB.out]; rfl, rfl⟩
  · have hd' : d.data.toList ≠ [] := fun e => hd (data_nil d e)
    have t := empty_no d hd
    cases hp : Lib.hasPrefix p.data.toList d.data.toList with
    | false =>
      have HB := hid (below_no hd' hp)
      have HP := hid hp
      clear hd hd' hp
      go_enter Tryz.func18, Tryz.ntmps18
      go_wp2_with fail
      refine (Tryz.strings_CutPrefix p d _).mono ?_
      rintro e w1 ⟨rfl, rfl⟩
      rw [HP.out]
      go_wp2
      go_ret
      exact ⟨by rw [HB.out]; rfl, rfl⟩
    | true =>
      have HB := hid (below_yes hd' hp)
      have HP := hid hp
      clear hd hd' hp
      by_cases hr : R.size = 0
      · have tr := empty_yes R hr
        have HF : Hid (Pp.below d.data.toList p.data.toList = true) := hid (by rw [HB.out, ← HRd.out, nil_data R hr]; rfl)
        clear hr
        go_enter Tryz.func18, Tryz.ntmps18
        go_wp2_with fail
        refine (Tryz.strings_CutPrefix p d _).mono ?_
        rintro e w1 ⟨rfl, rfl⟩
        rw [HP.out, ← HR.out]
        go_wp2
        go_ret
        exact ⟨by rw [HF.out]; rfl, rfl⟩
      · have tr := empty_no R hr
        have HF : Hid (Pp.below d.data.toList p.data.toList = Lib.hasPrefix R.data.toList (ByteArray.mk #[47]).data.toList) := hid (by
          rw [HB.out, ← HRd.out]
          cases hl : R.data.toList with
          | nil => exact absurd (data_nil R hl) hr
          | cons _ _ => rfl)
        clear hr
        go_enter Tryz.func18, Tryz.ntmps18
        go_wp2_with fail
        refine (Tryz.strings_CutPrefix p d _).mono ?_
        rintro e w1 ⟨rfl, rfl⟩
        rw [HP.out, ← HR.out]
        go_wp2_with fail
        refine (Tryz.strings_HasPrefix R ⟨#[47]⟩ _).mono ?_
        rintro e w2 ⟨rfl, rfl⟩
        go_wp2
        go_ret
        exact ⟨by rw [HF.out]; rfl, rfl⟩

/-! ### Safe -/
theorem oneCell_string : OneCell Value.string := fun _ => rfl
theorem enter_nowhere : ∀ args w, (callFunc 24 args).run Tryz.prog w = .ok (.enter 24 args) w := enters_of Tryz.func24 (by kernel_rfl) rfl
def nw (x : ByteArray) : Bool := Pp.nowhere x.data.toList
theorem gives_nowhere (x : ByteArray) (W : World) : FnGives Tryz.prog 24 #[] #[.string x] (.bool (nw x)) W :=
  (nowhere_any x W).mono fun _ _ ⟨he, hw⟩ => ⟨he, 0, hw⟩
theorem left_eq (L : List (List UInt8)) : DL ((BL L).filter fun x => !nw x) = L.filter fun x => !Pp.nowhere x := by
  induction L with
  | nil => rfl
  | cons x r ih =>
    have e : nw ⟨x.toArray⟩ = Pp.nowhere x := by unfold nw; simp
    have eb : BL (x :: r) = ⟨x.toArray⟩ :: BL r := rfl
    rw [eb, List.filter_cons, List.filter_cons, e]
    cases Pp.nowhere x with
    | true => exact ih
    | false =>
      show DL (_ :: _) = _
      simp only [Bool.not_false, if_true]
      rw [← ih]
      simp [DL]

theorem below_put {B : Nat} {w0 w : World} {g q : Nat} {d : Array ByteArray} (h : Below B w0 w) (hg : B ≤ g) : Below B w0 (putRow Value.string (Sort.ahead w q) g 0 d) :=
  ⟨h.os, h.tape, h.output, by simpa [putRow, mapBlock, Sort.ahead] using h.size, fun k hk => by
    rw [← h.block k hk]
    simp [putRow, mapBlock, Sort.ahead, Array.getElem?_modify, show g ≠ k by omega]⟩

/-- slices.DeleteFunc(pieces, leadsNowhere), over a row that the call made -/
theorem delete_any (b : Nat) (L : List (List UInt8)) (w : World) (h : w.heap[b]? = some (.cells (SV L).toArray 9)) (hL : L.length ≤ 4611686018427387904) (B : Nat) (hB : B ≤ b) :
    Calls Tryz.prog 23 #[.slice (some ⟨b, 0, none⟩) L.length L.length, .func (.func 24) #[] #[]] w fun e w' => ∃ v, e = .returned v ∧ Rd w' v (BL (L.filter fun x => !Pp.nowhere x)) ∧ Below B w w' := by
  have hcell : ∀ j (hj : j < L.length), w.cell? ⟨b, j, none⟩ = some (.string ⟨(L[j]).toArray⟩) := fun j hj => by
    simp [World.cell?, h, SV, hj]
  have hfz : ∀ j, w.frozen? ⟨b, j, none⟩ = false := fun j => by simp [World.frozen?, h]
  have hH : Holds Value.string w b 0 (BL L).toArray := by
    intro j hj
    have hj' : j < L.length := by simpa [BL_length] using hj
    rw [Nat.zero_add]
    refine ⟨?_, hfz j⟩
    rw [hcell j hj', getElem!_pos (BL L).toArray j hj]
    simp [BL]
  have K := Tryz.slices_DeleteFunc Value.string oneCell_string nw 24 #[] enter_nowhere ByteArray.empty (fun w => Tryz.zeroValue9 w) b 0 L.length (BL L).toArray w
    (fun W x _ => gives_nowhere x W) (fun _ _ _ x _ => gives_nowhere x _) hH (by simp [BL_length]; omega) (by simp [BL_length])
  have es : (BL L).toArray.size = L.length := by simp [BL_length]
  rw [es] at K
  refine K.mono ?_
  rintro e w' ⟨rfl, q, rfl⟩
  have el : (BL L).toArray.toList = BL L := by simp
  rw [el]
  have hbl : (BL L).filter (fun x => !nw x) = BL (L.filter fun x => !Pp.nowhere x) := by rw [← left_eq, BL_DL]
  rw [hbl]
  have hlen : (BL (L.filter fun x => !Pp.nowhere x)).length ≤ L.length := by rw [BL_length]; exact List.length_filter_le _ _
  generalize hF : BL (L.filter fun x => !Pp.nowhere x) = F at hlen
  have hput : Holds Value.string (putRow Value.string (Sort.ahead w q) b 0 (F ++ List.replicate (L.length - F.length) ByteArray.empty).toArray) b 0 (F ++ List.replicate (L.length - F.length) ByteArray.empty).toArray :=
    holds_putRow Value.string (Sort.ahead w q) b 0 (BL L).toArray _ (holds_ahead Value.string w q b 0 _ hH) (by simp [BL_length]; omega)
  have hbl2 : Below B w (putRow Value.string (Sort.ahead w q) b 0 (F ++ List.replicate (L.length - F.length) ByteArray.empty).toArray) := below_put (Below.refl _ _) hB
  refine ⟨_, rfl, .inr ⟨b, 0, L.length, rfl, hlen, ?_, fun j x hj => ?_⟩, hbl2⟩
  · exact Nat.lt_of_lt_of_le (lt_of_heap h) hbl2.size
  · have hjF : j < F.length := by
      rcases Nat.lt_or_ge j F.length with k | k
      · exact k
      · rw [List.getElem?_eq_none k] at hj; cases hj
    have hjs : j < (F ++ List.replicate (L.length - F.length) ByteArray.empty).toArray.size := by simp; omega
    rw [(hput j hjs).1, getElem!_pos _ j hjs]
    have : F[j]? = some F[j] := List.getElem?_eq_getElem hjF
    rw [this] at hj
    simp [hjF, Option.some.inj hj]
end Go.Proofs.YtmlgggnjghkojabGreatDoor
