/-
  The walks of Parts and Join of the program: for every string; for every list of strings that reads so.
-/
import Derived.Test.YtmlgggnjghkojabDoorP2
namespace Go.Proofs.YtmlgggnjghkojabDoor
open Go.RowKit

theorem ret2 {a b c d : Value} (h1 : a = c) (h2 : b = d) : Ending.returned (.tuple #[a, b]) = .returned (.tuple #[c, d]) := by rw [h1, h2]

/-! ### Parts -/
theorem parts_long {p : List UInt8} (h : 4096 < p.length) : Pp.parts p = ([], 2) := by unfold Pp.parts; rw [if_pos h]
theorem parts_nil {p : List UInt8} (h : p = []) : Pp.parts p = ([], 0) := by subst h; rfl
theorem parts_bad {p : List UInt8} (h1 : ¬ 4096 < p.length) (h2 : p ≠ []) (h3 : Pp.namesN (Pp.pieces p) ≠ 0) : Pp.parts p = ([], Pp.namesN (Pp.pieces p)) := by
  unfold Pp.namesN at h3 ⊢
  unfold Pp.parts
  cases hb : (Pp.pieces p).any Pp.bad with
  | true => rw [if_neg h1, if_neg h2, if_pos rfl]; rfl
  | false => rw [hb] at h3; exact absurd rfl h3
theorem names_ok {l : List (List UInt8)} (h : Pp.namesN l = 0) : l.any Pp.bad = false := by
  unfold Pp.namesN at h
  cases hb : l.any Pp.bad with
  | true => rw [hb] at h; cases h
  | false => rfl
theorem parts_deep {p : List UInt8} (h1 : ¬ 4096 < p.length) (h2 : p ≠ []) (h3 : Pp.namesN (Pp.pieces p) = 0) (h4 : 64 < (Pp.pieces p).length) : Pp.parts p = ([], 2) := by
  unfold Pp.parts
  rw [if_neg h1, if_neg h2, if_neg (by rw [names_ok h3]; simp), if_pos h4]
theorem parts_good {p : List UInt8} (h1 : ¬ 4096 < p.length) (h2 : p ≠ []) (h3 : Pp.namesN (Pp.pieces p) = 0) (h4 : ¬ 64 < (Pp.pieces p).length) : Pp.parts p = (Pp.pieces p, 0) := by
  unfold Pp.parts
  rw [if_neg h1, if_neg h2, if_neg (by rw [names_ok h3]; simp), if_neg h4]

/-- strings.Split at the slash -/
theorem split_any (s : ByteArray) (L : List (List UInt8)) (hL : Pp.pieces s.data.toList = L) (w : World) (hs : s.size < 4294967281) (hm : MaxVar w) :
    Calls Tryd.prog 18 #[.string s, .string ⟨#[47]⟩] w fun e w' => ∃ b, b = w.heap.size ∧ e = .returned (.slice (some ⟨b, 0, none⟩) L.length L.length) ∧
      OwnS w' w.heap.size (.slice (some ⟨b, 0, none⟩) L.length L.length) L ∧ Below w.heap.size w w' ∧ w'.heap[b]? = some (.cells (SV L).toArray 9) := by
  subst hL
  obtain ⟨m, hm⟩ := hm
  have hlen := Lib.splitB_all ⟨#[47]⟩ (by decide) 0 (Lib.countB s ⟨#[47]⟩) s rfl
  rw [split_pieces, BL_length] at hlen
  have hpl := Pp.pieces_length s.data.toList
  rw [size_data] at hpl
  refine (Tryd.strings_Split s ⟨#[47]⟩ m w hs hm (by decide)).mono ?_
  rintro e w' ⟨rfl, rfl⟩
  rw [split_pieces, SV_BL, ← hlen]
  exact ⟨_, rfl, rfl, OwnS.new w _ (by omega), (Below.refl _ _).alloc (Nat.le_refl _) _, heap_alloc_new _ _⟩

set_option maxHeartbeats 1000000 in
set_option maxRecDepth 100000 in
theorem parts_any (p : ByteArray) (w : World) (hm : MaxVar w) :
    Calls Tryd.prog 12 #[.string p] w fun e w' => ∃ v, e = .returned (.tuple #[v, errV (Pp.parts p.data.toList).2]) ∧ OwnS w' w.heap.size v (Pp.parts p.data.toList).1 ∧ Below w.heap.size w w' := by
  have HM := hid hm
  clear hm
  by_cases h1 : 4096 < p.size
  · have HP := hid (parts_long (p := p.data.toList) (by rw [size_data]; exact h1))
    go_enter Tryd.func12, Tryd.ntmps12
    go_wp2
    go_ret2
    rw [HP.out]
    exact ⟨_, rfl, OwnS.nil _ _, Below.refl _ _⟩
  · by_cases h2 : p.size = 0
    · have HP := hid (parts_nil (nil_data p h2))
      have t2 := empty_yes p h2
      clear h2
      go_enter Tryd.func12, Tryd.ntmps12
      go_wp2
      go_ret2
      rw [HP.out]
      exact ⟨_, rfl, OwnS.nil _ _, Below.refl _ _⟩
    · have t2 := empty_no p h2
      have H1 : Hid (¬ 4096 < p.data.toList.length) := hid (by rw [size_data]; exact h1)
      have H2 : Hid (p.data.toList ≠ []) := hid (fun e => h2 (data_nil p e))
      have hpl := Pp.pieces_length p.data.toList
      rw [size_data] at hpl
      obtain ⟨L, hL⟩ : ∃ L, Pp.pieces p.data.toList = L := ⟨_, rfl⟩
      rw [hL] at hpl
      have HL := hid hL
      clear h2 hL
      go_enter Tryd.func12, Tryd.ntmps12
      go_wp2_with fail
      refine (split_any p L HL.out _ (by omega) HM.out).mono ?_
      rintro e w1 ⟨_, rfl, rfl, hown, hb1, _⟩
      have HO := hid hown
      have HR := hid (rd_own hown)
      have hbl : (BL L).length ≤ 140737488355328 := by rw [BL_length]; omega
      clear hown
      go_wp2_with fail
      refine (names_rd HR.out hbl).mono ?_
      rintro e w2 ⟨rfl, hb2⟩
      rw [DL_BL]
      have HO2 := hid (HO.out.stays hb2)
      have hB2 := hb1.trans (hb2.mono hb1.size)
      by_cases hz : Pp.namesN (L) = 0
      · by_cases h4 : 64 < (L).length
        · have HP := hid (parts_deep H1.out H2.out (by rw [HL.out]; exact hz) (by rw [HL.out]; exact h4))
          rw [hz, errV_zero]
          clear hz
          go_wp2
          go_ret2
          rw [HP.out]
          exact ⟨_, rfl, OwnS.nil _ _, hB2⟩
        · have HP := hid (parts_good H1.out H2.out (by rw [HL.out]; exact hz) (by rw [HL.out]; exact h4))
          rw [hz, errV_zero]
          clear hz
          go_wp2
          go_ret2
          rw [HP.out]
          exact ⟨_, rfl, by rw [HL.out]; exact HO2.out, hB2⟩
      · have HP := hid (parts_bad H1.out H2.out (by rw [HL.out]; exact hz))
        have HE := hid (errV_pos hz)
        rw [HE.out]
        clear hz
        go_wp2
        go_ret2
        rw [HP.out]
        exact ⟨_, by rw [HL.out, HE.out]; rfl, OwnS.nil _ _, hB2⟩

/-! ### Join -/
theorem join_bad {l : List (List UInt8)} (h : Pp.namesN l ≠ 0) : Pp.join l = ([], Pp.namesN l) := by
  unfold Pp.namesN at h ⊢
  unfold Pp.join
  cases hb : l.any Pp.bad with
  | true => rw [if_pos rfl]; rfl
  | false => rw [hb] at h; exact absurd rfl h
theorem join_deep {l : List (List UInt8)} (h : Pp.namesN l = 0) (h2 : 64 < l.length) : Pp.join l = ([], 2) := by
  unfold Pp.join
  rw [if_neg (by rw [names_ok h]; simp), if_pos h2]
theorem join_long {l : List (List UInt8)} (h : Pp.namesN l = 0) (h2 : ¬ 64 < l.length) (h3 : 4096 < (Pp.glue l).length) : Pp.join l = ([], 2) := by
  unfold Pp.join
  rw [if_neg (by rw [names_ok h]; simp), if_neg h2, if_pos h3]
theorem join_good {l : List (List UInt8)} (h : Pp.namesN l = 0) (h2 : ¬ 64 < l.length) (h3 : ¬ 4096 < (Pp.glue l).length) : Pp.join l = (Pp.glue l, 0) := by
  unfold Pp.join
  rw [if_neg (by rw [names_ok h]; simp), if_neg h2, if_neg h3]
theorem lib_join (l : List (List UInt8)) : Lib.join l [47] = Pp.glue l := by
  cases l with
  | nil => rfl
  | cons x r => rw [Lib.join_cons]; rfl
theorem tails_len : ∀ (r : List (List UInt8)), (∀ x ∈ r, x.length ≤ 255) → (Pp.tails r).length ≤ r.length * 256
  | [], _ => by simp [Pp.tails]
  | x :: r, h => by
    have ih := tails_len r fun y hy => h y (by simp [hy])
    have hx := h x (by simp)
    unfold Pp.tails at ih ⊢
    simp only [List.map_cons, List.flatten_cons, List.length_append, List.length_cons]
    omega
theorem glue_len {l : List (List UInt8)} (h : l.any Pp.bad = false) (h2 : l.length ≤ 64) : (Pp.glue l).length ≤ 16384 := by
  have hb : ∀ x ∈ l, x.length ≤ 255 := fun x hx => (Pp.bad_false (Pp.any_bad_false h x hx)).2.2.2.1
  cases l with
  | nil => simp [Pp.glue]
  | cons x r =>
    have h1 := hb x (by simp)
    have h3 := tails_len r fun y hy => hb y (by simp [hy])
    simp only [Pp.glue, List.length_append]
    simp at h2
    omega

/-- strings.Join with slashes, over whatever reads as strings -/
theorem sjoin_rd {w : World} {v : Value} {xs : List ByteArray} (h : Rd w v xs) (hN : xs.length ≤ 140737488355328) (hlen : (Pp.glue (DL xs)).length ≤ 140737488355328) :
    Calls Tryd.prog 15 #[v, .string ⟨#[47]⟩] w fun e w' => e = .returned (.string ⟨(Pp.glue (DL xs)).toArray⟩) ∧ Below w.heap.size w w' := by
  rcases h with ⟨rfl, a, c, rfl⟩ | ⟨b, o, c, rfl, hc, hb, hX⟩
  · exact (Tryd.strings_Join_none a c ⟨#[47]⟩ w).mono fun _ _ ⟨he, hw⟩ => ⟨he, hw ▸ Below.refl _ _⟩
  · have e : Lib.join (xs.map (·.data.toList)) (ByteArray.mk #[47]).data.toList = Pp.glue (DL xs) := lib_join (DL xs)
    have K := Tryd.strings_Join b o c xs ⟨#[47]⟩ w hX hb hN hc (by rw [e]; exact hlen)
    rw [e] at K
    exact K

set_option maxHeartbeats 1000000 in
set_option maxRecDepth 100000 in
theorem join_rd {w : World} {v : Value} {xs : List ByteArray} (h : Rd w v xs) (hn : xs.length ≤ 140737488355328) :
    Calls Tryd.prog 11 #[v] w fun e w' => e = .returned (.tuple #[.string ⟨(Pp.join (DL xs)).1.toArray⟩, errV (Pp.join (DL xs)).2]) ∧ Below w.heap.size w w' := by
  have HR := hid h
  obtain ⟨a, c, rfl⟩ := h.shape
  clear h
  go_enter Tryd.func11, Tryd.ntmps11
  go_wp2_with fail
  refine (names_rd HR.out hn).mono ?_
  rintro e w1 ⟨rfl, hb1⟩
  have HR1 := hid (HR.out.below hb1)
  by_cases hz : Pp.namesN (DL xs) = 0
  · have HZ := hid hz
    rw [hz, errV_zero]
    clear hz
    by_cases h2 : 64 < xs.length
    · have HP := hid (join_deep HZ.out (by rw [DL_length]; exact h2))
      go_wp2
      go_ret2
      exact ⟨by rw [HP.out]; rfl, hb1⟩
    · have h2' : ¬ 64 < (DL xs).length := by rw [DL_length]; exact h2
      have hgl := glue_len (names_ok HZ.out) (by omega)
      have H2 := hid h2'
      clear h2'
      go_wp2_with fail
      refine (sjoin_rd HR1.out hn (by omega)).mono ?_
      rintro e w2 ⟨rfl, hb2⟩
      have hB2 := hb1.trans (hb2.mono hb1.size)
      obtain ⟨G, hG⟩ : ∃ G : ByteArray, G = ⟨(Pp.glue (DL xs)).toArray⟩ := ⟨_, rfl⟩
      have hGs : G.size = (Pp.glue (DL xs)).length := by rw [hG]; exact size_mk _
      rw [← hG]
      have HG := hid hG
      clear hG
      by_cases h3 : 4096 < G.size
      · have HP := hid (join_long HZ.out H2.out (by omega))
        clear hGs
        go_wp2
        go_ret2
        exact ⟨by rw [HP.out]; rfl, hB2⟩
      · have HP := hid (join_good HZ.out H2.out (by omega))
        clear hGs
        go_wp2
        go_ret2
        exact ⟨by rw [HP.out, ← HG.out]; rfl, hB2⟩
  · have HP := hid (join_bad hz)
    have HE := hid (errV_pos hz)
    rw [HE.out]
    clear hz
    go_wp2
    go_ret2
    exact ⟨by rw [HP.out, HE.out]; rfl, hb1⟩
end Go.Proofs.YtmlgggnjghkojabDoor
