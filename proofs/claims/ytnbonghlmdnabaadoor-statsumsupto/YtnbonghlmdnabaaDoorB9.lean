/-
  The walk of the program's writeRow.
-/
import Derived.Test.YtnbonghlmdnabaaDoorB8
namespace Go.Proofs.YtnbonghlmdnabaaDoor.Sx
open Go.RowKit

/-- a row in work: the builder holds l, the two variables are as they were -/
structure WrI (B b E : Nat) (w w' : World) (k : Cols) (c : Ct) (l : Bs) : Prop where
  bf : BfAt B b l w'
  fr : Frm B b w w'
  ck : w'.heap[E]? = some (clO k.name k.number k.bar k.most)
  cc : w'.heap[E + 1]? = some (ctO c.nm c.a c.d)
  e0 : E ≠ b
  e1 : E + 1 ≠ b
  bs : B ≤ w'.heap.size
theorem WrI.write {B b E : Nat} {w w' w2 : World} {k : Cols} {c : Ct} {l l2 : Bs} (h : WrI B b E w w' k c l) (hb : BfAt B b l2 w2) (hf : Frm B b w' w2) : WrI B b E w w2 k c l2 :=
  ⟨hb, h.fr.trans hf, hf.box h.ck h.e0 (by decide), hf.box h.cc h.e1 (by decide), h.e0, h.e1, Nat.le_trans h.bs hf.below.size⟩
theorem WrI.pure {B b E : Nat} {w w' w2 : World} {k : Cols} {c : Ct} {l : Bs} (h : WrI B b E w w' k c l) (hb : Below w'.heap.size w' w2) : WrI B b E w w2 k c l :=
  h.write (h.bf.below hb) (Frm.of hb h.bs)
theorem bar_no_text {x y : Int} (h : ¬ 0 < x + y) : barT (x, y) = [] := by unfold barT; rw [if_neg h]
theorem bar_text {x y : Int} (h : 0 < x + y) : barT (x, y) = [32] ++ rep x.toNat 43 ++ rep y.toNat 45 := by unfold barT; rw [if_pos h]
theorem sz1 : (ByteArray.mk #[32]).size = 1 := rfl
theorem sz3 : (ByteArray.mk #[32, 124, 32]).size = 3 := rfl
theorem wr_no {l ql dl : Bs} {Q D : ByteArray} {m1 m2 : Nat} {x y : Int} (hQ : Q.data.toList = ql) (hD : D.data.toList = dl) (h : ¬ 0 < x + y) :
    l ++ (ByteArray.mk #[32] ++ Q).data.toList ++ rep m1 32 ++ ([32, 124, 32] : Bs) ++ rep m2 32 ++ D.data.toList ++ [10] = l ++ ([32] ++ ql) ++ rep m1 32 ++ [32, 124, 32] ++ rep m2 32 ++ dl ++ barT (x, y) ++ [10] := by
  rw [bar_no_text h, List.append_nil, add_data, hQ, hD]
theorem wr_yes {l ql dl : Bs} {Q D R1 R2 : ByteArray} {m1 m2 nx ny : Nat} (hQ : Q.data.toList = ql) (hD : D.data.toList = dl) (h1 : R1.data.toList = rep nx 43) (h2 : R2.data.toList = rep ny 45) (h : (0 : Int) < (nx : Int) + (ny : Int)) :
    l ++ (ByteArray.mk #[32] ++ Q).data.toList ++ rep m1 32 ++ ([32, 124, 32] : Bs) ++ rep m2 32 ++ D.data.toList ++ (ByteArray.mk #[32] ++ R1 ++ R2).data.toList ++ [10] = l ++ ([32] ++ ql) ++ rep m1 32 ++ [32, 124, 32] ++ rep m2 32 ++ dl ++ barT ((nx : Int), (ny : Int)) ++ [10] := by
  rw [bar_text h, add_data, add_data, add_data, hQ, hD, h1, h2]
  rfl
set_option maxHeartbeats 4000000 in
theorem writeRow_any {B b : Nat} {l : Bs} {w : World} (k : Cols) (c : Ct) (h : BfAt B b l w) (hB : B ≤ w.heap.size) (hp : PowK w) (ho : OkB c.a c.d k.bar k.most) (hq : (q c).length ≤ k.name) (hd : (dec (c.a + c.d)).length ≤ k.number) (hkn : k.number ≤ 21) (hkb : k.bar ≤ 2000) (hl : l.length + k.name + 9000 ≤ 140737488355328) :
    Calls Tryd.prog 39 #[colsV k, .pointer (some ⟨b, 0, none⟩), .string (qB c), CtV c] w fun e w' => e = .returned (.tuple #[]) ∧ BfAt B b (l ++ row k c) w' ∧ Frm B b w w' := by
  have hbk := bar_ok ho
  have hoa := ho.a0
  have hoa1 := ho.a1
  have hod := ho.d0
  have hod1 := ho.d1
  have how0 := ho.w0
  have how1 := ho.w1
  have hom := ho.m1
  have hom0 := ho.m0
  have HBar := hid (fun w' => bar_any c.a c.d k.bar k.most w' ⟨by omega, by omega⟩ ⟨by omega, by omega⟩ ⟨by omega, by omega⟩ ⟨by omega, by omega⟩)
  have HLn := hid (fun w' => ctLines_any c w' ⟨by omega, by omega⟩)
  have HIt := hid (fun w' hp => itoaK_any (c.a + c.d) w' hp (by omega) (by omega))
  have HN2 := hid (two_new w (clO k.name k.number k.bar k.most) (ctO c.nm c.a c.d))
  have HP := hid hp
  have hE0 : w.heap.size ≠ b := by have := h.lt; omega
  have hE1 : w.heap.size + 1 ≠ b := by have := h.lt; omega
  have HH := hid h
  obtain ⟨m1, hm1⟩ : ∃ m, m = k.name - (q c).length := ⟨_, rfl⟩
  obtain ⟨m2, hm2⟩ : ∃ m, m = k.number - (dec (c.a + c.d)).length := ⟨_, rfl⟩
  obtain ⟨Z, hZ⟩ : ∃ Z, Z = l ++ row k c := ⟨_, rfl⟩
  have HZ : Hid (Z = l ++ ([32] ++ q c) ++ rep m1 32 ++ [32, 124, 32] ++ rep m2 32 ++ dec (c.a + c.d) ++ barT (bar c.a c.d k.bar k.most) ++ [10]) := hid (by rw [hZ, hm1, hm2]; unfold row; simp only [List.append_assoc])
  have HD0 : Hid ((bB (dec (c.a + c.d))).data.toList = dec (c.a + c.d)) := hid (bB_data _)
  have hds : (bB (dec (c.a + c.d))).size = (dec (c.a + c.d)).length := bB_size _
  have HQ0 : Hid ((bB (q c)).data.toList = q c) := hid (bB_data _)
  have hqs : (bB (q c)).size = (q c).length := bB_size _
  obtain ⟨E, hE⟩ : ∃ E, E = w.heap.size := ⟨_, rfl⟩
  unfold colsV CtV qB
  unfold CtV at HLn
  rw [← hE] at HN2 hE0 hE1
  rw [← hZ]
  clear hZ
  generalize bB (dec (c.a + c.d)) = D at HIt HD0 hds ⊢
  generalize dec (c.a + c.d) = dl at HD0 hds hd hm2 HZ ⊢
  generalize c.a + c.d = lx at HLn HIt
  generalize bB (q c) = Q at HQ0 hqs ⊢
  generalize q c = ql at HQ0 hqs hq hm1 HZ ⊢
  generalize bar c.a c.d k.bar k.most = bp at HBar hbk HZ ⊢
  obtain ⟨bx, by'⟩ := bp
  simp only at HBar hbk HZ
  obtain ⟨hbx, hby, hbs, -, -⟩ := hbk
  obtain ⟨nx, rfl⟩ := Int.eq_ofNat_of_zero_le hbx
  obtain ⟨ny, rfl⟩ := Int.eq_ofNat_of_zero_le hby
  have hnx : nx ≤ 2000 := by omega
  have hny : ny ≤ 2000 := by omega
  have s1 : IntKind.i64.wrap ((k.name : Int) - (Q.size : Int)) = (m1 : Int) := by rw [wrapI (by omega) (by omega)]; omega
  have s2 : IntKind.i64.wrap ((k.number : Int) - (D.size : Int)) = (m2 : Int) := by rw [wrapI (by omega) (by omega)]; omega
  have s3 : IntKind.i64.wrap ((nx : Int) + (ny : Int)) = (nx : Int) + (ny : Int) := wrapI (by omega) (by omega)
  have HSZ : Hid (Q.size ≤ k.name ∧ m1 + Q.size = k.name ∧ D.size ≤ 21 ∧ m2 ≤ 21) := hid ⟨by omega, by omega, by omega, by omega⟩
  have hqz : Q.size ≤ 140737488355328 := by omega
  have HL := hid hl
  have HI0 : Hid (∀ w0, Below w.heap.size w w0 → w0.heap[E]? = some (clO k.name k.number k.bar k.most) → w0.heap[E + 1]? = some (ctO c.nm c.a c.d) → WrI B b E w w0 k c l) := hid (fun w0 hb k1 k2 => ⟨HH.out.below hb, Frm.of hb hB, k1, k2, hE0, hE1, Nat.le_trans hB hb.size⟩)
  clear hoa hoa1 hod hod1 hom hom0 ho hbx hby hbs hm1 hm2 hds hqs hq hd hkn hkb hl how0 how1 hE0 hE1 h hp
  go_enter Tryd.func39, Tryd.ntmps39
  go_wp2_with fail
  rw [← hE]
  have HP0 : Hid (PowK ((w.alloc (clO k.name k.number k.bar k.most)).alloc (ctO c.nm c.a c.d))) := hid (HP.out.later (by have := HN2.out.1; rw [hE] at this; exact this))
  have HI1 := hid (HI0.out _ (by have := HN2.out.1; rw [hE] at this; exact this) HN2.out.2.1 HN2.out.2.2)
  clear HI0 HN2 hE
  generalize (w.alloc (.cells #[.int .i64 (k.name : Int), .int .i64 (k.number : Int), .int .i64 k.bar, .int .i64 k.most] 84)).alloc (.cells #[.string c.nm, .int .i64 c.a, .int .i64 c.d] 38) = w0 at HP0 HI1 ⊢
  refine (HLn.out w0).mono ?_
  rintro e w1 ⟨rfl, hb1⟩
  have HIw := hid (HIt.out w1 (HP0.out.later hb1))
  have HI2 := hid (HI1.out.pure hb1)
  clear hb1 HLn HIt HI1 HP0 HP HH
  go_wp2_with fail
  refine HIw.out.mono ?_
  rintro e w2 ⟨rfl, hb2⟩
  have HI3 := hid (HI2.out.pure hb2)
  have HW3 := hid (ws_any (⟨#[32]⟩ ++ Q) HI3.out.bf (by have := HSZ.out; have := HL.out; simp only [add_size, sz1]; omega) HI3.out.bs)
  clear hb2 HIw HI2
  go_wp2_with fail
  refine HW3.out.mono ?_
  rintro e w3 ⟨rfl, hA3, hF3⟩
  have HI4 := hid (HI3.out.write hA3 hF3)
  have c0 : w3.cell? ⟨E, 0, none⟩ = some (.int .i64 (k.name : Int)) := cell_of_blk HI4.out.ck 0
  have HW4 := hid (writeBlanks_any m1 HI4.out.bf HI4.out.bs (by have := HSZ.out; have := HL.out; simp only [List.length_append, dsize, add_size, sz1]; omega))
  clear hA3 hF3 HW3 HI3
  go_wp2_with fail
  refine HW4.out.mono ?_
  rintro e w4 ⟨rfl, hA4, hF4⟩
  have HI5 := hid (HI4.out.write hA4 hF4)
  have HW5 := hid (ws_any ⟨#[32, 124, 32]⟩ HI5.out.bf (by have := HSZ.out; have := HL.out; simp only [List.length_append, rep_len, dsize, add_size, sz1, sz3]; omega) HI5.out.bs)
  clear hA4 hF4 HW4 HI4 c0 s1
  go_wp2_with fail
  refine HW5.out.mono ?_
  rintro e w5 ⟨rfl, hA5, hF5⟩
  have HI6 := hid (HI5.out.write hA5 hF5)
  have c1 : w5.cell? ⟨E, 1, none⟩ = some (.int .i64 (k.number : Int)) := cell_of_blk HI6.out.ck 1
  have HW6 := hid (writeBlanks_any m2 HI6.out.bf HI6.out.bs (by have := HSZ.out; have := HL.out; simp only [List.length_append, rep_len, dsize, add_size, sz1, List.length_cons, List.length_nil]; omega))
  clear hA5 hF5 HW5 HI5
  go_wp2_with fail
  refine HW6.out.mono ?_
  rintro e w6 ⟨rfl, hA6, hF6⟩
  have HI7 := hid (HI6.out.write hA6 hF6)
  have HW7 := hid (ws_any D HI7.out.bf (by have := HSZ.out; have := HL.out; simp only [List.length_append, rep_len, dsize, add_size, sz1, List.length_cons, List.length_nil]; omega) HI7.out.bs)
  clear hA6 hF6 HW6 HI6 c1 s2
  go_wp2_with fail
  refine HW7.out.mono ?_
  rintro e w7 ⟨rfl, hA7, hF7⟩
  have HI8 := hid (HI7.out.write hA7 hF7)
  have y1 : w7.cell? ⟨E + 1, 1, none⟩ = some (.int .i64 c.a) := cell_of_blk HI8.out.cc 1
  have y2 : w7.cell? ⟨E + 1, 2, none⟩ = some (.int .i64 c.d) := cell_of_blk HI8.out.cc 2
  have z2 : w7.cell? ⟨E, 2, none⟩ = some (.int .i64 k.bar) := cell_of_blk HI8.out.ck 2
  have z3 : w7.cell? ⟨E, 3, none⟩ = some (.int .i64 k.most) := cell_of_blk HI8.out.ck 3
  have HLEN : Hid ((l ++ (ByteArray.mk #[32] ++ Q).data.toList ++ rep m1 32 ++ ([32, 124, 32] : Bs) ++ rep m2 32 ++ D.data.toList).length ≤ l.length + k.name + 60) := hid (by have := HSZ.out; simp only [List.length_append, rep_len, dsize, add_size, sz1, List.length_cons, List.length_nil]; omega)
  clear hA7 hF7 HW7 HI7
  go_wp2_with fail
  refine (HBar.out w7).mono ?_
  rintro e w8 ⟨rfl, rfl⟩
  clear HBar y1 y2 z2 z3
  by_cases hpos : (0 : Int) < (nx : Int) + (ny : Int)
  · have HR1 := hid (fun w' => repeat_any 43 nx w' (by omega))
    have HR2 := hid (fun w' => repeat_any 45 ny w' (by omega))
    have hr1 : (bB (rep nx 43)).size = nx := by rw [bB_size, rep_len]
    have hr2 : (bB (rep ny 45)).size = ny := by rw [bB_size, rep_len]
    have HZ2 := hid (wr_yes (l := l) (m1 := m1) (m2 := m2) HQ0.out HD0.out (bB_data (rep nx 43)) (bB_data (rep ny 45)) hpos)
    rw [← HZ.out] at HZ2
    generalize bB (rep nx 43) = R1 at HR1 hr1 HZ2
    generalize bB (rep ny 45) = R2 at HR2 hr2 HZ2
    have HRS := hid (And.intro hr1 hr2)
    have hz1 : R1.size ≤ 2000 := by omega
    have hz2 : R2.size ≤ 2000 := by omega
    clear HZ HQ0 HD0 hr1 hr2
    go_wp2_with fail
    refine (HR1.out w8).mono ?_
    rintro e w9 ⟨rfl, hb9⟩
    have HI9 := hid (HI8.out.pure hb9)
    clear hb9 HR1 HI8
    go_wp2_with fail
    refine (HR2.out w9).mono ?_
    rintro e w10 ⟨rfl, hb10⟩
    have HI10 := hid (HI9.out.pure hb10)
    have HW11 := hid (ws_any (⟨#[32]⟩ ++ R1 ++ R2) HI10.out.bf (by have := HLEN.out; have := HL.out; rw [add_size, add_size, sz1, HRS.out.1, HRS.out.2]; omega) HI10.out.bs)
    clear hb10 HR2 HI9
    go_wp2_with fail
    refine HW11.out.mono ?_
    rintro e w11 ⟨rfl, hA11, hF11⟩
    have HI11 := hid (HI10.out.write hA11 hF11)
    have HW12 := hid (wb10 HI11.out.bf (by have := HLEN.out; have := HL.out; have := HRS.out; rw [List.length_append, dsize, add_size, add_size, sz1, HRS.out.1, HRS.out.2]; omega) HI11.out.bs)
    clear hA11 hF11 HW11 HI10
    go_wp2_with fail
    refine HW12.out.mono ?_
    rintro e w12 ⟨rfl, hA12, hF12⟩
    have HI12 := hid (HI11.out.write hA12 hF12)
    clear hA12 hF12 HW12 HI11
    go_wp2
    exact bodyPost_end (v := .tuple #[]) (results_none Tryd.results39 _ _ _) rfl ⟨rfl, by rw [← HZ2.out]; exact HI12.out.bf, HI12.out.fr⟩
  · have HZ2 := hid (wr_no (l := l) (m1 := m1) (m2 := m2) HQ0.out HD0.out hpos)
    rw [← HZ.out] at HZ2
    have HW12 := hid (wb10 HI8.out.bf (by have := HLEN.out; have := HL.out; omega) HI8.out.bs)
    clear HZ HQ0 HD0
    go_wp2_with fail
    refine HW12.out.mono ?_
    rintro e w12 ⟨rfl, hA12, hF12⟩
    have HI12 := hid (HI8.out.write hA12 hF12)
    clear hA12 hF12 HW12 HI8
    go_wp2
    exact bodyPost_end (v := .tuple #[]) (results_none Tryd.results39 _ _ _) rfl ⟨rfl, by rw [← HZ2.out]; exact HI12.out.bf, HI12.out.fr⟩
end Go.Proofs.YtnbonghlmdnabaaDoor.Sx
