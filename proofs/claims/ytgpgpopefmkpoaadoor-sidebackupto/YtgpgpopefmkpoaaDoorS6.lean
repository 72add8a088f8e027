/-
  The walk of the program's Inline.
-/
import Derived.Test.YtgpgpopefmkpoaaDoorS5
import Derived.Test.YtgpgpopefmkpoaaDoorC4
namespace Go.Proofs.YtgpgpopefmkpoaaDoor
open Go.RowKit
open Ed (Ch)

theorem fresh_builder (w : World) : Lib.IsBuilder 62 5 w.heap.size w.heap.size [] (w.alloc (.cells #[.pointer none, .slice none 0 0] 62)) :=
  .inl ⟨Nat.le_refl _, .slice none 0 0, heap_alloc_new _ _, World.ownsRow_nil _ _ _ _, by simp [Value.ownBlock]⟩
theorem str_any {B b : Nat} {l : Sd.Bs} {w : World} (h : BfAt B b l w) (hB : B ≤ w.heap.size) :
    Calls Tryd.prog 29 #[.pointer (some ⟨b, 0, none⟩)] w fun e w' => e = .returned (.string (bB l)) ∧ Below B w w' := by
  refine (Any.Builder_String_any_k Tryd.lays169 Tryd.Builder_Extra_169 B b l w h hB).mono ?_
  rintro e w' ⟨rfl, _, hb, _⟩
  exact ⟨rfl, hb⟩
theorem under_sliced {w : World} {a : Option Addr} {c x n' c' : Nat} {l : List ByteArray} {B : Nat} (h : RdT w (.slice a l.length c) l) (hu : Under B (.slice a l.length c)) (hx : x + n' ≤ l.length) : Under B (.slice (if c = x then a else a.map (·.add x)) n' c') := by
  intro b o m c2 hv hm
  injection hv with hv1 hv2 hv3
  rcases h with ⟨h0, _⟩ | ⟨b0, o0, c0, hv0, _, _, _⟩
  · omega
  · injection hv0 with e1 e2 e3
    subst e1
    have := hu b0 o0 l.length c rfl (by omega)
    split at hv1
    · cases hv1; exact this
    · rw [Option.map_some, Go.WideShapes.add_plain] at hv1
      cases hv1
      exact this
/-- a part of a list -/
def part (L : List ByteArray) (x y : Nat) : List ByteArray := (L.drop x).take (y - x)
/-- what is told of changes and two lists, from the new one's place k on -/
def inlP (A B : List ByteArray) : List Ch → Nat → Sd.Bs
  | [], k => flatB (part B k B.length)
  | c :: r, k => flatB (part B k c.b.toNat) ++ (markB [91, 45] (part A c.a.toNat (c.a + c.n).toNat) [45, 93] ++ (markB [123, 43] (part B c.b.toNat (c.b + c.m).toNat) [43, 125] ++ inlP A B r (c.b + c.m).toNat))
theorem inlP_at {A B : List ByteArray} {s : List Ch} {k i : Nat} {c : Ch} (h : s[i]? = some c) : inlP A B (s.drop i) k = flatB (part B k c.b.toNat) ++ (markB [91, 45] (part A c.a.toNat (c.a + c.n).toNat) [45, 93] ++ (markB [123, 43] (part B c.b.toNat (c.b + c.m).toNat) [43, 125] ++ inlP A B (s.drop (i + 1)) (c.b + c.m).toNat)) := by
  obtain ⟨hi, he⟩ := List.getElem?_eq_some_iff.1 h
  rw [List.drop_eq_getElem_cons hi, he]
  rfl
theorem markB_le (o c : Sd.Bs) (L : List ByteArray) : (flatB L).length ≤ (markB o L c).length := by
  unfold markB
  split
  · rename_i h; rw [List.length_eq_zero_iff.1 h]; simp [flatB]
  · simp; omega
theorem val_at : ∀ {s : List Ch} {a b n m : Int} {i : Nat} {c : Ch}, Ed.val (s.drop i) a b n m = true → s[i]? = some c → Ed.okC a b n m c ∧ Ed.val (s.drop (i + 1)) (c.a + c.n) (c.b + c.m) n m = true := by
  intro s a b n m i c h hc
  obtain ⟨hi, he⟩ := List.getElem?_eq_some_iff.1 hc
  rw [List.drop_eq_getElem_cons hi, he] at h
  exact Ed.val_cons.1 h
theorem part_len {L : List ByteArray} {x y : Nat} (hy : y ≤ L.length) : (part L x y).length = y - x := by unfold part; rw [List.length_take, List.length_drop]; omega
theorem wpart {B b N x y c : Nat} {l : Sd.Bs} {w : World} {a : Option Addr} {L : List ByteArray} (hN : N = L.length) (hNl : N ≤ 1099511627776) (h : BfAt B b l w) (hr : RdT w (.slice a N c) L) (hu : Under B (.slice a N c)) (hB : B ≤ w.heap.size) (hxy : x ≤ y) (hy : y ≤ N) (hl : l.length + (flatB (part L x y)).length ≤ 140737488355328) :
    Calls Tryd.prog 44 #[.pointer (some ⟨b, 0, none⟩), .slice (if c = x then a else a.map (·.add x)) (y - x) (c - x)] w fun e w' => e = .returned (.tuple #[]) ∧ BfAt B b (l ++ flatB (part L x y)) w' ∧ Frm B b w w' := by
  subst hN
  exact writePieces_any h (rdT_sliced hr hxy hy) (under_sliced hr hu (by omega)) hB (by rw [part_len hy]; omega) hl
theorem mpart {B b N x y c : Nat} {l : Sd.Bs} {w : World} {a : Option Addr} {L : List ByteArray} (p q : ByteArray) (hN : N = L.length) (hNl : N ≤ 1099511627776) (h : BfAt B b l w) (hr : RdT w (.slice a N c) L) (hu : Under B (.slice a N c)) (hB : B ≤ w.heap.size) (hxy : x ≤ y) (hy : y ≤ N) (hl : l.length + p.size + (flatB (part L x y)).length + q.size ≤ 140737488355328) :
    Calls Tryd.prog 45 #[.pointer (some ⟨b, 0, none⟩), .string p, .slice (if c = x then a else a.map (·.add x)) (y - x) (c - x), .string q] w fun e w' => e = .returned (.tuple #[]) ∧ BfAt B b (l ++ markB p.data.toList (part L x y) q.data.toList) w' ∧ Frm B b w w' := by
  subst hN
  exact writeMarked_any p q h (rdT_sliced hr hxy hy) (under_sliced hr hu (by omega)) hB (by rw [part_len hy]; omega) hl

set_option maxHeartbeats 4000000 in
set_option maxRecDepth 100000 in
theorem inline_any {vs va vb : Value} {s : List Ch} {A Bl : List ByteArray} {w : World} (hs : RdC w vs s) (hwf : ∀ c ∈ s, WfC c) (hV : Ed.Val s A.length Bl.length) (ha : RdT w va A) (hb : RdT w vb Bl)
    (hT : (inlP A Bl (Ed.normal s A.length Bl.length) 0).length + 8 ≤ 140737488355328) :
    Calls Tryd.prog 19 #[vs, va, vb] w fun e w' => e = .returned (.tuple #[.string (bB (inlP A Bl (Ed.normal s A.length Bl.length) 0)), .nilIface]) ∧ Below w.heap.size w w' := by
  have HN := hid (normal_any hs hwf hV)
  have hNV := (Ed.normal_Val hV).1
  have hnl := Val_len hNV
  have hla := Ed.cnt_iff.1 hV.1
  have hlb := Ed.cnt_iff.1 hV.2.1
  have HV := hid hNV.2.2
  obtain ⟨s0, c0, rfl⟩ := hs.shape
  obtain ⟨aa, ca, rfl⟩ := ha.shape
  obtain ⟨ab, cb, rfl⟩ := hb.shape
  have hca := rd_cap ha
  have hcb := rd_cap hb
  generalize Ed.normal s A.length Bl.length = S at HN HV hnl hT ⊢
  obtain ⟨T, hTT⟩ : ∃ T, T = inlP A Bl S 0 := ⟨_, rfl⟩
  rw [← hTT] at hT ⊢
  have HTT := hid hTT
  have HA := hid ha
  have HB := hid hb
  have HUA := hid ha.under
  have HUB := hid hb.under
  obtain ⟨n, hn⟩ : ∃ n, n = A.length := ⟨_, rfl⟩
  obtain ⟨m, hm⟩ : ∃ m, m = Bl.length := ⟨_, rfl⟩
  have HNn := hid hn
  have HMm := hid hm
  have HLs := hid (show s.length = s.length from rfl)
  rw [← hn] at HN HV HUA hla hca ⊢
  rw [← hm] at HN HV HUB hlb hcb ⊢
  have HA2 : Hid (∀ w', Below w.heap.size w w' → RdT w' (.slice aa n ca) A) := hid (by rw [hn]; exact fun w' h => HA.out.below h)
  have HB2 : Hid (∀ w', Below w.heap.size w w' → RdT w' (.slice ab m cb) Bl) := hid (by rw [hm]; exact fun w' h => HB.out.below h)
  clear hs hwf hV ha hb hNV hTT hn hm HA HB HLs
  go_enter Tryd.func19, Tryd.ntmps19
  go_wp2_with fail
  refine HN.out.mono ?_
  rintro e w1 ⟨v1, rfl, hO, hb1⟩
  obtain ⟨a1, c1, rfl⟩ := own_shape hO
  have HO := hid hO
  have HB1 := hid hb1
  have HF := hid (Lib.IsBuilderF.of (fresh_builder w1))
  have HBA := hid ((Below.refl w1.heap.size w1).alloc (Nat.le_refl _) (.cells #[.pointer none, .slice none 0 0] 62))
  obtain ⟨N, hN⟩ : ∃ N, N = S.length := ⟨_, rfl⟩
  have HNS := hid hN
  rw [← hN] at hnl ⊢
  have HRD : Hid (∀ w', Below w1.heap.size w1 w' → RdC w' (.slice a1 N c1) S) := hid (by rw [hN]; exact fun w' h => (own_rd hO).below h)
  clear hO hb1 HN hN HO
  go_wp2_with fail
  have HUA1 : Hid (Under w1.heap.size (.slice aa n ca)) := hid (HUA.out.mono HB1.out.size)
  have HUB1 : Hid (Under w1.heap.size (.slice ab m cb)) := hid (HUB.out.mono HB1.out.size)
  obtain ⟨G, hG⟩ : ∃ G, G = w1.heap.size := ⟨_, rfl⟩
  have HG := hid hG
  rw [← hG] at HF HBA HRD HUA1 HUB1 ⊢
  have HF0 : Hid (BfAt G G [] (w1.alloc (.cells #[.pointer none, .slice none 0 0] 62))) := HF
  clear hG HF HUA HUB
  go_loopw [11, 28] (fun dn i wr => ∃ (k db : Nat), k ≤ N ∧ i = .int .i64 k ∧ dn = .int .i64 db ∧ db ≤ m ∧ Hid (∃ da : Int, 0 ≤ da ∧ Ed.val (S.drop k) da db n m = true) ∧ Hid (∃ l, BfAt G G l wr ∧ T = l ++ inlP A Bl (S.drop k) db) ∧ Hid (Below G w1 wr)) (fun _ i _ => N - (intOf i).toNat)
  case atStart => exact ⟨0, 0, Nat.zero_le _, rfl, rfl, Nat.zero_le _, hid ⟨0, by omega, HV.out⟩, hid ⟨[], HF0.out, HTT.out⟩, HBA⟩
  case round =>
    obtain ⟨k, db, hk, rfl, rfl, hdb, HVK, HL, HBW⟩ := hrel
    clear HF0 HBA
    have HBW0 : Hid (Below w.heap.size w wr) := hid (HB1.out.trans (HBW.out.mono (by rw [HG.out]; exact HB1.out.size)))
    have HGz : Hid (G ≤ wr.heap.size) := hid (by have := HBW.out.size; have := HG.out; omega)
    by_cases hlt : k < N
    · obtain ⟨x, hx⟩ : ∃ x, S[k]? = some x := ⟨_, List.getElem?_eq_getElem (by have := HNS.out; omega)⟩
      obtain ⟨da, hda, hv⟩ := HVK.out
      obtain ⟨⟨⟨o1, o2, o3⟩, ⟨o4, o5, o6⟩, _, _⟩, hv2⟩ := val_at hv hx
      obtain ⟨l, hl, hTl⟩ := HL.out
      rw [inlP_at hx] at hTl
      obtain ⟨b, o, rfl, hblt, d0, d1, d2, d3⟩ := rdC_at (HRD.out wr HBW.out) hx
      obtain ⟨ca', cn', cb', cm'⟩ := x
      dsimp only at o1 o2 o3 o4 o5 o6 hv2 hTl d0 d1 d2 d3
      obtain ⟨xa, rfl⟩ : ∃ xa : Nat, ca' = xa := ⟨ca'.toNat, by omega⟩
      obtain ⟨xn, rfl⟩ : ∃ xn : Nat, cn' = xn := ⟨cn'.toNat, by omega⟩
      obtain ⟨xb, rfl⟩ : ∃ xb : Nat, cb' = xb := ⟨cb'.toNat, by omega⟩
      obtain ⟨xm, rfl⟩ : ∃ xm : Nat, cm' = xm := ⟨cm'.toNat, by omega⟩
      obtain ⟨ya, hya⟩ : ∃ ya, ya = xa + xn := ⟨_, rfl⟩
      obtain ⟨yb, hyb⟩ : ∃ yb, yb = xb + xm := ⟨_, rfl⟩
      rw [Int.toNat_natCast, Int.toNat_natCast, show ((xa : Int) + (xn : Int)).toNat = ya by omega, show ((xb : Int) + (xm : Int)).toNat = yb by omega] at hTl
      have HV2 : Hid (∃ da : Int, 0 ≤ da ∧ Ed.val (S.drop (k + 1)) da yb n m = true) := hid ⟨(xa : Int) + (xn : Int), by omega, by rw [hyb]; push_cast; exact hv2⟩
      have g1 : db ≤ xb := by omega
      have g2 : xb ≤ m := by omega
      have g3 : xa ≤ ya := by omega
      have g4 : ya ≤ n := by omega
      have g5 : xb ≤ yb := by omega
      have g6 : yb ≤ m := by omega
      have hTn := congrArg List.length hTl
      rw [List.length_append, List.length_append, List.length_append, List.length_append] at hTn
      have hm1 := markB_le [91, 45] [45, 93] (part A xa ya)
      have hm2 := markB_le [123, 43] [43, 125] (part Bl xb yb)
      have iw1 : IntKind.i64.wrap ((xa : Int) + (xn : Int)) = (ya : Int) := by rw [IntKind.wrap_i64]; omega
      have iw2 : IntKind.i64.wrap ((xb : Int) + (xm : Int)) = (yb : Int) := by rw [IntKind.wrap_i64]; omega
      have i1 : (0 : Int) ≤ (k : Int) := by omega
      have i2 : (k : Int) < (N : Int) := by omega
      have i3 : IntKind.i64.wrap ((k : Int) + 1) = (k : Int) + 1 := by rw [IntKind.wrap_i64]; omega
      have hbN := (Below.refl wr.heap.size wr).alloc (Nat.le_refl _) (.cells #[.int .i64 xa, .int .i64 xn, .int .i64 xb, .int .i64 xm] 45)
      have HN7 := hid (heap_alloc_new wr (.cells #[.int .i64 xa, .int .i64 xn, .int .i64 xb, .int .i64 xm] 45))
      have HL7 := hid (hl.below hbN)
      have HZ7 : Hid (G ≤ (wr.alloc (.cells #[.int .i64 xa, .int .i64 xn, .int .i64 xb, .int .i64 xm] 45)).heap.size) := hid (Nat.le_trans HGz.out hbN.size)
      have HB7 := hid (HBW.out.trans (hbN.mono HGz.out))
      have HB70 := hid (HBW0.out.trans (hbN.mono HBW0.out.size))
      have HGb : Hid (wr.heap.size ≠ G) := hid (by have := hl.lt.1; omega)
      have HTL := hid hTl
      have HTN := hid hTn
      have HM1 := hid hm1
      have HM2 := hid hm2
      clear hTl hTn hm1 hm2 hl hv hv2 hx HVK HL hya hyb hbN o1 o2 o3 o4 o5 o6 hda
      obtain ⟨A1, hA1⟩ : ∃ A1, (if cb = db then ab else ab.map (·.add db)) = A1 := ⟨_, rfl⟩
      obtain ⟨A2, hA2⟩ : ∃ A2, (if ca = xa then aa else aa.map (·.add xa)) = A2 := ⟨_, rfl⟩
      obtain ⟨A3, hA3⟩ : ∃ A3, (if cb = xb then ab else ab.map (·.add xb)) = A3 := ⟨_, rfl⟩
      have HP1 : Hid (∀ (l1 : Sd.Bs) (w' : World), BfAt G G l1 w' → Below w.heap.size w w' → G ≤ w'.heap.size → l1.length + (flatB (part Bl db xb)).length ≤ 140737488355328 → Calls Tryd.prog 44 #[.pointer (some ⟨G, 0, none⟩), .slice A1 (xb - db) (cb - db)] w' fun e w'' => e = .returned (.tuple #[]) ∧ BfAt G G (l1 ++ flatB (part Bl db xb)) w'' ∧ Frm G G w' w'') := hid (fun l1 w' q1 q2 q3 q4 => by
        have := wpart HMm.out (by omega) q1 (HB2.out w' q2) HUB1.out q3 g1 g2 q4
        rw [hA1] at this
        exact this)
      have HP2 : Hid (∀ (l1 : Sd.Bs) (w' : World), BfAt G G l1 w' → Below w.heap.size w w' → G ≤ w'.heap.size → l1.length + 2 + (flatB (part A xa ya)).length + 2 ≤ 140737488355328 → Calls Tryd.prog 45 #[.pointer (some ⟨G, 0, none⟩), .string ⟨#[91, 45]⟩, .slice A2 (ya - xa) (ca - xa), .string ⟨#[45, 93]⟩] w' fun e w'' => e = .returned (.tuple #[]) ∧ BfAt G G (l1 ++ markB [91, 45] (part A xa ya) [45, 93]) w'' ∧ Frm G G w' w'') := hid (fun l1 w' q1 q2 q3 q4 => by
        have := mpart ⟨#[91, 45]⟩ ⟨#[45, 93]⟩ HNn.out (by omega) q1 (HA2.out w' q2) HUA1.out q3 g3 g4 q4
        rw [hA2] at this
        exact this)
      have HP3 : Hid (∀ (l1 : Sd.Bs) (w' : World), BfAt G G l1 w' → Below w.heap.size w w' → G ≤ w'.heap.size → l1.length + 2 + (flatB (part Bl xb yb)).length + 2 ≤ 140737488355328 → Calls Tryd.prog 45 #[.pointer (some ⟨G, 0, none⟩), .string ⟨#[123, 43]⟩, .slice A3 (yb - xb) (cb - xb), .string ⟨#[43, 125]⟩] w' fun e w'' => e = .returned (.tuple #[]) ∧ BfAt G G (l1 ++ markB [123, 43] (part Bl xb yb) [43, 125]) w'' ∧ Frm G G w' w'') := hid (fun l1 w' q1 q2 q3 q4 => by
        have := mpart ⟨#[123, 43]⟩ ⟨#[43, 125]⟩ HMm.out (by omega) q1 (HB2.out w' q2) HUB1.out q3 g5 g6 q4
        rw [hA3] at this
        exact this)
      have HGw : Hid (w.heap.size ≤ G) := hid (by rw [HG.out]; exact HB1.out.size)
      go_wp2_with fail
      generalize wr.alloc (.cells #[.int .i64 xa, .int .i64 xn, .int .i64 xb, .int .i64 xm] 45) = w7 at HN7 HL7 HZ7 HB7 HB70 ⊢
      refine (HP1.out l w7 HL7.out HB70.out HZ7.out (by have := HTN.out; omega)).mono ?_
      rintro e w8 ⟨rfl, hb8, hf8⟩
      have HL8 := hid hb8
      have HN8 := hid (hf8.box HN7.out HGb.out (by decide))
      have HB8 := hid (HB7.out.trans hf8.below)
      have HB80 := hid (HB70.out.trans (hf8.below.mono HGw.out))
      have HZ8 := hid (Nat.le_trans HZ7.out hf8.below.size)
      have k0 : w8.cell? ⟨wr.heap.size, 0, none⟩ = some (.int .i64 xa) := cell_of_blk HN8.out 0
      have k1 : w8.cell? ⟨wr.heap.size, 1, none⟩ = some (.int .i64 xn) := cell_of_blk HN8.out 1
      have k2 : w8.cell? ⟨wr.heap.size, 2, none⟩ = some (.int .i64 xb) := cell_of_blk HN8.out 2
      have k3 : w8.cell? ⟨wr.heap.size, 3, none⟩ = some (.int .i64 xm) := cell_of_blk HN8.out 3
      clear hb8 hf8 HP1 HN7 HL7 HZ7 HB7 HB70
      go_wp2_with fail
      refine (HP2.out _ w8 HL8.out HB80.out HZ8.out (by have := HTN.out; have := HM1.out; rw [List.length_append]; omega)).mono ?_
      rintro e w9 ⟨rfl, hb9, hf9⟩
      have HL9 := hid hb9
      have HN9 := hid (hf9.box HN8.out HGb.out (by decide))
      have HB9 := hid (HB8.out.trans hf9.below)
      have HB90 := hid (HB80.out.trans (hf9.below.mono HGw.out))
      have HZ9 := hid (Nat.le_trans HZ8.out hf9.below.size)
      clear k0 k1 k2 k3
      have k2 : w9.cell? ⟨wr.heap.size, 2, none⟩ = some (.int .i64 xb) := cell_of_blk HN9.out 2
      clear hb9 hf9 HP2 HN8 HL8 HZ8 HB8 HB80
      go_wp2_with fail
      refine (HP3.out _ w9 HL9.out HB90.out HZ9.out (by have := HTN.out; have := HM2.out; rw [List.length_append, List.length_append]; omega)).mono ?_
      rintro e wa ⟨rfl, hba, hfa⟩
      have HLa : Hid (∃ l, BfAt G G l wa ∧ T = l ++ inlP A Bl (S.drop (k + 1)) yb) := hid ⟨_, hba, by rw [HTL.out]; simp⟩
      have HBa := hid (HB9.out.trans hfa.below)
      clear hba hfa HP3 HN9 HL9 HZ9 HB9 HB90 k2
      go_wp2_with fail
      go_roundw
      case rel => exact ⟨k + 1, yb, by omega, by go_num, rfl, g6, HV2, HLa, HBa⟩
      case measure => simp [intOf]; omega
    · obtain ⟨l, hl, hTl⟩ := HL.out
      rw [show S.drop k = [] from List.drop_eq_nil_of_le (by have := HNS.out; omega)] at hTl
      have hTl2 : T = l ++ flatB (part Bl db m) := by rw [hTl, HMm.out]; rfl
      obtain ⟨A1, hA1⟩ : ∃ A1, (if cb = db then ab else ab.map (·.add db)) = A1 := ⟨_, rfl⟩
      have hTn := congrArg List.length hTl2
      rw [List.length_append] at hTn
      have HP1 := wpart HMm.out (by omega) hl (HB2.out wr HBW0.out) HUB1.out HGz.out hdb (Nat.le_refl m) (by omega)
      rw [hA1] at HP1
      have HP := hid HP1
      have HTL := hid hTl2
      have HGw : Hid (w.heap.size ≤ G) := hid (by rw [HG.out]; exact HB1.out.size)
      clear HP1 hTl hTl2 hTn hl HL HVK
      go_wp2_with fail
      refine HP.out.mono ?_
      rintro e w8 ⟨rfl, hb8, hf8⟩
      have HS := hid (str_any hb8 (Nat.le_trans HGz.out hf8.below.size))
      have HB8 := hid (HBW0.out.trans (hf8.below.mono HGw.out))
      clear hb8 hf8 HP
      go_wp2_with fail
      refine HS.out.mono ?_
      rintro e w9 ⟨rfl, hb9⟩
      have HB9 := hid (HB8.out.trans (hb9.mono HGw.out))
      clear hb9 HS
      go_wp2_with fail
      go_ret2
      exact ⟨by rw [HTL.out]; rfl, HB9.out⟩
end Go.Proofs.YtgpgpopefmkpoaaDoor
