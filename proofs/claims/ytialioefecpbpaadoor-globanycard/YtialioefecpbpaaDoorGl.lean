/-
  A list of strings, opened; what Any answers.
-/
import Derived.Test.YtialioefecpbpaaDoorRv
import Derived.ProofKit
import Derived.OpenShut
import Derived.SliceStrings
import Derived.SizedLaws
namespace Go.Proofs.YtialioefecpbpaaDoor
open Go.ChangeShapes Go.WideShapes Go.ChangeAt Go.RowKit

/-- a list of strings reads so -/
def Rd (w : World) (v : Value) (xs : List ByteArray) : Prop :=
  (xs = [] ∧ ∃ a c, v = .slice a 0 c) ∨
  (∃ b o c, v = .slice (some ⟨b, o, none⟩) xs.length c ∧ xs.length ≤ c ∧ b < w.heap.size ∧ ∀ (j : Nat) x, xs[j]? = some x → w.cell? ⟨b, o + j, none⟩ = some (.string x))
theorem Rd.below {w w' : World} {v : Value} {xs : List ByteArray} (h : Rd w v xs) (hb : Below w.heap.size w w') : Rd w' v xs := by
  rcases h with h | ⟨b, o, c, hv, hc, hlt, hcell⟩
  · exact .inl h
  · exact .inr ⟨b, o, c, hv, hc, Nat.lt_of_lt_of_le hlt hb.size, fun j x hj => (hb.cell (p := ⟨b, o + j, none⟩) hlt).trans (hcell j x hj)⟩
theorem Rd.shape {w : World} {v : Value} {xs : List ByteArray} (h : Rd w v xs) : ∃ a c, v = .slice a xs.length c := by
  rcases h with ⟨rfl, a, c, rfl⟩ | ⟨b, o, c, rfl, _⟩
  · exact ⟨a, c, rfl⟩
  · exact ⟨_, _, rfl⟩
theorem laidOut : laidOutB Tryd.prog = true := by kernel_rfl
theorem addr_none {w : World} {a : Addr} {u : Value} (h : w.cell? (a.add 0) = some u) : ∃ b o, a = ⟨b, o, none⟩ ∧ b < w.heap.size := by
  have e : a.add 0 = a := by simp [Addr.add]
  rw [e] at h
  obtain ⟨b, o, spot⟩ := a
  have hspot : spot = none := World.cell?_spot h
  subst hspot
  refine ⟨b, o, rfl, ?_⟩
  rcases Nat.lt_or_ge b w.heap.size with k | k
  · exact k
  · have hn : w.heap[b]? = none := Array.getElem?_eq_none k
    simp [World.cell?, hn] at h

theorem open_rd {H : Type} {enc : TypeId × Value → H} {W : World} {v : Value} {d : DataW H} {p : List MemPlace}
    (hv : ∃ a len cap, v = .slice a len cap) (h : DataW.Trod enc Tryd.prog W 0 (fun _ => true) true 36 v d p) :
    ∃ xs : List ByteArray, Rd W v xs ∧ (∀ x ∈ xs, x.size ≤ maxLen) ∧ ((xs = [] ∧ d = .nil) ∨ ∃ sp, d = .slice (strs xs) sp) ∧ (v = .slice none 0 0 ∨ ∃ ad n c, v = .slice (some ad) n c) := by
  obtain ⟨a0, len0, cap0, rfl⟩ := hv
  obtain ⟨fuel, hf⟩ := h
  have hcell : Tryd.prog.cellsOf 9 = 1 := by kernel_rfl
  rcases open_strings Tryd.underlying36 Tryd.underlying9 hcell hf with ⟨hcs, hx⟩ | ⟨a, len, cap, ss, hcs, _, hl, hm, hss, hx, hcl, hws⟩
  · simp [Value.cells] at hcs hx
    obtain ⟨rfl, rfl, rfl⟩ := hcs
    obtain ⟨rfl, rfl⟩ := hx
    exact ⟨[], .inl ⟨rfl, none, 0, rfl⟩, by simp, .inl ⟨rfl, rfl⟩, .inl rfl⟩
  · simp [Value.cells] at hcs hss
    obtain ⟨rfl, rfl, rfl⟩ := hcs
    obtain ⟨hd, hp⟩ := Prod.mk.inj hx
    refine ⟨ss.take len0, ?_, fun x hx => hws x (List.mem_of_mem_take hx), .inr ⟨_, hd⟩, .inr ⟨_, _, _, rfl⟩⟩
    by_cases h0 : len0 = 0
    · subst h0
      exact .inl ⟨by simp, some a, cap0, rfl⟩
    · obtain ⟨b, o, rfl, hb⟩ := addr_none (hcl 0 (by omega))
      have hlen : (ss.take len0).length = len0 := by rw [List.length_take]; omega
      refine .inr ⟨b, o, cap0, by rw [hlen], by rw [hlen]; exact hl, hb, fun j x hj => ?_⟩
      have hj' : j < len0 := by
        rcases Nat.lt_or_ge j len0 with k | k
        · exact k
        · rw [List.getElem?_eq_none (by rw [hlen]; exact k)] at hj; cases hj
      have := hcl j (by omega)
      rw [List.getElem?_take, if_pos hj'] at hj
      rw [List.getD_eq_getElem?_getD, hj] at this
      rw [Go.WideShapes.add_plain] at this
      exact this

theorem strs_length {H : Type} (xs : List ByteArray) : (strs (H := H) xs).length = xs.length := by
  induction xs with
  | nil => rfl
  | cons x r ih => show (_ :: strs r).length = _; rw [List.length_cons, List.length_cons, ih]
/-- how many strings there are: by the reach -/
theorem rd_sized {H : Type} {d : DataW H} {xs : List ByteArray} {ts : List TypeId} {ds : List (DataW H)} {j : Nat} (h : (DataW.weightsEach Tryd.prog ts ds).all (· ≤ reachBytes) = true)
    (ht : ts[j]? = some 36) (hd : ds[j]? = some d) (hx : (xs = [] ∧ d = .nil) ∨ ∃ sp, d = .slice (strs xs) sp) : xs.length * 16 ≤ 140737488351232 := by
  rcases hx with ⟨rfl, _⟩ | ⟨sp, rfl⟩
  · simp
  · have h1 := sized_slice h ht hd Tryd.underlying36
    have h2 : Tryd.prog.bytesOf 9 = 16 := by kernel_rfl
    rw [h2, strs_length] at h1
    have h3 : reachBytes = 140737488351232 := by decide
    omega

/-- what Any answers: whether a name is meant, the error's number -/
def anyF (N : List UInt8) : Bool → List ByteArray → Bool × Nat
  | b, [] => (b, 0)
  | b, x :: r => match cmp x.data.toList with
    | none => (false, cmpN x.data.toList)
    | some P => anyF N (b || Pg.mt P N) r
theorem anyF_none {N : List UInt8} {b : Bool} {xs : List ByteArray} {k : Nat} {x : ByteArray} (h : xs[k]? = some x) (hc : cmp x.data.toList = none) : anyF N b (xs.drop k) = (false, cmpN x.data.toList) := by
  rw [List.drop_eq_getElem?_toList_append, h]
  show anyF N b (x :: xs.drop (k + 1)) = _
  unfold anyF
  rw [hc]
theorem anyF_some {N : List UInt8} {b : Bool} {xs : List ByteArray} {k : Nat} {x : ByteArray} {P : List Pg.Pt} (h : xs[k]? = some x) (hc : cmp x.data.toList = some P) : anyF N b (xs.drop k) = anyF N (b || Pg.mt P N) (xs.drop (k + 1)) := by
  rw [List.drop_eq_getElem?_toList_append, h]
  show anyF N b (x :: xs.drop (k + 1)) = _
  conv => lhs; unfold anyF
  rw [hc]
theorem anyF_num (N : List UInt8) : ∀ (xs : List ByteArray) (b : Bool), (anyF N b xs).2 = 0 ∨ (anyF N b xs).2 = 2 ∨ (anyF N b xs).2 = 40
  | [], b => .inl rfl
  | x :: r, b => by
    unfold anyF
    cases hc : cmp x.data.toList with
    | none => exact .inr (cmpN_none hc)
    | some P => exact anyF_num N r _
/-- an error as the program hands it back -/
def erT (m : Nat) : Value := if m = 0 then .nilIface else .iface 46 (.int .i64 m)
/-- at a place of a list -/
theorem Rd.at {w : World} {v : Value} {xs : List ByteArray} (h : Rd w v xs) {k : Nat} (hk : k < xs.length) : ∃ b o c x, v = .slice (some ⟨b, o, none⟩) xs.length c ∧ xs[k]? = some x ∧ b < w.heap.size ∧ xs.length ≤ c ∧ w.cell? ⟨b, o + k, none⟩ = some (.string x) := by
  rcases h with ⟨rfl, _⟩ | ⟨b, o, c, hv, hc, hb, hX⟩
  · simp at hk
  · exact ⟨b, o, c, _, hv, List.getElem?_eq_getElem hk, hb, hc, hX k _ (List.getElem?_eq_getElem hk)⟩

set_option maxHeartbeats 4000000 in
set_option maxRecDepth 100000 in
theorem refAny_any {v : Value} {xs : List ByteArray} (n : ByteArray) {w : World} (h : Rd w v xs) (hN : xs.length ≤ 140737488355328) (hn : n.size ≤ 140737488351232) :
    Calls Tryd.prog 16 #[v, .string n] w fun e w' => e = .returned (.tuple #[.bool (anyF n.data.toList false xs).1, .int .i64 (anyF n.data.toList false xs).2]) ∧ Below w.heap.size w w' := by
  have HR := hid h
  obtain ⟨a, c, rfl⟩ := h.shape
  clear h
  go_enter Tryd.func16, Tryd.ntmps16
  go_wp2
  go_loopw [6, 7] (fun t i wr => ∃ (k : Nat) (b : Bool), k ≤ xs.length ∧ t = .bool b ∧ i = .int .i64 k ∧ Below w.heap.size w wr ∧ Hid (anyF n.data.toList b (xs.drop k) = anyF n.data.toList false xs)) (fun _ i _ => xs.length - (intOf i).toNat)
  case atStart => exact ⟨0, false, Nat.zero_le _, rfl, rfl, Below.refl _ _, hid rfl⟩
  case round =>
    obtain ⟨k, b, hk, rfl, rfl, hb, HA⟩ := hrel
    by_cases hlt : k < xs.length
    · obtain ⟨g, o, c', x, hv, hx, hg, hcc, hcell⟩ := HR.out.at hlt
      cases hv
      have hcell' := (hb.cell (p := ⟨g, o + k, none⟩) hg).trans hcell
      have HX := hid hx
      clear hcell hx
      cases hc : cmp x.data.toList with
      | none =>
        have h2 := cmpN_none hc
        have HE := hid (HA.out.symm.trans (anyF_none HX.out hc))
        have HC := fun W => hid (rno hc W)
        generalize cmpN x.data.toList = N at h2 HC HE
        clear hc HA
        rcases h2 with rfl | rfl
        all_goals
          go_wp2_with fail
          refine (HC _).out.mono ?_
          rintro e w1 ⟨rfl, hb1⟩
          go_wp2
          go_ret2
          exact ⟨by rw [HE.out]; rfl, hb.trans (hb1.mono hb.size)⟩
      | some P =>
        have hPl := (cmp_some hc).2.2
        have HE := hid (HA.out.symm.trans (anyF_some HX.out hc))
        have HC := hid hc
        clear hc HA
        go_wp2_with fail
        refine (ryes HC.out _).mono ?_
        rintro e w1 ⟨u, rfl, hO, hb1⟩
        have HO := hid hO
        have hB1 := hb.trans (hb1.mono hb.size)
        clear hO hb hb1 hcell'
        cases b with
        | true =>
          go_wp2
          go_roundw
          case rel => exact ⟨k + 1, true, by omega, rfl, by go_num, hB1, hid HE.out.symm⟩
          case measure => simp [intOf]; omega
        | false =>
          go_wp2_with fail
          refine (refMatch_any n HO.out hn hPl).mono ?_
          rintro e w2 ⟨rfl, hb2⟩
          rw [Bool.false_or] at HE
          go_wp2
          go_roundw
          case rel => exact ⟨k + 1, Pg.mt P n.data.toList, by omega, rfl, by go_num, hB1.trans (hb2.mono hB1.size), hid HE.out.symm⟩
          case measure => simp [intOf]; omega
    · have HE : Hid (anyF n.data.toList false xs = (b, 0)) := hid (by rw [← HA.out, List.drop_eq_nil_of_le (by omega)]; rfl)
      go_wp2
      go_ret2
      exact ⟨by rw [HE.out]; rfl, hb⟩

set_option maxHeartbeats 4000000 in
set_option maxRecDepth 100000 in
theorem any_any {v : Value} {xs : List ByteArray} (n : ByteArray) {w : World} (h : Rd w v xs) (hN : xs.length ≤ 140737488355328) (hn : n.size ≤ 140737488351232) :
    Calls Tryd.prog 15 #[v, .string n] w fun e w' => e = .returned (.tuple #[.bool (anyF n.data.toList false xs).1, erT (anyF n.data.toList false xs).2]) ∧ Below w.heap.size w w' := by
  have HR := hid h
  obtain ⟨a, c, rfl⟩ := h.shape
  clear h
  go_enter Tryd.func15, Tryd.ntmps15
  go_wp2
  go_loopw [6, 13] (fun t i wr => ∃ (k : Nat) (b : Bool), k ≤ xs.length ∧ t = .bool b ∧ i = .int .i64 k ∧ Below w.heap.size w wr ∧ Hid (anyF n.data.toList b (xs.drop k) = anyF n.data.toList false xs)) (fun _ i _ => xs.length - (intOf i).toNat)
  case atStart => exact ⟨0, false, Nat.zero_le _, rfl, rfl, Below.refl _ _, hid rfl⟩
  case round =>
    obtain ⟨k, b, hk, rfl, rfl, hb, HA⟩ := hrel
    by_cases hlt : k < xs.length
    · obtain ⟨g, o, c', x, hv, hx, hg, hcc, hcell⟩ := HR.out.at hlt
      cases hv
      have hcell' := (hb.cell (p := ⟨g, o + k, none⟩) hg).trans hcell
      have HX := hid hx
      clear hcell hx
      cases hc : cmp x.data.toList with
      | none =>
        have h2 := cmpN_none hc
        have HE := hid (HA.out.symm.trans (anyF_none HX.out hc))
        have HC := fun W => hid (cno hc W)
        generalize cmpN x.data.toList = N at h2 HC HE
        clear hc HA
        rcases h2 with rfl | rfl
        all_goals
          go_wp2_with fail
          refine (HC _).out.mono ?_
          rintro e w1 ⟨rfl, hb1⟩
          go_wp2
          go_ret2
          exact ⟨by rw [HE.out]; rfl, hb.trans (hb1.mono hb.size)⟩
      | some P =>
        have hPl := (cmp_some hc).2.2
        have HE := hid (HA.out.symm.trans (anyF_some HX.out hc))
        have HC := hid hc
        clear hc HA
        go_wp2_with fail
        refine (cyes HC.out _).mono ?_
        rintro e w1 ⟨bg, rfl, hO, hb1⟩
        have HO := hid hO
        have hB1 := hb.trans (hb1.mono hb.size)
        clear hO hb hb1 hcell'
        cases b with
        | true =>
          go_wp2
          go_roundw
          case rel => exact ⟨k + 1, true, by omega, rfl, by go_num, hB1, hid HE.out.symm⟩
          case measure => simp [intOf]; omega
        | false =>
          go_wp2_with fail
          refine (match_any n HO.out (by omega) (by omega)).mono ?_
          rintro e w2 ⟨rfl, hb2⟩
          rw [Bool.false_or] at HE
          go_wp2
          go_roundw
          case rel => exact ⟨k + 1, Pg.mt P n.data.toList, by omega, rfl, by go_num, hB1.trans (hb2.mono hB1.size), hid HE.out.symm⟩
          case measure => simp [intOf]; omega
    · have HE : Hid (anyF n.data.toList false xs = (b, 0)) := hid (by rw [← HA.out, List.drop_eq_nil_of_le (by omega)]; rfl)
      go_wp2
      go_ret2
      exact ⟨by rw [HE.out]; rfl, hb⟩
end Go.Proofs.YtialioefecpbpaaDoor
