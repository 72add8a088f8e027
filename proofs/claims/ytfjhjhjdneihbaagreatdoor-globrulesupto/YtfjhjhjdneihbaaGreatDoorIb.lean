/-
  What the law GlobRules meets: a list of strings as an argument; both Reads and both Ignoreds in one form.
-/
import Derived.Test.YtfjhjhjdneihbaaGreatDoorIa
import Derived.Test.YtfjhjhjdneihbaaGreatDoorGw
import Derived.Test.YtfjhjhjdneihbaaGreatDoorHr
import Derived.ProofKit
import Derived.OpenShut
import Derived.SliceStrings
import Derived.SizedLaws
namespace Go.Proofs.YtfjhjhjdneihbaaGreatDoor
open Go.ChangeShapes Go.WideShapes Go.ChangeAt Go.RowKit

theorem laidOut : laidOutB Tryz.prog = true := by kernel_rfl
theorem addr_none {w : World} {a : Addr} {u : Value} (h : w.cell? (a.add 0) = some u) : ∃ b o, a = ⟨b, o, none⟩ ∧ b < w.heap.size := by
  have e : a.add 0 = a := by simp [Addr.add]
  rw [e] at h
  obtain ⟨b, o, spot⟩ := a
  have hspot : spot = none := World.cell?_spot h
  subst hspot
  refine ⟨b, o, rfl, ?_⟩
  rcases Nat.lt_or_ge b w.heap.size with k | k
  · exact k
  · have hn : w.heap[b]? = none := Array.getElem?_eq_none k
    simp [World.cell?, hn] at h

theorem open_rd {H : Type} {enc : TypeId × Value → H} {W : World} {v : Value} {d : DataW H} {p : List MemPlace}
    (hv : ∃ a len cap, v = .slice a len cap) (h : DataW.Trod enc Tryz.prog W 0 (fun _ => true) true 22 v d p) :
    ∃ xs : List ByteArray, Rd W v xs ∧ (∀ x ∈ xs, x.size ≤ maxLen) ∧ ((xs = [] ∧ d = .nil) ∨ ∃ sp, d = .slice (strs xs) sp) ∧ (v = .slice none 0 0 ∨ ∃ ad n c, v = .slice (some ad) n c) := by
  obtain ⟨a0, len0, cap0, rfl⟩ := hv
  obtain ⟨fuel, hf⟩ := h
  have hcell : Tryz.prog.cellsOf 9 = 1 := by kernel_rfl
  rcases open_strings Tryz.underlying22 Tryz.underlying9 hcell hf with ⟨hcs, hx⟩ | ⟨a, len, cap, ss, hcs, _, hl, hm, hss, hx, hcl, hws⟩
  · simp [Value.cells] at hcs hx
    obtain ⟨rfl, rfl, rfl⟩ := hcs
    obtain ⟨rfl, rfl⟩ := hx
    exact ⟨[], .inl ⟨rfl, none, 0, rfl⟩, by simp, .inl ⟨rfl, rfl⟩, .inl rfl⟩
  · simp [Value.cells] at hcs hss
    obtain ⟨rfl, rfl, rfl⟩ := hcs
    obtain ⟨hd, hp⟩ := Prod.mk.inj hx
    refine ⟨ss.take len0, ?_, fun x hx => hws x (List.mem_of_mem_take hx), .inr ⟨_, hd⟩, .inr ⟨_, _, _, rfl⟩⟩
    by_cases h0 : len0 = 0
    · subst h0
      exact .inl ⟨by simp, some a, cap0, rfl⟩
    · obtain ⟨b, o, rfl, hb⟩ := addr_none (hcl 0 (by omega))
      have hlen : (ss.take len0).length = len0 := by rw [List.length_take]; omega
      refine .inr ⟨b, o, cap0, by rw [hlen], by rw [hlen]; exact hl, hb, fun j x hj => ?_⟩
      have hj' : j < len0 := by
        rcases Nat.lt_or_ge j len0 with k | k
        · exact k
        · rw [List.getElem?_eq_none (by rw [hlen]; exact k)] at hj; cases hj
      have := hcl j (by omega)
      rw [List.getElem?_take, if_pos hj'] at hj
      rw [List.getD_eq_getElem?_getD, hj] at this
      rw [Go.WideShapes.add_plain] at this
      exact this

theorem strs_length {H : Type} (xs : List ByteArray) : (strs (H := H) xs).length = xs.length := by
  induction xs with
  | nil => rfl
  | cons x r ih => show (_ :: strs r).length = _; rw [List.length_cons, List.length_cons, ih]
theorem bulk_strs {H : Type} (ss : List ByteArray) : Rows.uptoBulkAll (strs (H := H) ss) = (DL ss).flatten.length + ss.length := by
  induction ss with
  | nil => rfl
  | cons s r ih =>
    have e : Rows.uptoBulkAll (strs (H := H) (s :: r)) = (s.data.toList.length + 1) + Rows.uptoBulkAll (strs (H := H) r) := by
      show Rows.uptoBulkAll (DataW.lit (.string s.data.toList) :: strs r) = _
      simp only [Rows.uptoBulkAll, Rows.uptoBulk]
    rw [e, ih]
    show _ = (s.data.toList ++ (DL r).flatten).length + (r.length + 1)
    rw [List.length_append]
    omega
/-- how many strings there are: by the reach, by the bulk -/
theorem rd_sized {H : Type} {d : DataW H} {xs : List ByteArray} {ts : List TypeId} {ds : List (DataW H)} {j : Nat} (h : (DataW.weightsEach Tryz.prog ts ds).all (· ≤ reachBytes) = true)
    (ht : ts[j]? = some 22) (hd : ds[j]? = some d) (hx : (xs = [] ∧ d = .nil) ∨ ∃ sp, d = .slice (strs xs) sp) : xs.length * 16 ≤ 140737488351232 := by
  rcases hx with ⟨rfl, _⟩ | ⟨sp, rfl⟩
  · simp
  · have h1 := sized_slice h ht hd Tryz.underlying22
    have h2 : Tryz.prog.bytesOf 9 = 16 := by kernel_rfl
    rw [h2, strs_length] at h1
    have h3 : reachBytes = 140737488351232 := by decide
    omega
theorem rd_bulk {H : Type} {d : DataW H} {xs : List ByteArray} (hx : (xs = [] ∧ d = .nil) ∨ ∃ sp, d = .slice (strs xs) sp) : (DL xs).flatten.length + xs.length ≤ Rows.uptoBulk d := by
  rcases hx with ⟨rfl, _⟩ | ⟨sp, rfl⟩
  · simp [DL]
  · simp only [Rows.uptoBulk]
    rw [bulk_strs]
    omega
theorem SV_one_cell (l : List (List UInt8)) : ∀ u ∈ SV l, u.oneCell' = true := by
  intro u hu
  obtain ⟨x, _, rfl⟩ := List.mem_map.1 hu
  rfl
theorem src_cells {w : World} {ad : Addr} {n c : Nat} {xs : List ByteArray} (h : Rd w (.slice (some ad) n c) xs) :
    n = xs.length ∧ ∀ j u, (SV (DL xs))[j]? = some u → w.cell? (ad.add j) = some u := by
  rcases h with ⟨rfl, a, c', hv⟩ | ⟨b, o, c', hv, hc, hb, hX⟩
  · cases hv
    exact ⟨rfl, fun j u hj => by simp [SV, DL] at hj⟩
  · cases hv
    refine ⟨rfl, fun j u hj => ?_⟩
    rw [SV_DL, List.getElem?_map] at hj
    cases hx : xs[j]? with
    | none => rw [hx] at hj; cases hj
    | some x =>
      rw [hx] at hj
      simp at hj
      subst hj
      rw [Go.WideShapes.add_plain]
      exact hX j x hx
theorem small_of {xs : List ByteArray} {N : Nat} (h : (DL xs).flatten.length + xs.length ≤ N) : ∀ x ∈ xs, x.size ≤ N := by
  induction xs with
  | nil => intro x hx; cases hx
  | cons y r ih =>
    have e : (DL (y :: r)).flatten.length = y.size + (DL r).flatten.length := by
      show (y.data.toList ++ (DL r).flatten).length = _
      rw [List.length_append, size_data]
    rw [e, List.length_cons] at h
    intro x hx
    rcases List.mem_cons.1 hx with rfl | hx
    · omega
    · exact ih (by omega) x hx
def St (w W : World) : Prop := ErrVar W ∧ MaxVar W ∧ Below w.heap.size w W
theorem St.next {w W W' : World} (h : St w W) (hb : Below W.heap.size W W') : St w W' := ⟨h.1.below hb, h.2.1.below hb, h.2.2.trans (hb.mono h.2.2.size)⟩
theorem works_st {w W : World} (hS : St w W) : Calls Tryz.prog 9 #[] W fun e w' => e = .returned (.bool true) ∧ Below w.heap.size w w' :=
  (works_any W hS.1).mono fun _ _ ⟨h, hb⟩ => ⟨h, hS.2.2.trans (hb.mono hS.2.2.size)⟩
theorem rdF_ddL (l : List UInt8) : rdF l.length l 1 [] = match ddL (lns l) 1 [] with | .inl e => .inl e | .inr r => .inr (r.map toRu) := by
  rw [rdF_rdL l.length l 1 [] (Nat.le_refl _)]
  exact ddL_rdL (lns l) 1 []
theorem own_len (ps : List Pg.Pi) : ps.length ≤ (Pg.own ps).length := by
  unfold Pg.own
  split
  · rw [List.length_append]; omega
  · exact Nat.le_refl _
theorem toRu_len (d : DR) : d.ps.length ≤ (toRu d).ps.length := by
  unfold toRu
  dsimp only
  split
  · exact own_len _
  · rw [List.length_cons]; omega
/-- a text that holds rules: what both read of it -/
theorem good_of {l : List UInt8} {ds : List DR} (hl : l.length ≤ 4194304) (h : ddL (lns l) 1 [] = .inr ds) : Fits (ds.map toRu) ∧ ds.length ≤ 100000000 ∧ (∀ d ∈ ds, Fine d) ∧ ∀ d ∈ ds, d.ps.length ≤ 100000000 := by
  have h1 := rul_read l
  rw [rdF_ddL, h] at h1
  obtain ⟨f1, f2⟩ := rul_fit (by omega) h1
  rw [List.length_map] at f2
  refine ⟨f1, by omega, ddL_fine _ _ _ _ (fun d hd => by cases hd) h, fun d hd => ?_⟩
  have h2 := toRu_len d
  exact Nat.le_trans h2 (f1 _ (List.mem_map_of_mem hd)).1
end Go.Proofs.YtfjhjhjdneihbaaGreatDoor
