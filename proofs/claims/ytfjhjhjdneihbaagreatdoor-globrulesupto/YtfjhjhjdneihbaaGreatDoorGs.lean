/-
  The walk of mark.
-/
import Derived.Test.YtfjhjhjdneihbaaGreatDoorGr
import Derived.Deep.QuietTactic
namespace Go.Proofs.YtfjhjhjdneihbaaGreatDoor
open Go.RowKit

theorem runs_app (ps : List Pg.Pi) : ∀ (a : List (List UInt8)) (pl : List Nat) (b : List (List UInt8)), Pg.runs ps pl (a ++ b) = Pg.runs ps (Pg.runs ps pl a) b
  | [], _, _ => rfl
  | _ :: a, _, b => runs_app ps a _ b
theorem mns_none {ps : List Pg.Pi} {dirs dir : Bool} {ns : List (List UInt8)} {k j : Nat} (h : Pg.runs ps (Pg.first ps) (ns.take (k + 1)) = []) (hj : k ≤ j) : mns ps dirs dir ns j = false := by
  have e : ns.take (j + 1) = ns.take (k + 1) ++ (ns.take (j + 1)).drop (k + 1) := by
    have h1 := List.take_append_drop (k + 1) (ns.take (j + 1))
    rw [List.take_take, Nat.min_eq_left (by omega)] at h1
    exact h1.symm
  have hM : Pg.M ps (ns.take (j + 1)) = false := by
    cases hm : Pg.M ps (ns.take (j + 1)) with
    | false => rfl
    | true =>
      have := (Pg.runs_means ps _).2 hm
      rw [e, runs_app, h, Pg.runs_nil] at this
      cases this
  unfold mns
  rw [hM]; rfl
theorem mns_at {ps : List Pg.Pi} {dirs dir : Bool} {ns : List (List UInt8)} {k e : Nat} (h : (Pg.runs ps (Pg.first ps) (ns.take (k + 1))).getLast? = some e) : mns ps dirs dir ns k = (decide (e = ps.length) && ((dir || decide (k + 1 < ns.length)) || !dirs)) := by
  obtain ⟨f1, f2⟩ := first_fine ps
  obtain ⟨r1, r2⟩ := runs_fine (ns.take (k + 1)) _ f1 f2
  unfold mns
  congr 1
  rw [last_in r1 (fun a ha => (r2 a ha).1) h, Bool.eq_iff_iff, decide_eq_true_eq]
  exact (Pg.runs_means ps _).symm
theorem ownI_mono {w : World} {B B' : Nat} {v : Value} {l : List Nat} (h : OwnI w B v l) (hb : B' ≤ B) : OwnI w B' v l := by
  refine ⟨h.1, ?_⟩
  rcases h.2 with h | ⟨g, cap, cur, hv, hg, r⟩
  · exact .inl h
  · exact .inr ⟨g, cap, cur, hv, Nat.le_trans hb hg, r⟩
theorem grown_of_below {w w' : World} (h : Below w.heap.size w w') (row : Option Nat) : w.grownBy w' row := ⟨h.os, h.tape, h.output, h.size, fun i hi _ => h.block i hi⟩
theorem grown_trans {a b c : World} {row : Option Nat} (h : a.grownBy b row) (k : b.grownBy c row) : a.grownBy c row :=
  ⟨k.os.trans h.os, k.tape.trans h.tape, k.output.trans h.output, Nat.le_trans h.size k.size, fun i hi hne => (k.block i (Nat.lt_of_lt_of_le hi h.size) hne).trans (h.block i hi hne)⟩
theorem grown_at {w wr : World} {g k : Nat} {u : Value} (h : w.grownBy wr (some g)) : w.grownBy (wr.setCell ⟨g, k, none⟩ u) (some g) :=
  ⟨h.os, h.tape, h.output, by rw [show (wr.setCell ⟨g, k, none⟩ u).heap.size = wr.heap.size by simp [World.setCell]]; exact h.size, fun i hi hne => (Below.heap_setCell _ _ _ _ (fun e => hne (by rw [e]))).trans (h.block i hi hne)⟩
theorem ownI_set {w : World} {B g k : Nat} {v u : Value} {l : List Nat} (h : OwnI w B v l) (hg : g < B) : OwnI (w.setCell ⟨g, k, none⟩ u) B v l := by
  refine ⟨h.1, ?_⟩
  rcases h.2 with h | ⟨b, cap, cur, hv, hb, hh, r⟩
  · exact .inl h
  · exact .inr ⟨b, cap, cur, hv, hb, (Below.heap_setCell _ _ _ _ (by show b ≠ g; omega)).trans hh, r⟩
/-- the first k beginnings done -/
def fkk (g f : Nat → Bool) (k j : Nat) : Bool := if j < k then g j else f j

set_option maxHeartbeats 8000000 in
set_option maxRecDepth 100000 in
theorem mark_any {w1 w : World} {b c gi : Nat} {ps : List Pg.Pi} {dirs back dir : Bool} {vn : Value} {xs : List ByteArray} {f : Nat → Bool} (hP : PcAt w1 b ps) (hb : b < w1.heap.size) (hN : Rd w1 vn xs) (hgi : w1.heap.size ≤ gi) (hB : Below w1.heap.size w1 w) (hR : BoolR w gi xs.length f)
    (hn : ps.length ≤ 100000000) (hl : xs.length ≤ 100000000) (hs : ∀ x ∈ xs, x.size ≤ 140737488351232) (hPl : ∀ P, some P ∈ ps → P.length ≤ 1024) :
    Calls Tryz.prog 21 #[.agg #[.slice (some ⟨b, 0, none⟩) ps.length c, .bool dirs, .bool back], .slice (some ⟨gi, 0, none⟩) xs.length xs.length, vn, .bool dir] w fun e w' => e = .returned (.tuple #[]) ∧ BoolR w' gi xs.length (mrk ps dirs back dir (DL xs) f) ∧ Below w1.heap.size w1 w' := by
  obtain ⟨a, cn, rfl⟩ := hN.shape
  have hgl := hR.lt
  have hzB := hB.size
  obtain ⟨W, hW⟩ : ∃ W, W = w.alloc (.cells #[.slice (some ⟨b, 0, none⟩) ps.length c, .bool dirs, .bool back] 46) := ⟨_, rfl⟩
  have hX0 : W.heap[w.heap.size]? = some (.cells #[.slice (some ⟨b, 0, none⟩) ps.length c, .bool dirs, .bool back] 46 (0, 0)) := by rw [hW]; exact heap_alloc_new _ _
  have hbW : Below w.heap.size w W := by rw [hW]; exact (Below.refl _ _).alloc (Nat.le_refl _) _
  have hsz : W.heap.size = w.heap.size + 1 := by rw [hW]; simp
  have HBW : Hid (Below w1.heap.size w1 W) := hid (hB.trans (hbW.mono hzB))
  have HRW := hid (hR.later hbW)
  have HP := hid hP
  have HN := hid hN
  have HS := hid hs
  have HPl := hid hPl
  have HX := hid hX0
  have HW := hid hW
  clear hP hN hs hPl hX0 hR hbW hB
  go_enter Tryz.func21, Tryz.ntmps21
  go_wp2_with fail
  rw [← HW.out]
  clear HW hW
  refine (reach_any (B := w.heap.size + 1) (pl := []) 0 (HP.out.later hb HBW.out) (by omega) (by omega) (OwnI.nil _ _) (Nat.zero_le _) (.inl (Nat.le_refl _)) hn).mono ?_
  rintro e wa ⟨v0, rfl, hO, hba⟩
  have HO : Hid (OwnI wa (w.heap.size + 1) v0 (Pg.runs ps (Pg.first ps) ((DL xs).take 0))) := hid hO
  have HGa : Hid (W.grownBy wa (some gi)) := hid (grown_of_below (by rw [hsz]; exact hba) _)
  have HRa := hid (HRW.out.later (by rw [hsz]; exact hba))
  clear hO hba HRW
  go_wp2
  go_loopw [8, 16] (fun t8 t16 wr => ∃ k : Nat, k ≤ xs.length ∧ t16 = .int .i64 k ∧ OwnI wr (w.heap.size + 1) t8 (Pg.runs ps (Pg.first ps) ((DL xs).take k)) ∧ W.grownBy wr (some gi) ∧ BoolR wr gi xs.length (fkk (mrk ps dirs back dir (DL xs) f) f k)) (fun _ t16 _ => xs.length - (intOf t16).toNat)
  case atStart => exact ⟨0, Nat.zero_le _, rfl, HO.out, HGa.out, HRa.out.to fun j _ => by unfold fkk; rw [if_neg (by omega)]⟩
  case round =>
    obtain ⟨k, hk, rfl, hO, hG, hR⟩ := hrel
    clear HO HGa HRa
    have HO := hid hO
    have HG := hid hG
    have HR := hid hR
    have HBr : Hid (Below w1.heap.size w1 wr) := hid (HBW.out.grown hG (by omega) (fun j hj => by injection hj with hj; omega))
    have hzr := hG.size
    clear hO hG hR
    by_cases hlt : k < xs.length
    · obtain ⟨x, hx⟩ : ∃ x, xs[k]? = some x := ⟨_, List.getElem?_eq_getElem hlt⟩
      have hsx := HS.out x (List.mem_of_getElem? hx)
      have HT : Hid ((DL xs).take (k + 1) = (DL xs).take k ++ [x.data.toList]) := hid (by rw [List.take_add_one]; unfold DL; rw [List.getElem?_map, hx]; rfl)
      obtain ⟨b2, o2, rfl, hcx⟩ : ∃ b o, a = some ⟨b, o, none⟩ ∧ wr.cell? ⟨b, o + k, none⟩ = some (.string x) := by
        rcases (HN.out.below HBr.out) with ⟨hz, _⟩ | ⟨b, o, c1, hv, _, _, hX⟩
        · rw [hz] at hlt; simp at hlt
        · injection hv with h1 _ _
          exact ⟨b, o, h1, hX k x hx⟩
      obtain ⟨f1, f2⟩ := first_fine ps
      obtain ⟨r1, r2⟩ := runs_fine ((DL xs).take k) _ f1 f2
      have hXr : wr.heap[w.heap.size]? = some (.cells #[.slice (some ⟨b, 0, none⟩) ps.length c, .bool dirs, .bool back] 46 (0, 0)) := (HG.out.block w.heap.size (by omega) (fun e => by injection e with e; omega)).trans HX.out
      have HXr := hid hXr
      have HCS := hid (step_any (c := c) (dirs := dirs) (back := back) x (HP.out.later hb HBr.out) (by have := HBr.out.size; omega) HO.out r1 (fun a ha => (r2 a ha).1) hn hsx HPl.out)
      have hcr0 : wr.cell? ⟨w.heap.size, 0, none⟩ = some (.slice (some ⟨b, 0, none⟩) ps.length c) := by rw [cell_of_blk hXr]; rfl
      have hcr1 : wr.cell? ⟨w.heap.size, 1, none⟩ = some (.bool dirs) := by rw [cell_of_blk hXr]; rfl
      have hcr2 : wr.cell? ⟨w.heap.size, 2, none⟩ = some (.bool back) := by rw [cell_of_blk hXr]; rfl
      obtain ⟨a8, c8, rfl, _⟩ := own_shape HO.out
      clear hXr hx f1 f2 r1 r2
      go_wp2_with fail
      refine HCS.out.mono ?_
      rintro e w2 ⟨v2, rfl, hO2, hb2⟩
      have HO2 : Hid (OwnI w2 (w.heap.size + 1) v2 (Pg.runs ps (Pg.first ps) ((DL xs).take (k + 1)))) := hid (by
        rw [HT.out, Pg.runs_snoc]
        exact ownI_mono hO2 (by omega))
      have HG2 := hid (grown_trans HG.out (grown_of_below hb2 _))
      have HR2 := hid (HR.out.later hb2)
      have hX2 : w2.heap[w.heap.size]? = some (.cells #[.slice (some ⟨b, 0, none⟩) ps.length c, .bool dirs, .bool back] 46 (0, 0)) := (hb2.block w.heap.size (by omega)).trans HXr.out
      have hd0 : w2.cell? ⟨w.heap.size, 0, none⟩ = some (.slice (some ⟨b, 0, none⟩) ps.length c) := by rw [cell_of_blk hX2]; rfl
      have hd1 : w2.cell? ⟨w.heap.size, 1, none⟩ = some (.bool dirs) := by rw [cell_of_blk hX2]; rfl
      have hd2 : w2.cell? ⟨w.heap.size, 2, none⟩ = some (.bool back) := by rw [cell_of_blk hX2]; rfl
      have hri := HR2.out.cell hlt
      have hrf := HR2.out.free k
      have hz2 := hb2.size
      have HMN := hid (fun j (hj : k ≤ j) (h : Pg.runs ps (Pg.first ps) ((DL xs).take (k + 1)) = []) => mns_none (dirs := dirs) (dir := dir) h hj)
      have HMA := hid (fun e (h : (Pg.runs ps (Pg.first ps) ((DL xs).take (k + 1))).getLast? = some e) => mns_at (dirs := dirs) (dir := dir) h)
      clear hO2 HCS HO HG HR hcr0 hcr1 hcr2 hcx hX2 HXr
      generalize hLL : Pg.runs ps (Pg.first ps) ((DL xs).take (k + 1)) = L at HO2 HMN HMA
      have HLL := hid hLL
      clear hLL
      rcases OwnI.shape HO2.out with ⟨hL, a9, c9, rfl⟩ | ⟨g9, c9, rfl, hcell9⟩
      · have HEnd : Hid (BoolR w2 gi xs.length (mrk ps dirs back dir (DL xs) f)) := hid (HR2.out.to fun j hj => by
          unfold fkk
          by_cases hjk : j < k
          · rw [if_pos hjk]
          · rw [if_neg hjk]; unfold mrk; rw [HMN.out j (by omega) hL]; rfl)
        have HBE : Hid (Below w1.heap.size w1 w2) := hid (HBr.out.trans (hb2.mono HBr.out.size))
        clear hL
        go_wp2
        refine bodyPost_ret (v := .tuple #[]) (by simp [results, Tryz.results21]) rfl ⟨rfl, HEnd.out, HBE.out⟩
      · by_cases hL0 : L = []
        · have HEnd : Hid (BoolR w2 gi xs.length (mrk ps dirs back dir (DL xs) f)) := hid (HR2.out.to fun j hj => by
            unfold fkk
            by_cases hjk : j < k
            · rw [if_pos hjk]
            · rw [if_neg hjk]; unfold mrk; rw [HMN.out j (by omega) hL0]; rfl)
          have HBE : Hid (Below w1.heap.size w1 w2) := hid (HBr.out.trans (hb2.mono HBr.out.size))
          have hLn : L.length = 0 := by rw [hL0]; rfl
          rw [hLn]
          clear hL0 hcell9 hLn
          go_wp2
          refine bodyPost_ret (v := .tuple #[]) (by simp [results, Tryz.results21]) rfl ⟨rfl, HEnd.out, HBE.out⟩
        · have hLp : 0 < L.length := List.length_pos_iff.2 hL0
          have hLm : L.length ≤ 9223372036854775807 := by
            have := own_max HO2.out
            unfold maxLen at this
            omega
          obtain ⟨e, he⟩ : ∃ e, L.getLast? = some e := ⟨_, List.getLast?_eq_some_getLast hL0⟩
          have hce := hcell9 (L.length - 1) e (by rw [← List.getLast?_eq_getElem?]; exact he)
          have hle0 : ((L.length : Int) == 0) = false := beq_false_of_ne (by omega)
          have hsub : (L.length : Int) - 1 = ((L.length - 1 : Nat) : Int) := by omega
          have HMk := hid (HMA.out e he)
          have hmrk : ∀ v : Bool, (mns ps dirs dir (DL xs) k = true → v = !back) → (mns ps dirs dir (DL xs) k = false → v = f k) → ∀ j, j < xs.length → fkk (mrk ps dirs back dir (DL xs) f) f (k + 1) j = if j = k then v else fkk (mrk ps dirs back dir (DL xs) f) f k j := by
            intro v h1 h2 j _
            unfold fkk
            by_cases hjk : j = k
            · rw [if_pos (by omega), if_pos hjk, hjk]
              unfold mrk
              cases hm : mns ps dirs dir (DL xs) k with
              | true => rw [if_pos rfl, h1 hm]
              | false => rw [if_neg (by simp), h2 hm]
            · rw [if_neg hjk]
              by_cases hjl : j < k
              · rw [if_pos (by omega), if_pos hjl]
              · rw [if_neg (by omega), if_neg hjl]
          have HMR := hid hmrk
          have hkN : decide (k + 1 < (DL xs).length) = decide ((k : Int) < (xs.length : Int) - 1) := by rw [DL_length, decide_eq_decide]; omega
          rw [hkN] at HMk
          clear hcell9 he hL0 hmrk hkN HMN HMA
          generalize hq : decide (e = ps.length) = q at HMk
          have hqe : ((e : Int) == (ps.length : Int)) = q := by rw [← hq, Bool.eq_iff_iff, beq_iff_eq, decide_eq_true_eq]; omega
          clear hq
          generalize hbd : decide ((k : Int) < (xs.length : Int) - 1) = bd at HMk
          have hkk : ∀ j, fkk (mrk ps dirs back dir (DL xs) f) f k j = if j = k then f k else fkk (mrk ps dirs back dir (DL xs) f) f k j := by
            intro j
            by_cases hjk : j = k
            · rw [if_pos hjk, hjk]; unfold fkk; rw [if_neg (by omega)]
            · rw [if_neg hjk]
          have HNo : Hid (mns ps dirs dir (DL xs) k = false → ∀ nq, BoolR (w2.drewN nq) gi xs.length (fkk (mrk ps dirs back dir (DL xs) f) f (k + 1))) := hid (fun hm nq => (HR2.out.later (below_drewN (Below.refl _ _) nq)).to fun j hj => by
            rw [HMR.out (f k) (fun h => by rw [hm] at h; cases h) (fun _ => rfl) j hj]
            exact (hkk j).symm)
          have HYes : Hid (mns ps dirs dir (DL xs) k = true → ∀ nq, BoolR ((w2.drewN nq).setCell ⟨gi, k, none⟩ (.bool (!back))) gi xs.length (fkk (mrk ps dirs back dir (DL xs) f) f (k + 1))) := hid (fun hm nq => (HR2.out.later (below_drewN (Below.refl _ _) nq)).set k (!back) (HMR.out (!back) (fun _ => rfl) (fun h => by rw [hm] at h; cases h)))
          have HOn := hid (fun nq => HO2.out.stays (below_drewN (Below.refl _ _) nq))
          have HOs := hid (fun nq (u : Value) => ownI_set (k := k) (u := u) (HOn.out nq) (show gi < w.heap.size + 1 by omega))
          have HGn := hid (fun nq => grown_trans HG2.out (grown_of_below (below_drewN (Below.refl _ _) nq) (some gi)))
          have HGs := hid (fun nq (u : Value) => grown_at (k := k) (u := u) (HGn.out nq))
          clear hkk HMR HO2 HG2 HR2
          cases q <;> cases dir <;> cases bd <;> cases dirs
          all_goals
            go_wp2
            go_quiet (fail)
            go_wp2
            go_roundw
            case rel => first | exact ⟨k + 1, by omega, by go_num, by rw [HLL.out]; exact HOn.out _, HGn.out _, HNo.out HMk.out _⟩ | exact ⟨k + 1, by omega, by go_num, by rw [HLL.out]; exact HOs.out _ _, HGs.out _ _, HYes.out HMk.out _⟩
            case measure => simp [intOf]; omega
    · have HEnd : Hid (BoolR wr gi xs.length (mrk ps dirs back dir (DL xs) f)) := hid (HR.out.to fun j hj => by unfold fkk; rw [if_pos (by omega)])
      go_wp2
      refine bodyPost_end (v := .tuple #[]) (by simp [results, Tryz.results21]) rfl ⟨rfl, HEnd.out, HBr.out⟩
end Go.Proofs.YtfjhjhjdneihbaaGreatDoor
