/-
  Apply and Fits with Valid's error; the document's Fits and Apply.
-/
import Derived.Test.YtmomeemkdfoklaaDoorDd
import Derived.Test.YtmomeemkdfoklaaDoorDa
namespace Go.Proofs.YtmomeemkdfoklaaDoor
open Go.RowKit
open Ed (Ch Run Pr)

def aplA (s : List Ch) (a b : List Int) : List Int := if Ed.validN s a.length b.length = 0 then Ed.apP (Ed.runs s a.length 0 0) a b else []
def fitN (s : List Ch) (a b : List Int) : Nat := if Ed.validN s a.length b.length = 0 then (if Ed.fitsP a b (Ed.prs s a.length 0 0) then 0 else 61) else Ed.validN s a.length b.length

theorem apD_length {s : List Ch} {a b : List Int} {x y : Int} (h : Ed.val s x y a.length b.length = true) (hx : 0 ≤ x) (hy : 0 ≤ y) (hxn : x ≤ a.length) (hym : y ≤ b.length) : ((Ed.apD s a b x).length : Int) = b.length - y := by
  induction s generalizing x y with
  | nil =>
    have h' : (a.length : Int) - x = b.length - y := by simpa [Ed.val] using h
    rw [Ed.apD, List.length_drop]
    omega
  | cons c r ih =>
    obtain ⟨⟨h1, h2, h3, h4⟩, hr⟩ := Ed.val_cons.1 h
    have k1 := Ed.sl_length (l := a) (i := x) (k := c.a - x) hx (by omega) (by omega)
    have k2 := Ed.sl_length (l := b) (i := c.b) (k := c.m) (by omega) (by omega) (by omega)
    have k3 := ih hr (by omega) (by omega) (by omega) (by omega)
    rw [Ed.apD, List.length_append, List.length_append]
    push_cast
    omega

set_option maxHeartbeats 1000000 in
theorem fits_all {v va vb : Value} {s : List Ch} {a b : List Int} {w : World} (hr : RdC w v s) (hwf : ∀ c ∈ s, WfC c) (hl : s.length ≤ 10000000000000) (ha : RdI w va a) (hb : RdI w vb b) :
    Calls Tryd.prog 16 #[v, va, vb] w fun e w' => e = .returned (errV (fitN s a b)) ∧ Below w.heap.size w w' := by
  by_cases hk : Ed.validN s a.length b.length = 0
  · have e : fitN s a b = if Ed.fitsP a b (Ed.prs s a.length 0 0) then 0 else 61 := by unfold fitN; rw [if_pos hk]
    rw [e]
    exact fits_any hr hwf ha hb (Ed.validN_zero.1 hk)
  · have e : fitN s a b = Ed.validN s a.length b.length := by unfold fitN; rw [if_neg hk]
    rw [e]
    have HC := hid (fun w1 (h : RdC w1 v s) => valid_any (n := a.length) (m := b.length) h hwf hl)
    have HR := hid hr
    obtain ⟨aa, ca, rfl⟩ := ha.shape
    obtain ⟨ab, cb, rfl⟩ := hb.shape
    obtain ⟨a0, c, rfl⟩ := hr.shape
    generalize Ed.validN s a.length b.length = k at HC hk
    have he : errV k = .iface 60 (.int .i64 k) := by unfold errV; rw [if_neg hk]
    rw [he] at HC ⊢
    have hb0 : Below w.heap.size w (w.alloc (.cells #[.slice aa a.length ca] 23)) := (Below.refl _ _).alloc (Nat.le_refl _) _
    have hb0' : Below w.heap.size w ((w.alloc (.cells #[.slice aa a.length ca] 23)).alloc (.cells #[.slice ab b.length cb] 23)) := hb0.alloc (by simp) _
    have k0 : ((w.alloc (.cells #[.slice aa a.length ca] 23)).alloc (.cells #[.slice ab b.length cb] 23)).cell? ⟨w.heap.size, 0, none⟩ = some (.slice aa a.length ca) := cell_of_blk ((((Below.refl _ _).alloc (Nat.le_refl _) _).block w.heap.size (by simp)).trans (heap_alloc_new w _)) 0
    have k1 : ((w.alloc (.cells #[.slice aa a.length ca] 23)).alloc (.cells #[.slice ab b.length cb] 23)).cell? ⟨w.heap.size + 1, 0, none⟩ = some (.slice ab b.length cb) := by
      simp
    clear hr hwf he e hk ha hb hb0
    go_enter Tryd.func16, Tryd.ntmps16
    go_wp2_with fail
    refine (HC.out _ (HR.out.below hb0')).mono ?_
    rintro e w1 ⟨rfl, hb1⟩
    have HB := hid (hb0'.trans (hb1.mono hb0'.size))
    clear hb1
    go_wp2
    go_ret
    exact ⟨rfl, HB.out⟩

set_option maxHeartbeats 2000000 in
set_option maxRecDepth 100000 in
theorem refFits_all {v va vb : Value} {s : List Ch} {a b : List Int} {w : World} (hr : RdC w v s) (hwf : ∀ c ∈ s, WfC c) (hl : s.length ≤ 10000000000000) (ha : RdI w va a) (hb : RdI w vb b) :
    Calls Tryd.prog 9 #[v, va, vb] w fun e w' => e = .returned (.int .i64 (fitN s a b)) ∧ Below w.heap.size w w' := by
  have HC := hid (refValid_any (n := a.length) (m := b.length) hr hwf hl)
  have HR := hid hr
  have HRA := hid ha
  have HRB := hid hb
  obtain ⟨aa, ca, rfl⟩ := ha.shape
  obtain ⟨ab, cb, rfl⟩ := hb.shape
  obtain ⟨a0, c, rfl⟩ := hr.shape
  by_cases hk : Ed.validN s a.length b.length = 0
  · have hV := Ed.validN_zero.1 hk
    have hf : fitN s a b = if Ed.fitsP a b (Ed.prs s a.length 0 0) then 0 else 61 := by unfold fitN; rw [if_pos hk]
    have hpl := rise_len hV.rise (Ed.cnt_iff.1 hV.1).1
    have hn := Ed.cnt_iff.1 hV.1
    have HV := hid hV
    have HPB : Hid (∀ p ∈ Ed.prs s a.length 0 0, 0 ≤ p.1 ∧ p.1 < a.length ∧ 0 ≤ p.2 ∧ p.2 < b.length) := hid (fun p hp => by
      have := (Ed.rise_iff.1 HV.out.rise).2 p hp
      unfold Ed.inB at this
      omega)
    have HPR := hid (fun w1 (h : RdC w1 (.slice a0 s.length c) s) => refpairs_any h hV)
    rw [hk] at HC
    obtain ⟨N, hN⟩ : ∃ N, N = fitN s a b := ⟨_, rfl⟩
    rw [← hN]
    rw [← hN] at hf
    have HN := hid hf
    generalize Ed.prs s a.length 0 0 = P at hpl HPB HPR HN
    have hPl : P.length ≤ 4194304 := by omega
    clear hr hwf hk hV hf hN ha hb hpl HV
    go_enter Tryd.func9, Tryd.ntmps9
    go_wp2_with fail
    refine HC.out.mono ?_
    rintro e w1 ⟨rfl, hb1⟩
    have HB1 := hid hb1
    clear hb1
    go_wp2_with fail
    refine (HPR.out _ (HR.out.below HB1.out)).mono ?_
    rintro e w2 ⟨v2, rfl, hO2, hb2⟩
    obtain ⟨a2, c2, e2⟩ := own_shape hO2
    subst e2
    have HP2 := hid (own_rd hO2)
    have HB2 := hid (HB1.out.trans (hb2.mono HB1.out.size))
    clear hO2 hb2
    go_wp2
    go_loopw [9] (fun i wr => ∃ k : Nat, k ≤ P.length ∧ i = .int .i64 k ∧ (∃ q, wr = w2.drewN q) ∧ Hid (Ed.fitsP a b P = Ed.fitsP a b (P.drop k))) (fun i _ => P.length - (intOf i).toNat)
    case atStart => exact ⟨0, Nat.zero_le _, rfl, ⟨0, rfl⟩, hid rfl⟩
    case round =>
      obtain ⟨k, hk, rfl, ⟨q, rfl⟩, HJ⟩ := hrel
      by_cases hlt : k < P.length
      · obtain ⟨p, hp⟩ : ∃ p, P[k]? = some p := ⟨_, List.getElem?_eq_getElem hlt⟩
        obtain ⟨g1, g2, g3, g4⟩ := HPB.out p (List.mem_of_getElem? hp)
        obtain ⟨x, y⟩ := p
        simp only at g1 g2 g3 g4
        obtain ⟨x, rfl⟩ := Int.eq_ofNat_of_zero_le g1
        obtain ⟨y, rfl⟩ := Int.eq_ofNat_of_zero_le g3
        obtain ⟨u, hu⟩ : ∃ u, a[x]? = some u := ⟨_, List.getElem?_eq_getElem (by omega)⟩
        obtain ⟨z, hz⟩ : ∃ z, b[y]? = some z := ⟨_, List.getElem?_eq_getElem (by omega)⟩
        obtain ⟨b1, o1, rfl, _, d1⟩ := rdI_at (HRA.out.below HB2.out) hu
        obtain ⟨b2, o2, rfl, _, d2⟩ := rdI_at (HRB.out.below HB2.out) hz
        obtain ⟨b3, o3, rfl, _, d3, d4⟩ := rdP_at HP2.out hp
        simp only at d3 d4
        have HD : Hid (Ed.fitsP a b P = (decide (u = z) && Ed.fitsP a b (P.drop (k + 1)))) := hid (by
          rw [HJ.out, drop_at hp]
          show (Ed.eqP a b ((x : Int), (y : Int)) && _) = _
          congr 1
          unfold Ed.eqP
          simp only [Int.toNat_natCast]
          rw [hu, hz]
          by_cases huz : u = z
          · subst huz; simp
          · rw [decide_eq_false huz]; simpa using huz)
        have i1 : (0 : Int) ≤ (k : Int) := by omega
        have i2 : (k : Int) < (P.length : Int) := by omega
        have i3 : (x : Int) < (a.length : Int) := g2
        have i4 : (y : Int) < (b.length : Int) := g4
        clear hp hu hz HJ g2 g4
        by_cases huz : u = z
        · have hz2 : (u == z) = true := zeq huz
          have HD2 : Hid (Ed.fitsP a b P = Ed.fitsP a b (P.drop (k + 1))) := hid (by rw [HD.out, decide_eq_true huz]; rfl)
          clear HD huz
          go_wp2
          go_quiet (fail)
          go_wp2
          go_roundw
          case rel => exact ⟨k + 1, by omega, by go_num, ⟨_, by first | rfl | exact World.drewN_drewN _ _ _⟩, HD2⟩
          case measure => simp [intOf]; omega
        · have hz2 : (u == z) = false := zne huz
          have HN0 : Hid (N = 61) := hid (by rw [HN.out, HD.out, decide_eq_false huz]; rfl)
          clear HD huz
          go_wp2
          go_quiet (fail)
          go_wp2
          go_ret
          exact ⟨by rw [HN0.out]; rfl, by first | exact below_drewN (below_drewN HB2.out _) _ | exact below_drewN HB2.out _⟩
      · have HN0 : Hid (N = 0) := hid (by rw [HN.out, HJ.out, List.drop_eq_nil_of_le (by omega)]; rfl)
        clear HJ
        go_wp2
        go_ret
        exact ⟨by rw [HN0.out]; rfl, below_drewN HB2.out _⟩
  · have e : fitN s a b = Ed.validN s a.length b.length := by unfold fitN; rw [if_neg hk]
    rw [e]
    generalize Ed.validN s a.length b.length = k at HC hk
    have hz : ((k : Int) == 0) = false := ine (by omega)
    clear hr hwf e hk ha hb
    go_enter Tryd.func9, Tryd.ntmps9
    go_wp2_with fail
    refine HC.out.mono ?_
    rintro e w1 ⟨rfl, hb1⟩
    have HB := hid hb1
    clear hb1
    go_wp2
    go_ret
    exact ⟨rfl, HB.out⟩
end Go.Proofs.YtmomeemkdfoklaaDoor
