/-
  hasUnit and Check of the program; Check of the document.
  Conditions: the slices read as wants of ints.
-/
import Derived.Test.YtpfpojehcjmfnaaGreatM12
import Derived.Test.YtpfpojehcjmfnaaGreatM11
import Derived.Test.YtpfpojehcjmfnaaGreatM08
import Derived.Test.YtpfpojehcjmfnaaGreatM02

/-
  What the calls of pack answer: the contracts' words.
  Conditions: none.
-/
set_option linter.unusedVariables false
namespace Go.Proofs.YtpfpojehcjmfnaaGreat
open Go.RowKit

/-- What Full answers. -/
def RetFull (f : Int) (m : Nat) (ws : List Sp) (w : World) (e : Ending) (w' : World) : Prop := ∃ E : Int, Why20 f m ws E ∧ Below w.heap.size w w' ∧
  ((E = 0 ∧ ∃ v, e = .returned (.tuple #[planA f m v, .int .i64 0]) ∧ PlsAt w' v (fullT f m ws)) ∨
   (E ≠ 0 ∧ e = .returned (.tuple #[planA 0 0 (.slice none 0 0), .int .i64 E])))
/-- What Fits answers. -/
def RetFits (f : Int) (m : Nat) (ws : List Sp) (w : World) (e : Ending) (w' : World) : Prop := ∃ E : Int, Why20 f m ws E ∧ Below w.heap.size w w' ∧ e = .returned (.bool (decide (E = 0)))
/-- How many cores Least tells, and which error. -/
def leN (f : Int) (ws : List Sp) : Nat := if chkT f ws = 0 then leastT f ws else 0
def leE (f : Int) (ws : List Sp) : Int := if chkT f ws = 0 then (if leastT f ws = 0 then 12 else 0) else chkT f ws
/-- What Again answers. -/
def RetAgain (f : Int) (m : Nat) (l : List Pl) (w : World) (e : Ending) (w' : World) : Prop := Below w.heap.size w w' ∧
  ((Right f m l ∧ ∃ v, e = .returned (.tuple #[planA f m v, .int .i64 0]) ∧ PlsAt w' v (fullT f m (wantsT l))) ∨
   (¬ Right f m l ∧ e = .returned (.tuple #[planA 0 0 (.slice none 0 0), .int .i64 30])))
theorem wants_int {l : List Pl} (ho : ∀ x ∈ l, PlOk x) : IntsS (wantsT l) := fun s hs => by
  obtain ⟨x, hx, rfl⟩ := List.mem_map.1 hs
  exact ⟨(ho x hx).1, (ho x hx).2.1⟩
end Go.Proofs.YtpfpojehcjmfnaaGreat

/-
  rightCores, rightSplit and rightPlaces of the program.
  Conditions: the slices read as pieces, as places; the numbers are of their kinds.
-/
set_option linter.unusedVariables false
set_option linter.unusedSimpArgs false
namespace Go.Proofs.YtpfpojehcjmfnaaGreat
open Go.RowKit Go.Sort

theorem rightCores_any (m : Nat) (w : World) : Calls Tryz.prog 96 #[.int .u32 m] w (Ret (.bool (decide (m ≠ 0 ∧ m < 65536))) w) := by
  by_cases h0 : m = 0
  · have e : decide (m ≠ 0 ∧ m < 65536) = false := decide_eq_false fun h => h.1 h0
    have h1 : ((m : Int) != 0) = false := by subst h0; rfl
    rw [e]
    clear e h0
    go_enter Tryz.func96, Tryz.ntmps96
    go_wp2
    go_ret
    exact ⟨rfl, rfl⟩
  · have h1 : ((m : Int) != 0) = true := by simpa using h0
    by_cases h2 : m < 65536
    · have e : decide (m ≠ 0 ∧ m < 65536) = true := decide_eq_true ⟨h0, h2⟩
      have h3 : (m : Int) < 65536 := by omega
      rw [e]
      clear e h0
      go_enter Tryz.func96, Tryz.ntmps96
      go_wp2
      go_ret
      exact ⟨rfl, rfl⟩
    · have e : decide (m ≠ 0 ∧ m < 65536) = false := decide_eq_false fun h => h2 h.2
      have h3 : decide ((m : Int) < 65536) = false := decide_eq_false (by omega)
      rw [e]
      clear e h0
      go_enter Tryz.func96, Tryz.ntmps96
      go_wp2
      go_ret
      exact ⟨rfl, rfl⟩

theorem free_nil (f : Int) (h : 0 ≤ f) (h2 : f ≤ 64) : allN (frN f) = freeN f [] := by
  refine eq_setP (allN_lt (frN_le f)) fun t ht => ?_
  rw [allN_bit]
  have e : decide (nAny [] t = 0) = true := decide_eq_true rfl
  rw [e, Bool.and_true]
  unfold frN
  by_cases h1 : (t : Int) < f
  · rw [decide_eq_true h1, decide_eq_true (by omega)]
  · rw [decide_eq_false h1, decide_eq_false (by omega)]
def lastC (q : List Pc) : Int := (q.getLast?.map Pc.c).getD (-1)
theorem lastC_next {q : List Pc} {k : Nat} {y : Pc} (hy : q[k]? = some y) : lastC (q.take (k + 1)) = y.c := last_at hy
theorem kept_next {f : Int} {q : List Pc} {k : Nat} {y : Pc} (hy : q[k]? = some y) (hyt : y.t < 18446744073709551616) (hk : Kept f (q.take k)) : lessN y.t (freeN f (q.take k)) = 0 ↔ Kept f (q.take (k + 1)) := by
  rw [fits_iff hyt hk, List.take_add_one, hy]
  rfl
theorem free_step {f : Int} {q : List Pc} {k : Nat} {y : Pc} (hy : q[k]? = some y) : lessN (freeN f (q.take k)) y.t = freeN f (q.take (k + 1)) := by
  rw [free_next, List.take_add_one, hy]
  rfl
theorem kept_take {f : Int} {q : List Pc} (h : Kept f q) (k : Nat) : Kept f (q.take k) := by
  rw [← List.take_append_drop k q] at h
  exact kept_prefix h

set_option maxRecDepth 100000 in
set_option maxHeartbeats 8000000 in
theorem rightSplit_any (f : Int) (m : Nat) (pv v : Value) (x : Pl) (w : World) (h : PcsAt w v x.ps) (hxo : PlOk x) (hl : x.ps.length ≤ 1000) (hm : m < 4294967296) (hf : 2 ≤ f) (hf2 : f ≤ 64) :
    Calls Tryz.prog 144 #[planA f m pv, plA v x] w (RetIff (SplitOk f m x) w) := by
  have HHC := Lib.hid (fun c W => hasCore_any f m pv c W hm)
  have HAL := Lib.hid (fun W => all_any f W)
  rw [free_nil f (by omega) hf2] at HAL
  have HYO := Lib.hid hxo.2.2.2
  have HH := Lib.hid h
  obtain ⟨A, d, rfl⟩ := h.form
  obtain ⟨xu, xs, xc, ps⟩ := x
  simp only at *
  obtain ⟨w1, P, hw1, hP, hPl, hb1, hbox⟩ := box_any w #[.int .i64 f, .int .u32 m, pv] 26
  obtain ⟨w2, X, hw2, hX, hXl, hb2, hxbox⟩ := box_any w1 #[.int .i64 xu, .int .i64 xs, .int .i64 xc, .slice A ps.length d] 48
  obtain ⟨n, hn⟩ : ∃ n, ps.length = n := ⟨_, rfl⟩
  rw [hn] at HH hl hw2 hxbox ⊢
  have HN := Lib.hid hn
  have HB2 := Lib.hid (hb1.trans (hb2.mono hb1.size))
  have HPB := Lib.hid (keep_block hbox hb2)
  have HXB := Lib.hid hxbox
  obtain ⟨p0, p1, p2⟩ := three_heads HPB.out
  obtain ⟨q0, q1, q2, q3⟩ := four_heads hxbox
  have mixed : Tryz.prog.follows .mixedOrders = true := by kernel_rfl
  unfold planA at HHC ⊢
  unfold plA
  clear h hxo hb1 hb2 hbox hxbox hn
  by_cases hxc : xc = 0
  · have hc0 : (xc != 0) = false := by simpa using hxc
    by_cases hn2 : n < 2
    · have hn3 : (n : Int) < 2 := by omega
      have HNO := Lib.hid (show ¬ SplitOk f m ⟨xu, xs, xc, ps⟩ from fun h => by have h2 : 2 ≤ ps.length := h.two; rw [HN.out] at h2; omega)
      clear hxc
      go_enter Tryz.func144, Tryz.ntmps144
      go_wp2_with fail
      go_ret
      exact RetIff.no HNO.out HB2.out
    · have hn3 : decide ((n : Int) < 2) = false := decide_eq_false (by omega)
      have hn4 : decide (n < 2) = false := decide_eq_false hn2
      have HXC := Lib.hid hxc
      have HN2 := Lib.hid (show 2 ≤ n by omega)
      clear hxc
      go_enter Tryz.func144, Tryz.ntmps144
      go_wp2_with (go_at_call 173; refine (HAL.out _).mono ?_; rintro e w' ⟨rfl, rfl⟩)
      clear hw1 hP hw2 hX p0 p1 p2 q0 q1 q2 q3
      go_loopg [5, 6, 8, 24] n (fun gg s5 s6 _ s24 wr => ∃ (k fr : Nat) (la : Int), k ≤ n ∧ gg = n - k ∧ s24 = .int .i64 k ∧ s5 = .int .i64 la ∧ s6 = .int .u64 fr ∧ Hid (la = lastC (ps.take k) ∧ fr = freeN f (ps.take k) ∧ Rise m (-1) (ps.take k) ∧ Kept f (ps.take k)) ∧ Below w2.heap.size w2 wr)
      case atStart => exact ⟨0, _, _, Nat.zero_le _, by omega, rfl, rfl, rfl, ⟨rfl, rfl, trivial, kept_nil f⟩, Below.refl _ _⟩
      case round =>
        obtain ⟨k, fr, la, hk, hg, rfl, rfl, rfl, HI, hbw⟩ := hrel
        have HG := Lib.hid hg
        have HBW := Lib.hid hbw
        have HPR := Lib.hid (keep_block HPB.out hbw)
        have HXR := Lib.hid (keep_block HXB.out hbw)
        have HB := Lib.hid (HB2.out.trans (hbw.mono HB2.out.size))
        have HPS := Lib.hid (HH.out.keep HB.out)
        have hfrl : fr < 18446744073709551616 := by rw [HI.2.1]; exact freeN_lt _ _
        obtain ⟨p0, p1, p2⟩ := three_heads HPR.out
        obtain ⟨q0, q1, q2, q3⟩ := four_heads HXR.out
        clear hg hbw
        by_cases hlt : k < n
        · have hltz : (k : Int) < (n : Int) := by omega
          have hk0 : (0 : Int) ≤ (k : Int) := by omega
          obtain ⟨y, hy⟩ := exP_at (xs := ps) (k := k) (by rw [HN.out]; exact hlt)
          obtain ⟨b, off, hA, hbl, _, c0, c1⟩ := HPS.out.at_ hy
          subst hA
          have HRN := Lib.hid (rise_next (m := m) hy)
          have hyt := (HYO.out y (List.mem_of_getElem? hy)).2
          have HKN := Lib.hid (kept_next (f := f) hy hyt HI.2.2.2)
          have HFN := Lib.hid (free_step (f := f) hy)
          have HLN := Lib.hid (lastC_next hy)
          obtain ⟨yc, yt⟩ := y
          simp only at c0 c1 HRN HKN HFN HLN hyt
          obtain ⟨w3, Y, hw3, hY, hYl, hb3, hyb⟩ := box_any wr #[.int .i64 yc, .int .u64 yt] 84
          have HB31 := Lib.hid (HBW.out.trans (hb3.mono HBW.out.size))
          have HB3 := Lib.hid (HB2.out.trans (HB31.out.mono HB2.out.size))
          have HP3 := Lib.hid (keep_block HPR.out hb3)
          have HX3 := Lib.hid (keep_block HXR.out hb3)
          have HYB := Lib.hid hyb
          have HCC := Lib.hid (fun W => HHC.out yc W)
          have HNK := Lib.hid (show SplitOk f m ⟨xu, xs, xc, ps⟩ → (hasC m yc = true ∧ lastC (ps.take k) < yc ∧ yt ≠ 0) ∧ Kept f (ps.take (k + 1)) from fun h => ⟨(HRN.out.1 (rise_take h.rise _)).2, kept_take h.kept _⟩)
          obtain ⟨y0, y1⟩ := two_heads hyb
          obtain ⟨v0, v1, v2⟩ := three_heads HP3.out
          clear hb3 hyb hy
          by_cases hle : yc ≤ la
          · have HNO := Lib.hid (show ¬ SplitOk f m ⟨xu, xs, xc, ps⟩ from fun h => by have := (HNK.out h).1.2.1; rw [← HI.1] at this; omega)
            go_wp2_with fail
            go_ret
            exact RetIff.no HNO.out HB3.out
          · have hle' : decide (yc ≤ la) = false := decide_eq_false hle
            cases hh : hasC m yc with
            | false =>
              rw [hh] at HCC
              have HNO := Lib.hid (show ¬ SplitOk f m ⟨xu, xs, xc, ps⟩ from fun h => by have := (HNK.out h).1.1; rw [hh] at this; cases this)
              clear hh
              go_wp2_with fail
              refine (HCC.out _).mono ?_
              rintro e w4 ⟨rfl, hb4⟩
              have HB4 := Lib.hid (HB3.out.trans (hb4.mono HB3.out.size))
              clear hb4
              go_wp2_with fail
              go_ret
              exact RetIff.no HNO.out HB4.out
            | true =>
              rw [hh] at HCC
              have HHH := Lib.hid hh
              clear hh
              by_cases hyz : yt = 0
              · have HNO := Lib.hid (show ¬ SplitOk f m ⟨xu, xs, xc, ps⟩ from fun h => (HNK.out h).1.2.2 hyz)
                have hy1 : ((yt : Int) == 0) = true := by subst hyz; rfl
                clear hyz
                go_wp2_with fail
                refine (HCC.out _).mono ?_
                rintro e w4 ⟨rfl, hb4⟩
                have HB4 := Lib.hid (HB3.out.trans (hb4.mono HB3.out.size))
                obtain ⟨u0, u1⟩ := two_heads (keep_block HYB.out hb4)
                clear hb4
                go_wp2_with fail
                go_ret
                exact RetIff.no HNO.out HB4.out
              · have hy1 : ((yt : Int) == 0) = false := by simpa using hyz
                have HYZ := Lib.hid hyz
                have ea := andNot_word yt fr hyt hfrl
                have eb := andNot_word fr yt hfrl hyt
                obtain ⟨Z, hZ⟩ : ∃ Z, lessN yt fr = Z := ⟨_, rfl⟩
                obtain ⟨F2, hF2⟩ : ∃ F2, lessN fr yt = F2 := ⟨_, rfl⟩
                rw [hZ] at ea
                rw [hF2] at eb
                have HZ := Lib.hid (show Z = 0 ↔ Kept f (ps.take (k + 1)) by rw [← hZ, HI.2.1]; exact HKN.out)
                have HF2 := Lib.hid (show F2 = freeN f (ps.take (k + 1)) by rw [← hF2, HI.2.1]; exact HFN.out)
                clear hyz hZ hF2
                by_cases hz : Z = 0
                · have hz1 : ((Z : Int) != 0) = false := by subst hz; rfl
                  have HIN : Hid (yc = lastC (ps.take (k + 1)) ∧ F2 = freeN f (ps.take (k + 1)) ∧ Rise m (-1) (ps.take (k + 1)) ∧ Kept f (ps.take (k + 1))) :=
                    ⟨HLN.out.symm, HF2.out, HRN.out.2 ⟨HI.2.2.1, HHH.out, by show lastC (ps.take k) < yc; rw [← HI.1]; omega, HYZ.out⟩, HZ.out.1 hz⟩
                  clear hz
                  go_wp2_with fail
                  refine (HCC.out _).mono ?_
                  rintro e w4 ⟨rfl, hb4⟩
                  have HB4 := Lib.hid (HB31.out.trans (hb4.mono HB31.out.size))
                  obtain ⟨u0, u1⟩ := two_heads (keep_block HYB.out hb4)
                  clear hb4 y0 y1 v0 v1 v2 p0 p1 p2 q0 q1 q2 q3 c0 c1 hw3
                  go_wp2_with fail
                  go_quiet (fail)
                  go_wp2_with fail
                  go_roundg (n - (k + 1))
                  case measure => have := HG.out; omega
                  case rel => exact ⟨k + 1, F2, yc, by omega, rfl, by go_num, rfl, rfl, HIN, below_drewN HB4.out _⟩
                · have hz1 : ((Z : Int) != 0) = true := by simpa using hz
                  have HNO := Lib.hid (show ¬ SplitOk f m ⟨xu, xs, xc, ps⟩ from fun h => hz (HZ.out.2 (HNK.out h).2))
                  clear hz
                  go_wp2_with fail
                  refine (HCC.out _).mono ?_
                  rintro e w4 ⟨rfl, hb4⟩
                  have HB4 := Lib.hid (HB3.out.trans (hb4.mono HB3.out.size))
                  obtain ⟨u0, u1⟩ := two_heads (keep_block HYB.out hb4)
                  clear hb4
                  go_wp2_with fail
                  go_ret
                  exact RetIff.no HNO.out HB4.out
        · have hltz : ¬ (k : Int) < (n : Int) := by omega
          have HE : Hid (fr = freeN f ps ∧ Rise m (-1) ps ∧ Kept f ps) := by
            have h := HI.2
            rw [List.take_of_length_le (by rw [HN.out]; omega)] at h
            exact h
          have HCN := Lib.hid (fun W => count_any fr W hfrl)
          have hc64 := cnt_le fr
          have HCE := Lib.hid (show (cnt fr : Int) + (sumTo (nAny ps) 64 : Int) = f by rw [HE.1]; exact free_cnt HE.2.2 (by omega) hf2)
          obtain ⟨c, hc⟩ : ∃ c, cnt fr = c := ⟨_, rfl⟩
          rw [hc] at HCN hc64 HCE
          have hw64 : IntKind.i64.wrap (f - (c : Int)) = f - (c : Int) := IntWalk.i64_in _ (by omega)
          have lP := heap_lt HPR.out
          clear hc
          obtain ⟨D, hD⟩ : ∃ D, f - (c : Int) = D := ⟨_, rfl⟩
          have HD := Lib.hid hD
          cases hde : (D == xs) with
          | true =>
            have HYE := Lib.hid (show SplitOk f m ⟨xu, xs, xc, ps⟩ from ⟨HXC.out, by show 2 ≤ ps.length; rw [HN.out]; exact HN2.out, HE.2.1, HE.2.2, by
              have h1 : D = xs := by simpa using hde
              have h2 := HCE.out
              show (sumTo (nAny ps) 64 : Int) = xs
              omega⟩)
            rw [← hD] at hde
            clear hD
            go_wp2_with fail
            refine wp_region_held_drew (S := fun w' => w'.cell? ⟨P, 0, none⟩ = some (.int .i64 f) ∧ w'.cell? ⟨X, 1, none⟩ = some (.int .i64 xs)) (by kernel_rfl) ?_ (fun hHeld => ?_)
            · exact ⟨p0, q1⟩
            refine wpAnyH_take (i := 0) (oi := ⟨some 56, _, _, _, _, _⟩) (v := ?_) rfl (by kernel_rfl) (by kernel_rfl) (by kernel_rfl) (fun _ _ _ h => h) (Or.inl ⟨by kernel_rfl, ?_⟩) (by assumption) ?_
            rotate_left
            · (intro w hSw; (try dsimp only at hSw); go_simp; try with_reducible rfl)
            (try simp only [Act.put, List.setIfInBounds_toArray, List.set_cons_zero, List.set_cons_succ])
            refine wpAnyH_take (i := 1) (oi := ⟨some 57, _, _, _, _, _⟩) (v := ?_) rfl (by kernel_rfl) (by kernel_rfl) (by kernel_rfl) (fun _ _ _ h => h) (Or.inl ⟨by kernel_rfl, ?_⟩) (by assumption) ?_
            rotate_left
            · (intro w hSw; (try dsimp only at hSw); go_simp; try with_reducible rfl)
            (try simp only [Act.put, List.setIfInBounds_toArray, List.set_cons_zero, List.set_cons_succ])
            refine wpAnyH_take (i := 2) (oi := ⟨some 58, _, _, _, _, _⟩) (v := ?_) rfl (by kernel_rfl) (by kernel_rfl) (by kernel_rfl) (fun _ _ _ h => h) (Or.inl ⟨by kernel_rfl, ?_⟩) (by assumption) ?_
            rotate_left
            · (intro w hSw; (try dsimp only at hSw); go_simp; try with_reducible rfl)
            (try simp only [Act.put, List.setIfInBounds_toArray, List.set_cons_zero, List.set_cons_succ])
            refine wpAnyH_take (i := 5) (oi := ⟨some 61, _, _, _, _, _⟩) (v := ?_) rfl (by kernel_rfl) (by kernel_rfl) (by kernel_rfl) (fun _ _ _ h => h) (Or.inl ⟨by kernel_rfl, ?_⟩) (by assumption) ?_
            rotate_left
            · (intro w hSw; (try dsimp only at hSw); go_simp; try with_reducible rfl)
            (try simp only [Act.put, List.setIfInBounds_toArray, List.set_cons_zero, List.set_cons_succ])
            refine wpAnyH_take (i := 6) (oi := ⟨some 62, _, _, _, _, _⟩) (v := ?_) rfl (by kernel_rfl) (by kernel_rfl) (by kernel_rfl) (fun _ _ _ h => h) (Or.inl ⟨by kernel_rfl, ?_⟩) (by assumption) ?_
            rotate_left
            · (intro w hSw; (try dsimp only at hSw); go_simp; try with_reducible rfl)
            (try simp only [Act.put, List.setIfInBounds_toArray, List.set_cons_zero, List.set_cons_succ])
            refine wpAnyH_ready (rs := [3]) (by kernel_rfl) (by simp) ?_
            refine AllReadyH.cons (o := ⟨some 59, _, _, _, _, _⟩) rfl (fun K hK => ?_) AllReadyH.nil
            rw [if_pos (by kernel_rfl)]
            go_simp
            go_at_call 103; refine (HCN.out _).mono ?_; rintro e wq ⟨rfl, rfl⟩
            refine hK.out _ _ ?_ (fun hHeld => ?_)
            · exact hHeld
            clear hK K
            (try simp only [Act.put, List.setIfInBounds_toArray, List.set_cons_zero, List.set_cons_succ])
            refine wpAnyH_take (i := 4) (oi := ⟨some 60, _, _, _, _, _⟩) (v := ?_) rfl (by kernel_rfl) (by kernel_rfl) (by kernel_rfl) (fun _ _ _ h => h) (Or.inl ⟨by kernel_rfl, ?_⟩) (by assumption) ?_
            rotate_left
            · (intro w hSw; (try dsimp only at hSw); go_simp; try with_reducible rfl)
            (try simp only [Act.put, List.setIfInBounds_toArray, List.set_cons_zero, List.set_cons_succ])
            refine wpAnyH_take (i := 7) (oi := ⟨some 63, _, _, _, _, _⟩) (v := ?_) rfl (by kernel_rfl) (by kernel_rfl) (by kernel_rfl) (fun _ _ _ h => h) (Or.inl ⟨by kernel_rfl, ?_⟩) (by assumption) ?_
            rotate_left
            · (intro w hSw; (try dsimp only at hSw); go_simp; try with_reducible rfl)
            (try simp only [Act.put, List.setIfInBounds_toArray, List.set_cons_zero, List.set_cons_succ])
            refine wpAnyH_take (i := 8) (oi := ⟨some 4, _, _, _, _, _⟩) (v := ?_) rfl (by kernel_rfl) (by kernel_rfl) (by kernel_rfl) (fun _ _ _ h => h) (Or.inl ⟨by kernel_rfl, ?_⟩) (by assumption) ?_
            rotate_left
            · (intro w hSw; (try dsimp only at hSw); go_simp; try with_reducible rfl)
            (try simp only [Act.put, List.setIfInBounds_toArray, List.set_cons_zero, List.set_cons_succ])
            refine wpAnyH_done (by kernel_rfl) ?_ _
            go_wp2_with fail
            go_ret
            exact RetIff.yes HYE.out HB.out.drew
          | false =>
            have HNO := Lib.hid (show ¬ SplitOk f m ⟨xu, xs, xc, ps⟩ from fun h => by
              have h1 : (sumTo (nAny ps) 64 : Int) = xs := h.all
              have h2 := HCE.out
              have h3 : D ≠ xs := by simpa using hde
              omega)
            rw [← hD] at hde
            clear hD
            go_wp2_with fail
            refine wp_region_held_drew (S := fun w' => w'.cell? ⟨P, 0, none⟩ = some (.int .i64 f) ∧ w'.cell? ⟨X, 1, none⟩ = some (.int .i64 xs)) (by kernel_rfl) ?_ (fun hHeld => ?_)
            · exact ⟨p0, q1⟩
            refine wpAnyH_take (i := 0) (oi := ⟨some 56, _, _, _, _, _⟩) (v := ?_) rfl (by kernel_rfl) (by kernel_rfl) (by kernel_rfl) (fun _ _ _ h => h) (Or.inl ⟨by kernel_rfl, ?_⟩) (by assumption) ?_
            rotate_left
            · (intro w hSw; (try dsimp only at hSw); go_simp; try with_reducible rfl)
            (try simp only [Act.put, List.setIfInBounds_toArray, List.set_cons_zero, List.set_cons_succ])
            refine wpAnyH_take (i := 1) (oi := ⟨some 57, _, _, _, _, _⟩) (v := ?_) rfl (by kernel_rfl) (by kernel_rfl) (by kernel_rfl) (fun _ _ _ h => h) (Or.inl ⟨by kernel_rfl, ?_⟩) (by assumption) ?_
            rotate_left
            · (intro w hSw; (try dsimp only at hSw); go_simp; try with_reducible rfl)
            (try simp only [Act.put, List.setIfInBounds_toArray, List.set_cons_zero, List.set_cons_succ])
            refine wpAnyH_take (i := 2) (oi := ⟨some 58, _, _, _, _, _⟩) (v := ?_) rfl (by kernel_rfl) (by kernel_rfl) (by kernel_rfl) (fun _ _ _ h => h) (Or.inl ⟨by kernel_rfl, ?_⟩) (by assumption) ?_
            rotate_left
            · (intro w hSw; (try dsimp only at hSw); go_simp; try with_reducible rfl)
            (try simp only [Act.put, List.setIfInBounds_toArray, List.set_cons_zero, List.set_cons_succ])
            refine wpAnyH_take (i := 5) (oi := ⟨some 61, _, _, _, _, _⟩) (v := ?_) rfl (by kernel_rfl) (by kernel_rfl) (by kernel_rfl) (fun _ _ _ h => h) (Or.inl ⟨by kernel_rfl, ?_⟩) (by assumption) ?_
            rotate_left
            · (intro w hSw; (try dsimp only at hSw); go_simp; try with_reducible rfl)
            (try simp only [Act.put, List.setIfInBounds_toArray, List.set_cons_zero, List.set_cons_succ])
            refine wpAnyH_take (i := 6) (oi := ⟨some 62, _, _, _, _, _⟩) (v := ?_) rfl (by kernel_rfl) (by kernel_rfl) (by kernel_rfl) (fun _ _ _ h => h) (Or.inl ⟨by kernel_rfl, ?_⟩) (by assumption) ?_
            rotate_left
            · (intro w hSw; (try dsimp only at hSw); go_simp; try with_reducible rfl)
            (try simp only [Act.put, List.setIfInBounds_toArray, List.set_cons_zero, List.set_cons_succ])
            refine wpAnyH_ready (rs := [3]) (by kernel_rfl) (by simp) ?_
            refine AllReadyH.cons (o := ⟨some 59, _, _, _, _, _⟩) rfl (fun K hK => ?_) AllReadyH.nil
            rw [if_pos (by kernel_rfl)]
            go_simp
            go_at_call 103; refine (HCN.out _).mono ?_; rintro e wq ⟨rfl, rfl⟩
            refine hK.out _ _ ?_ (fun hHeld => ?_)
            · exact hHeld
            clear hK K
            (try simp only [Act.put, List.setIfInBounds_toArray, List.set_cons_zero, List.set_cons_succ])
            refine wpAnyH_take (i := 4) (oi := ⟨some 60, _, _, _, _, _⟩) (v := ?_) rfl (by kernel_rfl) (by kernel_rfl) (by kernel_rfl) (fun _ _ _ h => h) (Or.inl ⟨by kernel_rfl, ?_⟩) (by assumption) ?_
            rotate_left
            · (intro w hSw; (try dsimp only at hSw); go_simp; try with_reducible rfl)
            (try simp only [Act.put, List.setIfInBounds_toArray, List.set_cons_zero, List.set_cons_succ])
            refine wpAnyH_take (i := 7) (oi := ⟨some 63, _, _, _, _, _⟩) (v := ?_) rfl (by kernel_rfl) (by kernel_rfl) (by kernel_rfl) (fun _ _ _ h => h) (Or.inl ⟨by kernel_rfl, ?_⟩) (by assumption) ?_
            rotate_left
            · (intro w hSw; (try dsimp only at hSw); go_simp; try with_reducible rfl)
            (try simp only [Act.put, List.setIfInBounds_toArray, List.set_cons_zero, List.set_cons_succ])
            refine wpAnyH_take (i := 8) (oi := ⟨some 4, _, _, _, _, _⟩) (v := ?_) rfl (by kernel_rfl) (by kernel_rfl) (by kernel_rfl) (fun _ _ _ h => h) (Or.inl ⟨by kernel_rfl, ?_⟩) (by assumption) ?_
            rotate_left
            · (intro w hSw; (try dsimp only at hSw); go_simp; try with_reducible rfl)
            (try simp only [Act.put, List.setIfInBounds_toArray, List.set_cons_zero, List.set_cons_succ])
            refine wpAnyH_done (by kernel_rfl) ?_ _
            go_wp2_with fail
            go_ret
            exact RetIff.no HNO.out HB.out.drew
  · have hc0 : (xc != 0) = true := by simpa using hxc
    have HNO := Lib.hid (show ¬ SplitOk f m ⟨xu, xs, xc, ps⟩ from fun h => hxc h.core)
    clear hxc
    go_enter Tryz.func144, Tryz.ntmps144
    go_wp2_with fail
    go_ret
    exact RetIff.no HNO.out HB2.out
end Go.Proofs.YtpfpojehcjmfnaaGreat

/-
  rightPlaces of the program.
  Conditions: the slice reads as places; the numbers are of their kinds.
-/
set_option linter.unusedVariables false
namespace Go.Proofs.YtpfpojehcjmfnaaGreat
open Go.RowKit Go.Sort

theorem ws_whole {f : Int} {m : Nat} {x : Pl} (h : x.ps.length = 0) : WS f m x ↔ hasC m x.c = true :=
  have e : x.ps = [] := List.eq_nil_of_length_eq_zero h
  ⟨fun hw => hw.whole e, fun hh => ⟨fun _ => hh, fun hne => absurd e hne⟩⟩
theorem ws_split {f : Int} {m : Nat} {x : Pl} (h : x.ps.length ≠ 0) : WS f m x ↔ SplitOk f m x :=
  have e : x.ps ≠ [] := fun e => h (by rw [e]; rfl)
  ⟨fun hw => hw.split e, fun hh => ⟨fun e' => absurd e' e, fun _ => hh⟩⟩

set_option maxRecDepth 100000 in
set_option maxHeartbeats 4000000 in
theorem rightPlaces_any (f : Int) (m : Nat) (v : Value) (l : List Pl) (w : World) (h : PlsAt w v l) (hL : LightL l) (hm : m < 4294967296) (hf : 2 ≤ f) (hf2 : f ≤ 64) :
    Calls Tryz.prog 98 #[planA f m v] w (RetIff (∀ x ∈ l, WS f m x) w) := by
  have HLL := Lib.hid hL
  have HM := Lib.hid hm
  have HF := Lib.hid (And.intro hf hf2)
  have hl : l.length ≤ 1000 := by have := hL.len; omega
  have HHC := Lib.hid (fun v c W => hasCore_any f m v c W hm)
  have HIW := Lib.hid (fun A n d x w => isWhole_any Any A n d x w)
  unfold planA at HHC
  unfold plA at HIW
  clear hL hm hf hf2
  obtain ⟨A, cA, rfl, hlc, hcm⟩ := h.form
  have HL := Lib.hid h
  obtain ⟨w1, P, hw1, hP, hPl, hb1, hbox⟩ := box_any w #[.int .i64 f, .int .u32 m, .slice A l.length cA] 26
  obtain ⟨n, hn⟩ : ∃ n, l.length = n := ⟨_, rfl⟩
  rw [hn] at HL hlc hl hw1 hbox ⊢
  have HN := Lib.hid hn
  have HB1 := Lib.hid hb1
  have HBOX := Lib.hid hbox
  obtain ⟨r0, r1, r2⟩ := three_heads hbox
  clear h hn hb1 hbox
  unfold planA
  go_enter Tryz.func98, Tryz.ntmps98
  go_wp2_with fail
  clear hw1 hP r0 r1 r2
  go_loopg [4, 8] n (fun gg _ s8 wr => ∃ k : Nat, k ≤ n ∧ gg = n - k ∧ s8 = .int .i64 k ∧ Hid (∀ (i : Nat) (x : Pl), i < k → l[i]? = some x → WS f m x) ∧ Below w1.heap.size w1 wr)
  case atStart => exact ⟨0, Nat.zero_le _, by omega, rfl, fun i x h => absurd h (Nat.not_lt_zero _), Below.refl _ _⟩
  case round =>
    obtain ⟨k, hk, hg, rfl, HW, hbw⟩ := hrel
    have HBW := Lib.hid hbw
    have HB := Lib.hid (HB1.out.trans (hbw.mono HB1.out.size))
    have HG := Lib.hid hg
    have hPl2 : P < wr.heap.size := Nat.lt_of_lt_of_le hPl hbw.size
    have HBX := Lib.hid ((hbw.block P hPl).trans HBOX.out)
    obtain ⟨r0, r1, r2⟩ := three_heads HBX.out
    have HLR := Lib.hid (HL.out.keep HB.out)
    clear hbw hg
    by_cases hlt : k < n
    · have hk0 : (0 : Int) ≤ (k : Int) := by omega
      have hltz : (k : Int) < (n : Int) := by omega
      obtain ⟨x, hx⟩ := exP_at (xs := l) (k := k) (by rw [HN.out]; exact hlt)
      obtain ⟨b, off, B, d, hA, hbl, _, ⟨c0, c1, c2, c3⟩, hps⟩ := HLR.out.at_ hx
      subst hA
      simp only at c0 c1 c2 c3
      have HX := Lib.hid hx
      have HPS := Lib.hid hps
      clear hx hps
      obtain ⟨w2, N, hw2, hN, hNl, hb2, hxbox⟩ := box_any wr #[.int .i64 x.u, .int .i64 x.s, .int .i64 x.c, .slice B x.ps.length d] 48
      have HB2 := Lib.hid hb2
      have HXB := Lib.hid hxbox
      obtain ⟨x0, x1, x2, x3⟩ := four_heads hxbox
      obtain ⟨p0, p1, p2⟩ := three_heads (keep_block HBX.out hb2)
      clear hb2 hxbox
      have hxo := HLL.out.ok x (List.mem_of_getElem? HX.out)
      have HBS := Lib.hid (HBW.out.trans (HB2.out.mono HBW.out.size))
      have HBX2 := Lib.hid (keep_block HBX.out HB2.out)
      have HIC := Lib.hid (fun w => HIW.out B x.ps.length d x w)
      have HCC := Lib.hid (fun w => HHC.out (.slice (some ⟨b, off, none⟩) n cA) x.c w)
      have HXA := Lib.hid (show (∀ x ∈ l, WS f m x) → WS f m x from fun h => h x (List.mem_of_getElem? HX.out))
      have HWN : Hid (WS f m x → ∀ (i : Nat) (x : Pl), i < k + 1 → l[i]? = some x → WS f m x) := fun hws i y hi hy => by
        by_cases e : i = k
        · subst e; rw [HX.out] at hy; cases hy; exact hws
        · exact HW i y (by omega) hy
      have HSP := Lib.hid (fun W h => calls_iff (rightSplit_any f m (.slice (some ⟨b, off, none⟩) n cA) (.slice B x.ps.length d) x W h hxo.1 hxo.2 HM.out HF.out.1 HF.out.2))
      unfold planA plA at HSP
      have HWW := Lib.hid (fun h => ws_whole (f := f) (m := m) (x := x) h)
      have HWS := Lib.hid (fun h => ws_split (f := f) (m := m) (x := x) h)
      clear hxo
      cases hz : decide (x.ps.length = 0) with
      | true =>
        rw [hz] at HIC
        have HWI := Lib.hid (HWW.out (of_decide_eq_true hz))
        clear hz
        cases hh : hasC m x.c with
        | false =>
          rw [hh] at HCC HWI
          have HNO := Lib.hid (show ¬ (∀ x ∈ l, WS f m x) from fun h => by have := HWI.out.1 (HXA.out h); cases this)
          clear hh
          go_wp2_with fail
          refine (HIC.out _).mono ?_
          rintro e w3 ⟨rfl, hb3⟩
          have HB3 := Lib.hid (HBS.out.trans (hb3.mono HBS.out.size))
          obtain ⟨y0, y1, y2, y3⟩ := four_heads (keep_block HXB.out hb3)
          obtain ⟨q0, q1, q2⟩ := three_heads (keep_block HBX2.out hb3)
          clear hb3 x0 x1 x2 x3 p0 p1 p2
          go_wp2_with fail
          refine (HCC.out _).mono ?_
          rintro e w4 ⟨rfl, hb4⟩
          have HB4 := Lib.hid (HB1.out.trans ((HB3.out.trans (hb4.mono HB3.out.size)).mono HB1.out.size))
          clear hb4
          go_wp2_with fail
          go_ret
          exact RetIff.no HNO.out HB4.out
        | true =>
          rw [hh] at HCC HWI
          have HYES : Hid (∀ (i : Nat) (x : Pl), i < k + 1 → l[i]? = some x → WS f m x) := HWN (HWI.out.2 rfl)
          clear hh
          go_wp2_with fail
          refine (HIC.out _).mono ?_
          rintro e w3 ⟨rfl, hb3⟩
          have HB3 := Lib.hid (HBS.out.trans (hb3.mono HBS.out.size))
          have HXB3 := Lib.hid (keep_block HXB.out hb3)
          obtain ⟨y0, y1, y2, y3⟩ := four_heads HXB3.out
          obtain ⟨q0, q1, q2⟩ := three_heads (keep_block HBX2.out hb3)
          clear hb3 x0 x1 x2 x3 p0 p1 p2
          go_wp2_with fail
          refine (HCC.out _).mono ?_
          rintro e w4 ⟨rfl, hb4⟩
          have HB4 := Lib.hid (HB3.out.trans (hb4.mono HB3.out.size))
          obtain ⟨z0, z1, z2, z3⟩ := four_heads (keep_block HXB3.out hb4)
          clear hb4 y0 y1 y2 y3
          go_wp2_with fail
          refine (HIC.out _).mono ?_
          rintro e w5 ⟨rfl, hb5⟩
          have HB5 := Lib.hid (HB4.out.trans (hb5.mono HB4.out.size))
          clear hb5
          go_wp2_with fail
          go_roundg (n - (k + 1))
          case measure => have := HG.out; omega
          case rel => exact ⟨k + 1, by omega, rfl, by go_num, HYES, HB5.out⟩
      | false =>
        rw [hz] at HIC
        have HWI := Lib.hid (HWS.out (of_decide_eq_false hz))
        clear hz
        go_wp2_with fail
        refine (HIC.out _).mono ?_
        rintro e w3 ⟨rfl, hb3⟩
        have HB3 := Lib.hid (HBS.out.trans (hb3.mono HBS.out.size))
        have HXB3 := Lib.hid (keep_block HXB.out hb3)
        have HBX3 := Lib.hid (keep_block HBX2.out hb3)
        have HPS3 := Lib.hid ((HPS.out.keep HB2.out).keep hb3)
        obtain ⟨y0, y1, y2, y3⟩ := four_heads HXB3.out
        clear hb3 x0 x1 x2 x3 p0 p1 p2
        go_wp2_with fail
        refine (HIC.out _).mono ?_
        rintro e w4 ⟨rfl, hb4⟩
        have HB4 := Lib.hid (HB3.out.trans (hb4.mono HB3.out.size))
        have HBO4 := Lib.hid (HB1.out.trans (HB4.out.mono HB1.out.size))
        obtain ⟨z0, z1, z2, z3⟩ := four_heads (keep_block HXB3.out hb4)
        obtain ⟨q0, q1, q2⟩ := three_heads (keep_block HBX3.out hb4)
        have HPS4 := Lib.hid ((HPS3.out.any).keep hb4)
        clear hb4 y0 y1 y2 y3
        by_cases hsp : SplitOk f m x
        · have HSY := Lib.hid ((HSP.out w4 HPS4.out).1 hsp)
          have HYES : Hid (∀ (i : Nat) (x : Pl), i < k + 1 → l[i]? = some x → WS f m x) := HWN (HWI.out.2 hsp)
          clear hsp
          go_wp2_with fail
          refine HSY.out.mono ?_
          rintro e w5 ⟨rfl, hb5⟩
          have HB5 := Lib.hid (HB4.out.trans (hb5.mono HB4.out.size))
          clear hb5
          go_wp2_with fail
          go_roundg (n - (k + 1))
          case measure => have := HG.out; omega
          case rel => exact ⟨k + 1, by omega, rfl, by go_num, HYES, HB5.out⟩
        · have HSN := Lib.hid ((HSP.out w4 HPS4.out).2 hsp)
          have HNO := Lib.hid (show ¬ (∀ x ∈ l, WS f m x) from fun h => hsp (HWI.out.1 (HXA.out h)))
          clear hsp
          go_wp2_with fail
          refine HSN.out.mono ?_
          rintro e w5 ⟨rfl, hb5⟩
          have HB5 := Lib.hid (HBO4.out.trans (hb5.mono HBO4.out.size))
          clear hb5
          go_wp2_with fail
          go_ret
          exact RetIff.no HNO.out HB5.out
    · have hltz : ¬ (k : Int) < (n : Int) := by omega
      have HYE := Lib.hid (show ∀ x ∈ l, WS f m x from fun x hx => by
        obtain ⟨i, hi, e⟩ := List.getElem_of_mem hx
        exact HW i x (by have := HN.out; omega) (by rw [List.getElem?_eq_getElem hi, e]))
      go_wp2
      go_ret
      exact RetIff.yes HYE.out HB.out
end Go.Proofs.YtpfpojehcjmfnaaGreat

/-
  hasUnit and Check of the program; Check of the document.
  Conditions: the slices read as wants of ints.
-/
set_option linter.unusedVariables false
namespace Go.Proofs.YtpfpojehcjmfnaaGreat
open Go.RowKit

theorem unitPred_any (u : Int) (B : Nat) (p : Sp) (W : World) (hB : B < W.heap.size) (hc : W.cell? ⟨B, 0, none⟩ = some (.int .i64 u)) :
    Calls Tryz.prog 139 #[.agg #[.int .i64 p.1, .int .i64 p.2], .pointer (some ⟨B, 0, none⟩)] W (RetB (.bool (decide (p.1 = u))) W) := by
  obtain ⟨a, b⟩ := p
  simp only
  have hne : B ≠ W.heap.size := by omega
  have hd : (a == u) = decide (a = u) := by by_cases h : a = u <;> simp [h]
  go_enter Tryz.func139, Tryz.ntmps139
  go_wp2
  all_goals go_ret
  all_goals exact ⟨by simp_all, (Below.refl _ _).alloc (Nat.le_refl _) _⟩

theorem hasUnit_any (v : Value) (ps : List Sp) (u : Int) (w : World) (h : SpansAt w v ps) :
    Calls Tryz.prog 85 #[v, .int .i64 u] w (RetB (.bool (ps.any fun s => decide (s.1 = u))) w) := by
  have eg : ∀ args w, (callFunc 139 args).run Tryz.prog w = .ok (.enter 139 args) w := enters_of Tryz.func139 (by kernel_rfl) rfl
  have hb0 : Below w.heap.size w (w.alloc (.cells #[.int .i64 u] 3)) := (Below.refl _ _).alloc (Nat.le_refl _) _
  have HC := Lib.hid (contains_any _ #[.pointer (some ⟨w.heap.size, 0, none⟩)] eg (fun s => decide (s.1 = u)) v ps (w.alloc (.cells #[.int .i64 u] 3)) (fun W p hb => by
    refine unitPred_any u w.heap.size p W (by have := hb.size; simp at this; omega) ?_
    rw [hb.cell (p := ⟨w.heap.size, 0, none⟩) (by simp)]
    simp) (h.keep hb0))
  have HB := Lib.hid hb0
  generalize (ps.any fun s => decide (s.1 = u)) = r at *
  clear h hb0
  go_enter Tryz.func85, Tryz.ntmps85
  go_wp2_with (go_at_call 138; refine HC.out.mono ?_; rintro e w' ⟨rfl, hb⟩)
  go_ret
  exact ⟨rfl, HB.out.trans (hb.mono (by simp))⟩

/-- The first i of a slice. -/
theorem SpansAt.cut {W : World} {A : Option Addr} {n c : Nat} {ps : List Sp} {i : Nat} (h : SpansAt W (.slice A n c) ps) (hi : i ≤ n) : SpansAt W (.slice A i c) (ps.take i) := by
  obtain ⟨A', c', h1, h2, h3, h4, h5⟩ := h
  injection h1 with e1 e2 e3
  subst e1 e2 e3
  have hl : (ps.take i).length = i := by rw [List.length_take]; omega
  refine ⟨A, c, by rw [hl], by omega, by omega, h4, fun hn => ?_⟩
  obtain ⟨b, off, e, hlt, hc⟩ := h5 (by omega)
  refine ⟨b, off, e, hlt, fun j p hj => hc j p ?_⟩
  rw [List.getElem?_take] at hj
  split at hj
  · exact hj
  · cases hj

def ChkRel (n : Nat) (f : Int) (ps : List Sp) (R : Int) (w : World) (gg : Nat) (s18 : Value) (wr : World) : Prop :=
  ∃ i : Nat, i ≤ n ∧ gg = n - i ∧ s18 = .int .i64 i ∧ Below w.heap.size w wr ∧ chkL f (ps.take i) (ps.drop i) = R

set_option maxRecDepth 100000 in
set_option maxHeartbeats 4000000 in
theorem check_any (f : Int) (v : Value) (ps : List Sp) (w : World) (h : SpansAt w v ps) (hi : IntsS ps) : Calls Tryz.prog 41 #[.int .i64 f, v] w (RetB (.int .i64 (chkT f ps)) w) := by
  by_cases hf1 : f < 2
  · have HR : Hid (chkT f ps = 1) := if_pos (.inl hf1)
    obtain ⟨A, c, rfl, _⟩ := h
    go_enter Tryz.func41, Tryz.ntmps41
    go_wp2
    go_ret
    exact ⟨by rw [HR.out]; rfl, Below.refl _ _⟩
  · by_cases hf2 : 64 < f
    · have HR : Hid (chkT f ps = 1) := if_pos (.inr hf2)
      obtain ⟨A, c, rfl, _⟩ := h
      go_enter Tryz.func41, Tryz.ntmps41
      go_wp2
      go_ret
      exact ⟨by rw [HR.out]; rfl, Below.refl _ _⟩
    · obtain ⟨R, hR⟩ : ∃ R, chkT f ps = R := ⟨_, rfl⟩
      have HR : Hid (chkL f [] ps = R) := by rw [← hR]; exact (if_neg (by omega)).symm
      rw [hR]
      have HS := Lib.hid h
      obtain ⟨A, c, rfl, hc1, hlen, hc2, hat⟩ := h
      have HAT := Lib.hid hat
      have HI := Lib.hid hi
      generalize hn : ps.length = n at *
      have HN := Lib.hid hn
      have HU := Lib.hid (fun v ps u w h => hasUnit_any v ps u w h)
      clear hat hn hR hi
      go_enter Tryz.func41, Tryz.ntmps41
      go_wp2_with fail
      go_loopg [5, 6, 7, 8, 9, 18] n (fun gg _ _ _ _ _ s18 wr => ChkRel n f ps R w gg s18 wr)
      case atStart => exact ⟨0, Nat.zero_le _, by omega, rfl, Below.refl _ _, HR.out⟩
      case round =>
        obtain ⟨i, hin, hgg, rfl, hbw, hchk⟩ := hrel
        have HG := Lib.hid hgg
        have HB := Lib.hid hbw
        have HK := Lib.hid hchk
        have hsz := hbw.size
        clear hgg hbw hchk
        by_cases hlt : i < n
        · have hltz : (i : Int) < (n : Int) := by omega
          obtain ⟨b, off, hA, hbl, hcell⟩ := HAT.out (by omega)
          subst hA
          obtain ⟨y, hy⟩ := ex_at (xs := ps) (k := i) (by rw [HN.out]; exact hlt)
          obtain ⟨c1, c2⟩ := (hcell i y hy).keep HB.out hbl
          obtain ⟨a1, a2⟩ := (HI.out.at_ hy).1
          have HY := Lib.hid hy
          have hkind := fun W => kind_any y.1 a1 a2 W
          have HBX := Lib.hid (HB.out.alloc hsz (Obj.cells #[.int .i64 y.1, .int .i64 y.2] 52))
          cases hu : isU y.1
          · have HKI : Hid (∀ W, Calls Tryz.prog 84 #[.int .i64 y.1] W (Ret (.tuple #[.int .i64 (kindI y.1), .bool (kindG y.1), .bool false]) W)) := by
              intro W; have := hkind W; rw [hu] at this; exact this
            have HRN : Hid (R = 20) := by
              have e := chkE_id (f := f) (b := ps.take i) hu
              exact (chk_bad hy (by rw [e]; decide) HK.out).trans e
            obtain ⟨y1, y2⟩ := y
            simp only at c1 c2 HKI HBX
            generalize kindI y1 = k1 at *
            generalize kindG y1 = k2 at *
            clear hcell hy hkind hu a1 a2
            go_wp2_with (go_at_call 84; refine (HKI.out _).mono ?_; rintro e w' ⟨rfl, rfl⟩)
            go_ret
            exact ⟨by rw [HRN.out]; rfl, HBX.out⟩
          · have HKI : Hid (∀ W, Calls Tryz.prog 84 #[.int .i64 y.1] W (Ret (.tuple #[.int .i64 (kindI y.1), .bool (kindG y.1), .bool true]) W)) := by
              intro W; have := hkind W; rw [hu] at this; exact this
            by_cases hs1 : y.2 < 1
            · have HRN : Hid (R = 21) := by
                have e := chkE_share (f := f) (b := ps.take i) hu (.inl hs1)
                exact (chk_bad hy (by rw [e]; decide) HK.out).trans e
              obtain ⟨y1, y2⟩ := y
              simp only at c1 c2 HKI HBX hs1
              generalize kindI y1 = k1 at *
              generalize kindG y1 = k2 at *
              clear hcell hy hkind hu a1 a2
              go_wp2_with (go_at_call 84; refine (HKI.out _).mono ?_; rintro e w' ⟨rfl, rfl⟩)
              go_ret
              exact ⟨by rw [HRN.out]; rfl, HBX.out⟩
            · by_cases hs2 : f < y.2
              · have HRN : Hid (R = 21) := by
                  have e := chkE_share (f := f) (b := ps.take i) hu (.inr hs2)
                  exact (chk_bad hy (by rw [e]; decide) HK.out).trans e
                obtain ⟨y1, y2⟩ := y
                simp only at c1 c2 HKI HBX hs1 hs2
                generalize kindI y1 = k1 at *
                generalize kindG y1 = k2 at *
                clear hcell hy hkind hu a1 a2
                go_wp2_with (go_at_call 84; refine (HKI.out _).mono ?_; rintro e w' ⟨rfl, rfl⟩)
                go_ret
                exact ⟨by rw [HRN.out]; rfl, HBX.out⟩
              · have HCUT := Lib.hid ((HS.out.keep HB.out).cut (i := i) (by omega))
                have hic : (i : Int) ≤ (c : Int) := by omega
                have hi0 : (0 : Int) ≤ (i : Int) := by omega
                have HUY : Hid (∀ W', Below wr.heap.size wr W' → Calls Tryz.prog 85 #[.slice (some ⟨b, off, none⟩) i c, .int .i64 y.1] W' (RetB (.bool ((ps.take i).any fun s => decide (s.1 = y.1))) W')) := fun W' hb => HU.out _ _ _ W' (HCUT.out.keep hb)
                obtain ⟨T, hT⟩ : ∃ T, ((ps.take i).any fun s => decide (s.1 = y.1)) = T := ⟨_, rfl⟩
                rw [hT] at HUY
                have HTT : Hid (if T then R = 11 else chkL f (ps.take (i + 1)) (ps.drop (i + 1)) = R) := by
                  cases T
                  · exact chk_ok hy (chkE_ok hu hs1 hs2 hT) HK.out
                  · have e := chkE_two (f := f) hu hs1 hs2 hT
                    show R = 11
                    exact (chk_bad hy (by rw [e]; decide) HK.out).trans e
                obtain ⟨y1, y2⟩ := y
                simp only at c1 c2 HKI HBX HUY hs1 hs2
                generalize kindI y1 = k1 at *
                generalize kindG y1 = k2 at *
                have HX0 := Lib.hid (show Below wr.heap.size wr (wr.alloc (Obj.cells #[Value.int .i64 y1, Value.int .i64 y2] 52)) from (Below.refl _ _).alloc (Nat.le_refl _) _)
                clear hcell hy hkind hu a1 a2 hT
                cases T
                · have HT2 : Hid (chkL f (ps.take (i + 1)) (ps.drop (i + 1)) = R) := HTT.out
                  clear HTT
                  go_wp2_with (go_at_call 84; refine (HKI.out _).mono ?_; rintro e w' ⟨rfl, rfl⟩)
                  go_wp2_with fail
                  go_region_held3 (fun w' => w'.cell? ⟨wr.heap.size, 0, none⟩ = some (.int .i64 y1))
                    (first | go_keep | exact (hb.cell (p := ⟨wr.heap.size, 0, none⟩) (by simp)).trans (by simp))
                    (first | (go_at_call 85; refine (HUY.out _ HX0.out.drew).mono ?_; rintro e w' ⟨rfl, hb⟩))
                  have HB5 := Lib.hid (HBX.out.drew.trans (hb.mono (by simp; omega)))
                  clear hb
                  go_wp2
                  go_roundg (n - (i + 1))
                  case measure => have := HG.out; omega
                  case rel => exact ⟨i + 1, by omega, rfl, by go_num, HB5.out, HT2.out⟩
                · have HRN : Hid (R = 11) := HTT.out
                  clear HTT
                  go_wp2_with (go_at_call 84; refine (HKI.out _).mono ?_; rintro e w' ⟨rfl, rfl⟩)
                  go_wp2_with fail
                  go_region_held3 (fun w' => w'.cell? ⟨wr.heap.size, 0, none⟩ = some (.int .i64 y1))
                    (first | go_keep | exact (hb.cell (p := ⟨wr.heap.size, 0, none⟩) (by simp)).trans (by simp))
                    (first | (go_at_call 85; refine (HUY.out _ HX0.out.drew).mono ?_; rintro e w' ⟨rfl, hb⟩))
                  have HB5 := Lib.hid (HBX.out.drew.trans (hb.mono (by simp; omega)))
                  clear hb
                  go_wp2
                  go_ret
                  exact ⟨by rw [HRN.out]; rfl, HB5.out⟩
        · have hin' : i = n := by omega
          subst hin'
          have hltz : ¬ (i : Int) < (i : Int) := by omega
          have HRN : Hid (R = 0) := by
            have := HK.out
            rw [List.drop_eq_nil_of_le (by rw [HN.out]; exact Nat.le_refl _)] at this
            exact this.symm
          go_wp2
          go_ret
          exact ⟨by rw [HRN.out]; rfl, HB.out⟩

theorem any_unit {ps : List Sp} {u : Int} (h : ∀ (j : Nat) (s : Sp), ps[j]? = some s → s.1 ≠ u) : (ps.any fun s => decide (s.1 = u)) = false := by
  rw [List.any_eq_false]
  intro s hs
  obtain ⟨j, hj, e⟩ := List.getElem_of_mem hs
  have := h j s (by rw [List.getElem?_eq_getElem hj, e])
  simpa using this
theorem any_unit_yes {ps : List Sp} {u : Int} {j : Nat} {s : Sp} (h : ps[j]? = some s) (hu : s.1 = u) : (ps.any fun s => decide (s.1 = u)) = true :=
  List.any_eq_true.2 ⟨s, List.mem_of_getElem? h, by simpa using hu⟩
end Go.Proofs.YtpfpojehcjmfnaaGreat
