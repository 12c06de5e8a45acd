/-
  The law of nobody twice: TableTwice.
  Conditions: the slice reads as places; the numbers are of their kinds.
-/
import Derived.Test.YtpjmdnhoiobedaaMaps
set_option linter.unusedVariables false
set_option linter.unusedSimpArgs false
namespace Go.Proofs.Ytpjmdnhoiobedaa
open Go.RowKit Go.Maps

theorem ints_not_map {W : World} {A : Option Addr} {n c : Nat} {xs : List Int} (h : IntsAt W (.slice A n c) xs) (hn : 0 < xs.length) {R : Value → Option (DataW Unit × List MemPlace)} {mb cn : Nat} {D : DataW Unit} (hm : W.ownsMap Try.prog 3 R mb cn D) : ∀ b, (Value.slice A n c).ownBlock = some b → b ≠ mb := by
  intro b hb e
  subst e
  obtain ⟨A', c', e, _, h3⟩ := h
  obtain ⟨b4, o4, e4, _, h5⟩ := h3 hn
  injection e with e1 e2 e3
  subst e1
  subst e4
  cases hb
  obtain ⟨es, clock, hh, _⟩ := hm
  have h6 := h5 0 xs[0] (List.getElem?_eq_getElem hn)
  simp [World.cell?, hh] at h6
theorem ints_grown {W W' : World} {A : Option Addr} {n c : Nat} {xs : List Int} (h : IntsAt W (.slice A n c) xs) {R : Value → Option (DataW Unit × List MemPlace)} {mb cn : Nat} {D : DataW Unit} (hm : W.ownsMap Try.prog 3 R mb cn D) (hg : W.grownBy W' (some mb)) : IntsAt W' (.slice A n c) xs :=
  ints_block h hg.size fun hn b hb hl => hg.block b hl fun e => ints_not_map h hn hm b hb (Option.some.inj e)
theorem below_map {W0 W W' : World} {B mb : Nat} (h : Below B W0 W) (hB : B ≤ mb) (hg : W.grownBy W' (some mb)) (hs : B ≤ W.heap.size) : Below B W0 W' := h.trans ⟨hg.os, hg.tape, hg.output, hg.size, fun k hk => hg.block k (by omega) (fun e => by have := Option.some.inj e; omega)⟩
theorem cnt_bump {xs : List Int} {i : Nat} {u : Int} (hu : xs[i]? = some u) (G : Int → Nat) : bump (fun v => G v + cntI (xs.take i) v) u = fun v => G v + cntI (xs.take (i + 1)) v := by
  funext v
  unfold bump
  rw [cnt_snoc hu v]
  by_cases e : v = u
  · subst e; rw [if_pos rfl, decide_eq_true rfl]; rfl
  · rw [if_neg e, decide_eq_false (Ne.symm e)]; rfl
theorem mark_take {xs : List Int} {i : Nat} {u : Int} (hu : xs[i]? = some u) : mark (fun v => decide (v ∈ xs.take i)) u = fun v => decide (v ∈ xs.take (i + 1)) := by
  funext v
  unfold mark
  rw [List.take_add_one, hu, Option.toList_some]
  by_cases e : v = u
  · subst e; rw [if_pos rfl]; simp
  · rw [if_neg e]; simp [e]
theorem GotAt.congr {w : World} {mb cnt : Nat} {f g : Int → Nat} {D : DataW Unit} (h : GotAt w mb cnt f D) (e : f = g) : GotAt w mb cnt g D := e ▸ h
theorem OffAt.congr {w : World} {mb cnt : Nat} {f g : Int → Bool} {D : DataW Unit} (h : OffAt w mb cnt f D) (e : f = g) : OffAt w mb cnt g D := e ▸ h
/-- How often each was met in the first ticks. -/
def gotN (tbs : List Tb) (t : Nat) (u : Int) : Nat := sumTo (fun s => cntI (busyT tbs (s : Int)) u) t
theorem gotN_le {tbs : List Tb} (h : tbs.length ≤ 16) (u : Int) : ∀ t : Nat, gotN tbs t u ≤ 16 * t
  | 0 => Nat.zero_le _
  | t + 1 => by
    have h1 := gotN_le h u t
    have h2 := cntI_le (busyT tbs (t : Int)) u
    have h3 := busy_le tbs (t : Int)
    unfold gotN at *
    rw [sumTo]
    omega

set_option maxRecDepth 100000 in
set_option maxHeartbeats 16000000 in
theorem twice_law (f : Int) (m : Nat) (v : Value) (l : List Pl) (w : World) (h : PlsAt w v l) (ho : ∀ x ∈ l, PlOk x) (hm : m < 4294967296) :
    Calls Try.prog 6 #[planA f m v] w (RetB (.bool true) w) := by
  obtain ⟨w1, P, hw1, hP, hPl, hb1, hbox⟩ := box_any w #[.int .i64 f, .int .u32 m, v] 25
  have HB1 := Lib.hid hb1
  have HH : Hid (∀ W, Below w1.heap.size w1 W → PlsAt W v l) := Lib.hid (fun W hk => h.keep (HB1.out.trans (hk.mono HB1.out.size)))
  have HS : Hid (∀ W, Below w1.heap.size w1 W → W.cell? ⟨P, 0, none⟩ = some (.int .i64 f) ∧ W.cell? ⟨P, 1, none⟩ = some (.int .u32 m) ∧ W.cell? ⟨P, 2, none⟩ = some v) := Lib.hid (fun W hk => three_heads (keep_block hbox hk))
  have HLI := Lib.hid (fun W (hk : Below w1.heap.size w1 W) => calls_iff (light_any f m v l W (HH.out W hk)))
  have HRI := Lib.hid (fun (hL : LightL l) W (hk : Below w1.heap.size w1 W) => calls_iff (right_any f m v l W (HH.out W hk) hL hm))
  have HAW := Lib.hid (fun W => awake_any W)
  have HK1 := Lib.hid (Below.refl w1.heap.size w1)
  unfold planA at HLI HRI ⊢
  obtain ⟨r0, r1, r2⟩ := HS.out _ HK1.out
  clear h hb1 hbox
  have mixed : Try.prog.follows .mixedOrders = true := by kernel_rfl
  by_cases hlit : Lit l
  · have hL := hlit.light ho
    have HYL := Lib.hid (fun W hk => (HLI.out W hk).1 hlit)
    by_cases hr : Right f m l
    · obtain ⟨n, rfl⟩ : ∃ n : Nat, f = (n : Int) := ⟨f.toNat, by have := hr.f2; omega⟩
      have hn64 : n ≤ 64 := by have := hr.f64; omega
      have HYR := Lib.hid (fun W hk => (HRI.out hL W hk).1 hr)
      have HOF := Lib.hid (fun W (hk : Below w1.heap.size w1 W) => of_right n m v l W (HH.out W hk) hL hr)
      have htl := tabsOf_le n m l
      have hl60 : l.length ≤ 60 := hlit.2
      have HONCE := Lib.hid (fun (t : Nat) (ht : t < n) (i : Nat) (u : Int) (hi : (busyT (tabsOf n m l) (t : Int))[i]? = some u) => busy_once hr ht hi)
      have HALL := Lib.hid (fun (x : Pl) (hx : x ∈ l) => got_all hr hx)
      have HUNI := Lib.hid (fun (x : Pl) (hx : x ∈ l) => unit_pos hr hx)
      have HEN := Lib.hid (fun (x : Tb) (hx : x ∈ tabsOf n m l) => loose_enough hr hx)
      have HWS := Lib.hid (fun (x : Tb) (hx : x ∈ tabsOf n m l) => tab_ws hr hx)
      have HXLL := Lib.hid (fun (x : Tb) (hx : x ∈ tabsOf n m l) => tabs_len hx)
      have HPO := Lib.hid ho
      generalize tabsOf n m l = tbs at HOF HONCE HALL HEN HWS HXLL htl
      have HBU := Lib.hid (fun va (t : Nat) W h (ht : t < 64) => busy_any va tbs (t : Int) W h (by omega) ⟨by omega, by omega⟩)
      have HTL := Lib.hid htl
      unfold planA at HOF
      clear HRI HLI hlit hr hL ho
      go_enter Try.func6, Try.ntmps6
      go_wp2_with fail
      refine (HYL.out _ HK1.out).mono ?_
      rintro e w2 ⟨rfl, hb2⟩
      have HK2 := Lib.hid (HK1.out.trans (hb2.mono HK1.out.size))
      clear r0 r1 r2
      obtain ⟨r0, r1, r2⟩ := HS.out _ HK2.out
      clear hb2
      go_wp2_with fail
      refine (HYR.out _ HK2.out).mono ?_
      rintro e w3 ⟨rfl, hb3⟩
      have HK3 := Lib.hid (HK2.out.trans (hb3.mono HK2.out.size))
      clear r0 r1 r2
      obtain ⟨r0, r1, r2⟩ := HS.out _ HK3.out
      clear hb3
      go_wp2_with fail
      refine (HOF.out _ HK3.out).mono ?_
      rintro e w4 ⟨va, rfl, hta, hb4⟩
      have HK4 := Lib.hid (HK3.out.trans (hb4.mono HK3.out.size))
      obtain ⟨Aa, ca, rfl, _, _⟩ := hta.form
      obtain ⟨N, hN⟩ : ∃ N, tbs.length = N := ⟨_, rfl⟩
      rw [hN] at hta htl ⊢
      have HTA4 := Lib.hid hta
      have HN := Lib.hid hN
      clear hb4 hta hN r0 r1 r2
      have hgot := got_new w4
      obtain ⟨gb, hgb⟩ : ∃ gb, w4.heap.size = gb := ⟨_, rfl⟩
      have hb5 : Below w4.heap.size w4 (w4.alloc (.map #[] 0)) := (Below.refl _ _).alloc (Nat.le_refl _) _
      obtain ⟨w5, hw5⟩ : ∃ w5, w4.alloc (.map #[] 0) = w5 := ⟨_, rfl⟩
      have hmk : (Instr.makeMap 52 none).run Try.prog w4 = .ok (.map (some gb)) w5 := by rw [← hw5, ← hgb]; rfl
      rw [hw5] at hgot hb5
      rw [hgb] at hgot
      have HG5 : Hid (GotAt w5 gb 0 (gotN tbs 0) (.map [])) := Lib.hid (hgot.congr (by funext u; rfl))
      have HB5 := Lib.hid hb5
      have HGB := Lib.hid hgb
      have HK1' := Lib.hid (show w1.heap.size ≤ w4.heap.size from HK4.out.size)
      clear hgot hb5 hw5 hgb
      go_wp2_with fail
      clear hmk
      go_loopg [6, 7, 8, 9] n (fun gg s6 _ _ _ wr => ∃ (t cn : Nat) (D : DataW Unit), t ≤ n ∧ gg = n - t ∧ s6 = .int .i64 t ∧ GotAt wr gb cn (gotN tbs t) D ∧ cn ≤ 20 * t ∧ Below w4.heap.size w4 wr)
      case atStart => exact ⟨0, 0, _, Nat.zero_le _, by omega, rfl, HG5.out, Nat.le_refl _, HB5.out⟩
      case round =>
        obtain ⟨t, cn, D, ht, hgt, rfl, hgw, hcn, hbw⟩ := hrel
        have HGT := Lib.hid hgt
        have HGW := Lib.hid hgw
        have HCN := Lib.hid hcn
        have HBW := Lib.hid hbw
        have HKW := Lib.hid (HK4.out.trans (hbw.mono HK1'.out))
        obtain ⟨r0, r1, r2⟩ := HS.out _ HKW.out
        clear hgt hgw hcn hbw
        by_cases htn : t < n
        · have ht0 : (0 : Int) ≤ (t : Int) := by omega
          have htz : (t : Int) < (n : Int) := by omega
          have hoff := off_new wr
          obtain ⟨mb, hmb⟩ : ∃ mb, wr.heap.size = mb := ⟨_, rfl⟩
          have hb6 : Below wr.heap.size wr (wr.alloc (.map #[] 0)) := (Below.refl _ _).alloc (Nat.le_refl _) _
          obtain ⟨w6, hw6⟩ : ∃ w6, wr.alloc (.map #[] 0) = w6 := ⟨_, rfl⟩
          have hmk : (Instr.makeMap 53 none).run Try.prog wr = .ok (.map (some mb)) w6 := by rw [← hw6, ← hmb]; rfl
          have hml : mb < w6.heap.size := by rw [← hw6, ← hmb]; simp
          rw [hw6] at hoff hb6
          rw [hmb] at hoff
          have HO6 := Lib.hid hoff
          have HG6 := Lib.hid (HGW.out.keep (hb6.block gb HGW.out.1.lt))
          have HB6 := Lib.hid (HBW.out.trans (hb6.mono HBW.out.size))
          have HMB : Hid (w4.heap.size ≤ mb ∧ gb < mb) := Lib.hid (by have h1 := HBW.out.size; have h2 := HGW.out.1.lt; omega)
          have HML := Lib.hid hml
          clear hoff hb6 hw6 hmb hml
          go_wp2_with fail
          clear hmk r0 r1 r2
          refine (HBU.out _ t _ (HTA4.out.keep HB6.out) (by omega)).mono ?_
          rintro e w7 ⟨vb, rfl, hib, hb7⟩
          obtain ⟨Ab, cb, rfl⟩ := hib.form
          have HB7 := Lib.hid (HB6.out.trans (hb7.mono HB6.out.size))
          have HG7 := Lib.hid (HG6.out.keep (hb7.block gb HG6.out.1.lt))
          have HO7 := Lib.hid (HO6.out.keep (hb7.block mb HML.out))
          have HON := Lib.hid (HONCE.out t htn)
          have HNX : Hid (∀ u, gotN tbs (t + 1) u = gotN tbs t u + cntI (busyT tbs (t : Int)) u) := Lib.hid (fun u => rfl)
          have hbl := busy_le tbs (t : Int)
          generalize hBB : busyT tbs (t : Int) = BB at *
          obtain ⟨NB, hNB⟩ : ∃ NB, BB.length = NB := ⟨_, rfl⟩
          rw [hNB] at hib hbl ⊢
          rw [HN.out] at hbl
          have HIB := Lib.hid hib
          have HNB := Lib.hid hNB
          clear hb7 hib hNB hBB
          go_wp2_with fail
          go_loopg [9] NB (fun gg s9 wr => ∃ (i cn mn : Nat) (D E : DataW Unit), i ≤ NB ∧ gg = NB - i ∧ s9 = .int .i64 i ∧ GotAt wr gb cn (fun v => gotN tbs t v + cntI (BB.take i) v) D ∧ OffAt wr mb mn (fun v => decide (v ∈ BB.take i)) E ∧ cn ≤ 20 * t + i ∧ mn ≤ i ∧ IntsAt wr (.slice Ab NB cb) BB ∧ Below w4.heap.size w4 wr)
          case atStart => exact ⟨0, cn, 0, D, _, Nat.zero_le _, by omega, rfl, HG7.out.congr (by funext v; simp [cntI]), HO7.out.congr (by funext v; simp), HCN.out, Nat.le_refl _, HIB.out, HB7.out⟩
          case round =>
            obtain ⟨i, cn2, mn, D2, E2, hi, hgi, rfl, hgw, how, hcn, hmn, hii, hbw⟩ := hrel
            have HGI := Lib.hid hgi
            have HGW2 := Lib.hid hgw
            have HOW := Lib.hid how
            have HCN2 := Lib.hid hcn
            have HMN := Lib.hid hmn
            have HII := Lib.hid hii
            have HBW2 := Lib.hid hbw
            clear hgi hgw how hii hbw
            by_cases hin : i < NB
            · have hi0 : (0 : Int) ≤ (i : Int) := by omega
              have hiz : (i : Int) < (NB : Int) := by omega
              obtain ⟨u, hu⟩ := exP_at (xs := BB) (k := i) (by rw [HNB.out]; exact hin)
              obtain ⟨hnot, hu1, hu2⟩ := HON.out i u hu
              obtain ⟨bb, ob, hA, hbl2, hc0⟩ : ∃ bb ob, Ab = some ⟨bb, ob, none⟩ ∧ bb < wr.heap.size ∧ wr.cell? ⟨bb, ob + i, none⟩ = some (.int .i64 u) := by
                obtain ⟨A', c', e, _, h3⟩ := HII.out
                injection e with e1 e2 e3
                obtain ⟨b4, o4, e4, h4, h5⟩ := h3 (by rw [HNB.out]; omega)
                exact ⟨b4, o4, e1.trans e4, h4, h5 i u hu⟩
              subst hA
              have L1 := HOW.out.look u (by omega) (by omega)
              rw [decide_eq_false hnot] at L1
              have HKEY := Lib.hid (key_int u (by omega) (by omega))
              have HU := Lib.hid hu
              have hmnb : mn ≤ 16 := by omega
              have hcnb : cn2 ≤ 1400 := by omega
              clear hnot hu hcn hmn
              go_wp2_with (at_mapUpdate; refine wpList_mapUpdate_own _ rfl _ _ _ 53 rfl 3 4 keyedInt Try.underlying53 _ mb mn E2 rfl HOW.out.1 (by unfold maxLen; omega) _ _ (.int .i64 u) rfl rfl HKEY.out (.lit (.bool true)) [] (plainElem_bool Try.underlying4 true) ?_)
              intro w8 hown8 hg8
              have HO8 := Lib.hid ((HOW.out.mark hown8).congr (mark_take HU.out))
              have HI8 := Lib.hid (ints_grown HII.out HOW.out.1 hg8)
              have HG8 := Lib.hid (HGW2.out.keep (hg8.block gb HGW2.out.1.lt (fun e => by have h1 := HMB.out.2; have h2 := Option.some.inj e; omega)))
              have HB8 := Lib.hid (below_map HBW2.out HMB.out.1 hg8 HBW2.out.size)
              have hc8 : w8.cell? ⟨bb, ob + i, none⟩ = some (.int .i64 u) := by
                obtain ⟨A', c', e, _, h3⟩ := HI8.out
                injection e with e1 e2 e3
                obtain ⟨b4, o4, e4, h4, h5⟩ := h3 (by rw [HNB.out]; omega)
                rw [e4] at e1
                injection e1 with e1
                injection e1 with e1 e2
                subst e1 e2
                exact h5 i u HU.out
              have HOL8 := Lib.hid hown8.lt
              have L2 := HG8.out.look u (by omega) (by omega)
              obtain ⟨fx, hfx⟩ : ∃ fx, gotN tbs t u + cntI (BB.take i) u = fx := ⟨_, rfl⟩
              rw [hfx] at L2
              have HFX := Lib.hid hfx
              have hfl : fx ≤ 1100 := by
                have h1 := gotN_le HTL.out u t
                have h2 := cntI_le (BB.take i) u
                rw [List.length_take, HNB.out] at h2
                omega
              have HWF := Lib.hid (wf_small (n := (fx : Int) + 1) (by omega) (by omega))
              clear hown8 hg8 hc0 L1 hfx
              go_wp2_with (at_mapUpdate; refine wpList_mapUpdate_own _ rfl _ _ _ 52 rfl 3 3 keyedInt Try.underlying52 _ gb cn2 D2 rfl HG8.out.1 (by unfold maxLen; omega) _ _ (.int .i64 u) rfl rfl HKEY.out (.lit (.int .i64 ((fx : Int) + 1))) [] (plainElem_int Try.underlying3 HWF.out) ?_)
              intro w9 hown9 hg9
              have HG9 : Hid (GotAt w9 gb (cn2 + 1) (fun v => gotN tbs t v + cntI (BB.take (i + 1)) v) (D2.put (.int .i64 u) (.lit (.int .i64 ((fx : Int) + 1))))) := Lib.hid (by
                rw [← HFX.out] at hown9 ⊢
                exact (HG8.out.bump hown9).congr (cnt_bump HU.out _))
              have HI9 := Lib.hid (ints_grown HI8.out HG8.out.1 hg9)
              have HO9 := Lib.hid (HO8.out.keep (hg9.block mb HOL8.out (fun e => by have h1 := HMB.out.2; have h2 := Option.some.inj e; omega)))
              have HB9 := Lib.hid (below_map HB8.out (Nat.le_of_eq HGB.out) hg9 HB8.out.size)
              clear hown9 hg9 L2 hc8
              go_wp2_with fail
              go_roundg (NB - (i + 1))
              case measure => have := HGI.out; omega
              case rel => exact ⟨i + 1, cn2 + 1, mn + 1, _, _, by omega, rfl, by go_num, HG9.out, HO9.out, by have := HCN2.out; omega, by have := HMN.out; omega, HI9.out, HB9.out⟩
            · have hiz : ¬ (i : Int) < (NB : Int) := by omega
              have HGE : Hid (GotAt wr gb cn2 (gotN tbs (t + 1)) D2) := Lib.hid (HGW2.out.congr (by
                funext v
                rw [HNX.out v, List.take_of_length_le (by rw [HNB.out]; omega)]))
              clear hcn hmn
              go_wp2_with fail
              go_roundg (n - (t + 1))
              case measure => have := HGT.out; omega
              case rel => exact ⟨t + 1, cn2, D2, by omega, rfl, by go_num, HGE.out, by have := HCN2.out; omega, HBW2.out⟩
        · have htz : ¬ (t : Int) < (n : Int) := by omega
          have etn : t = n := by omega
          rw [etn] at HGW
          obtain ⟨wA, rfl⟩ : ∃ wA : World, wA = wr := ⟨_, rfl⟩
          have HGA : Hid (∀ W, Below wA.heap.size wA W → ∀ x ∈ l, (Instr.lookup 52 (.map (some gb)) (.int .i64 x.u) false).run Try.prog W = .ok (.int .i64 (if x.ps.length = 0 then 0 else x.s)) W) := Lib.hid (fun W hk x hx => by
            have h1 := (HGW.out.keep (hk.block gb HGW.out.1.lt)).look x.u (by have := HUNI.out x hx; omega) (by have := HUNI.out x hx; omega)
            have h2 := HALL.out x hx
            unfold gotN at h1
            rw [h2] at h1
            exact h1)
          have HTAA : Hid (TabsAt wA (.slice Aa N ca) tbs) := Lib.hid (HTA4.out.keep HBW.out)
          clear htz etn
          go_wp2_with fail
          clear r0 r1 r2
          have HHA : Hid (∀ W, Below wA.heap.size wA W → PlsAt W v l) := Lib.hid (fun W hk => HH.out W (HKW.out.trans (hk.mono HKW.out.size)))
          have HSA : Hid (∀ W, Below wA.heap.size wA W → W.cell? ⟨P, 0, none⟩ = some (.int .i64 (n : Int)) ∧ W.cell? ⟨P, 1, none⟩ = some (.int .u32 m) ∧ W.cell? ⟨P, 2, none⟩ = some v) := Lib.hid (fun W hk => HS.out W (HKW.out.trans (hk.mono HKW.out.size)))
          obtain ⟨A, cA, rfl, hlc, hcm⟩ := (HHA.out wA (Below.refl _ _)).form
          obtain ⟨L, hLn⟩ : ∃ L, l.length = L := ⟨_, rfl⟩
          rw [hLn] at HHA HSA hlc hl60
          have HLN := Lib.hid hLn
          clear hLn
          go_loopg [10, 11] L (fun gg s10 _ wr => ∃ i : Nat, i ≤ L ∧ gg = L - i ∧ s10 = .int .i64 i ∧ Below wA.heap.size wA wr)
          case atStart => exact ⟨0, Nat.zero_le _, by omega, rfl, Below.refl _ _⟩
          case round =>
            obtain ⟨i, hi, hgi, rfl, hbw⟩ := hrel
            have HGI := Lib.hid hgi
            have HBW2 := Lib.hid hbw
            obtain ⟨r0, r1, r2⟩ := HSA.out _ hbw
            by_cases hiL : i < L
            · have hi0 : (0 : Int) ≤ (i : Int) := by omega
              have hiz : (i : Int) < (L : Int) := by omega
              obtain ⟨x, hx⟩ := exP_at (xs := l) (k := i) (by rw [HLN.out]; exact hiL)
              obtain ⟨b, off, B, d, hA, hbl, _, ⟨c0, c1, c2, c3⟩, hps⟩ := (HHA.out _ hbw).at_ hx
              subst hA
              simp only at c0 c1 c2 c3
              obtain ⟨w6, X, hw6, hX, hXl, hb6, hxb⟩ := box_any wr #[.int .i64 x.u, .int .i64 x.s, .int .i64 x.c, .slice B x.ps.length d] 56
              obtain ⟨x0, x1, x2, x3⟩ := four_heads hxb
              have HB6 := Lib.hid (HBW2.out.trans (hb6.mono HBW2.out.size))
              have L1 := HGA.out w6 HB6.out x (List.mem_of_getElem? hx)
              obtain ⟨np, hnp⟩ : ∃ np, x.ps.length = np := ⟨_, rfl⟩
              rw [hnp] at hw6 c3 x3 L1
              clear hps hx hb6 hxb hgi hbw hnp
              by_cases hp : np = 0
              · subst hp
                rw [if_pos rfl] at L1
                go_wp2_with fail
                go_roundg (L - (i + 1))
                case measure => have := HGI.out; omega
                case rel => exact ⟨i + 1, by omega, rfl, by go_num, HB6.out⟩
              · have hp1 : (0 : Int) < (np : Int) := by omega
                have hp2 : decide ((0 : Int) < (np : Int)) = true := decide_eq_true hp1
                have hp3 : decide (0 < np) = true := decide_eq_true (by omega)
                have hp4 : ((np : Int) == 0) = false := by simpa using hp
                have hp5 : (np == 0) = false := by simpa using hp
                have hss : (x.s != x.s) = false := by simp
                rw [if_neg hp] at L1
                clear hp
                go_wp2_with fail
                go_roundg (L - (i + 1))
                case measure => have := HGI.out; omega
                case rel => exact ⟨i + 1, by omega, rfl, by go_num, HB6.out⟩
            · have hiz : ¬ (i : Int) < (L : Int) := by omega
              clear hgi hbw
              go_wp2_with fail
              clear r0 r1 r2
              go_loopg [12, 13, 14] N (fun gg s12 _ _ wr => ∃ j : Nat, j ≤ N ∧ gg = N - j ∧ s12 = .int .i64 j ∧ Below wA.heap.size wA wr)
              case atStart => exact ⟨0, Nat.zero_le _, by omega, rfl, HBW2.out⟩
              case round =>
                obtain ⟨j, hj, hgj, rfl, hbw⟩ := hrel
                have HGJ := Lib.hid hgj
                have HBJ := Lib.hid hbw
                by_cases hjN : j < N
                · have hj0 : (0 : Int) ≤ (j : Int) := by omega
                  have hjz : (j : Int) < (N : Int) := by omega
                  obtain ⟨x, hx⟩ := exP_at (xs := tbs) (k := j) (by rw [HN.out]; exact hjN)
                  obtain ⟨ba, oa, A1, c1, A2, c2, hA, lba, g0, g1, g2, hi1, hs1⟩ := (HTAA.out.keep hbw).at_ hx
                  subst hA
                  have hxm := List.mem_of_getElem? hx
                  have HEN1 := Lib.hid (HEN.out x hxm)
                  obtain ⟨hwl, hwb⟩ := HWS.out x hxm
                  have HWB := Lib.hid hwb
                  have HLO := Lib.hid (loose_any ((A1, c1), (A2, c2), x) wr hi1 (show x.ts.length ≤ 1000 by rw [HXLL.out x hxm]; omega))
                  unfold tbA tV1 tV2 at HLO
                  simp only at HLO
                  obtain ⟨q, hq⟩ : ∃ q, cntI x.ts 0 = q := ⟨_, rfl⟩
                  rw [hq] at HLO HEN1
                  have HSP := Lib.hid hs1
                  obtain ⟨ns, hns⟩ : ∃ ns, x.ws.length = ns := ⟨_, rfl⟩
                  rw [hns] at HSP HLO g2 hwl
                  have hns60 : ns ≤ 60 := by rw [HLN.out] at hwl; omega
                  have HNS := Lib.hid hns
                  clear hs1 hi1 hx hxm hwb hq hns hgj hbw hwl
                  go_wp2_with fail
                  go_loopg [13, 14] ns (fun gg s13 s14 wk => ∃ (k : Nat) (s : Int), k ≤ ns ∧ gg = ns - k ∧ s14 = .int .i64 k ∧ s13 = .int .i64 s ∧ Hid (sumS (x.ws.take k) = s) ∧ wk = wr)
                  case atStart => exact ⟨0, 0, Nat.zero_le _, by omega, rfl, rfl, rfl, rfl⟩
                  case round =>
                    obtain ⟨k, s, hk, hgk, rfl, rfl, HSS, rfl⟩ := hrel
                    have HGK := Lib.hid hgk
                    have hsb := sumS_bound (x.ws.take k) fun p hp => HWB.out p (List.mem_of_mem_take hp)
                    rw [show sumS (x.ws.take k) = s from HSS, List.length_take, HNS.out] at hsb
                    have hs1 : 0 ≤ s := hsb.1
                    have hs2 : s ≤ 4000 := by omega
                    clear hgk hsb
                    by_cases hkn : k < ns
                    · have hk0 : (0 : Int) ≤ (k : Int) := by omega
                      have hkz : (k : Int) < (ns : Int) := by omega
                      obtain ⟨p, hp⟩ := exP_at (xs := x.ws) (k := k) (by rw [HNS.out]; exact hkn)
                      have hpb := HWB.out p (List.mem_of_getElem? hp)
                      obtain ⟨A', c', e, _, _, _, h3⟩ := HSP.out
                      obtain ⟨b4, o4, e4, hbl4, hc⟩ := h3 (by rw [HNS.out]; omega)
                      injection e with e1 e2 e3
                      rw [e4] at e1
                      subst e1
                      obtain ⟨f0, f1⟩ := hc k p hp
                      have HNX := Lib.hid (sumS_snoc hp)
                      obtain ⟨p1, p2⟩ := p
                      simp only at f0 f1 hpb HNX
                      obtain ⟨hpb1, hpb2⟩ := hpb
                      clear h3 hc e2 e3 e4 hp
                      go_wp2_with fail
                      go_roundg (ns - (k + 1))
                      case measure => have := HGK.out; omega
                      case rel => exact ⟨k + 1, s + p2, by omega, rfl, by go_num, by go_num, Lib.hid (by have := HNX.out; rw [show sumS (x.ws.take k) = s from HSS] at this; exact this), rfl⟩
                    · have hkz : ¬ (k : Int) < (ns : Int) := by omega
                      have hqs : ¬ ((q : Int) < s) := by
                        have h1 := HEN1.out
                        have h2 : sumS (x.ws.take k) = s := HSS
                        rw [List.take_of_length_le (by rw [HNS.out]; omega)] at h2
                        omega
                      go_wp2_with fail
                      refine HLO.out.mono ?_
                      rintro e w6 ⟨rfl, hb6⟩
                      have HB6 := Lib.hid (HBJ.out.trans (hb6.mono HBJ.out.size))
                      clear hb6 g0 g1 g2
                      go_wp2_with fail
                      go_roundg (N - (j + 1))
                      case measure => have := HGJ.out; omega
                      case rel => exact ⟨j + 1, by omega, rfl, by go_num, HB6.out⟩
                · have hjz : ¬ (j : Int) < (N : Int) := by omega
                  clear hgj hbw
                  go_wp2_with fail
                  refine (HAW.out _).mono ?_
                  rintro e w6 ⟨rfl, hb6⟩
                  have HBE := Lib.hid (HKW.out.trans ((HBJ.out.trans (hb6.mono HBJ.out.size)).mono HKW.out.size))
                  go_wp2_with fail
                  go_ret
                  exact ⟨rfl, HB1.out.trans (HBE.out.mono HB1.out.size)⟩
    · have HNR := Lib.hid (fun W hk => (HRI.out hL W hk).2 hr)
      clear HRI HLI hlit hr hL ho
      go_enter Try.func6, Try.ntmps6
      go_wp2_with fail
      refine (HYL.out _ HK1.out).mono ?_
      rintro e w2 ⟨rfl, hb2⟩
      have HK2 := Lib.hid (HK1.out.trans (hb2.mono HK1.out.size))
      clear r0 r1 r2
      obtain ⟨r0, r1, r2⟩ := HS.out _ HK2.out
      clear hb2
      go_wp2_with fail
      refine (HNR.out _ HK2.out).mono ?_
      rintro e w3 ⟨rfl, hb3⟩
      have HK3 := Lib.hid (HK2.out.trans (hb3.mono HK2.out.size))
      clear r0 r1 r2
      obtain ⟨r0, r1, r2⟩ := HS.out _ HK3.out
      clear hb3
      go_wp2_with fail
      refine (HAW.out _).mono ?_
      rintro e w4 ⟨rfl, hb4⟩
      have HK4 := Lib.hid (HK3.out.trans (hb4.mono HK3.out.size))
      clear hb4
      go_wp2_with fail
      go_ret
      exact ⟨rfl, HB1.out.trans (HK4.out.mono HB1.out.size)⟩
  · have HNL := Lib.hid (fun W hk => (HLI.out W hk).2 hlit)
    clear HRI hlit
    go_enter Try.func6, Try.ntmps6
    go_wp2_with fail
    refine (HNL.out _ HK1.out).mono ?_
    rintro e w2 ⟨rfl, hb2⟩
    have HK2 := Lib.hid (HK1.out.trans (hb2.mono HK1.out.size))
    clear hb2
    go_wp2_with fail
    refine (HAW.out _).mono ?_
    rintro e w3 ⟨rfl, hb3⟩
    have HK3 := Lib.hid (HK2.out.trans (hb3.mono HK2.out.size))
    clear hb3
    go_wp2_with fail
    go_ret
    exact ⟨rfl, HB1.out.trans (HK3.out.mono HB1.out.size)⟩
end Go.Proofs.Ytpjmdnhoiobedaa
