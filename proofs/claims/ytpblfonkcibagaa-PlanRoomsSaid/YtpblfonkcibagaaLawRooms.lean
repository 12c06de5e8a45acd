/-
  The law of rooms: PlanRooms.
  Conditions: the slice reads as places; the numbers are of their kinds.
-/
import Derived.Test.YtpblfonkcibagaaAwake
import Derived.Test.YtpblfonkcibagaaLight
import Derived.Test.YtpblfonkcibagaaBalance
import Derived.Test.YtpblfonkcibagaaSame
set_option linter.unusedVariables false
namespace Go.Proofs.Ytpblfonkcibagaa
open Go.RowKit

set_option maxRecDepth 100000 in
set_option maxHeartbeats 8000000 in
theorem rooms_law (f : Int) (m : Nat) (v : Value) (l : List Pl) (c : Int) (w : World) (h : PlsAt w v l) (ho : ∀ x ∈ l, PlOk x) (hm : m < 4294967296) :
    Calls Try.prog 5 #[planA f m v, .int .i64 c] w (RetB (.bool true) w) := by
  obtain ⟨w1, P, hw1, hP, hPl, hb1, hbox⟩ := box_any w #[.int .i64 f, .int .u32 m, v] 25
  have HB1 := Lib.hid hb1
  have HH : Hid (∀ W, Below w1.heap.size w1 W → PlsAt W v l) := Lib.hid (fun W hk => h.keep (HB1.out.trans (hk.mono HB1.out.size)))
  have HS : Hid (∀ W, Below w1.heap.size w1 W → W.cell? ⟨P, 0, none⟩ = some (.int .i64 f) ∧ W.cell? ⟨P, 1, none⟩ = some (.int .u32 m) ∧ W.cell? ⟨P, 2, none⟩ = some v) := Lib.hid (fun W hk => three_heads (keep_block hbox hk))
  have HLI := Lib.hid (fun W (hk : Below w1.heap.size w1 W) => calls_iff (light_any f m v l W (HH.out W hk)))
  have HRI := Lib.hid (fun (hL : LightL l) W (hk : Below w1.heap.size w1 W) => calls_iff (right_any f m v l W (HH.out W hk) hL hm))
  have HAW := Lib.hid (fun W => awake_any W)
  have HK1 := Lib.hid (Below.refl w1.heap.size w1)
  unfold planA at HLI HRI ⊢
  obtain ⟨r0, r1, r2⟩ := HS.out _ HK1.out
  clear h hb1 hbox
  have mixed : Try.prog.follows .mixedOrders = true := by kernel_rfl
  by_cases hlit : Lit l
  · have hL := hlit.light ho
    by_cases hr : Right f m l
    · have hl : l.length ≤ 1000 := by have := hL.len; omega
      have hSh := shares_of hr.place hr.f64
      have hf0 : 0 ≤ f := by have := hr.f2; omega
      have hf64 := hr.f64
      have HFP := Lib.hid (fun W (hk : Below w1.heap.size w1 W) => free_any f m v l W (HH.out W hk) hL hSh hm hf0 hf64)
      have HFD := Lib.hid (fun W (hk : Below w1.heap.size w1 W) => refFree_any f m v l W (HH.out W hk) hL hSh hm hf0 hf64)
      have HRP := Lib.hid (fun W (hk : Below w1.heap.size w1 W) => room_any f m v l c W (HH.out W hk) hL hSh hm hf0 hf64)
      have HRD := Lib.hid (fun W (hk : Below w1.heap.size w1 W) => refRoom_any f m v l c W (HH.out W hk) hL hSh hm hf0 hf64)
      have HCR := Lib.hid (fun W => refCores_any f m v W hm)
      have HHC := Lib.hid (fun W => refHasC_any f m v c W hm)
      have HWP := Lib.hid (fun hc W (hk : Below w1.heap.size w1 W) => winP_any f m v l c W (HH.out W hk) hL hm hc)
      have HWD := Lib.hid (fun hc W (hk : Below w1.heap.size w1 W) => refWindows_any f m v l c W (HH.out W hk) hl hL.ok hc)
      have HOP := Lib.hid (fun W (hk : Below w1.heap.size w1 W) => wholes_any f m v l c W (HH.out W hk) hl)
      have HOD := Lib.hid (fun W (hk : Below w1.heap.size w1 W) => refWholes_any f m v l c W (HH.out W hk) hl)
      have HSS := Lib.hid (fun a b W h1 h2 => same_any a b (wholesT l c) W h1 h2)
      have HWT := Lib.hid (fun W (hk : Below w1.heap.size w1 W) => refWants_any f m v l W (HH.out W hk) hl)
      generalize wholesT l c = os at HOP HOD HSS
      generalize winN (pcsOf l) c = wn at HWP HWD
      have HYL := Lib.hid (fun W hk => (HLI.out W hk).1 hlit)
      have HYR := Lib.hid (fun W hk => (HRI.out hL W hk).1 hr)
      have hall := hr.all
      have hfb := free_bound f m l hL hSh hf0 hf64 16
      have hcn : coresN m ≤ 16 := cntT_le m 16
      have hln : (ticksI m 16).length = coresN m := ticksI_length m 16
      have hSB := sumS_bound (wantsT l) (fun p hp => by
        obtain ⟨x, hx, rfl⟩ := List.mem_map.1 hp
        exact hSh x hx)
      have HSH : Hid (∀ p ∈ wantsT l, 0 ≤ p.2 ∧ p.2 ≤ 64) := Lib.hid (fun p hp => by
        obtain ⟨x, hx, rfl⟩ := List.mem_map.1 hp
        exact hSh x hx)
      have hwl : (wantsT l).length ≤ 100 := by unfold wantsT; rw [List.length_map]; exact hL.len
      have HRM : Hid (hasC m c = false → roomN f m l c = 0) := Lib.hid (fun hh => by unfold roomN; rw [hh]; rfl)
      generalize freeT f m l 16 = F at HFP HFD hall hfb
      generalize roomN f m l c = rm at HRP HRD HRM
      generalize ticksI m 16 = cs at HCR hln
      generalize coresN m = cn at hall hcn hln
      generalize wantsT l = ws at HWT HSH hSB hall hwl
      have HCH : Hid (hasC m c = true → 0 ≤ c) := Lib.hid (fun hh => (hasC_range hh).1)
      obtain ⟨S, hS⟩ : ∃ S, sumS ws = S := ⟨_, rfl⟩
      rw [hS] at hall hSB
      have hS64 : 0 ≤ S ∧ S ≤ 6400 := by omega
      obtain ⟨T, hT⟩ : ∃ T, F + S = T := ⟨_, rfl⟩
      have hadd : IntKind.i64.wrap (F + S) = T := by rw [← hT]; exact IntWalk.i64_in _ (by omega)
      have hmul : IntKind.i64.wrap (f * (cn : Int)) = T := by rw [← hall, hT]; exact IntWalk.i64_in _ (by omega)
      have HS5 := Lib.hid hS
      have HLN := Lib.hid hln
      have HWLN := Lib.hid hwl
      unfold planA at HFP HFD HRP HRD HCR HHC HWP HWD HOP HOD HWT
      generalize hasC m c = has at HHC HWP HRM HCH
      clear HRI HLI hlit hr hL ho hl hSh hf0 hall hfb hcn hln hS hSB hwl hT hS64
      go_enter Try.func5, Try.ntmps5
      go_wp2_with fail
      refine (HYL.out _ HK1.out).mono ?_
      rintro e w2 ⟨rfl, hb2⟩
      have HK2 := Lib.hid (HK1.out.trans (hb2.mono HK1.out.size))
      clear hb2
      clear r0 r1 r2
      obtain ⟨r0, r1, r2⟩ := HS.out _ HK2.out
      go_wp2_with fail
      refine (HYR.out _ HK2.out).mono ?_
      rintro e w3 ⟨rfl, hb3⟩
      have HK3 := Lib.hid (HK2.out.trans (hb3.mono HK2.out.size))
      clear hb3
      clear r0 r1 r2
      obtain ⟨r0, r1, r2⟩ := HS.out _ HK3.out
      go_wp2_with fail
      refine (HWT.out _ HK3.out).mono ?_
      rintro e w4 ⟨v4, rfl, hs4, hb4⟩
      have HK4 := Lib.hid (HK3.out.trans (hb4.mono HK3.out.size))
      obtain ⟨A4, c4, rfl, _, _, _, hat⟩ := hs4
      have HAT := Lib.hid hat
      obtain ⟨n, hn⟩ : ∃ n, ws.length = n := ⟨_, rfl⟩
      rw [hn] at HAT HWLN ⊢
      have HN := Lib.hid hn
      have hwl := HWLN.out
      clear hb4 hat hn r0 r1 r2
      obtain ⟨r0, r1, r2⟩ := HS.out _ HK4.out
      go_wp2_with fail
      go_loopg [5, 7] n (fun gg s5 s7 wr => ∃ (k : Nat) (t : Int), k ≤ n ∧ gg = n - k ∧ s7 = .int .i64 k ∧ s5 = .int .i64 t ∧ t = sumS (ws.take k) ∧ w4 = wr)
      case atStart => exact ⟨0, 0, Nat.zero_le _, by omega, rfl, rfl, by simp [sumS], rfl⟩
      case round =>
        obtain ⟨k, t, hk, hg, rfl, rfl, ht, rfl⟩ := hrel
        have HG := Lib.hid hg
        have HT := Lib.hid ht
        clear hg
        by_cases hlt : k < n
        · have hltz : (k : Int) < (n : Int) := by omega
          have hk0 : (0 : Int) ≤ (k : Int) := by omega
          obtain ⟨p, hp⟩ := exP_at (xs := ws) (k := k) (by rw [HN.out]; exact hlt)
          obtain ⟨b, off, hA, hbl, hcell⟩ := HAT.out (by omega)
          subst hA
          obtain ⟨p0, p1⟩ := hcell k p hp
          have HSN := Lib.hid (sumS_snoc hp)
          have hpb := HSH.out p (List.mem_of_getElem? hp)
          have htb := sumS_bound (ws.take k) fun q hq => HSH.out q (List.mem_of_mem_take hq)
          have htl : (ws.take k).length ≤ 100 := by rw [List.length_take]; omega
          have t1 : 0 ≤ t := by rw [ht]; omega
          have t2 : t ≤ 6400 := by rw [ht]; omega
          obtain ⟨pu, psh⟩ := p
          simp only at p0 p1 hpb HSN
          obtain ⟨hpb1, hpb2⟩ := hpb
          clear hp hcell ht htb htl
          go_wp2_with fail
          go_roundg (n - (k + 1))
          case measure => have := HG.out; omega
          case rel => exact ⟨k + 1, t + psh, by omega, rfl, by go_num, rfl, by rw [HSN.out, HT.out], rfl⟩
        · have hltz : ¬ (k : Int) < (n : Int) := by omega
          have hte : t = S := by
            rw [ht, List.take_of_length_le (by rw [HN.out]; omega)]
            exact HS5.out
          subst hte
          clear ht HT
          have hk0 : Below w1.heap.size w1 w4.drew := HK4.out.drew
          go_wp2_with fail
          refine wp_region_held_drew (S := fun w' => w'.cell? ⟨P, 0, none⟩ = some (.int .i64 f) ∧ w'.cell? ⟨P, 1, none⟩ = some (.int .u32 m) ∧ w'.cell? ⟨P, 2, none⟩ = some (v)) (by kernel_rfl) ?_ (fun hHeld => ?_)
          · exact HS.out _ hk0
          refine wpAnyH_take (i := 0) (oi := ⟨some 32, _, _, _, _, _⟩) (v := ?_) rfl (by kernel_rfl) (by kernel_rfl) (by kernel_rfl) (fun _ _ _ h => h) (Or.inl ⟨by kernel_rfl, ?_⟩) (by assumption) ?_
          rotate_left
          · (intro w hSw; (try dsimp only at hSw); go_simp; try with_reducible rfl)
          (try simp only [Act.put, List.setIfInBounds_toArray, List.set_cons_zero, List.set_cons_succ])
          refine wpAnyH_take (i := 2) (oi := ⟨some 34, _, _, _, _, _⟩) (v := ?_) rfl (by kernel_rfl) (by kernel_rfl) (by kernel_rfl) (fun _ _ _ h => h) (Or.inl ⟨by kernel_rfl, ?_⟩) (by assumption) ?_
          rotate_left
          · (intro w hSw; (try dsimp only at hSw); go_simp; try with_reducible rfl)
          (try simp only [Act.put, List.setIfInBounds_toArray, List.set_cons_zero, List.set_cons_succ])
          refine wpAnyH_ready (rs := [1]) (by kernel_rfl) (by simp) ?_
          refine AllReadyH.cons (o := ⟨some 33, _, _, _, _, _⟩) rfl (fun K hK => ?_) AllReadyH.nil
          rw [if_pos (by kernel_rfl)]
          go_simp
          go_at_call 25; refine (HFP.out _ hk0).mono ?_; rintro e wq1 ⟨rfl, hb⟩
          have hk1 := hk0.trans (hb.mono hk0.size)
          clear hb
          refine hK.out _ _ ?_ (fun hHeld => ?_)
          · exact HS.out _ hk1
          clear hK K
          (try simp only [Act.put, List.setIfInBounds_toArray, List.set_cons_zero, List.set_cons_succ])
          refine wpAnyH_ready (rs := [3]) (by kernel_rfl) (by simp) ?_
          refine AllReadyH.cons (o := ⟨some 35, _, _, _, _, _⟩) rfl (fun K hK => ?_) AllReadyH.nil
          rw [if_pos (by kernel_rfl)]
          go_simp
          go_at_call 26; refine (HFD.out _ hk1).mono ?_; rintro e wq2 ⟨rfl, hb⟩
          have hk2 := hk1.trans (hb.mono hk1.size)
          clear hb
          refine hK.out _ _ ?_ (fun hHeld => ?_)
          · exact HS.out _ hk2
          clear hK K
          (try simp only [Act.put, List.setIfInBounds_toArray, List.set_cons_zero, List.set_cons_succ])
          refine wpAnyH_take (i := 4) (oi := ⟨some 36, _, _, _, _, _⟩) (v := ?_) rfl (by kernel_rfl) (by kernel_rfl) (by kernel_rfl) (fun _ _ _ h => h) (Or.inl ⟨by kernel_rfl, ?_⟩) (by assumption) ?_
          rotate_left
          · (intro w hSw; (try dsimp only at hSw); go_simp; try with_reducible rfl)
          (try simp only [Act.put, List.setIfInBounds_toArray, List.set_cons_zero, List.set_cons_succ])
          refine wpAnyH_take (i := 5) (oi := ⟨some 37, _, _, _, _, _⟩) (v := ?_) rfl (by kernel_rfl) (by kernel_rfl) (by kernel_rfl) (fun _ _ _ h => h) (Or.inl ⟨by kernel_rfl, ?_⟩) (by assumption) ?_
          rotate_left
          · (intro w hSw; (try dsimp only at hSw); go_simp; try with_reducible rfl)
          (try simp only [Act.put, List.setIfInBounds_toArray, List.set_cons_zero, List.set_cons_succ])
          refine wpAnyH_take (i := 6) (oi := ⟨some 38, _, _, _, _, _⟩) (v := ?_) rfl (by kernel_rfl) (by kernel_rfl) (by kernel_rfl) (fun _ _ _ h => h) (Or.inl ⟨by kernel_rfl, ?_⟩) (by assumption) ?_
          rotate_left
          · (intro w hSw; (try dsimp only at hSw); go_simp; try with_reducible rfl)
          (try simp only [Act.put, List.setIfInBounds_toArray, List.set_cons_zero, List.set_cons_succ])
          refine wpAnyH_take (i := 8) (oi := ⟨some 40, _, _, _, _, _⟩) (v := ?_) rfl (by kernel_rfl) (by kernel_rfl) (by kernel_rfl) (fun _ _ _ h => h) (Or.inl ⟨by kernel_rfl, ?_⟩) (by assumption) ?_
          rotate_left
          · (intro w hSw; (try dsimp only at hSw); go_simp; try with_reducible rfl)
          (try simp only [Act.put, List.setIfInBounds_toArray, List.set_cons_zero, List.set_cons_succ])
          refine wpAnyH_take (i := 10) (oi := ⟨some 42, _, _, _, _, _⟩) (v := ?_) rfl (by kernel_rfl) (by kernel_rfl) (by kernel_rfl) (fun _ _ _ h => h) (Or.inl ⟨by kernel_rfl, ?_⟩) (by assumption) ?_
          rotate_left
          · (intro w hSw; (try dsimp only at hSw); go_simp; try with_reducible rfl)
          (try simp only [Act.put, List.setIfInBounds_toArray, List.set_cons_zero, List.set_cons_succ])
          refine wpAnyH_take (i := 11) (oi := ⟨some 43, _, _, _, _, _⟩) (v := ?_) rfl (by kernel_rfl) (by kernel_rfl) (by kernel_rfl) (fun _ _ _ h => h) (Or.inl ⟨by kernel_rfl, ?_⟩) (by assumption) ?_
          rotate_left
          · (intro w hSw; (try dsimp only at hSw); go_simp; try with_reducible rfl)
          (try simp only [Act.put, List.setIfInBounds_toArray, List.set_cons_zero, List.set_cons_succ])
          refine wpAnyH_take (i := 12) (oi := ⟨some 44, _, _, _, _, _⟩) (v := ?_) rfl (by kernel_rfl) (by kernel_rfl) (by kernel_rfl) (fun _ _ _ h => h) (Or.inl ⟨by kernel_rfl, ?_⟩) (by assumption) ?_
          rotate_left
          · (intro w hSw; (try dsimp only at hSw); go_simp; try with_reducible rfl)
          (try simp only [Act.put, List.setIfInBounds_toArray, List.set_cons_zero, List.set_cons_succ])
          refine wpAnyH_ready (rs := [7]) (by kernel_rfl) (by simp) ?_
          refine AllReadyH.cons (o := ⟨some 39, _, _, _, _, _⟩) rfl (fun K hK => ?_) AllReadyH.nil
          rw [if_pos (by kernel_rfl)]
          go_simp
          go_at_call 25; refine (HFP.out _ hk2).mono ?_; rintro e wq3 ⟨rfl, hb⟩
          have hk3 := hk2.trans (hb.mono hk2.size)
          clear hb
          refine hK.out _ _ ?_ (fun hHeld => ?_)
          · exact HS.out _ hk3
          clear hK K
          (try simp only [Act.put, List.setIfInBounds_toArray, List.set_cons_zero, List.set_cons_succ])
          refine wpAnyH_take (i := 9) (oi := ⟨some 41, _, _, _, _, _⟩) (v := ?_) rfl (by kernel_rfl) (by kernel_rfl) (by kernel_rfl) (fun _ _ _ h => h) (Or.inl ⟨by kernel_rfl, ?_⟩) (by assumption) ?_
          rotate_left
          · (intro w hSw; (try dsimp only at hSw); go_simp; try with_reducible rfl)
          (try simp only [Act.put, List.setIfInBounds_toArray, List.set_cons_zero, List.set_cons_succ])
          refine wpAnyH_ready (rs := [13]) (by kernel_rfl) (by simp) ?_
          refine AllReadyH.cons (o := ⟨some 45, _, _, _, _, _⟩) rfl (fun K hK => ?_) AllReadyH.nil
          rw [if_pos (by kernel_rfl)]
          go_simp
          go_at_call 17; refine (HCR.out _).mono ?_; rintro e wq4 ⟨vc, rfl, hc1, hb⟩
          have hk4 := hk3.trans (hb.mono hk3.size)
          obtain ⟨Ac, cc, rfl, _, _⟩ := hc1
          rw [HLN.out]
          clear hb
          refine hK.out _ _ ?_ (fun hHeld => ?_)
          · exact HS.out _ hk4
          clear hK K
          (try simp only [Act.put, List.setIfInBounds_toArray, List.set_cons_zero, List.set_cons_succ])
          refine wpAnyH_take (i := 14) (oi := ⟨some 46, _, _, _, _, _⟩) (v := ?_) rfl (by kernel_rfl) (by kernel_rfl) (by kernel_rfl) (fun _ _ _ h => h) (Or.inl ⟨by kernel_rfl, ?_⟩) (by assumption) ?_
          rotate_left
          · (intro w hSw; (try dsimp only at hSw); go_simp; try with_reducible rfl)
          (try simp only [Act.put, List.setIfInBounds_toArray, List.set_cons_zero, List.set_cons_succ])
          refine wpAnyH_take (i := 15) (oi := ⟨some 47, _, _, _, _, _⟩) (v := ?_) rfl (by kernel_rfl) (by kernel_rfl) (by kernel_rfl) (fun _ _ _ h => h) (Or.inl ⟨by kernel_rfl, ?_⟩) (by assumption) ?_
          rotate_left
          · (intro w hSw; (try dsimp only at hSw); go_simp; try with_reducible rfl)
          (try simp only [Act.put, List.setIfInBounds_toArray, List.set_cons_zero, List.set_cons_succ])
          refine wpAnyH_take (i := 16) (oi := ⟨some 48, _, _, _, _, _⟩) (v := ?_) rfl (by kernel_rfl) (by kernel_rfl) (by kernel_rfl) (fun _ _ _ h => h) (Or.inl ⟨by kernel_rfl, ?_⟩) (by assumption) ?_
          rotate_left
          · (intro w hSw; (try dsimp only at hSw); go_simp; try with_reducible rfl)
          (try simp only [Act.put, List.setIfInBounds_toArray, List.set_cons_zero, List.set_cons_succ])
          refine wpAnyH_take (i := 17) (oi := ⟨some 49, _, _, _, _, _⟩) (v := ?_) rfl (by kernel_rfl) (by kernel_rfl) (by kernel_rfl) (fun _ _ _ h => h) (Or.inl ⟨by kernel_rfl, ?_⟩) (by assumption) ?_
          rotate_left
          · (intro w hSw; (try dsimp only at hSw); go_simp; try with_reducible rfl)
          (try simp only [Act.put, List.setIfInBounds_toArray, List.set_cons_zero, List.set_cons_succ])
          refine wpAnyH_take (i := 18) (oi := ⟨some 50, _, _, _, _, _⟩) (v := ?_) rfl (by kernel_rfl) (by kernel_rfl) (by kernel_rfl) (fun _ _ _ h => h) (Or.inl ⟨by kernel_rfl, ?_⟩) (by assumption) ?_
          rotate_left
          · (intro w hSw; (try dsimp only at hSw); go_simp; try with_reducible rfl)
          (try simp only [Act.put, List.setIfInBounds_toArray, List.set_cons_zero, List.set_cons_succ])
          refine wpAnyH_take (i := 19) (oi := ⟨some 51, _, _, _, _, _⟩) (v := ?_) rfl (by kernel_rfl) (by kernel_rfl) (by kernel_rfl) (fun _ _ _ h => h) (Or.inl ⟨by kernel_rfl, ?_⟩) (by assumption) ?_
          rotate_left
          · (intro w hSw; (try dsimp only at hSw); go_simp; try with_reducible rfl)
          (try simp only [Act.put, List.setIfInBounds_toArray, List.set_cons_zero, List.set_cons_succ])
          refine wpAnyH_take (i := 20) (oi := ⟨some 52, _, _, _, _, _⟩) (v := ?_) rfl (by kernel_rfl) (by kernel_rfl) (by kernel_rfl) (fun _ _ _ h => h) (Or.inl ⟨by kernel_rfl, ?_⟩) (by assumption) ?_
          rotate_left
          · (intro w hSw; (try dsimp only at hSw); go_simp; try with_reducible rfl)
          (try simp only [Act.put, List.setIfInBounds_toArray, List.set_cons_zero, List.set_cons_succ])
          refine wpAnyH_take (i := 22) (oi := ⟨some 54, _, _, _, _, _⟩) (v := ?_) rfl (by kernel_rfl) (by kernel_rfl) (by kernel_rfl) (fun _ _ _ h => h) (Or.inl ⟨by kernel_rfl, ?_⟩) (by assumption) ?_
          rotate_left
          · (intro w hSw; (try dsimp only at hSw); go_simp; try with_reducible rfl)
          (try simp only [Act.put, List.setIfInBounds_toArray, List.set_cons_zero, List.set_cons_succ])
          refine wpAnyH_take (i := 23) (oi := ⟨some 55, _, _, _, _, _⟩) (v := ?_) rfl (by kernel_rfl) (by kernel_rfl) (by kernel_rfl) (fun _ _ _ h => h) (Or.inl ⟨by kernel_rfl, ?_⟩) (by assumption) ?_
          rotate_left
          · (intro w hSw; (try dsimp only at hSw); go_simp; try with_reducible rfl)
          (try simp only [Act.put, List.setIfInBounds_toArray, List.set_cons_zero, List.set_cons_succ])
          refine wpAnyH_ready (rs := [21]) (by kernel_rfl) (by simp) ?_
          refine AllReadyH.cons (o := ⟨some 53, _, _, _, _, _⟩) rfl (fun K hK => ?_) AllReadyH.nil
          rw [if_pos (by kernel_rfl)]
          go_simp
          go_at_call 27; refine (HRP.out _ hk4).mono ?_; rintro e wq5 ⟨rfl, hb⟩
          have hk5 := hk4.trans (hb.mono hk4.size)
          clear hb
          refine hK.out _ _ ?_ (fun hHeld => ?_)
          · exact HS.out _ hk5
          clear hK K
          (try simp only [Act.put, List.setIfInBounds_toArray, List.set_cons_zero, List.set_cons_succ])
          refine wpAnyH_ready (rs := [24]) (by kernel_rfl) (by simp) ?_
          refine AllReadyH.cons (o := ⟨some 56, _, _, _, _, _⟩) rfl (fun K hK => ?_) AllReadyH.nil
          rw [if_pos (by kernel_rfl)]
          go_simp
          go_at_call 28; refine (HRD.out _ hk5).mono ?_; rintro e wq6 ⟨rfl, hb⟩
          have hk6 := hk5.trans (hb.mono hk5.size)
          clear hb
          refine hK.out _ _ ?_ (fun hHeld => ?_)
          · exact HS.out _ hk6
          clear hK K
          (try simp only [Act.put, List.setIfInBounds_toArray, List.set_cons_zero, List.set_cons_succ])
          refine wpAnyH_take (i := 25) (oi := ⟨some 57, _, _, _, _, _⟩) (v := ?_) rfl (by kernel_rfl) (by kernel_rfl) (by kernel_rfl) (fun _ _ _ h => h) (Or.inl ⟨by kernel_rfl, ?_⟩) (by assumption) ?_
          rotate_left
          · (intro w hSw; (try dsimp only at hSw); go_simp; try with_reducible rfl)
          (try simp only [Act.put, List.setIfInBounds_toArray, List.set_cons_zero, List.set_cons_succ])
          refine wpAnyH_take (i := 26) (oi := ⟨some 58, _, _, _, _, _⟩) (v := ?_) rfl (by kernel_rfl) (by kernel_rfl) (by kernel_rfl) (fun _ _ _ h => h) (Or.inl ⟨by kernel_rfl, ?_⟩) (by assumption) ?_
          rotate_left
          · (intro w hSw; (try dsimp only at hSw); go_simp; try with_reducible rfl)
          (try simp only [Act.put, List.setIfInBounds_toArray, List.set_cons_zero, List.set_cons_succ])
          refine wpAnyH_done (by kernel_rfl) ?_ _
          have HK10 := Lib.hid hk6
          clear r0 r1 r2 hk0 hk1 hk2 hk3 hk4 hk5 hk6 hadd hmul
          obtain ⟨r0, r1, r2⟩ := HS.out _ HK10.out
          go_wp2_with fail
          refine (HHC.out _).mono ?_
          rintro e w11 ⟨rfl, hb11⟩
          have HK11 := Lib.hid (HK10.out.trans (hb11.mono HK10.out.size))
          clear hb11
          clear r0 r1 r2
          obtain ⟨r0, r1, r2⟩ := HS.out _ HK11.out
          cases has with
          | false =>
            have hrm := HRM.out rfl
            rw [hrm] at HRP
            go_wp2_with fail
            refine (HRP.out _ HK11.out).mono ?_
            rintro e w12 ⟨rfl, hb12⟩
            have HK12 := Lib.hid (HK11.out.trans (hb12.mono HK11.out.size))
            clear hb12
            clear r0 r1 r2
            go_wp2_with fail
            refine (HAW.out _).mono ?_
            rintro e w13 ⟨rfl, hb13⟩
            have HK13 := Lib.hid (HK12.out.trans (hb13.mono HK12.out.size))
            clear hb13
            go_wp2_with fail
            go_ret
            exact ⟨rfl, HB1.out.trans (HK13.out.mono HB1.out.size)⟩
          | true =>
            have HWP2 := Lib.hid (HWP.out rfl)
            have HWD2 := Lib.hid (HWD.out (HCH.out rfl))
            clear HWP HWD
            have hk0 : Below w1.heap.size w1 w11.drew := HK11.out.drew
            go_wp2_with fail
            refine wp_region_held_drew (S := fun w' => w'.cell? ⟨P, 0, none⟩ = some (.int .i64 f) ∧ w'.cell? ⟨P, 1, none⟩ = some (.int .u32 m) ∧ w'.cell? ⟨P, 2, none⟩ = some (v)) (by kernel_rfl) ?_ (fun hHeld => ?_)
            · exact HS.out _ hk0
            refine wpAnyH_take (i := 0) (oi := ⟨some 70, _, _, _, _, _⟩) (v := ?_) rfl (by kernel_rfl) (by kernel_rfl) (by kernel_rfl) (fun _ _ _ h => h) (Or.inl ⟨by kernel_rfl, ?_⟩) (by assumption) ?_
            rotate_left
            · (intro w hSw; (try dsimp only at hSw); go_simp; try with_reducible rfl)
            (try simp only [Act.put, List.setIfInBounds_toArray, List.set_cons_zero, List.set_cons_succ])
            refine wpAnyH_take (i := 1) (oi := ⟨some 71, _, _, _, _, _⟩) (v := ?_) rfl (by kernel_rfl) (by kernel_rfl) (by kernel_rfl) (fun _ _ _ h => h) (Or.inl ⟨by kernel_rfl, ?_⟩) (by assumption) ?_
            rotate_left
            · (intro w hSw; (try dsimp only at hSw); go_simp; try with_reducible rfl)
            (try simp only [Act.put, List.setIfInBounds_toArray, List.set_cons_zero, List.set_cons_succ])
            refine wpAnyH_take (i := 3) (oi := ⟨some 73, _, _, _, _, _⟩) (v := ?_) rfl (by kernel_rfl) (by kernel_rfl) (by kernel_rfl) (fun _ _ _ h => h) (Or.inl ⟨by kernel_rfl, ?_⟩) (by assumption) ?_
            rotate_left
            · (intro w hSw; (try dsimp only at hSw); go_simp; try with_reducible rfl)
            (try simp only [Act.put, List.setIfInBounds_toArray, List.set_cons_zero, List.set_cons_succ])
            refine wpAnyH_take (i := 4) (oi := ⟨some 74, _, _, _, _, _⟩) (v := ?_) rfl (by kernel_rfl) (by kernel_rfl) (by kernel_rfl) (fun _ _ _ h => h) (Or.inl ⟨by kernel_rfl, ?_⟩) (by assumption) ?_
            rotate_left
            · (intro w hSw; (try dsimp only at hSw); go_simp; try with_reducible rfl)
            (try simp only [Act.put, List.setIfInBounds_toArray, List.set_cons_zero, List.set_cons_succ])
            refine wpAnyH_ready (rs := [2]) (by kernel_rfl) (by simp) ?_
            refine AllReadyH.cons (o := ⟨some 72, _, _, _, _, _⟩) rfl (fun K hK => ?_) AllReadyH.nil
            rw [if_pos (by kernel_rfl)]
            go_simp
            go_at_call 30; refine (HWP2.out _ hk0).mono ?_; rintro e wq1 ⟨rfl, hb⟩
            have hk1 := hk0.trans (hb.mono hk0.size)
            clear hb
            refine hK.out _ _ ?_ (fun hHeld => ?_)
            · exact HS.out _ hk1
            clear hK K
            (try simp only [Act.put, List.setIfInBounds_toArray, List.set_cons_zero, List.set_cons_succ])
            refine wpAnyH_ready (rs := [5]) (by kernel_rfl) (by simp) ?_
            refine AllReadyH.cons (o := ⟨some 75, _, _, _, _, _⟩) rfl (fun K hK => ?_) AllReadyH.nil
            rw [if_pos (by kernel_rfl)]
            go_simp
            go_at_call 31; refine (HWD2.out _ hk1).mono ?_; rintro e wq2 ⟨rfl, hb⟩
            have hk2 := hk1.trans (hb.mono hk1.size)
            clear hb
            refine hK.out _ _ ?_ (fun hHeld => ?_)
            · exact HS.out _ hk2
            clear hK K
            (try simp only [Act.put, List.setIfInBounds_toArray, List.set_cons_zero, List.set_cons_succ])
            refine wpAnyH_take (i := 6) (oi := ⟨some 76, _, _, _, _, _⟩) (v := ?_) rfl (by kernel_rfl) (by kernel_rfl) (by kernel_rfl) (fun _ _ _ h => h) (Or.inl ⟨by kernel_rfl, ?_⟩) (by assumption) ?_
            rotate_left
            · (intro w hSw; (try dsimp only at hSw); go_simp; try with_reducible rfl)
            (try simp only [Act.put, List.setIfInBounds_toArray, List.set_cons_zero, List.set_cons_succ])
            refine wpAnyH_take (i := 7) (oi := ⟨some 77, _, _, _, _, _⟩) (v := ?_) rfl (by kernel_rfl) (by kernel_rfl) (by kernel_rfl) (fun _ _ _ h => h) (Or.inl ⟨by kernel_rfl, ?_⟩) (by assumption) ?_
            rotate_left
            · (intro w hSw; (try dsimp only at hSw); go_simp; try with_reducible rfl)
            (try simp only [Act.put, List.setIfInBounds_toArray, List.set_cons_zero, List.set_cons_succ])
            refine wpAnyH_take (i := 8) (oi := ⟨some 78, _, _, _, _, _⟩) (v := ?_) rfl (by kernel_rfl) (by kernel_rfl) (by kernel_rfl) (fun _ _ _ h => h) (Or.inl ⟨by kernel_rfl, ?_⟩) (by assumption) ?_
            rotate_left
            · (intro w hSw; (try dsimp only at hSw); go_simp; try with_reducible rfl)
            (try simp only [Act.put, List.setIfInBounds_toArray, List.set_cons_zero, List.set_cons_succ])
            refine wpAnyH_take (i := 9) (oi := ⟨some 79, _, _, _, _, _⟩) (v := ?_) rfl (by kernel_rfl) (by kernel_rfl) (by kernel_rfl) (fun _ _ _ h => h) (Or.inl ⟨by kernel_rfl, ?_⟩) (by assumption) ?_
            rotate_left
            · (intro w hSw; (try dsimp only at hSw); go_simp; try with_reducible rfl)
            (try simp only [Act.put, List.setIfInBounds_toArray, List.set_cons_zero, List.set_cons_succ])
            refine wpAnyH_take (i := 11) (oi := ⟨some 81, _, _, _, _, _⟩) (v := ?_) rfl (by kernel_rfl) (by kernel_rfl) (by kernel_rfl) (fun _ _ _ h => h) (Or.inl ⟨by kernel_rfl, ?_⟩) (by assumption) ?_
            rotate_left
            · (intro w hSw; (try dsimp only at hSw); go_simp; try with_reducible rfl)
            (try simp only [Act.put, List.setIfInBounds_toArray, List.set_cons_zero, List.set_cons_succ])
            refine wpAnyH_take (i := 12) (oi := ⟨some 82, _, _, _, _, _⟩) (v := ?_) rfl (by kernel_rfl) (by kernel_rfl) (by kernel_rfl) (fun _ _ _ h => h) (Or.inl ⟨by kernel_rfl, ?_⟩) (by assumption) ?_
            rotate_left
            · (intro w hSw; (try dsimp only at hSw); go_simp; try with_reducible rfl)
            (try simp only [Act.put, List.setIfInBounds_toArray, List.set_cons_zero, List.set_cons_succ])
            refine wpAnyH_ready (rs := [10]) (by kernel_rfl) (by simp) ?_
            refine AllReadyH.cons (o := ⟨some 80, _, _, _, _, _⟩) rfl (fun K hK => ?_) AllReadyH.nil
            rw [if_pos (by kernel_rfl)]
            go_simp
            go_at_call 32; refine (HOP.out _ hk2).mono ?_; rintro e wq3 ⟨va, rfl, hs1, hb⟩
            have hk3 := hk2.trans (hb.mono hk2.size)
            clear hb
            refine hK.out _ _ ?_ (fun hHeld => ?_)
            · exact HS.out _ hk3
            clear hK K
            (try simp only [Act.put, List.setIfInBounds_toArray, List.set_cons_zero, List.set_cons_succ])
            refine wpAnyH_ready (rs := [13]) (by kernel_rfl) (by simp) ?_
            refine AllReadyH.cons (o := ⟨some 83, _, _, _, _, _⟩) rfl (fun K hK => ?_) AllReadyH.nil
            rw [if_pos (by kernel_rfl)]
            go_simp
            go_at_call 33; refine (HOD.out _ hk3).mono ?_; rintro e wq4 ⟨vb, rfl, hs2, hb⟩
            have hk4 := hk3.trans (hb.mono hk3.size)
            have hs3 := hs1.keep hb
            clear hb
            refine hK.out _ _ ?_ (fun hHeld => ?_)
            · exact HS.out _ hk4
            clear hK K
            (try simp only [Act.put, List.setIfInBounds_toArray, List.set_cons_zero, List.set_cons_succ])
            refine wpAnyH_ready (rs := [14]) (by kernel_rfl) (by simp) ?_
            refine AllReadyH.cons (o := ⟨some 84, _, _, _, _, _⟩) rfl (fun K hK => ?_) AllReadyH.nil
            rw [if_pos (by kernel_rfl)]
            go_simp
            go_at_call 18; refine (HSS.out _ _ _ hs3 hs2).mono ?_; rintro e wq5 ⟨rfl, hb⟩
            have hk5 := hk4.trans (hb.mono hk4.size)
            clear hb
            refine hK.out _ _ ?_ (fun hHeld => ?_)
            · exact HS.out _ hk5
            clear hK K
            (try simp only [Act.put, List.setIfInBounds_toArray, List.set_cons_zero, List.set_cons_succ])
            refine wpAnyH_take (i := 15) (oi := ⟨some 85, _, _, _, _, _⟩) (v := ?_) rfl (by kernel_rfl) (by kernel_rfl) (by kernel_rfl) (fun _ _ _ h => h) (Or.inl ⟨by kernel_rfl, ?_⟩) (by assumption) ?_
            rotate_left
            · (intro w hSw; (try dsimp only at hSw); go_simp; try with_reducible rfl)
            (try simp only [Act.put, List.setIfInBounds_toArray, List.set_cons_zero, List.set_cons_succ])
            refine wpAnyH_take (i := 16) (oi := ⟨some 86, _, _, _, _, _⟩) (v := ?_) rfl (by kernel_rfl) (by kernel_rfl) (by kernel_rfl) (fun _ _ _ h => h) (Or.inl ⟨by kernel_rfl, ?_⟩) (by assumption) ?_
            rotate_left
            · (intro w hSw; (try dsimp only at hSw); go_simp; try with_reducible rfl)
            (try simp only [Act.put, List.setIfInBounds_toArray, List.set_cons_zero, List.set_cons_succ])
            refine wpAnyH_ready (rs := [17]) (by kernel_rfl) (by simp) ?_
            refine AllReadyH.cons (o := ⟨some 87, _, _, _, _, _⟩) rfl (fun K hK => ?_) AllReadyH.nil
            rw [if_pos (by kernel_rfl)]
            go_simp
            go_at_call 8; refine (HAW.out _).mono ?_; rintro e wq6 ⟨rfl, hb⟩
            have hk6 := hk5.trans (hb.mono hk5.size)
            clear hb
            refine hK.out _ _ ?_ (fun hHeld => ?_)
            · exact HS.out _ hk6
            clear hK K
            (try simp only [Act.put, List.setIfInBounds_toArray, List.set_cons_zero, List.set_cons_succ])
            refine wpAnyH_take (i := 18) (oi := ⟨some 88, _, _, _, _, _⟩) (v := ?_) rfl (by kernel_rfl) (by kernel_rfl) (by kernel_rfl) (fun _ _ _ h => h) (Or.inl ⟨by kernel_rfl, ?_⟩) (by assumption) ?_
            rotate_left
            · (intro w hSw; (try dsimp only at hSw); go_simp; try with_reducible rfl)
            (try simp only [Act.put, List.setIfInBounds_toArray, List.set_cons_zero, List.set_cons_succ])
            refine wpAnyH_take (i := 19) (oi := ⟨some 4, _, _, _, _, _⟩) (v := ?_) rfl (by kernel_rfl) (by kernel_rfl) (by kernel_rfl) (fun _ _ _ h => h) (Or.inl ⟨by kernel_rfl, ?_⟩) (by assumption) ?_
            rotate_left
            · (intro w hSw; (try dsimp only at hSw); go_simp; try with_reducible rfl)
            (try simp only [Act.put, List.setIfInBounds_toArray, List.set_cons_zero, List.set_cons_succ])
            refine wpAnyH_done (by kernel_rfl) ?_ _
            go_wp2_with fail
            go_ret
            exact ⟨rfl, HB1.out.trans (hk6.mono HB1.out.size)⟩
    · have HYL := Lib.hid (fun W hk => (HLI.out W hk).1 hlit)
      have HNR := Lib.hid (fun W hk => (HRI.out hL W hk).2 hr)
      clear HRI HLI hlit hr
      go_enter Try.func5, Try.ntmps5
      go_wp2_with fail
      refine (HYL.out _ HK1.out).mono ?_
      rintro e w2 ⟨rfl, hb2⟩
      have HK2 := Lib.hid (HK1.out.trans (hb2.mono HK1.out.size))
      clear hb2
      clear r0 r1 r2
      obtain ⟨r0, r1, r2⟩ := HS.out _ HK2.out
      go_wp2_with fail
      refine (HNR.out _ HK2.out).mono ?_
      rintro e w3 ⟨rfl, hb3⟩
      have HK3 := Lib.hid (HK2.out.trans (hb3.mono HK2.out.size))
      clear hb3
      clear r0 r1 r2
      go_wp2_with fail
      refine (HAW.out _).mono ?_
      rintro e w4 ⟨rfl, hb4⟩
      have HK4 := Lib.hid (HK3.out.trans (hb4.mono HK3.out.size))
      clear hb4
      go_wp2_with fail
      go_ret
      exact ⟨rfl, HB1.out.trans (HK4.out.mono HB1.out.size)⟩
  · have HNL := Lib.hid (fun W hk => (HLI.out W hk).2 hlit)
    clear HRI hlit
    go_enter Try.func5, Try.ntmps5
    go_wp2_with fail
    refine (HNL.out _ HK1.out).mono ?_
    rintro e w2 ⟨rfl, hb2⟩
    have HK2 := Lib.hid (HK1.out.trans (hb2.mono HK1.out.size))
    clear hb2
    go_wp2_with fail
    refine (HAW.out _).mono ?_
    rintro e w3 ⟨rfl, hb3⟩
    have HK3 := Lib.hid (HK2.out.trans (hb3.mono HK2.out.size))
    clear hb3
    go_wp2_with fail
    go_ret
    exact ⟨rfl, HB1.out.trans (HK3.out.mono HB1.out.size)⟩
end Go.Proofs.Ytpblfonkcibagaa
