/- What a law knows between two calls: its deque, rows of numbers and boxes that no call of the deque's turns; and each call. -/
import Derived.Test.YtfoggnfemcnolaaDqPop
import Derived.Test.YtfoggnfemcnolaaDqRow
namespace Go.Proofs.Ytfoggnfemcnolaa.DqI
open Go.RowKit Go.Proofs.Ytfoggnfemcnolaa.Dig Go.Proofs.Ytfoggnfemcnolaa.Mem Go.Proofs.Ytfoggnfemcnolaa.Dq
set_option linter.unusedVariables false
set_option linter.unusedSimpArgs false

structure EnvS (w : World) (b : Nat) (l : List Int) (rows : List (Option Addr × Nat × List Int)) (cs : List (Nat × Array Value)) (wx : World) (s : Sh) : Prop where
  deq : s.At wx l
  ptr : s.ptr = .pointer (some ⟨b, 0, none⟩)
  ge : ∀ k, s.has k → w.heap.size ≤ k
  below : Below w.heap.size w wx
  rows : ∀ r ∈ rows, RowI wx r.1 r.2.1 r.2.2 ∧ (0 < r.2.2.length → ∀ x, r.1 = some x → ¬ s.has x.block)
  boxes : ∀ r ∈ cs, Is wx r.1 r.2 ∧ ¬ s.has r.1
def Env (w : World) (b : Nat) (l : List Int) (rows : List (Option Addr × Nat × List Int)) (cs : List (Nat × Array Value)) (wx : World) : Prop := ∃ s, EnvS w b l rows cs wx s
section
variable {w wx w' : World} {b : Nat} {l l' : List Int} {rows rows' : List (Option Addr × Nat × List Int)} {cs cs' : List (Nat × Array Value)}
theorem Env.below (h : Env w b l rows cs wx) : Below w.heap.size w wx := let ⟨_, h⟩ := h; h.below
theorem Env.le (h : Env w b l rows cs wx) : l.length ≤ 1000000 := let ⟨_, h⟩ := h; Sh.le h.deq
theorem Env.keep (h : Env w b l rows cs wx) (hb : Below wx.heap.size wx w') : Env w b l rows cs w' := by
  obtain ⟨s, h⟩ := h
  exact ⟨s, Sh.below h.deq hb, h.ptr, h.ge, h.below.trans (hb.mono h.below.size), fun r hr => ⟨(h.rows r hr).1.keep hb, (h.rows r hr).2⟩, fun r hr => ⟨(h.boxes r hr).1.below hb, (h.boxes r hr).2⟩⟩
theorem Env.sub (h : Env w b l rows cs wx) (h1 : ∀ r ∈ rows', r ∈ rows) (h2 : ∀ r ∈ cs', r ∈ cs) : Env w b l rows' cs' wx := by
  obtain ⟨s, h⟩ := h
  exact ⟨s, h.deq, h.ptr, h.ge, h.below, fun r hr => h.rows r (h1 r hr), fun r hr => h.boxes r (h2 r hr)⟩
theorem Env.row (h : Env w b l rows cs wx) {a : Option Addr} {c : Nat} {m : List Int} (hr : (a, c, m) ∈ rows) : RowI wx a c m := let ⟨_, h⟩ := h; (h.rows _ hr).1
theorem Env.cell (h : Env w b l rows cs wx) {p : Nat} {c : Array Value} (hr : (p, c) ∈ cs) (i : Nat) {v : Value} (hv : c[i]? = some v) : wx.cell? ⟨p, i, none⟩ = some v ∧ wx.frozen? ⟨p, i, none⟩ = false := by
  obtain ⟨s, h⟩ := h
  exact ⟨(h.boxes _ hr).1.cell i hv, (h.boxes _ hr).1.frozen i⟩
theorem Env.one (h : Env w b l rows cs wx) {p : Nat} {v : Value} (hr : (p, #[v]) ∈ cs) : wx.cell? ⟨p, 0, none⟩ = some v ∧ wx.frozen? ⟨p, 0, none⟩ = false := h.cell hr 0 rfl
/-- A row that was made meanwhile. -/
theorem Env.more (h : Env w b l rows cs wx) (hb : Below wx.heap.size wx w') {a : Option Addr} {c : Nat} {m : List Int} (hr : RowI w' a c m) (hf : Fresh wx.heap.size a) : Env w b l ((a, c, m) :: rows) cs w' := by
  obtain ⟨s, h0⟩ := id h
  obtain ⟨s, h1⟩ : ∃ s, EnvS w b l rows cs w' s ∧ ∀ k, s.has k → k < wx.heap.size := ⟨s, ⟨Sh.below h0.deq hb, h0.ptr, h0.ge, h0.below.trans (hb.mono h0.below.size), fun r hr => ⟨(h0.rows r hr).1.keep hb, (h0.rows r hr).2⟩, fun r hr => ⟨(h0.boxes r hr).1.below hb, (h0.boxes r hr).2⟩⟩, Sh.lt h0.deq⟩
  refine ⟨s, h1.1.deq, h1.1.ptr, h1.1.ge, h1.1.below, fun r hr' => ?_, h1.1.boxes⟩
  rcases List.mem_cons.1 hr' with rfl | q
  · exact ⟨hr, fun _ x ex hk => by have := hf x ex; have := h1.2 _ hk; omega⟩
  · exact h1.1.rows r q
/-- A row that was there ahead of all. -/
theorem Env.arg (h : Env w b l rows cs wx) {a : Option Addr} {c : Nat} {m : List Int} (hr : RowI w a c m) : Env w b l ((a, c, m) :: rows) cs wx := by
  obtain ⟨s, h⟩ := h
  refine ⟨s, h.deq, h.ptr, h.ge, h.below, fun r hr' => ?_, h.boxes⟩
  rcases List.mem_cons.1 hr' with rfl | q
  · refine ⟨hr.keep h.below, fun hl x ex hk => ?_⟩
    have := Rd.lt hr.rd hl x ex
    have := h.ge _ hk
    omega
  · exact h.rows r q
theorem Env.box (h : Env w b l rows cs wx) (c : Array Value) (T : TypeId) {p : Nat} (hp : p = wx.heap.size) : Env w b l rows ((p, c) :: cs) (wx.alloc (.cells c T)) := by
  have hb : Below wx.heap.size wx (wx.alloc (.cells c T)) := (Below.refl _ _).alloc (Nat.le_refl _) _
  obtain ⟨s, h0⟩ := h
  refine ⟨s, Sh.below h0.deq hb, h0.ptr, h0.ge, h0.below.trans (hb.mono h0.below.size), fun r hr => ⟨(h0.rows r hr).1.keep hb, (h0.rows r hr).2⟩, fun r hr => ?_⟩
  rcases List.mem_cons.1 hr with rfl | q
  · exact ⟨Is.made wx c T hp, fun hk => by have := Sh.lt h0.deq _ hk; omega⟩
  · exact ⟨(h0.boxes r q).1.below hb, (h0.boxes r q).2⟩
/-- A cell of a box is turned. -/
theorem Env.set {p i : Nat} {c : Array Value} (h : Env w b l rows ((p, c) :: cs) wx) (hp : w.heap.size ≤ p) (hn : ∀ r ∈ cs, r.1 ≠ p) (hr : ∀ r ∈ rows, 0 < r.2.2.length → ∀ x, r.1 = some x → x.block ≠ p) (u : Value) : Env w b l rows ((p, c.setIfInBounds i u) :: cs) (wx.setCell ⟨p, i, none⟩ u) := by
  obtain ⟨s, h⟩ := h
  have hk : ¬ s.has p := (h.boxes (p, c) (by simp)).2
  have ho : Only (fun k => k = p) wx (wx.setCell ⟨p, i, none⟩ u) := (Only.refl _ _).put i u
  refine ⟨s, Sh.keep h.deq ho (fun k hk' e => hk (e ▸ hk')), h.ptr, h.ge, h.below.setCell (p := ⟨p, i, none⟩) hp u, fun r hr' => ⟨⟨(h.rows r hr').1.cap, (h.rows r hr').1.rd.only' ho (fun hl x ex => hr r hr' hl x ex), (h.rows r hr').1.nil⟩, (h.rows r hr').2⟩, fun r hr' => ?_⟩
  rcases List.mem_cons.1 hr' with rfl | q
  · exact ⟨(h.boxes (p, c) (by simp)).1.set i u, hk⟩
  · exact ⟨(h.boxes r (List.mem_cons_of_mem _ q)).1.other (p := ⟨p, i, none⟩) (Ne.symm (hn r q)) u, (h.boxes r (List.mem_cons_of_mem _ q)).2⟩
theorem Env.new (w : World) (T : TypeId) {b : Nat} (hb : b = w.heap.size) (wx : World) (h : Below w.heap.size w wx) (hx : b = wx.heap.size) : Env w b [] [] [] (wx.alloc (.cells #[.slice none 0 0, .int .i64 0, .int .i64 0] T)) :=
  ⟨.bare b, ⟨Is.made wx _ T hx, rfl⟩, rfl, fun k hk => by cases hk; omega, h.alloc h.size _, by simp, by simp⟩
theorem Env.turned {s : Sh} (h : EnvS w b l rows cs wx s) (ht : Turned wx b s.has l' w') : Env w b l' rows cs w' := by
  obtain ⟨⟨s', h1, h2, h3⟩, ho⟩ := ht
  refine ⟨s', h1, h2, fun k hk => ?_, h.below.only ho (fun i hi => h.ge i hi) h.below.size, fun r hr => ?_, fun r hr => ?_⟩
  · rcases h3 k hk with q | q
    · exact h.ge k q
    · exact Nat.le_trans h.below.size q
  · obtain ⟨q1, q2⟩ := h.rows r hr
    refine ⟨⟨q1.cap, q1.rd.only' ho q2, q1.nil⟩, fun hl x ex hk => ?_⟩
    rcases h3 _ hk with q | q
    · exact q2 hl x ex q
    · have := Rd.lt q1.rd hl x ex; omega
  · obtain ⟨q1, q2⟩ := h.boxes r hr
    refine ⟨q1.keep ho q2, fun hk => ?_⟩
    rcases h3 _ hk with q | q
    · exact q2 q
    · have := q1.lt; omega
theorem pushE (x : Int) (h : Hid (Env w b l rows cs wx)) (hl : l.length ≤ 400000) :
    Calls Try.prog 12 #[.pointer (some ⟨b, 0, none⟩), (Value.int .i64 x)] wx fun e w' => e = .returned (.tuple #[]) ∧ Hid (Env w b (l ++ [x]) rows cs w') := by
  obtain ⟨s, h⟩ := h.out
  refine (push_sh h.deq h.ptr x hl).mono ?_
  rintro e w' ⟨rfl, ht⟩
  exact ⟨rfl, Env.turned h ht⟩
theorem popE {x : Int} (h : Hid (Env w b l rows cs wx)) (hl : l = l' ++ [x]) :
    Calls Try.prog 8 #[.pointer (some ⟨b, 0, none⟩)] wx fun e w' => e = .returned (.tuple #[(Value.int .i64 x), .bool true]) ∧ Hid (Env w b l' rows cs w') := by
  subst hl
  obtain ⟨s, h⟩ := h.out
  obtain ⟨b', hp, hc⟩ := pop_sh h.deq
  have e := hp.symm.trans h.ptr
  injection e with e; injection e with e; injection e with e
  subst e
  refine hc.mono ?_
  rintro e w' ⟨rfl, ht⟩
  exact ⟨rfl, Env.turned h ht⟩
theorem stealE {x : Int} (h : Hid (Env w b l rows cs wx)) (hl : l = x :: l') :
    Calls Try.prog 10 #[.pointer (some ⟨b, 0, none⟩)] wx fun e w' => e = .returned (.tuple #[(Value.int .i64 x), .bool true]) ∧ Hid (Env w b l' rows cs w') := by
  subst hl
  obtain ⟨s, h⟩ := h.out
  obtain ⟨b', hp, hc⟩ := steal_sh h.deq
  have e := hp.symm.trans h.ptr
  injection e with e; injection e with e; injection e with e
  subst e
  refine hc.mono ?_
  rintro e w' ⟨rfl, ht⟩
  exact ⟨rfl, Env.turned h ht⟩
theorem popN (h : Hid (Env w b l rows cs wx)) (hl : l = []) :
    Calls Try.prog 8 #[.pointer (some ⟨b, 0, none⟩)] wx fun e w' => e = .returned (.tuple #[(Value.int .i64 0), .bool false]) ∧ Hid (Env w b [] rows cs w') := by
  subst hl
  obtain ⟨s, h⟩ := h.out
  have := pop_none h.deq
  rw [h.ptr] at this
  refine this.mono ?_
  rintro e w' ⟨rfl, rfl⟩
  exact ⟨rfl, s, h⟩
theorem stealN (h : Hid (Env w b l rows cs wx)) (hl : l = []) :
    Calls Try.prog 10 #[.pointer (some ⟨b, 0, none⟩)] wx fun e w' => e = .returned (.tuple #[(Value.int .i64 0), .bool false]) ∧ Hid (Env w b [] rows cs w') := by
  subst hl
  obtain ⟨s, h⟩ := h.out
  have := steal_none h.deq
  rw [h.ptr] at this
  refine this.mono ?_
  rintro e w' ⟨rfl, rfl⟩
  exact ⟨rfl, s, h⟩
theorem lenE {n : Nat} (h : Hid (Env w b l rows cs wx)) (hn : n = l.length) :
    Calls Try.prog 13 #[.pointer (some ⟨b, 0, none⟩)] wx fun e w' => e = .returned (.int .i64 (n : Int)) ∧ Hid (Env w b l rows cs w') := by
  subst hn
  obtain ⟨s, h⟩ := h.out
  have := len_sh h.deq
  rw [h.ptr] at this
  refine this.mono ?_
  rintro e w' ⟨rfl, rfl⟩
  exact ⟨rfl, s, h⟩
end
end Go.Proofs.Ytfoggnfemcnolaa.DqI
