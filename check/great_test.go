package check_test

import "recast/api"

// great is a module with nearly everything in it, a statement or declaration a line.
func great() []api.File {
	return files(
		"b/b.gc", `package b
type S struct {
X int
y int
}
type E struct {
X int
Y string
}
func (s S) Get() int {
return s.y
}
func (s *S) Set(v int) {
s.y = v
}
func (s S) hide() int {
return s.y
}
var V int = 3
var w = V + 1
const C = 4
const D int = 5
func F(x int, y ...string) (int, bool) {
return x, len(y) > w
}
func G[T any](x T) []T {
return []T{x}
}
type I interface {
Get() int
}
type P interface {
Get() int
p()
}
`,
		"main/a.gc", `package main
import "b"
type M int
type N string
type B bool
type L []int
type U struct {
p int
q string
}
type T struct {
U
x int
n *T
f func(int) int
}
type K struct {
b.S
z M
}
type I interface {
m() int
}
type J interface {
I
s(string) string
}
type A any
type PT *T
type C chan int
func (u U) m() int {
return u.p
}
func (u *U) s(x string) string {
u.q = u.q + x
return u.q
}
func (m M) m() int {
return int(m)
}
func id[P any](x P) P {
return x
}
func less[P int|string](x P, y P) bool {
return x < y
}
func eq[P comparable](x P, y P) bool {
return x == y && !(x != y)
}
func mm[P I](x P) int {
return x.m()
}
func two[P any, Q int|string](p P, q Q, l ...Q) (P, Q) {
var r P
r = p
print(q, len(l))
return r, q
}
func many(x int, l ...int) int {
if x > 0 {
return many(x - 1, l...)
} else {
for i, y := range l {
x += i * y
}
}
switch x {
case 1, 2:
return 1
case M(3).m():
return 2
default:
panic("x")
}
}
func pair() (int, string) {
return 1, "a"
}
func pass() (int, string) {
return pair()
}
func none() {
}
func loop(c chan int) int {
for {
select {
case x := <-c:
return x
case y, ok := <-c:
print(y, ok)
case c <- 1:
continue
default:
none()
}
}
}
const big = 9223372036854775807
const str = "abc"
const typ M = 3
const neg = -typ
const tru = 1 < 2 && !false
var g1 = g2 + many(1)
var g2 = g3()
var g4 = func(x int) int { return x + g5 }
var g5 = 1
var g6 I = M(1)
func g3() int {
return g5
}
`,
		"main/c.gc", `package main
import "b"
func main() {
var t T
t.p = 1
t.U.q = "x"
p := &t
p.x, p.n = 2, p
p.n.x++
p.f = func(x int) int { return x * 2 }
print(p.f(3), t.m(), p.s("a"), t.s("b"))
print((*p).x, len(str), str[1], big)
var i I = t
j, ok := i.(J)
var k J = p
print(ok, j == nil, k.m())
i = M(5)
if m, ok := i.(M); ok {
print(int(m) + 1, m == 8, typ)
}
a := []int{1, 2, 3}
a = append(a, 4, 5)
a = append(a, a...)
a[0], a[1] = a[1], a[0]
a[2] += 5
a[2]--
l := L(a)
print(len(a), l[0], a == nil)
c := make(chan int, 2)
c <- 1
x, more := <-c
close(c)
print(x, more, len(c))
for v := range c {
print(v)
}
for n := 0; n < 3; n++ {
if n == 1 {
continue
}
print(n)
}
for range 3 {
break
}
var e any = 1
print(e == 1, e != nil, e.(int) + 1)
s := b.S{X: 1}
s.Set(b.C + b.D)
b.V = s.Get()
h, f := b.F(1, "a", "b")
print(h, f, b.V, b.G("x")[0])
z := b.E{1, "y"}
print(z.X, z.Y, K{z: 3}.z, K{}.Get())
print(id(1) + id[int](2), id("a"), less(1, 2), less("a", "b"), eq(t.U, U{1, "c"}), mm(M(1)), mm(t))
q, r := two(e, 1, 2, 3)
_, y := two[string]("a", "b")
_ = q
print(r, y)
defer func() {
print(recover() == nil)
}()
go func(x int) {
g1 = x
}(1)
u, w := pass()
u, o := pair()
print(u, w, o)
var d B = x > 1 || x == 2
d = !d
print(d, g4(g2))
switch e {
case 1, "a", nil:
print(1)
case d:
none()
}
var pt PT = p
print(pt != nil, -x, 7 % 2, N("a") + "b", 1 + 2 * 3 == 7)
var fn func(int, ...string) (int, bool) = b.F
_, _ = fn(1)
new(T).n = p
w2 := &U{q: "a"}
print(w2.q, (&U{}).m(), read(), a[len(a) - 1])
var st struct {}
_ = st
_ = A(1)
_ = any(nil)
var cc C = c
for range cc {
}
}
`,
	)
}
