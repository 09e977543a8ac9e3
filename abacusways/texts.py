"""The texts of the school's own methods, as the document tells them."""

PLUS = """set a 0
while a<B
add [A+a] at C+a
set a a+1
end
"""

TIMES = """set a 0
while a<B
set b 0
while b<D
add [A+a]*[C+b] at E+a+b
set b b+1
end
set a a+1
end
"""

DIVIDE = """set a 0
set b 0
while b<D
if [C+b]>0
set a 1
end
set b b+1
end
if a=0
fail
end
set a B
while a>0
set a a-1
set b 1
while b=1
set c B-a
if c<D
set c D
end
set d 0
while c>0 and d=0
set c c-1
set e 0
if c<B-a
set e [A+a+c]
end
set f 0
if c<D
set f [C+c]
end
if e>f
set d 1
end
if e<f
set d 2
end
end
if d=2
set b 0
else
set c 0
while c<D
if [C+c]>0
take [C+c] at A+a+c
end
set c c+1
end
add 1 at E+a
end
end
end
"""

ROOT = """set h 0
while h+h<B
set h h+1
end
set a h
while a>0
set a a-1
set b 1
while b=1
add 1 at G+a
set c B-a
if c<h+1
set c h+1
end
set d 0
while c>0 and d=0
set c c-1
set e 0
if c<B-a
set e [A+a+c]
end
set f 0
if c<h+1
set f [G+c]
end
if e>f
set d 1
end
if e<f
set d 2
end
end
if d=2
take 1 at G+a
set b 0
else
set c 0
while c<h+1
if [G+c]>0
take [G+c] at A+a+c
end
set c c+1
end
add 1 at G+a
add 1 at E+a
end
end
end
"""
